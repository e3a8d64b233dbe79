/-
  No cell of these rows narrows 'for every input' (looked for: loops, veiled, ifaces, maps, wideKeys, modest, calm, conditions, laid).
  DERIVED. THE GIVEN ROWS OF THIS SEAT. 4 by the template 'for every input the law returns true; each argument reads behind the call as it read before'; 0 by the template 'total and deterministic' (their statements: YtbaiihokdpojdaaTotals.lean).
  GIVEN WITH THE SEED: the statements are not yours to turn. If you find one false, say at which input.
  Laid BY PROGRAM, IN A SANDBOX (cutbox-rows.mjs): the forced cells as the released guide's own fill.sh prints them over the translation 646039684733d9d5… (all of the seat's roots in one cut). By AI agents, Wed Nov 11 2026. No macro, syntax, notation, axiom, sorry.
-/
import Derived.Test.YtbaiihokdpojdaaChecked
import GoSem.Claim
import GoSem.ClaimJoined
import GoSem.ClaimMapViews
import Derived.JoinedTies
import Derived.KernelRfl
namespace Go.Proofs.Ytbaiihokdpojdaa
/- THE CELL 'sum', in the pinned program and in every row, IS THE sha256 OF THE DUMP (.gsa) THAT YtbaiihokdpojdaaProg.lean LOADS. Nothing in Lean hashes anything: it is a label: what it is worth is what the hold of that sum in a sandbox is worth. -/
noncomputable def Try.pinned : Pinned := { name := "ytbaiihokdpojdaa", sum := "646039684733d9d5cdb7a192595808e11e29be749c639ad25fa365ce1c7a38a3", checked := Try.checked }
namespace Rows
def none {H : Type} : Left H := { results := [], args := [] }

/-- 'laws.FnExactGoodAgg': WHATEVER THE INPUT: true; the input reads as it did. -/
def fnExactGoodAggSpec : ChangeSpec := { name := "fnExactGoodAgg", fn := fun _ => fun
  | [d] => { results := [.lit (.bool true)], args := [d] }
  | _ => none }
def fnExactGoodAggRow : OpenClaim := { program := "ytbaiihokdpojdaa", sum := "646039684733d9d5cdb7a192595808e11e29be749c639ad25fa365ce1c7a38a3", func := "loop.example/g00150/laws.FnExactGoodAgg", spec := "fnExactGoodAgg", apart := false }
def FnExactGoodAggSaid : Prop := fnExactGoodAggRow.holds Try.pinned (OpenSpec.ofChange fnExactGoodAggSpec)

/-- ITS FALSE NEIGHBOUR: 'it returns false'. Refute it at one input. -/
def fnExactGoodAggWrong : ChangeSpec := { name := "fnExactGoodAgg", fn := fun _ => fun
  | [d] => { results := [.lit (.bool false)], args := [d] }
  | _ => none }
def FnExactGoodAggWrongFalsely : Prop := fnExactGoodAggRow.holds Try.pinned (OpenSpec.ofChange fnExactGoodAggWrong)

/-- 'laws.FnExactAggBytes': WHATEVER THE INPUT: true; the input reads as it did. -/
def fnExactAggBytesSpec : ChangeSpec := { name := "fnExactAggBytes", fn := fun _ => fun
  | [d] => { results := [.lit (.bool true)], args := [d] }
  | _ => none }
def fnExactAggBytesRow : OpenClaim := { program := "ytbaiihokdpojdaa", sum := "646039684733d9d5cdb7a192595808e11e29be749c639ad25fa365ce1c7a38a3", func := "loop.example/g00150/laws.FnExactAggBytes", spec := "fnExactAggBytes", apart := false }
def FnExactAggBytesSaid : Prop := fnExactAggBytesRow.holds Try.pinned (OpenSpec.ofChange fnExactAggBytesSpec)

/-- ITS FALSE NEIGHBOUR: 'it returns false'. Refute it at one input. -/
def fnExactAggBytesWrong : ChangeSpec := { name := "fnExactAggBytes", fn := fun _ => fun
  | [d] => { results := [.lit (.bool false)], args := [d] }
  | _ => none }
def FnExactAggBytesWrongFalsely : Prop := fnExactAggBytesRow.holds Try.pinned (OpenSpec.ofChange fnExactAggBytesWrong)

/-- 'laws.FnExactBucketOf': WHATEVER THE INPUT: true; the input reads as it did. -/
def fnExactBucketOfSpec : ChangeSpec := { name := "fnExactBucketOf", fn := fun _ => fun
  | [d] => { results := [.lit (.bool true)], args := [d] }
  | _ => none }
def fnExactBucketOfRow : OpenClaim := { program := "ytbaiihokdpojdaa", sum := "646039684733d9d5cdb7a192595808e11e29be749c639ad25fa365ce1c7a38a3", func := "loop.example/g00150/laws.FnExactBucketOf", spec := "fnExactBucketOf", apart := false }
def FnExactBucketOfSaid : Prop := fnExactBucketOfRow.holds Try.pinned (OpenSpec.ofChange fnExactBucketOfSpec)

/-- ITS FALSE NEIGHBOUR: 'it returns false'. Refute it at one input. -/
def fnExactBucketOfWrong : ChangeSpec := { name := "fnExactBucketOf", fn := fun _ => fun
  | [d] => { results := [.lit (.bool false)], args := [d] }
  | _ => none }
def FnExactBucketOfWrongFalsely : Prop := fnExactBucketOfRow.holds Try.pinned (OpenSpec.ofChange fnExactBucketOfWrong)

/-- 'laws.FnExactMeanOf': WHATEVER THE INPUT: true; the input reads as it did. -/
def fnExactMeanOfSpec : ChangeSpec := { name := "fnExactMeanOf", fn := fun _ => fun
  | [d] => { results := [.lit (.bool true)], args := [d] }
  | _ => none }
def fnExactMeanOfRow : OpenClaim := { program := "ytbaiihokdpojdaa", sum := "646039684733d9d5cdb7a192595808e11e29be749c639ad25fa365ce1c7a38a3", func := "loop.example/g00150/laws.FnExactMeanOf", spec := "fnExactMeanOf", apart := false }
def FnExactMeanOfSaid : Prop := fnExactMeanOfRow.holds Try.pinned (OpenSpec.ofChange fnExactMeanOfSpec)

/-- ITS FALSE NEIGHBOUR: 'it returns false'. Refute it at one input. -/
def fnExactMeanOfWrong : ChangeSpec := { name := "fnExactMeanOf", fn := fun _ => fun
  | [d] => { results := [.lit (.bool false)], args := [d] }
  | _ => none }
def FnExactMeanOfWrongFalsely : Prop := fnExactMeanOfRow.holds Try.pinned (OpenSpec.ofChange fnExactMeanOfWrong)

/- THE SECOND FORM. 'bulk': how many values and letters a reading holds, each counted each time it is reached (what is shared counts as often as it is met; a slice's spare places count too). A statement '..UptoSaid' is the law's where the arguments, and the package variables that the reading takes, are together of bulk at most 1048576: NARROWER than '..Said'. Prove '..Said' where nothing that the law and all that it calls make is longer than what came in: it says more and counts as full. Else prove '..UptoSaid'. A law counts once. -/
mutual
def uptoBulk {H : Type} : DataW H → Nat
  | .lit (.string bytes) => bytes.length + 1
  | .lit _ => 1
  | .nil => 1
  | .ptr d => uptoBulk d + 1
  | .slice elems spare => uptoBulkAll elems + uptoBulkAll spare + 1
  | .agg parts => uptoBulkAll parts + 1
  | .iface _ d => uptoBulk d + 1
  | .map entries => uptoBulkEntries entries + 1
  | .held _ => 1
def uptoBulkAll {H : Type} : List (DataW H) → Nat
  | [] => 0
  | d :: r => uptoBulk d + uptoBulkAll r
def uptoBulkEntries {H : Type} : List (Lit × DataW H) → Nat
  | [] => 0
  | x :: r => uptoBulkEntry x + uptoBulkEntries r
def uptoBulkEntry {H : Type} : Lit × DataW H → Nat
  | (.string bytes, d) => bytes.length + uptoBulk d + 1
  | (_, d) => uptoBulk d + 1
 end
def uptoSmall : (H : Type) → List (DataW H) → Bool := fun _ ds => decide (uptoBulkAll ds ≤ 1048576)
def OpenSpec.upto (s : _root_.Go.ChangeSpec) : _root_.Go.OpenSpec := { _root_.Go.OpenSpec.ofChange s with cond := some uptoSmall }

/-- 'laws.FnExactGoodAgg', WHERE WHAT IT READS IS OF BULK AT MOST 1048576: true; the input reads as it did. -/
def fnExactGoodAggUptoRow : OpenClaim := { program := "ytbaiihokdpojdaa", sum := "646039684733d9d5cdb7a192595808e11e29be749c639ad25fa365ce1c7a38a3", func := "loop.example/g00150/laws.FnExactGoodAgg", spec := "fnExactGoodAgg", apart := false, narrowed := true }
def FnExactGoodAggUptoSaid : Prop := fnExactGoodAggUptoRow.holds Try.pinned (OpenSpec.upto fnExactGoodAggSpec)

/-- 'laws.FnExactAggBytes', WHERE WHAT IT READS IS OF BULK AT MOST 1048576: true; the input reads as it did. -/
def fnExactAggBytesUptoRow : OpenClaim := { program := "ytbaiihokdpojdaa", sum := "646039684733d9d5cdb7a192595808e11e29be749c639ad25fa365ce1c7a38a3", func := "loop.example/g00150/laws.FnExactAggBytes", spec := "fnExactAggBytes", apart := false, narrowed := true }
def FnExactAggBytesUptoSaid : Prop := fnExactAggBytesUptoRow.holds Try.pinned (OpenSpec.upto fnExactAggBytesSpec)

/-- 'laws.FnExactBucketOf', WHERE WHAT IT READS IS OF BULK AT MOST 1048576: true; the input reads as it did. -/
def fnExactBucketOfUptoRow : OpenClaim := { program := "ytbaiihokdpojdaa", sum := "646039684733d9d5cdb7a192595808e11e29be749c639ad25fa365ce1c7a38a3", func := "loop.example/g00150/laws.FnExactBucketOf", spec := "fnExactBucketOf", apart := false, narrowed := true }
def FnExactBucketOfUptoSaid : Prop := fnExactBucketOfUptoRow.holds Try.pinned (OpenSpec.upto fnExactBucketOfSpec)

/-- 'laws.FnExactMeanOf', WHERE WHAT IT READS IS OF BULK AT MOST 1048576: true; the input reads as it did. -/
def fnExactMeanOfUptoRow : OpenClaim := { program := "ytbaiihokdpojdaa", sum := "646039684733d9d5cdb7a192595808e11e29be749c639ad25fa365ce1c7a38a3", func := "loop.example/g00150/laws.FnExactMeanOf", spec := "fnExactMeanOf", apart := false, narrowed := true }
def FnExactMeanOfUptoSaid : Prop := fnExactMeanOfUptoRow.holds Try.pinned (OpenSpec.upto fnExactMeanOfSpec)

end Rows
end Go.Proofs.Ytbaiihokdpojdaa
