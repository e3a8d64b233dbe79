/-
  No cell of these rows narrows 'for every input' (looked for: loops, veiled, ifaces, maps, wideKeys, modest, calm, conditions, laid).
  DERIVED. THE GIVEN ROWS OF THIS SEAT. 7 by the template 'for every input the law returns true; each argument reads behind the call as it read before'; 0 by the template 'total and deterministic' (their statements: YtjcmjoipicaoeaaTotals.lean).
  GIVEN WITH THE SEED: the statements are not yours to turn. If you find one false, say at which input.
  Laid BY PROGRAM, IN A SANDBOX (cutbox-rows.mjs): the forced cells as the released guide's own fill.sh prints them over the translation 926f58e181efb9f5… (all of the seat's roots in one cut). By AI agents, Wed Nov 11 2026. No macro, syntax, notation, axiom, sorry.
-/
import Derived.Test.YtjcmjoipicaoeaaChecked
import GoSem.Claim
import GoSem.ClaimJoined
import GoSem.ClaimMapViews
import Derived.JoinedTies
import Derived.KernelRfl
namespace Go.Proofs.Ytjcmjoipicaoeaa
/- THE CELL 'sum', in the pinned program and in every row, IS THE sha256 OF THE DUMP (.gsa) THAT YtjcmjoipicaoeaaProg.lean LOADS. Nothing in Lean hashes anything: it is a label: what it is worth is what the hold of that sum in a sandbox is worth. -/
noncomputable def Try.pinned : Pinned := { name := "ytjcmjoipicaoeaa", sum := "926f58e181efb9f554f14475ffc7d5d33410d9b957bd09e8c0e3a71e5db32c73", checked := Try.checked }
namespace Rows
def none {H : Type} : Left H := { results := [], args := [] }

/-- 'laws.FnExactHashOf': WHATEVER THE INPUT: true; the input reads as it did. -/
def fnExactHashOfSpec : ChangeSpec := { name := "fnExactHashOf", fn := fun _ => fun
  | [d1, d2] => { results := [.lit (.bool true)], args := [d1, d2] }
  | _ => none }
def fnExactHashOfRow : OpenClaim := { program := "ytjcmjoipicaoeaa", sum := "926f58e181efb9f554f14475ffc7d5d33410d9b957bd09e8c0e3a71e5db32c73", func := "loop.example/g00150/laws.FnExactHashOf", spec := "fnExactHashOf", apart := false }
def FnExactHashOfSaid : Prop := fnExactHashOfRow.holds Try.pinned (OpenSpec.ofChange fnExactHashOfSpec)

/-- ITS FALSE NEIGHBOUR: 'it returns false'. Refute it at one input. -/
def fnExactHashOfWrong : ChangeSpec := { name := "fnExactHashOf", fn := fun _ => fun
  | [d1, d2] => { results := [.lit (.bool false)], args := [d1, d2] }
  | _ => none }
def FnExactHashOfWrongFalsely : Prop := fnExactHashOfRow.holds Try.pinned (OpenSpec.ofChange fnExactHashOfWrong)

/-- 'laws.FnExactGoodFilter': WHATEVER THE INPUT: true; the input reads as it did. -/
def fnExactGoodFilterSpec : ChangeSpec := { name := "fnExactGoodFilter", fn := fun _ => fun
  | [d] => { results := [.lit (.bool true)], args := [d] }
  | _ => none }
def fnExactGoodFilterRow : OpenClaim := { program := "ytjcmjoipicaoeaa", sum := "926f58e181efb9f554f14475ffc7d5d33410d9b957bd09e8c0e3a71e5db32c73", func := "loop.example/g00150/laws.FnExactGoodFilter", spec := "fnExactGoodFilter", apart := false }
def FnExactGoodFilterSaid : Prop := fnExactGoodFilterRow.holds Try.pinned (OpenSpec.ofChange fnExactGoodFilterSpec)

/-- ITS FALSE NEIGHBOUR: 'it returns false'. Refute it at one input. -/
def fnExactGoodFilterWrong : ChangeSpec := { name := "fnExactGoodFilter", fn := fun _ => fun
  | [d] => { results := [.lit (.bool false)], args := [d] }
  | _ => none }
def FnExactGoodFilterWrongFalsely : Prop := fnExactGoodFilterRow.holds Try.pinned (OpenSpec.ofChange fnExactGoodFilterWrong)

/-- 'laws.FnExactFilterOf': WHATEVER THE INPUT: true; the input reads as it did. -/
def fnExactFilterOfSpec : ChangeSpec := { name := "fnExactFilterOf", fn := fun _ => fun
  | [d1, d2] => { results := [.lit (.bool true)], args := [d1, d2] }
  | _ => none }
def fnExactFilterOfRow : OpenClaim := { program := "ytjcmjoipicaoeaa", sum := "926f58e181efb9f554f14475ffc7d5d33410d9b957bd09e8c0e3a71e5db32c73", func := "loop.example/g00150/laws.FnExactFilterOf", spec := "fnExactFilterOf", unfollowed := true, recurses := true, apart := false }
def FnExactFilterOfSaid : Prop := fnExactFilterOfRow.holds Try.pinned (OpenSpec.ofChange fnExactFilterOfSpec)

/-- ITS FALSE NEIGHBOUR: 'it returns false'. Refute it at one input. -/
def fnExactFilterOfWrong : ChangeSpec := { name := "fnExactFilterOf", fn := fun _ => fun
  | [d1, d2] => { results := [.lit (.bool false)], args := [d1, d2] }
  | _ => none }
def FnExactFilterOfWrongFalsely : Prop := fnExactFilterOfRow.holds Try.pinned (OpenSpec.ofChange fnExactFilterOfWrong)

/-- 'laws.FnExactMayHave': WHATEVER THE INPUT: true; the input reads as it did. -/
def fnExactMayHaveSpec : ChangeSpec := { name := "fnExactMayHave", fn := fun _ => fun
  | [d1, d2] => { results := [.lit (.bool true)], args := [d1, d2] }
  | _ => none }
def fnExactMayHaveRow : OpenClaim := { program := "ytjcmjoipicaoeaa", sum := "926f58e181efb9f554f14475ffc7d5d33410d9b957bd09e8c0e3a71e5db32c73", func := "loop.example/g00150/laws.FnExactMayHave", spec := "fnExactMayHave", unfollowed := true, recurses := true, apart := false }
def FnExactMayHaveSaid : Prop := fnExactMayHaveRow.holds Try.pinned (OpenSpec.ofChange fnExactMayHaveSpec)

/-- ITS FALSE NEIGHBOUR: 'it returns false'. Refute it at one input. -/
def fnExactMayHaveWrong : ChangeSpec := { name := "fnExactMayHave", fn := fun _ => fun
  | [d1, d2] => { results := [.lit (.bool false)], args := [d1, d2] }
  | _ => none }
def FnExactMayHaveWrongFalsely : Prop := fnExactMayHaveRow.holds Try.pinned (OpenSpec.ofChange fnExactMayHaveWrong)

/-- 'laws.FnExactFilterBytes': WHATEVER THE INPUT: true; the input reads as it did. -/
def fnExactFilterBytesSpec : ChangeSpec := { name := "fnExactFilterBytes", fn := fun _ => fun
  | [d] => { results := [.lit (.bool true)], args := [d] }
  | _ => none }
def fnExactFilterBytesRow : OpenClaim := { program := "ytjcmjoipicaoeaa", sum := "926f58e181efb9f554f14475ffc7d5d33410d9b957bd09e8c0e3a71e5db32c73", func := "loop.example/g00150/laws.FnExactFilterBytes", spec := "fnExactFilterBytes", apart := false }
def FnExactFilterBytesSaid : Prop := fnExactFilterBytesRow.holds Try.pinned (OpenSpec.ofChange fnExactFilterBytesSpec)

/-- ITS FALSE NEIGHBOUR: 'it returns false'. Refute it at one input. -/
def fnExactFilterBytesWrong : ChangeSpec := { name := "fnExactFilterBytes", fn := fun _ => fun
  | [d] => { results := [.lit (.bool false)], args := [d] }
  | _ => none }
def FnExactFilterBytesWrongFalsely : Prop := fnExactFilterBytesRow.holds Try.pinned (OpenSpec.ofChange fnExactFilterBytesWrong)

/-- 'laws.FnExactReadFilter': WHATEVER THE INPUT: true; the input reads as it did. -/
def fnExactReadFilterSpec : ChangeSpec := { name := "fnExactReadFilter", fn := fun _ => fun
  | [d] => { results := [.lit (.bool true)], args := [d] }
  | _ => none }
def fnExactReadFilterRow : OpenClaim := { program := "ytjcmjoipicaoeaa", sum := "926f58e181efb9f554f14475ffc7d5d33410d9b957bd09e8c0e3a71e5db32c73", func := "loop.example/g00150/laws.FnExactReadFilter", spec := "fnExactReadFilter", apart := false }
def FnExactReadFilterSaid : Prop := fnExactReadFilterRow.holds Try.pinned (OpenSpec.ofChange fnExactReadFilterSpec)

/-- ITS FALSE NEIGHBOUR: 'it returns false'. Refute it at one input. -/
def fnExactReadFilterWrong : ChangeSpec := { name := "fnExactReadFilter", fn := fun _ => fun
  | [d] => { results := [.lit (.bool false)], args := [d] }
  | _ => none }
def FnExactReadFilterWrongFalsely : Prop := fnExactReadFilterRow.holds Try.pinned (OpenSpec.ofChange fnExactReadFilterWrong)

/-- 'laws.FnExactKeepBlock': WHATEVER THE INPUT: true; the input reads as it did. -/
def fnExactKeepBlockSpec : ChangeSpec := { name := "fnExactKeepBlock", fn := fun _ => fun
  | [d1, d2, d3] => { results := [.lit (.bool true)], args := [d1, d2, d3] }
  | _ => none }
def fnExactKeepBlockRow : OpenClaim := { program := "ytjcmjoipicaoeaa", sum := "926f58e181efb9f554f14475ffc7d5d33410d9b957bd09e8c0e3a71e5db32c73", func := "loop.example/g00150/laws.FnExactKeepBlock", spec := "fnExactKeepBlock", unfollowed := true, recurses := true, apart := false }
def FnExactKeepBlockSaid : Prop := fnExactKeepBlockRow.holds Try.pinned (OpenSpec.ofChange fnExactKeepBlockSpec)

/-- ITS FALSE NEIGHBOUR: 'it returns false'. Refute it at one input. -/
def fnExactKeepBlockWrong : ChangeSpec := { name := "fnExactKeepBlock", fn := fun _ => fun
  | [d1, d2, d3] => { results := [.lit (.bool false)], args := [d1, d2, d3] }
  | _ => none }
def FnExactKeepBlockWrongFalsely : Prop := fnExactKeepBlockRow.holds Try.pinned (OpenSpec.ofChange fnExactKeepBlockWrong)

/- THE SECOND FORM. 'bulk': how many values and letters a reading holds, each counted each time it is reached (what is shared counts as often as it is met; a slice's spare places count too). A statement '..UptoSaid' is the law's where the arguments, and the package variables that the reading takes, are together of bulk at most 1048576: NARROWER than '..Said'. Prove '..Said' where nothing that the law and all that it calls make is longer than what came in: it says more and counts as full. Else prove '..UptoSaid'. A law counts once. -/
mutual
def uptoBulk {H : Type} : DataW H → Nat
  | .lit (.string bytes) => bytes.length + 1
  | .lit _ => 1
  | .nil => 1
  | .ptr d => uptoBulk d + 1
  | .slice elems spare => uptoBulkAll elems + uptoBulkAll spare + 1
  | .agg parts => uptoBulkAll parts + 1
  | .iface _ d => uptoBulk d + 1
  | .map entries => uptoBulkEntries entries + 1
  | .held _ => 1
def uptoBulkAll {H : Type} : List (DataW H) → Nat
  | [] => 0
  | d :: r => uptoBulk d + uptoBulkAll r
def uptoBulkEntries {H : Type} : List (Lit × DataW H) → Nat
  | [] => 0
  | x :: r => uptoBulkEntry x + uptoBulkEntries r
def uptoBulkEntry {H : Type} : Lit × DataW H → Nat
  | (.string bytes, d) => bytes.length + uptoBulk d + 1
  | (_, d) => uptoBulk d + 1
 end
def uptoSmall : (H : Type) → List (DataW H) → Bool := fun _ ds => decide (uptoBulkAll ds ≤ 1048576)
def OpenSpec.upto (s : _root_.Go.ChangeSpec) : _root_.Go.OpenSpec := { _root_.Go.OpenSpec.ofChange s with cond := some uptoSmall }

/-- 'laws.FnExactHashOf', WHERE WHAT IT READS IS OF BULK AT MOST 1048576: true; the input reads as it did. -/
def fnExactHashOfUptoRow : OpenClaim := { program := "ytjcmjoipicaoeaa", sum := "926f58e181efb9f554f14475ffc7d5d33410d9b957bd09e8c0e3a71e5db32c73", func := "loop.example/g00150/laws.FnExactHashOf", spec := "fnExactHashOf", apart := false, narrowed := true }
def FnExactHashOfUptoSaid : Prop := fnExactHashOfUptoRow.holds Try.pinned (OpenSpec.upto fnExactHashOfSpec)

/-- 'laws.FnExactGoodFilter', WHERE WHAT IT READS IS OF BULK AT MOST 1048576: true; the input reads as it did. -/
def fnExactGoodFilterUptoRow : OpenClaim := { program := "ytjcmjoipicaoeaa", sum := "926f58e181efb9f554f14475ffc7d5d33410d9b957bd09e8c0e3a71e5db32c73", func := "loop.example/g00150/laws.FnExactGoodFilter", spec := "fnExactGoodFilter", apart := false, narrowed := true }
def FnExactGoodFilterUptoSaid : Prop := fnExactGoodFilterUptoRow.holds Try.pinned (OpenSpec.upto fnExactGoodFilterSpec)

/-- 'laws.FnExactFilterOf', WHERE WHAT IT READS IS OF BULK AT MOST 1048576: true; the input reads as it did. -/
def fnExactFilterOfUptoRow : OpenClaim := { program := "ytjcmjoipicaoeaa", sum := "926f58e181efb9f554f14475ffc7d5d33410d9b957bd09e8c0e3a71e5db32c73", func := "loop.example/g00150/laws.FnExactFilterOf", spec := "fnExactFilterOf", unfollowed := true, recurses := true, apart := false, narrowed := true }
def FnExactFilterOfUptoSaid : Prop := fnExactFilterOfUptoRow.holds Try.pinned (OpenSpec.upto fnExactFilterOfSpec)

/-- 'laws.FnExactMayHave', WHERE WHAT IT READS IS OF BULK AT MOST 1048576: true; the input reads as it did. -/
def fnExactMayHaveUptoRow : OpenClaim := { program := "ytjcmjoipicaoeaa", sum := "926f58e181efb9f554f14475ffc7d5d33410d9b957bd09e8c0e3a71e5db32c73", func := "loop.example/g00150/laws.FnExactMayHave", spec := "fnExactMayHave", unfollowed := true, recurses := true, apart := false, narrowed := true }
def FnExactMayHaveUptoSaid : Prop := fnExactMayHaveUptoRow.holds Try.pinned (OpenSpec.upto fnExactMayHaveSpec)

/-- 'laws.FnExactFilterBytes', WHERE WHAT IT READS IS OF BULK AT MOST 1048576: true; the input reads as it did. -/
def fnExactFilterBytesUptoRow : OpenClaim := { program := "ytjcmjoipicaoeaa", sum := "926f58e181efb9f554f14475ffc7d5d33410d9b957bd09e8c0e3a71e5db32c73", func := "loop.example/g00150/laws.FnExactFilterBytes", spec := "fnExactFilterBytes", apart := false, narrowed := true }
def FnExactFilterBytesUptoSaid : Prop := fnExactFilterBytesUptoRow.holds Try.pinned (OpenSpec.upto fnExactFilterBytesSpec)

/-- 'laws.FnExactReadFilter', WHERE WHAT IT READS IS OF BULK AT MOST 1048576: true; the input reads as it did. -/
def fnExactReadFilterUptoRow : OpenClaim := { program := "ytjcmjoipicaoeaa", sum := "926f58e181efb9f554f14475ffc7d5d33410d9b957bd09e8c0e3a71e5db32c73", func := "loop.example/g00150/laws.FnExactReadFilter", spec := "fnExactReadFilter", apart := false, narrowed := true }
def FnExactReadFilterUptoSaid : Prop := fnExactReadFilterUptoRow.holds Try.pinned (OpenSpec.upto fnExactReadFilterSpec)

/-- 'laws.FnExactKeepBlock', WHERE WHAT IT READS IS OF BULK AT MOST 1048576: true; the input reads as it did. -/
def fnExactKeepBlockUptoRow : OpenClaim := { program := "ytjcmjoipicaoeaa", sum := "926f58e181efb9f554f14475ffc7d5d33410d9b957bd09e8c0e3a71e5db32c73", func := "loop.example/g00150/laws.FnExactKeepBlock", spec := "fnExactKeepBlock", unfollowed := true, recurses := true, apart := false, narrowed := true }
def FnExactKeepBlockUptoSaid : Prop := fnExactKeepBlockUptoRow.holds Try.pinned (OpenSpec.upto fnExactKeepBlockSpec)

end Rows
end Go.Proofs.Ytjcmjoipicaoeaa
