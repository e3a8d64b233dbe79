/-
  No cell of these rows narrows 'for every input' (looked for: loops, veiled, ifaces, maps, wideKeys, modest, calm, conditions, laid).
  DERIVED. THE GIVEN ROWS OF THIS SEAT. 4 by the template 'for every input the law returns true; each argument reads behind the call as it read before'; 0 by the template 'total and deterministic' (their statements: YtfdbhkjmkpgomaaTotals.lean).
  GIVEN WITH THE SEED: the statements are not yours to turn. If you find one false, say at which input.
  Laid BY PROGRAM, IN A SANDBOX (cutbox-rows.mjs): the forced cells as the released guide's own fill.sh prints them over the translation 49988a863fcef4d6… (all of the seat's roots in one cut). By AI agents, Wed Nov 11 2026. No macro, syntax, notation, axiom, sorry.
-/
import Derived.Test.YtfdbhkjmkpgomaaChecked
import GoSem.Claim
import GoSem.ClaimJoined
import GoSem.ClaimMapViews
import Derived.JoinedTies
import Derived.KernelRfl
namespace Go.Proofs.Ytfdbhkjmkpgomaa
/- THE CELL 'sum', in the pinned program and in every row, IS THE sha256 OF THE DUMP (.gsa) THAT YtfdbhkjmkpgomaaProg.lean LOADS. Nothing in Lean hashes anything: it is a label: what it is worth is what the hold of that sum in a sandbox is worth. -/
noncomputable def Try.pinned : Pinned := { name := "ytfdbhkjmkpgomaa", sum := "49988a863fcef4d6eea287e924aae58fa68c3409ceb59c039b25d76e592b69ce", checked := Try.checked }
namespace Rows
def none {H : Type} : Left H := { results := [], args := [] }

/-- 'laws.FnExactJoinRows': WHATEVER THE INPUT: true; the input reads as it did. -/
def fnExactJoinRowsSpec : ChangeSpec := { name := "fnExactJoinRows", fn := fun _ => fun
  | [d] => { results := [.lit (.bool true)], args := [d] }
  | _ => none }
def fnExactJoinRowsRow : OpenClaim := { program := "ytfdbhkjmkpgomaa", sum := "49988a863fcef4d6eea287e924aae58fa68c3409ceb59c039b25d76e592b69ce", func := "loop.example/g00150/laws.FnExactJoinRows", spec := "fnExactJoinRows", inPlace := ["internal/bytealg.abigen_runtime_cmpstring"], unfollowed := true, recurses := true, apart := false }
def FnExactJoinRowsSaid : Prop := fnExactJoinRowsRow.holds Try.pinned (OpenSpec.ofChange fnExactJoinRowsSpec)

/-- ITS FALSE NEIGHBOUR: 'it returns false'. Refute it at one input. -/
def fnExactJoinRowsWrong : ChangeSpec := { name := "fnExactJoinRows", fn := fun _ => fun
  | [d] => { results := [.lit (.bool false)], args := [d] }
  | _ => none }
def FnExactJoinRowsWrongFalsely : Prop := fnExactJoinRowsRow.holds Try.pinned (OpenSpec.ofChange fnExactJoinRowsWrong)

/-- 'laws.FnExactPackKey': WHATEVER THE INPUT: true; the input reads as it did. -/
def fnExactPackKeySpec : ChangeSpec := { name := "fnExactPackKey", fn := fun _ => fun
  | [d1, d2] => { results := [.lit (.bool true)], args := [d1, d2] }
  | _ => none }
def fnExactPackKeyRow : OpenClaim := { program := "ytfdbhkjmkpgomaa", sum := "49988a863fcef4d6eea287e924aae58fa68c3409ceb59c039b25d76e592b69ce", func := "loop.example/g00150/laws.FnExactPackKey", spec := "fnExactPackKey", inPlace := ["internal/bytealg.abigen_runtime_cmpstring"], unfollowed := true, recurses := true, apart := false }
def FnExactPackKeySaid : Prop := fnExactPackKeyRow.holds Try.pinned (OpenSpec.ofChange fnExactPackKeySpec)

/-- ITS FALSE NEIGHBOUR: 'it returns false'. Refute it at one input. -/
def fnExactPackKeyWrong : ChangeSpec := { name := "fnExactPackKey", fn := fun _ => fun
  | [d1, d2] => { results := [.lit (.bool false)], args := [d1, d2] }
  | _ => none }
def FnExactPackKeyWrongFalsely : Prop := fnExactPackKeyRow.holds Try.pinned (OpenSpec.ofChange fnExactPackKeyWrong)

/-- 'laws.FnExactSplitRows': WHATEVER THE INPUT: true; the input reads as it did. -/
def fnExactSplitRowsSpec : ChangeSpec := { name := "fnExactSplitRows", fn := fun _ => fun
  | [d1, d2] => { results := [.lit (.bool true)], args := [d1, d2] }
  | _ => none }
def fnExactSplitRowsRow : OpenClaim := { program := "ytfdbhkjmkpgomaa", sum := "49988a863fcef4d6eea287e924aae58fa68c3409ceb59c039b25d76e592b69ce", func := "loop.example/g00150/laws.FnExactSplitRows", spec := "fnExactSplitRows", inPlace := ["internal/bytealg.abigen_runtime_cmpstring"], unfollowed := true, recurses := true, apart := false }
def FnExactSplitRowsSaid : Prop := fnExactSplitRowsRow.holds Try.pinned (OpenSpec.ofChange fnExactSplitRowsSpec)

/-- ITS FALSE NEIGHBOUR: 'it returns false'. Refute it at one input. -/
def fnExactSplitRowsWrong : ChangeSpec := { name := "fnExactSplitRows", fn := fun _ => fun
  | [d1, d2] => { results := [.lit (.bool false)], args := [d1, d2] }
  | _ => none }
def FnExactSplitRowsWrongFalsely : Prop := fnExactSplitRowsRow.holds Try.pinned (OpenSpec.ofChange fnExactSplitRowsWrong)

/-- 'laws.FnExactOverlap': WHATEVER THE INPUT: true; the input reads as it did. -/
def fnExactOverlapSpec : ChangeSpec := { name := "fnExactOverlap", fn := fun _ => fun
  | [d1, d2] => { results := [.lit (.bool true)], args := [d1, d2] }
  | _ => none }
def fnExactOverlapRow : OpenClaim := { program := "ytfdbhkjmkpgomaa", sum := "49988a863fcef4d6eea287e924aae58fa68c3409ceb59c039b25d76e592b69ce", func := "loop.example/g00150/laws.FnExactOverlap", spec := "fnExactOverlap", inPlace := ["internal/bytealg.abigen_runtime_cmpstring"], unfollowed := true, recurses := true, apart := false }
def FnExactOverlapSaid : Prop := fnExactOverlapRow.holds Try.pinned (OpenSpec.ofChange fnExactOverlapSpec)

/-- ITS FALSE NEIGHBOUR: 'it returns false'. Refute it at one input. -/
def fnExactOverlapWrong : ChangeSpec := { name := "fnExactOverlap", fn := fun _ => fun
  | [d1, d2] => { results := [.lit (.bool false)], args := [d1, d2] }
  | _ => none }
def FnExactOverlapWrongFalsely : Prop := fnExactOverlapRow.holds Try.pinned (OpenSpec.ofChange fnExactOverlapWrong)

/- THE SECOND FORM. 'bulk': how many values and letters a reading holds, each counted each time it is reached (what is shared counts as often as it is met; a slice's spare places count too). A statement '..UptoSaid' is the law's where the arguments, and the package variables that the reading takes, are together of bulk at most 1048576: NARROWER than '..Said'. Prove '..Said' where nothing that the law and all that it calls make is longer than what came in: it says more and counts as full. Else prove '..UptoSaid'. A law counts once. -/
mutual
def uptoBulk {H : Type} : DataW H → Nat
  | .lit (.string bytes) => bytes.length + 1
  | .lit _ => 1
  | .nil => 1
  | .ptr d => uptoBulk d + 1
  | .slice elems spare => uptoBulkAll elems + uptoBulkAll spare + 1
  | .agg parts => uptoBulkAll parts + 1
  | .iface _ d => uptoBulk d + 1
  | .map entries => uptoBulkEntries entries + 1
  | .held _ => 1
def uptoBulkAll {H : Type} : List (DataW H) → Nat
  | [] => 0
  | d :: r => uptoBulk d + uptoBulkAll r
def uptoBulkEntries {H : Type} : List (Lit × DataW H) → Nat
  | [] => 0
  | x :: r => uptoBulkEntry x + uptoBulkEntries r
def uptoBulkEntry {H : Type} : Lit × DataW H → Nat
  | (.string bytes, d) => bytes.length + uptoBulk d + 1
  | (_, d) => uptoBulk d + 1
 end
def uptoSmall : (H : Type) → List (DataW H) → Bool := fun _ ds => decide (uptoBulkAll ds ≤ 1048576)
def OpenSpec.upto (s : _root_.Go.ChangeSpec) : _root_.Go.OpenSpec := { _root_.Go.OpenSpec.ofChange s with cond := some uptoSmall }

/-- 'laws.FnExactJoinRows', WHERE WHAT IT READS IS OF BULK AT MOST 1048576: true; the input reads as it did. -/
def fnExactJoinRowsUptoRow : OpenClaim := { program := "ytfdbhkjmkpgomaa", sum := "49988a863fcef4d6eea287e924aae58fa68c3409ceb59c039b25d76e592b69ce", func := "loop.example/g00150/laws.FnExactJoinRows", spec := "fnExactJoinRows", inPlace := ["internal/bytealg.abigen_runtime_cmpstring"], unfollowed := true, recurses := true, apart := false, narrowed := true }
def FnExactJoinRowsUptoSaid : Prop := fnExactJoinRowsUptoRow.holds Try.pinned (OpenSpec.upto fnExactJoinRowsSpec)

/-- 'laws.FnExactPackKey', WHERE WHAT IT READS IS OF BULK AT MOST 1048576: true; the input reads as it did. -/
def fnExactPackKeyUptoRow : OpenClaim := { program := "ytfdbhkjmkpgomaa", sum := "49988a863fcef4d6eea287e924aae58fa68c3409ceb59c039b25d76e592b69ce", func := "loop.example/g00150/laws.FnExactPackKey", spec := "fnExactPackKey", inPlace := ["internal/bytealg.abigen_runtime_cmpstring"], unfollowed := true, recurses := true, apart := false, narrowed := true }
def FnExactPackKeyUptoSaid : Prop := fnExactPackKeyUptoRow.holds Try.pinned (OpenSpec.upto fnExactPackKeySpec)

/-- 'laws.FnExactSplitRows', WHERE WHAT IT READS IS OF BULK AT MOST 1048576: true; the input reads as it did. -/
def fnExactSplitRowsUptoRow : OpenClaim := { program := "ytfdbhkjmkpgomaa", sum := "49988a863fcef4d6eea287e924aae58fa68c3409ceb59c039b25d76e592b69ce", func := "loop.example/g00150/laws.FnExactSplitRows", spec := "fnExactSplitRows", inPlace := ["internal/bytealg.abigen_runtime_cmpstring"], unfollowed := true, recurses := true, apart := false, narrowed := true }
def FnExactSplitRowsUptoSaid : Prop := fnExactSplitRowsUptoRow.holds Try.pinned (OpenSpec.upto fnExactSplitRowsSpec)

/-- 'laws.FnExactOverlap', WHERE WHAT IT READS IS OF BULK AT MOST 1048576: true; the input reads as it did. -/
def fnExactOverlapUptoRow : OpenClaim := { program := "ytfdbhkjmkpgomaa", sum := "49988a863fcef4d6eea287e924aae58fa68c3409ceb59c039b25d76e592b69ce", func := "loop.example/g00150/laws.FnExactOverlap", spec := "fnExactOverlap", inPlace := ["internal/bytealg.abigen_runtime_cmpstring"], unfollowed := true, recurses := true, apart := false, narrowed := true }
def FnExactOverlapUptoSaid : Prop := fnExactOverlapUptoRow.holds Try.pinned (OpenSpec.upto fnExactOverlapSpec)

end Rows
end Go.Proofs.Ytfdbhkjmkpgomaa
