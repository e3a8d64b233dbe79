/-
  No cell of these rows narrows 'for every input' (looked for: loops, veiled, ifaces, maps, wideKeys, modest, calm, conditions, laid).
  DERIVED. THE GIVEN ROWS OF THIS SEAT. 7 by the template 'for every input the law returns true; each argument reads behind the call as it read before'; 0 by the template 'total and deterministic' (their statements: YtdcmclbbecnihaaTotals.lean).
  GIVEN WITH THE SEED: the statements are not yours to turn. If you find one false, say at which input.
  Laid BY PROGRAM, IN A SANDBOX (cutbox-rows.mjs): the forced cells as the released guide's own fill.sh prints them over the translation 2c467e9f0ced335d… (all of the seat's roots in one cut). By AI agents, Wed Nov 11 2026. No macro, syntax, notation, axiom, sorry.
-/
import Derived.Test.YtdcmclbbecnihaaChecked
import GoSem.Claim
import GoSem.ClaimJoined
import GoSem.ClaimMapViews
import Derived.JoinedTies
import Derived.KernelRfl
namespace Go.Proofs.Ytdcmclbbecnihaa
/- THE CELL 'sum', in the pinned program and in every row, IS THE sha256 OF THE DUMP (.gsa) THAT YtdcmclbbecnihaaProg.lean LOADS. Nothing in Lean hashes anything: it is a label: what it is worth is what the hold of that sum in a sandbox is worth. -/
noncomputable def Try.pinned : Pinned := { name := "ytdcmclbbecnihaa", sum := "2c467e9f0ced335db874f0852031e298c4d2820d4a7da7fbec060fcdee2c9a48", checked := Try.checked }
namespace Rows
def none {H : Type} : Left H := { results := [], args := [] }

/-- 'laws.FnExactFirstVersion': WHATEVER THE INPUT: true; the input reads as it did. -/
def fnExactFirstVersionSpec : ChangeSpec := { name := "fnExactFirstVersion", fn := fun _ => fun
  | [] => { results := [.lit (.bool true)], args := [] }
  | _ => none }
def fnExactFirstVersionRow : OpenClaim := { program := "ytdcmclbbecnihaa", sum := "2c467e9f0ced335db874f0852031e298c4d2820d4a7da7fbec060fcdee2c9a48", func := "loop.example/g00150/laws.FnExactFirstVersion", spec := "fnExactFirstVersion", apart := false }
def FnExactFirstVersionSaid : Prop := fnExactFirstVersionRow.holds Try.pinned (OpenSpec.ofChange fnExactFirstVersionSpec)

/-- ITS FALSE NEIGHBOUR: 'it returns false'. Refute it at one input. -/
def fnExactFirstVersionWrong : ChangeSpec := { name := "fnExactFirstVersion", fn := fun _ => fun
  | [] => { results := [.lit (.bool false)], args := [] }
  | _ => none }
def FnExactFirstVersionWrongFalsely : Prop := fnExactFirstVersionRow.holds Try.pinned (OpenSpec.ofChange fnExactFirstVersionWrong)

/-- 'laws.FnExactGoodVersion': WHATEVER THE INPUT: true; the input reads as it did. -/
def fnExactGoodVersionSpec : ChangeSpec := { name := "fnExactGoodVersion", fn := fun _ => fun
  | [d] => { results := [.lit (.bool true)], args := [d] }
  | _ => none }
def fnExactGoodVersionRow : OpenClaim := { program := "ytdcmclbbecnihaa", sum := "2c467e9f0ced335db874f0852031e298c4d2820d4a7da7fbec060fcdee2c9a48", func := "loop.example/g00150/laws.FnExactGoodVersion", spec := "fnExactGoodVersion", unfollowed := true, recurses := true, apart := false }
def FnExactGoodVersionSaid : Prop := fnExactGoodVersionRow.holds Try.pinned (OpenSpec.ofChange fnExactGoodVersionSpec)

/-- ITS FALSE NEIGHBOUR: 'it returns false'. Refute it at one input. -/
def fnExactGoodVersionWrong : ChangeSpec := { name := "fnExactGoodVersion", fn := fun _ => fun
  | [d] => { results := [.lit (.bool false)], args := [d] }
  | _ => none }
def FnExactGoodVersionWrongFalsely : Prop := fnExactGoodVersionRow.holds Try.pinned (OpenSpec.ofChange fnExactGoodVersionWrong)

/-- 'laws.FnExactApplyEdit': WHATEVER THE INPUT: true; the input reads as it did. -/
def fnExactApplyEditSpec : ChangeSpec := { name := "fnExactApplyEdit", fn := fun _ => fun
  | [d1, d2] => { results := [.lit (.bool true)], args := [d1, d2] }
  | _ => none }
def fnExactApplyEditRow : OpenClaim := { program := "ytdcmclbbecnihaa", sum := "2c467e9f0ced335db874f0852031e298c4d2820d4a7da7fbec060fcdee2c9a48", func := "loop.example/g00150/laws.FnExactApplyEdit", spec := "fnExactApplyEdit", inPlace := ["slices.overlaps[loop.example/g00150/impl.Meta]"], unfollowed := true, recurses := true, apart := false }
def FnExactApplyEditSaid : Prop := fnExactApplyEditRow.holds Try.pinned (OpenSpec.ofChange fnExactApplyEditSpec)

/-- ITS FALSE NEIGHBOUR: 'it returns false'. Refute it at one input. -/
def fnExactApplyEditWrong : ChangeSpec := { name := "fnExactApplyEdit", fn := fun _ => fun
  | [d1, d2] => { results := [.lit (.bool false)], args := [d1, d2] }
  | _ => none }
def FnExactApplyEditWrongFalsely : Prop := fnExactApplyEditRow.holds Try.pinned (OpenSpec.ofChange fnExactApplyEditWrong)

/-- 'laws.FnExactEditBytes': WHATEVER THE INPUT: true; the input reads as it did. -/
def fnExactEditBytesSpec : ChangeSpec := { name := "fnExactEditBytes", fn := fun _ => fun
  | [d] => { results := [.lit (.bool true)], args := [d] }
  | _ => none }
def fnExactEditBytesRow : OpenClaim := { program := "ytdcmclbbecnihaa", sum := "2c467e9f0ced335db874f0852031e298c4d2820d4a7da7fbec060fcdee2c9a48", func := "loop.example/g00150/laws.FnExactEditBytes", spec := "fnExactEditBytes", apart := false }
def FnExactEditBytesSaid : Prop := fnExactEditBytesRow.holds Try.pinned (OpenSpec.ofChange fnExactEditBytesSpec)

/-- ITS FALSE NEIGHBOUR: 'it returns false'. Refute it at one input. -/
def fnExactEditBytesWrong : ChangeSpec := { name := "fnExactEditBytes", fn := fun _ => fun
  | [d] => { results := [.lit (.bool false)], args := [d] }
  | _ => none }
def FnExactEditBytesWrongFalsely : Prop := fnExactEditBytesRow.holds Try.pinned (OpenSpec.ofChange fnExactEditBytesWrong)

/-- 'laws.FnExactReadEdit': WHATEVER THE INPUT: true; the input reads as it did. -/
def fnExactReadEditSpec : ChangeSpec := { name := "fnExactReadEdit", fn := fun _ => fun
  | [d] => { results := [.lit (.bool true)], args := [d] }
  | _ => none }
def fnExactReadEditRow : OpenClaim := { program := "ytdcmclbbecnihaa", sum := "2c467e9f0ced335db874f0852031e298c4d2820d4a7da7fbec060fcdee2c9a48", func := "loop.example/g00150/laws.FnExactReadEdit", spec := "fnExactReadEdit", apart := false }
def FnExactReadEditSaid : Prop := fnExactReadEditRow.holds Try.pinned (OpenSpec.ofChange fnExactReadEditSpec)

/-- ITS FALSE NEIGHBOUR: 'it returns false'. Refute it at one input. -/
def fnExactReadEditWrong : ChangeSpec := { name := "fnExactReadEdit", fn := fun _ => fun
  | [d] => { results := [.lit (.bool false)], args := [d] }
  | _ => none }
def FnExactReadEditWrongFalsely : Prop := fnExactReadEditRow.holds Try.pinned (OpenSpec.ofChange fnExactReadEditWrong)

/-- 'laws.FnExactReplayEdits': WHATEVER THE INPUT: true; the input reads as it did. -/
def fnExactReplayEditsSpec : ChangeSpec := { name := "fnExactReplayEdits", fn := fun _ => fun
  | [d] => { results := [.lit (.bool true)], args := [d] }
  | _ => none }
def fnExactReplayEditsRow : OpenClaim := { program := "ytdcmclbbecnihaa", sum := "2c467e9f0ced335db874f0852031e298c4d2820d4a7da7fbec060fcdee2c9a48", func := "loop.example/g00150/laws.FnExactReplayEdits", spec := "fnExactReplayEdits", inPlace := ["slices.overlaps[loop.example/g00150/impl.Meta]"], unfollowed := true, recurses := true, apart := false }
def FnExactReplayEditsSaid : Prop := fnExactReplayEditsRow.holds Try.pinned (OpenSpec.ofChange fnExactReplayEditsSpec)

/-- ITS FALSE NEIGHBOUR: 'it returns false'. Refute it at one input. -/
def fnExactReplayEditsWrong : ChangeSpec := { name := "fnExactReplayEdits", fn := fun _ => fun
  | [d] => { results := [.lit (.bool false)], args := [d] }
  | _ => none }
def FnExactReplayEditsWrongFalsely : Prop := fnExactReplayEditsRow.holds Try.pinned (OpenSpec.ofChange fnExactReplayEditsWrong)

/-- 'laws.FnExactFilesOf': WHATEVER THE INPUT: true; the input reads as it did. -/
def fnExactFilesOfSpec : ChangeSpec := { name := "fnExactFilesOf", fn := fun _ => fun
  | [d] => { results := [.lit (.bool true)], args := [d] }
  | _ => none }
def fnExactFilesOfRow : OpenClaim := { program := "ytdcmclbbecnihaa", sum := "2c467e9f0ced335db874f0852031e298c4d2820d4a7da7fbec060fcdee2c9a48", func := "loop.example/g00150/laws.FnExactFilesOf", spec := "fnExactFilesOf", unfollowed := true, recurses := true, apart := false }
def FnExactFilesOfSaid : Prop := fnExactFilesOfRow.holds Try.pinned (OpenSpec.ofChange fnExactFilesOfSpec)

/-- ITS FALSE NEIGHBOUR: 'it returns false'. Refute it at one input. -/
def fnExactFilesOfWrong : ChangeSpec := { name := "fnExactFilesOf", fn := fun _ => fun
  | [d] => { results := [.lit (.bool false)], args := [d] }
  | _ => none }
def FnExactFilesOfWrongFalsely : Prop := fnExactFilesOfRow.holds Try.pinned (OpenSpec.ofChange fnExactFilesOfWrong)

/- THE SECOND FORM. 'bulk': how many values and letters a reading holds, each counted each time it is reached (what is shared counts as often as it is met; a slice's spare places count too). A statement '..UptoSaid' is the law's where the arguments, and the package variables that the reading takes, are together of bulk at most 1048576: NARROWER than '..Said'. Prove '..Said' where nothing that the law and all that it calls make is longer than what came in: it says more and counts as full. Else prove '..UptoSaid'. A law counts once. -/
mutual
def uptoBulk {H : Type} : DataW H → Nat
  | .lit (.string bytes) => bytes.length + 1
  | .lit _ => 1
  | .nil => 1
  | .ptr d => uptoBulk d + 1
  | .slice elems spare => uptoBulkAll elems + uptoBulkAll spare + 1
  | .agg parts => uptoBulkAll parts + 1
  | .iface _ d => uptoBulk d + 1
  | .map entries => uptoBulkEntries entries + 1
  | .held _ => 1
def uptoBulkAll {H : Type} : List (DataW H) → Nat
  | [] => 0
  | d :: r => uptoBulk d + uptoBulkAll r
def uptoBulkEntries {H : Type} : List (Lit × DataW H) → Nat
  | [] => 0
  | x :: r => uptoBulkEntry x + uptoBulkEntries r
def uptoBulkEntry {H : Type} : Lit × DataW H → Nat
  | (.string bytes, d) => bytes.length + uptoBulk d + 1
  | (_, d) => uptoBulk d + 1
 end
def uptoSmall : (H : Type) → List (DataW H) → Bool := fun _ ds => decide (uptoBulkAll ds ≤ 1048576)
def OpenSpec.upto (s : _root_.Go.ChangeSpec) : _root_.Go.OpenSpec := { _root_.Go.OpenSpec.ofChange s with cond := some uptoSmall }

/-- 'laws.FnExactFirstVersion', WHERE WHAT IT READS IS OF BULK AT MOST 1048576: true; the input reads as it did. -/
def fnExactFirstVersionUptoRow : OpenClaim := { program := "ytdcmclbbecnihaa", sum := "2c467e9f0ced335db874f0852031e298c4d2820d4a7da7fbec060fcdee2c9a48", func := "loop.example/g00150/laws.FnExactFirstVersion", spec := "fnExactFirstVersion", apart := false, narrowed := true }
def FnExactFirstVersionUptoSaid : Prop := fnExactFirstVersionUptoRow.holds Try.pinned (OpenSpec.upto fnExactFirstVersionSpec)

/-- 'laws.FnExactGoodVersion', WHERE WHAT IT READS IS OF BULK AT MOST 1048576: true; the input reads as it did. -/
def fnExactGoodVersionUptoRow : OpenClaim := { program := "ytdcmclbbecnihaa", sum := "2c467e9f0ced335db874f0852031e298c4d2820d4a7da7fbec060fcdee2c9a48", func := "loop.example/g00150/laws.FnExactGoodVersion", spec := "fnExactGoodVersion", unfollowed := true, recurses := true, apart := false, narrowed := true }
def FnExactGoodVersionUptoSaid : Prop := fnExactGoodVersionUptoRow.holds Try.pinned (OpenSpec.upto fnExactGoodVersionSpec)

/-- 'laws.FnExactApplyEdit', WHERE WHAT IT READS IS OF BULK AT MOST 1048576: true; the input reads as it did. -/
def fnExactApplyEditUptoRow : OpenClaim := { program := "ytdcmclbbecnihaa", sum := "2c467e9f0ced335db874f0852031e298c4d2820d4a7da7fbec060fcdee2c9a48", func := "loop.example/g00150/laws.FnExactApplyEdit", spec := "fnExactApplyEdit", inPlace := ["slices.overlaps[loop.example/g00150/impl.Meta]"], unfollowed := true, recurses := true, apart := false, narrowed := true }
def FnExactApplyEditUptoSaid : Prop := fnExactApplyEditUptoRow.holds Try.pinned (OpenSpec.upto fnExactApplyEditSpec)

/-- 'laws.FnExactEditBytes', WHERE WHAT IT READS IS OF BULK AT MOST 1048576: true; the input reads as it did. -/
def fnExactEditBytesUptoRow : OpenClaim := { program := "ytdcmclbbecnihaa", sum := "2c467e9f0ced335db874f0852031e298c4d2820d4a7da7fbec060fcdee2c9a48", func := "loop.example/g00150/laws.FnExactEditBytes", spec := "fnExactEditBytes", apart := false, narrowed := true }
def FnExactEditBytesUptoSaid : Prop := fnExactEditBytesUptoRow.holds Try.pinned (OpenSpec.upto fnExactEditBytesSpec)

/-- 'laws.FnExactReadEdit', WHERE WHAT IT READS IS OF BULK AT MOST 1048576: true; the input reads as it did. -/
def fnExactReadEditUptoRow : OpenClaim := { program := "ytdcmclbbecnihaa", sum := "2c467e9f0ced335db874f0852031e298c4d2820d4a7da7fbec060fcdee2c9a48", func := "loop.example/g00150/laws.FnExactReadEdit", spec := "fnExactReadEdit", apart := false, narrowed := true }
def FnExactReadEditUptoSaid : Prop := fnExactReadEditUptoRow.holds Try.pinned (OpenSpec.upto fnExactReadEditSpec)

/-- 'laws.FnExactReplayEdits', WHERE WHAT IT READS IS OF BULK AT MOST 1048576: true; the input reads as it did. -/
def fnExactReplayEditsUptoRow : OpenClaim := { program := "ytdcmclbbecnihaa", sum := "2c467e9f0ced335db874f0852031e298c4d2820d4a7da7fbec060fcdee2c9a48", func := "loop.example/g00150/laws.FnExactReplayEdits", spec := "fnExactReplayEdits", inPlace := ["slices.overlaps[loop.example/g00150/impl.Meta]"], unfollowed := true, recurses := true, apart := false, narrowed := true }
def FnExactReplayEditsUptoSaid : Prop := fnExactReplayEditsUptoRow.holds Try.pinned (OpenSpec.upto fnExactReplayEditsSpec)

/-- 'laws.FnExactFilesOf', WHERE WHAT IT READS IS OF BULK AT MOST 1048576: true; the input reads as it did. -/
def fnExactFilesOfUptoRow : OpenClaim := { program := "ytdcmclbbecnihaa", sum := "2c467e9f0ced335db874f0852031e298c4d2820d4a7da7fbec060fcdee2c9a48", func := "loop.example/g00150/laws.FnExactFilesOf", spec := "fnExactFilesOf", unfollowed := true, recurses := true, apart := false, narrowed := true }
def FnExactFilesOfUptoSaid : Prop := fnExactFilesOfUptoRow.holds Try.pinned (OpenSpec.upto fnExactFilesOfSpec)

end Rows
end Go.Proofs.Ytdcmclbbecnihaa
