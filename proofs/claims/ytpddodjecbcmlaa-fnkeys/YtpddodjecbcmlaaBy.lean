/- Bytes: copied, compared, marks looked for. -/
import Derived.Test.YtpddodjecbcmlaaBase
namespace Go.Proofs.Ytpddodjecbcmlaa
open Go.RowKit
set_option linter.unusedSimpArgs false
set_option linter.unusedVariables false

theorem Try.info5 : (Try.prog.info? 5).map (fun i => (i.zero, i.size, i.bytes)) = some (some (.int .u8 0), 1, 1) := by kernel_rfl

theorem own_of_made {w : World} {base g n : Nat} (h : w.ownsRow base 5 1 (.slice (some ⟨g, 0, none⟩) n n) n (madeCells (Value.int .u8 0).cells (n * 1)).toList) (hlt : g < w.heap.size) : Own w g 0 n (fun _ => 0) := by
  refine ⟨fun _ => by omega, hlt, fun i hi => ?_, fun i _ => by simpa using h.frozenAt i⟩
  have := h.cellAt i (by omega)
  rw [Nat.zero_add, this]
  simp only [Value.cells, toList_madeCells_one]
  rw [List.getElem?_replicate]
  simp [hi]

end Go.Proofs.Ytpddodjecbcmlaa
