/- A key in memory. / Bytes: copied, compared, marks looked for. -/
import Derived.Test.YtflmbcgokiiedaaGoodKey
import Derived.Test.YtflmbcgokiiedaaIn
namespace Go.Proofs.Ytflmbcgokiiedaa
open Go.RowKit
set_option linter.unusedSimpArgs false
set_option linter.unusedVariables false

/-- A key lies in block b. -/
structure KAt (w : World) (b : Nat) (m : ByteArray) (sv : Value) (st : Int) : Prop where
  lt : b < w.heap.size
  c0 : w.cell? ⟨b, 0, none⟩ = some (.string m)
  c1 : w.cell? ⟨b, 1, none⟩ = some sv
  c2 : w.cell? ⟨b, 2, none⟩ = some (.int .i64 st)
theorem KAt.keep {w w' : World} {b : Nat} {m : ByteArray} {sv : Value} {st : Int} (h : KAt w b m sv st) (hb : Below w.heap.size w w') : KAt w' b m sv st :=
  ⟨Nat.lt_of_lt_of_le h.lt hb.size, (hb.cell (p := ⟨b, 0, none⟩) h.lt).trans h.c0, (hb.cell (p := ⟨b, 1, none⟩) h.lt).trans h.c1, (hb.cell (p := ⟨b, 2, none⟩) h.lt).trans h.c2⟩
theorem KAt.new (w : World) (m : ByteArray) (sv : Value) (st : Int) (T : Nat) : KAt (w.alloc (.cells #[.string m, sv, .int .i64 st] T)) w.heap.size m sv st :=
  ⟨by simp, by simp [go_sem], by simp [go_sem], by simp [go_sem]⟩

end Go.Proofs.Ytflmbcgokiiedaa
namespace Go.Proofs.Ytflmbcgokiiedaa
open Go.RowKit
set_option linter.unusedSimpArgs false
set_option linter.unusedVariables false

theorem Try.info5 : (Try.prog.info? 5).map (fun i => (i.zero, i.size, i.bytes)) = some (some (.int .u8 0), 1, 1) := by kernel_rfl

theorem own_of_made {w : World} {base g n : Nat} (h : w.ownsRow base 5 1 (.slice (some ⟨g, 0, none⟩) n n) n (madeCells (Value.int .u8 0).cells (n * 1)).toList) (hlt : g < w.heap.size) : Own w g 0 n (fun _ => 0) := by
  refine ⟨fun _ => by omega, hlt, fun i hi => ?_, fun i _ => by simpa using h.frozenAt i⟩
  have := h.cellAt i (by omega)
  rw [Nat.zero_add, this]
  simp only [Value.cells, toList_madeCells_one]
  rw [List.getElem?_replicate]
  simp [hi]

end Go.Proofs.Ytflmbcgokiiedaa
