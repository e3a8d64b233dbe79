/- Filters: where they lie, measured, copied, compared. -/
import Derived.Test.YtoccfmkciacomaaBV
import Derived.Test.YtoccfmkciacomaaIn
namespace Go.Proofs.Ytoccfmkciacomaa
open Go.RowKit
set_option linter.unusedSimpArgs false
set_option linter.unusedVariables false

/-- A filter in block b. -/
structure FAt (w : World) (b : Nat) (y : Int) (v : Value) : Prop where
  lt : b < w.heap.size
  c0 : w.cell? ⟨b, 0, none⟩ = some (.int .i64 y)
  c1 : w.cell? ⟨b, 1, none⟩ = some v
section
variable {w w' : World} {b : Nat} {y : Int} {v : Value}
theorem FAt.keep (h : FAt w b y v) (hb : Below w.heap.size w w') : FAt w' b y v :=
  ⟨Nat.lt_of_lt_of_le h.lt hb.size, (hb.cell (p := ⟨b, 0, none⟩) h.lt).trans h.c0, (hb.cell (p := ⟨b, 1, none⟩) h.lt).trans h.c1⟩
theorem FAt.mid {B U : Nat} (h : FAt w b y v) (hw : Mid B U w w') (hne : b < B ∨ U ≤ b) : FAt w' b y v :=
  ⟨Nat.lt_of_lt_of_le h.lt hw.size, (hw.cell h.lt hne).trans h.c0, (hw.cell h.lt hne).trans h.c1⟩
end
theorem FAt.new (w : World) (y : Int) (v : Value) (T : Nat) : FAt (w.alloc (.cells #[.int .i64 y, v] T)) w.heap.size y v := by
  refine ⟨by simp, ?_, ?_⟩ <;> simp [go_sem]

theorem new3 (w : World) (A B C : Array Value) (T U V : Nat) {w1 : World}
    (hb : Below (((w.alloc (.cells A T)).alloc (.cells B U)).alloc (.cells C V)).heap.size (((w.alloc (.cells A T)).alloc (.cells B U)).alloc (.cells C V)) w1) :
    (∀ j, w1.cell? ⟨w.heap.size, j, none⟩ = A[j]?) ∧ (∀ j, w1.cell? ⟨w.heap.size + 1, j, none⟩ = B[j]?) ∧ (∀ j, w1.cell? ⟨w.heap.size + 1 + 1, j, none⟩ = C[j]?) ∧
    (∀ j, w1.frozen? ⟨w.heap.size + 1, j, none⟩ = false) ∧ (∀ j, w1.frozen? ⟨w.heap.size + 1 + 1, j, none⟩ = false) ∧ w.heap.size + 3 ≤ w1.heap.size := by
  have hs := hb.size
  simp at hs
  have c : ∀ b j, b < w.heap.size + 3 → w1.cell? ⟨b, j, none⟩ = _ := fun b j h => hb.cell (p := ⟨b, j, none⟩) (by simp; omega)
  have d : ∀ b j, b < w.heap.size + 3 → w1.frozen? ⟨b, j, none⟩ = _ := fun b j h => hb.frozen (p := ⟨b, j, none⟩) (by simp; omega)
  refine ⟨fun j => (c _ _ (by omega)).trans ?_, fun j => (c _ _ (by omega)).trans ?_, fun j => (c _ _ (by omega)).trans ?_, fun j => (d _ _ (by omega)).trans ?_, fun j => (d _ _ (by omega)).trans ?_, by omega⟩
  all_goals simp [go_sem]

end Go.Proofs.Ytoccfmkciacomaa
