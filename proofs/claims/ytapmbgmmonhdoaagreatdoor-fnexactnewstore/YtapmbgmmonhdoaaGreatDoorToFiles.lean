/- Files copied by the laws. -/
import Derived.Test.YtapmbgmmonhdoaaGreatDoorFiles
namespace Go.Proofs.YtapmbgmmonhdoaaGreatDoor
set_option maxRecDepth 100000
open Go.RowKit
set_option linter.unusedSimpArgs false
set_option linter.unusedVariables false

theorem Tryz.infoFile : (Tryz.prog.info? 40).map (fun i => (i.zero, i.size, i.bytes)) = some (some (.agg #[.string ByteArray.empty, .slice none 0 0, .int .i64 0]), 3, 48) := by kernel_rfl

theorem three_new (w : World) (a0 a1 a2 b0 b1 b2 c0 c1 c2 : Value) (T U V : Nat) {w1 : World}
    (hb : Below (((w.alloc (.cells #[a0, a1, a2] T)).alloc (.cells #[b0, b1, b2] U)).alloc (.cells #[c0, c1, c2] V)).heap.size (((w.alloc (.cells #[a0, a1, a2] T)).alloc (.cells #[b0, b1, b2] U)).alloc (.cells #[c0, c1, c2] V)) w1) :
    (w1.cell? ⟨w.heap.size, 2, none⟩ = some a2) ∧
    (w1.cell? ⟨w.heap.size + 1, 0, none⟩ = some b0 ∧ w1.cell? ⟨w.heap.size + 1, 1, none⟩ = some b1 ∧ w1.cell? ⟨w.heap.size + 1, 2, none⟩ = some b2) ∧
    (w1.cell? ⟨w.heap.size + 1 + 1, 0, none⟩ = some c0 ∧ w1.cell? ⟨w.heap.size + 1 + 1, 1, none⟩ = some c1 ∧ w1.cell? ⟨w.heap.size + 1 + 1, 2, none⟩ = some c2) ∧
    (∀ j, w1.frozen? ⟨w.heap.size + 1, j, none⟩ = false) ∧ (∀ j, w1.frozen? ⟨w.heap.size + 1 + 1, j, none⟩ = false) ∧ w.heap.size + 3 ≤ w1.heap.size := by
  have hs := hb.size
  simp at hs
  have c : ∀ b j, b < w.heap.size + 3 → w1.cell? ⟨b, j, none⟩ = _ := fun b j h => hb.cell (p := ⟨b, j, none⟩) (by simp; omega)
  have d : ∀ b j, b < w.heap.size + 3 → w1.frozen? ⟨b, j, none⟩ = _ := fun b j h => hb.frozen (p := ⟨b, j, none⟩) (by simp; omega)
  refine ⟨(c _ _ (by omega)).trans ?_, ⟨(c _ _ (by omega)).trans ?_, (c _ _ (by omega)).trans ?_, (c _ _ (by omega)).trans ?_⟩, ⟨(c _ _ (by omega)).trans ?_, (c _ _ (by omega)).trans ?_, (c _ _ (by omega)).trans ?_⟩, fun j => (d _ _ (by omega)).trans ?_, fun j => (d _ _ (by omega)).trans ?_, by omega⟩
  all_goals simp [go_sem]
theorem two_new (w : World) (a0 a1 b0 b1 c0 c1 : Value) (T U V : Nat) {w1 : World}
    (hb : Below (((w.alloc (.cells #[a0, a1] T)).alloc (.cells #[b0, b1] U)).alloc (.cells #[c0, c1] V)).heap.size (((w.alloc (.cells #[a0, a1] T)).alloc (.cells #[b0, b1] U)).alloc (.cells #[c0, c1] V)) w1) :
    (w1.cell? ⟨w.heap.size + 1, 0, none⟩ = some b0 ∧ w1.cell? ⟨w.heap.size + 1, 1, none⟩ = some b1) ∧
    (w1.cell? ⟨w.heap.size + 1 + 1, 0, none⟩ = some c0 ∧ w1.cell? ⟨w.heap.size + 1 + 1, 1, none⟩ = some c1) ∧
    (∀ j, w1.frozen? ⟨w.heap.size + 1, j, none⟩ = false) ∧ (∀ j, w1.frozen? ⟨w.heap.size + 1 + 1, j, none⟩ = false) ∧ w.heap.size + 3 ≤ w1.heap.size := by
  have hs := hb.size
  simp at hs
  have c : ∀ b j, b < w.heap.size + 3 → w1.cell? ⟨b, j, none⟩ = _ := fun b j h => hb.cell (p := ⟨b, j, none⟩) (by simp; omega)
  have d : ∀ b j, b < w.heap.size + 3 → w1.frozen? ⟨b, j, none⟩ = _ := fun b j h => hb.frozen (p := ⟨b, j, none⟩) (by simp; omega)
  refine ⟨⟨(c _ _ (by omega)).trans ?_, (c _ _ (by omega)).trans ?_⟩, ⟨(c _ _ (by omega)).trans ?_, (c _ _ (by omega)).trans ?_⟩, fun j => (d _ _ (by omega)).trans ?_, fun j => (d _ _ (by omega)).trans ?_, by omega⟩
  all_goals simp [go_sem]

/-- n files of the call's own in block b, the first k of them laid, their bytes in blocks of their own. -/
structure FOwn (w : World) (b n k : Nat) (F : Nat → Fil) (G : Nat → Nat) : Prop where
  lt : b < w.heap.size
  cell : ∀ i, i < k → i < n → w.cell? ⟨b, i * 3, none⟩ = some (.string (F i).nm) ∧ w.cell? ⟨b, i * 3 + 1, none⟩ = some (.slice (some ⟨G i, 0, none⟩) (F i).len (F i).len) ∧ w.cell? ⟨b, i * 3 + 2, none⟩ = some (.int .i64 (F i).sy)
  data : ∀ i, i < k → i < n → b < G i ∧ Own w (G i) 0 (F i).len (F i).f
  mono : ∀ i j, i < j → j < k → G i < G j
  there : ∀ j, j < n * 3 → ∃ v, w.cell? ⟨b, j, none⟩ = some v
  free : ∀ j, j < n * 3 → w.frozen? ⟨b, j, none⟩ = false
section
variable {w w' : World} {b n k : Nat} {F : Nat → Fil} {G : Nat → Nat}
theorem FOwn.row (h : FOwn w b n n F G) : FRow w (some ⟨b, 0, none⟩) n F :=
  ⟨.inr ⟨b, 0, rfl, h.lt, fun i hi => by
    obtain ⟨c0, c1, c2⟩ := h.cell i hi hi
    exact ⟨_, _, by simpa using c0, by simpa using c1, by simpa using c2, (h.data i hi hi).2.row⟩⟩⟩
theorem FOwn.keep (h : FOwn w b n k F G) (hb : Below w.heap.size w w') : FOwn w' b n k F G :=
  ⟨Nat.lt_of_lt_of_le h.lt hb.size, fun i hk hi => ⟨(hb.cell (p := ⟨b, i * 3, none⟩) h.lt).trans (h.cell i hk hi).1, (hb.cell (p := ⟨b, i * 3 + 1, none⟩) h.lt).trans (h.cell i hk hi).2.1, (hb.cell (p := ⟨b, i * 3 + 2, none⟩) h.lt).trans (h.cell i hk hi).2.2⟩,
    fun i hk hi => ⟨(h.data i hk hi).1, (h.data i hk hi).2.keep hb⟩, h.mono,
    fun j hj => by obtain ⟨v, hv⟩ := h.there j hj; exact ⟨v, (hb.cell (p := ⟨b, j, none⟩) h.lt).trans hv⟩, fun j hj => (hb.frozen (p := ⟨b, j, none⟩) h.lt).trans (h.free j hj)⟩
theorem FOwn.others {c : Nat} (h : FOwn w b n k F G) (ho : Others c w w') (hne : b ≠ c) (hd : ∀ i, i < k → G i ≠ c) : FOwn w' b n k F G :=
  have cl : ∀ j, w'.cell? ⟨b, j, none⟩ = w.cell? ⟨b, j, none⟩ := fun j => World.cell?_of_block (w := w) (a := ⟨b, j, none⟩) (ho.block b hne)
  have fz : ∀ j, w'.frozen? ⟨b, j, none⟩ = w.frozen? ⟨b, j, none⟩ := fun j => World.frozen?_of_block (w := w) (a := ⟨b, j, none⟩) (ho.block b hne)
  ⟨by rw [ho.size]; exact h.lt, fun i hk hi => by rw [cl, cl, cl]; exact h.cell i hk hi, fun i hk hi => ⟨(h.data i hk hi).1, ho.row (h.data i hk hi).2 (hd i hk)⟩, h.mono, fun j hj => by rw [cl]; exact h.there j hj, fun j hj => by rw [fz]; exact h.free j hj⟩
theorem FOwn.store (h : FOwn w b n k F G) (hk : k < n) {g : Nat} (ho : Own w g 0 (F k).len (F k).f) (hg : b < g) (hm : ∀ i, i < k → G i < g) :
    FOwn (((w.setCell ⟨b, k * 3, none⟩ (.string (F k).nm)).setCell ⟨b, k * 3 + 1, none⟩ (.slice (some ⟨g, 0, none⟩) (F k).len (F k).len)).setCell ⟨b, k * 3 + 2, none⟩ (.int .i64 (F k).sy)) b n (k + 1) F (fun i => if i = k then g else G i) := by
  obtain ⟨v0, hv0⟩ := h.there (k * 3) (by omega)
  obtain ⟨v1, hv1⟩ := h.there (k * 3 + 1) (by omega)
  obtain ⟨v2, hv2⟩ := h.there (k * 3 + 2) (by omega)
  generalize hX : (Value.string (F k).nm) = X
  generalize hY : (Value.slice (some ⟨g, 0, none⟩) (F k).len (F k).len) = Y
  generalize hZ : (Value.int .i64 (F k).sy) = Z
  have ne : ∀ (i j : Nat), i ≠ j → (⟨b, i, none⟩ : Addr) ≠ ⟨b, j, none⟩ := fun i j hij hh => by injection hh with _ h3 _; exact hij h3
  have other : ∀ j, j ≠ k * 3 → j ≠ k * 3 + 1 → j ≠ k * 3 + 2 → (((w.setCell ⟨b, k * 3, none⟩ X).setCell ⟨b, k * 3 + 1, none⟩ Y).setCell ⟨b, k * 3 + 2, none⟩ Z).cell? ⟨b, j, none⟩ = w.cell? ⟨b, j, none⟩ := fun j h1 h2 h3 => by
    rw [World.cell?_setCell_other _ _ _ _ (by first | exact ne _ _ h3 | exact ne _ _ (Ne.symm h3)), World.cell?_setCell_other _ _ _ _ (by first | exact ne _ _ h2 | exact ne _ _ (Ne.symm h2)), World.cell?_setCell_other _ _ _ _ (by first | exact ne _ _ h1 | exact ne _ _ (Ne.symm h1))]
  have at0 : (((w.setCell ⟨b, k * 3, none⟩ X).setCell ⟨b, k * 3 + 1, none⟩ Y).setCell ⟨b, k * 3 + 2, none⟩ Z).cell? ⟨b, k * 3, none⟩ = some X := by
    rw [World.cell?_setCell_other _ _ _ _ (by intro hh; injection hh with _ h3 _; omega), World.cell?_setCell_other _ _ _ _ (by intro hh; injection hh with _ h3 _; omega), World.cell?_setCell_same _ _ _ hv0]
  have at1 : (((w.setCell ⟨b, k * 3, none⟩ X).setCell ⟨b, k * 3 + 1, none⟩ Y).setCell ⟨b, k * 3 + 2, none⟩ Z).cell? ⟨b, k * 3 + 1, none⟩ = some Y := by
    rw [World.cell?_setCell_other _ _ _ _ (by intro hh; injection hh with _ h3 _; omega), World.cell?_setCell_same _ _ _ (by rw [World.cell?_setCell_other _ _ _ _ (by intro hh; injection hh with _ h3 _; omega)]; exact hv1)]
  have at2 : (((w.setCell ⟨b, k * 3, none⟩ X).setCell ⟨b, k * 3 + 1, none⟩ Y).setCell ⟨b, k * 3 + 2, none⟩ Z).cell? ⟨b, k * 3 + 2, none⟩ = some Z :=
    World.cell?_setCell_same _ _ _ (by rw [World.cell?_setCell_other _ _ _ _ (by intro hh; injection hh with _ h3 _; omega), World.cell?_setCell_other _ _ _ _ (by intro hh; injection hh with _ h3 _; omega)]; exact hv2)
  have oth : Others b w (((w.setCell ⟨b, k * 3, none⟩ X).setCell ⟨b, k * 3 + 1, none⟩ Y).setCell ⟨b, k * 3 + 2, none⟩ Z) := ((Others.setCell _ _ _ _).trans (Others.setCell _ _ _ _)).trans (Others.setCell _ _ _ _)
  refine ⟨by simpa using h.lt, fun i hi hin => ?_, fun i hi hin => ?_, fun i j hij hj => ?_, fun j hj => ?_, fun j hj => by simpa using h.free j hj⟩
  · by_cases e : i = k
    · subst e
      exact ⟨by rw [at0, hX], by rw [at1]; simp [← hY], by rw [at2, hZ]⟩
    · rw [other _ (by omega) (by omega) (by omega), other _ (by omega) (by omega) (by omega), other _ (by omega) (by omega) (by omega)]
      simp only [e, if_false]
      exact h.cell i (by omega) hin
  · by_cases e : i = k
    · subst e
      simp only [if_true]
      exact ⟨hg, oth.row ho (by omega)⟩
    · simp only [e, if_false]
      have := h.data i (by omega) hin
      exact ⟨this.1, oth.row this.2 (by omega)⟩
  · by_cases e : j = k
    · subst e
      simp only [if_true, show ¬ i = j by omega, if_false]
      exact hm i hij
    · simp only [e, show ¬ i = k by omega, if_false]
      exact h.mono i j hij (by omega)
  · by_cases e0 : j = k * 3
    · subst e0; exact ⟨_, at0⟩
    · by_cases e1 : j = k * 3 + 1
      · subst e1; exact ⟨_, at1⟩
      · by_cases e2 : j = k * 3 + 2
        · subst e2; exact ⟨_, at2⟩
        · rw [other _ e0 e1 e2]; exact h.there j hj
end

end Go.Proofs.YtapmbgmmonhdoaaGreatDoor
