/- Told windows marked: what is written. -/
import Derived.Test.YtjdijikmdlklkaaCw
import Derived.Test.YtjdijikmdlklkaaTr
namespace Go.Proofs.Ytjdijikmdlklkaa
open Go.RowKit
set_option linter.unusedSimpArgs false
set_option linter.unusedVariables false

/-- The k-th put otherwise. -/
def upTo (X : Nat → Wn) (k : Nat) (y : Wn) : Nat → Wn := fun i => if i = k then y else X i
theorem upTo_same (X : Nat → Wn) (k : Nat) : upTo X k (X k) = X := by
  funext i
  unfold upTo
  split
  · rename_i h; rw [h]
  · rfl
theorem upTo_at (X : Nat → Wn) (k : Nat) (y : Wn) : upTo X k y k = y := by simp [upTo]
theorem upTo_ne (X : Nat → Wn) (k : Nat) (y : Wn) {i : Nat} (h : i ≠ k) : upTo X k y i = X i := by simp [upTo, h]

/-- They lie in block b, their lists in blocks of their own, all apart and free to be written. -/
structure ToC (w : World) (b n : Nat) (X : Nat → Wn) (A0 A1 : Nat → Option Addr) (K0 K1 : Nat → Nat) (G : Nat → Nat) : Prop where
  lt : b < w.heap.size
  ent : ∀ i, i < n → ToAt w b (i * 10) (X i) (A0 i) (A1 i) (K0 i) (K1 i)
  free : ∀ j, j < n * 10 → w.frozen? ⟨b, j, none⟩ = false
  l0 : ∀ i, i < n → 0 < (X i).tn → A0 i = some ⟨G (i * 2 + 0), 0, none⟩ ∧ G (i * 2 + 0) ≠ b ∧ TOwn w (G (i * 2 + 0)) (X i).tn (X i).tn (X i).nm (X i).vl
  l1 : ∀ i, i < n → 0 < (X i).n → A1 i = some ⟨G (i * 2 + 1), 0, none⟩ ∧ G (i * 2 + 1) ≠ b ∧ IOwn w (G (i * 2 + 1)) 0 (X i).n (X i).f
  dis : ∀ p p', p < n * 2 → p' < n * 2 → p ≠ p' → G p ≠ G p'
section
variable {w w' : World} {b n : Nat} {X : Nat → Wn} {A0 A1 : Nat → Option Addr} {K0 K1 : Nat → Nat} {G : Nat → Nat}
theorem ToC.keep (h : ToC w b n X A0 A1 K0 K1 G) (hb : Below w.heap.size w w') : ToC w' b n X A0 A1 K0 K1 G :=
  ⟨Nat.lt_of_lt_of_le h.lt hb.size, fun i hi => (h.ent i hi).keep hb, fun j hj => (hb.frozen (p := ⟨b, j, none⟩) h.lt).trans (h.free j hj),
    fun i hi h0 => by obtain ⟨e1, e2, e3⟩ := h.l0 i hi h0; exact ⟨e1, e2, e3.keep hb⟩, fun i hi h0 => by obtain ⟨e1, e2, e3⟩ := h.l1 i hi h0; exact ⟨e1, e2, e3.keep hb⟩, h.dis⟩
theorem ToC.same (h : ToC w b n X A0 A1 K0 K1 G) (hs : w.heap.size ≤ w'.heap.size) (hb : w'.heap[b]? = w.heap[b]?) (hl0 : ∀ i, i < n → 0 < (X i).tn → w'.heap[G (i * 2 + 0)]? = w.heap[G (i * 2 + 0)]?) (hl1 : ∀ i, i < n → 0 < (X i).n → w'.heap[G (i * 2 + 1)]? = w.heap[G (i * 2 + 1)]?) : ToC w' b n X A0 A1 K0 K1 G := by
  have k : ∀ j, w'.cell? ⟨b, j, none⟩ = w.cell? ⟨b, j, none⟩ := fun j => World.cell?_of_block (w := w) (a := ⟨b, j, none⟩) hb
  refine ⟨Nat.lt_of_lt_of_le h.lt hs, fun i hi => (h.ent i hi).move (Nat.lt_of_lt_of_le h.lt hs) k, fun j hj => (World.frozen?_of_block (w := w) (a := ⟨b, j, none⟩) hb).trans (h.free j hj), fun i hi h0 => ?_, fun i hi h0 => ?_, h.dis⟩
  · obtain ⟨e1, e2, e3⟩ := h.l0 i hi h0
    exact ⟨e1, e2, e3.blk (hl0 i hi h0) hs⟩
  · obtain ⟨e1, e2, e3⟩ := h.l1 i hi h0
    exact ⟨e1, e2, e3.blk (hl1 i hi h0) hs⟩
theorem ToC.set0 {k : Nat} {y : Wn} (h : ToC w b n (upTo X k y) A0 A1 K0 K1 G) (hk : k < n) (v : ByteArray) : ToC (w.setCell ⟨b, k * 10, none⟩ (.string v)) b n (upTo X k (y.w_m v)) A0 A1 K0 K1 G := by
  have ho := Others.setCell w b (k * 10) (.string v)
  refine ⟨by simpa using h.lt, fun i hi => ?_, fun j hj => by rw [World.frozen?_setCell]; exact h.free j hj, fun i hi h0 => ?_, fun i hi h0 => ?_, h.dis⟩
  · have h0 := h.ent i hi
    by_cases e : i = k
    · subst e
      rw [upTo_at] at h0 ⊢
      have c : ∀ q, q ≠ i * 10 + 0 → (w.setCell ⟨b, i * 10, none⟩ (.string v)).cell? ⟨b, q, none⟩ = w.cell? ⟨b, q, none⟩ := fun q hq => World.cell?_setCell_other _ _ _ _ (by intro hh; injection hh with _ h2 _; omega)
      exact ⟨by simpa using h.lt, World.cell?_setCell_same _ _ _ h0.c0, (c _ (by omega)).trans h0.c1, (c _ (by omega)).trans h0.c2, (c _ (by omega)).trans h0.c3, (c _ (by omega)).trans h0.c4, (c _ (by omega)).trans h0.c5, (c _ (by omega)).trans h0.c6, (c _ (by omega)).trans h0.c7, (c _ (by omega)).trans h0.c8, (c _ (by omega)).trans h0.c9⟩
    · rw [upTo_ne _ _ _ e] at h0 ⊢
      have c : ∀ q, q < 10 → (w.setCell ⟨b, k * 10, none⟩ (.string v)).cell? ⟨b, i * 10 + q, none⟩ = w.cell? ⟨b, i * 10 + q, none⟩ := fun q hq => World.cell?_setCell_other _ _ _ _ (by intro hh; injection hh with _ h2 _; omega)
      exact ⟨by simpa using h.lt, (c 0 (by omega)).trans h0.c0, (c 1 (by omega)).trans h0.c1, (c 2 (by omega)).trans h0.c2, (c 3 (by omega)).trans h0.c3, (c 4 (by omega)).trans h0.c4, (c 5 (by omega)).trans h0.c5, (c 6 (by omega)).trans h0.c6, (c 7 (by omega)).trans h0.c7, (c 8 (by omega)).trans h0.c8, (c 9 (by omega)).trans h0.c9⟩
  · have hx : (upTo X k (y.w_m v) i).tn = (upTo X k y i).tn := by unfold upTo; split <;> rfl
    rw [hx] at h0
    obtain ⟨e1, e2, e3⟩ := h.l0 i hi h0
    refine ⟨e1, e2, ?_⟩
    have e4 := e3.blk (ho.block _ e2) (by rw [ho.size]; exact Nat.le_refl _)
    by_cases e : i = k
    · subst e
      rw [upTo_at] at e4 ⊢
      exact e4
    · rw [upTo_ne _ _ _ e] at e4 ⊢
      exact e4
  · have hx : (upTo X k (y.w_m v) i).n = (upTo X k y i).n := by unfold upTo; split <;> rfl
    rw [hx] at h0
    obtain ⟨e1, e2, e3⟩ := h.l1 i hi h0
    refine ⟨e1, e2, ?_⟩
    have e4 := e3.blk (ho.block _ e2) (by rw [ho.size]; exact Nat.le_refl _)
    by_cases e : i = k
    · subst e
      rw [upTo_at] at e4 ⊢
      exact e4
    · rw [upTo_ne _ _ _ e] at e4 ⊢
      exact e4
theorem ToC.set2 {k : Nat} {y : Wn} (h : ToC w b n (upTo X k y) A0 A1 K0 K1 G) (hk : k < n) (v : Int) : ToC (w.setCell ⟨b, k * 10 + 2, none⟩ (.int .i64 v)) b n (upTo X k (y.w_st v)) A0 A1 K0 K1 G := by
  have ho := Others.setCell w b (k * 10 + 2) (.int .i64 v)
  refine ⟨by simpa using h.lt, fun i hi => ?_, fun j hj => by rw [World.frozen?_setCell]; exact h.free j hj, fun i hi h0 => ?_, fun i hi h0 => ?_, h.dis⟩
  · have h0 := h.ent i hi
    by_cases e : i = k
    · subst e
      rw [upTo_at] at h0 ⊢
      have c : ∀ q, q ≠ i * 10 + 2 → (w.setCell ⟨b, i * 10 + 2, none⟩ (.int .i64 v)).cell? ⟨b, q, none⟩ = w.cell? ⟨b, q, none⟩ := fun q hq => World.cell?_setCell_other _ _ _ _ (by intro hh; injection hh with _ h2 _; omega)
      exact ⟨by simpa using h.lt, (c _ (by omega)).trans h0.c0, (c _ (by omega)).trans h0.c1, World.cell?_setCell_same _ _ _ h0.c2, (c _ (by omega)).trans h0.c3, (c _ (by omega)).trans h0.c4, (c _ (by omega)).trans h0.c5, (c _ (by omega)).trans h0.c6, (c _ (by omega)).trans h0.c7, (c _ (by omega)).trans h0.c8, (c _ (by omega)).trans h0.c9⟩
    · rw [upTo_ne _ _ _ e] at h0 ⊢
      have c : ∀ q, q < 10 → (w.setCell ⟨b, k * 10 + 2, none⟩ (.int .i64 v)).cell? ⟨b, i * 10 + q, none⟩ = w.cell? ⟨b, i * 10 + q, none⟩ := fun q hq => World.cell?_setCell_other _ _ _ _ (by intro hh; injection hh with _ h2 _; omega)
      exact ⟨by simpa using h.lt, (c 0 (by omega)).trans h0.c0, (c 1 (by omega)).trans h0.c1, (c 2 (by omega)).trans h0.c2, (c 3 (by omega)).trans h0.c3, (c 4 (by omega)).trans h0.c4, (c 5 (by omega)).trans h0.c5, (c 6 (by omega)).trans h0.c6, (c 7 (by omega)).trans h0.c7, (c 8 (by omega)).trans h0.c8, (c 9 (by omega)).trans h0.c9⟩
  · have hx : (upTo X k (y.w_st v) i).tn = (upTo X k y i).tn := by unfold upTo; split <;> rfl
    rw [hx] at h0
    obtain ⟨e1, e2, e3⟩ := h.l0 i hi h0
    refine ⟨e1, e2, ?_⟩
    have e4 := e3.blk (ho.block _ e2) (by rw [ho.size]; exact Nat.le_refl _)
    by_cases e : i = k
    · subst e
      rw [upTo_at] at e4 ⊢
      exact e4
    · rw [upTo_ne _ _ _ e] at e4 ⊢
      exact e4
  · have hx : (upTo X k (y.w_st v) i).n = (upTo X k y i).n := by unfold upTo; split <;> rfl
    rw [hx] at h0
    obtain ⟨e1, e2, e3⟩ := h.l1 i hi h0
    refine ⟨e1, e2, ?_⟩
    have e4 := e3.blk (ho.block _ e2) (by rw [ho.size]; exact Nat.le_refl _)
    by_cases e : i = k
    · subst e
      rw [upTo_at] at e4 ⊢
      exact e4
    · rw [upTo_ne _ _ _ e] at e4 ⊢
      exact e4
theorem ToC.set3 {k : Nat} {y : Wn} (h : ToC w b n (upTo X k y) A0 A1 K0 K1 G) (hk : k < n) (v : Int) : ToC (w.setCell ⟨b, k * 10 + 3, none⟩ (.int .i64 v)) b n (upTo X k (y.w_ver v)) A0 A1 K0 K1 G := by
  have ho := Others.setCell w b (k * 10 + 3) (.int .i64 v)
  refine ⟨by simpa using h.lt, fun i hi => ?_, fun j hj => by rw [World.frozen?_setCell]; exact h.free j hj, fun i hi h0 => ?_, fun i hi h0 => ?_, h.dis⟩
  · have h0 := h.ent i hi
    by_cases e : i = k
    · subst e
      rw [upTo_at] at h0 ⊢
      have c : ∀ q, q ≠ i * 10 + 3 → (w.setCell ⟨b, i * 10 + 3, none⟩ (.int .i64 v)).cell? ⟨b, q, none⟩ = w.cell? ⟨b, q, none⟩ := fun q hq => World.cell?_setCell_other _ _ _ _ (by intro hh; injection hh with _ h2 _; omega)
      exact ⟨by simpa using h.lt, (c _ (by omega)).trans h0.c0, (c _ (by omega)).trans h0.c1, (c _ (by omega)).trans h0.c2, World.cell?_setCell_same _ _ _ h0.c3, (c _ (by omega)).trans h0.c4, (c _ (by omega)).trans h0.c5, (c _ (by omega)).trans h0.c6, (c _ (by omega)).trans h0.c7, (c _ (by omega)).trans h0.c8, (c _ (by omega)).trans h0.c9⟩
    · rw [upTo_ne _ _ _ e] at h0 ⊢
      have c : ∀ q, q < 10 → (w.setCell ⟨b, k * 10 + 3, none⟩ (.int .i64 v)).cell? ⟨b, i * 10 + q, none⟩ = w.cell? ⟨b, i * 10 + q, none⟩ := fun q hq => World.cell?_setCell_other _ _ _ _ (by intro hh; injection hh with _ h2 _; omega)
      exact ⟨by simpa using h.lt, (c 0 (by omega)).trans h0.c0, (c 1 (by omega)).trans h0.c1, (c 2 (by omega)).trans h0.c2, (c 3 (by omega)).trans h0.c3, (c 4 (by omega)).trans h0.c4, (c 5 (by omega)).trans h0.c5, (c 6 (by omega)).trans h0.c6, (c 7 (by omega)).trans h0.c7, (c 8 (by omega)).trans h0.c8, (c 9 (by omega)).trans h0.c9⟩
  · have hx : (upTo X k (y.w_ver v) i).tn = (upTo X k y i).tn := by unfold upTo; split <;> rfl
    rw [hx] at h0
    obtain ⟨e1, e2, e3⟩ := h.l0 i hi h0
    refine ⟨e1, e2, ?_⟩
    have e4 := e3.blk (ho.block _ e2) (by rw [ho.size]; exact Nat.le_refl _)
    by_cases e : i = k
    · subst e
      rw [upTo_at] at e4 ⊢
      exact e4
    · rw [upTo_ne _ _ _ e] at e4 ⊢
      exact e4
  · have hx : (upTo X k (y.w_ver v) i).n = (upTo X k y i).n := by unfold upTo; split <;> rfl
    rw [hx] at h0
    obtain ⟨e1, e2, e3⟩ := h.l1 i hi h0
    refine ⟨e1, e2, ?_⟩
    have e4 := e3.blk (ho.block _ e2) (by rw [ho.size]; exact Nat.le_refl _)
    by_cases e : i = k
    · subst e
      rw [upTo_at] at e4 ⊢
      exact e4
    · rw [upTo_ne _ _ _ e] at e4 ⊢
      exact e4
theorem ToC.set4 {k : Nat} {y : Wn} (h : ToC w b n (upTo X k y) A0 A1 K0 K1 G) (hk : k < n) (v : Int) : ToC (w.setCell ⟨b, k * 10 + 4, none⟩ (.int .i64 v)) b n (upTo X k (y.w_c v)) A0 A1 K0 K1 G := by
  have ho := Others.setCell w b (k * 10 + 4) (.int .i64 v)
  refine ⟨by simpa using h.lt, fun i hi => ?_, fun j hj => by rw [World.frozen?_setCell]; exact h.free j hj, fun i hi h0 => ?_, fun i hi h0 => ?_, h.dis⟩
  · have h0 := h.ent i hi
    by_cases e : i = k
    · subst e
      rw [upTo_at] at h0 ⊢
      have c : ∀ q, q ≠ i * 10 + 4 → (w.setCell ⟨b, i * 10 + 4, none⟩ (.int .i64 v)).cell? ⟨b, q, none⟩ = w.cell? ⟨b, q, none⟩ := fun q hq => World.cell?_setCell_other _ _ _ _ (by intro hh; injection hh with _ h2 _; omega)
      exact ⟨by simpa using h.lt, (c _ (by omega)).trans h0.c0, (c _ (by omega)).trans h0.c1, (c _ (by omega)).trans h0.c2, (c _ (by omega)).trans h0.c3, World.cell?_setCell_same _ _ _ h0.c4, (c _ (by omega)).trans h0.c5, (c _ (by omega)).trans h0.c6, (c _ (by omega)).trans h0.c7, (c _ (by omega)).trans h0.c8, (c _ (by omega)).trans h0.c9⟩
    · rw [upTo_ne _ _ _ e] at h0 ⊢
      have c : ∀ q, q < 10 → (w.setCell ⟨b, k * 10 + 4, none⟩ (.int .i64 v)).cell? ⟨b, i * 10 + q, none⟩ = w.cell? ⟨b, i * 10 + q, none⟩ := fun q hq => World.cell?_setCell_other _ _ _ _ (by intro hh; injection hh with _ h2 _; omega)
      exact ⟨by simpa using h.lt, (c 0 (by omega)).trans h0.c0, (c 1 (by omega)).trans h0.c1, (c 2 (by omega)).trans h0.c2, (c 3 (by omega)).trans h0.c3, (c 4 (by omega)).trans h0.c4, (c 5 (by omega)).trans h0.c5, (c 6 (by omega)).trans h0.c6, (c 7 (by omega)).trans h0.c7, (c 8 (by omega)).trans h0.c8, (c 9 (by omega)).trans h0.c9⟩
  · have hx : (upTo X k (y.w_c v) i).tn = (upTo X k y i).tn := by unfold upTo; split <;> rfl
    rw [hx] at h0
    obtain ⟨e1, e2, e3⟩ := h.l0 i hi h0
    refine ⟨e1, e2, ?_⟩
    have e4 := e3.blk (ho.block _ e2) (by rw [ho.size]; exact Nat.le_refl _)
    by_cases e : i = k
    · subst e
      rw [upTo_at] at e4 ⊢
      exact e4
    · rw [upTo_ne _ _ _ e] at e4 ⊢
      exact e4
  · have hx : (upTo X k (y.w_c v) i).n = (upTo X k y i).n := by unfold upTo; split <;> rfl
    rw [hx] at h0
    obtain ⟨e1, e2, e3⟩ := h.l1 i hi h0
    refine ⟨e1, e2, ?_⟩
    have e4 := e3.blk (ho.block _ e2) (by rw [ho.size]; exact Nat.le_refl _)
    by_cases e : i = k
    · subst e
      rw [upTo_at] at e4 ⊢
      exact e4
    · rw [upTo_ne _ _ _ e] at e4 ⊢
      exact e4
theorem ToC.set5 {k : Nat} {y : Wn} (h : ToC w b n (upTo X k y) A0 A1 K0 K1 G) (hk : k < n) (v : Int) : ToC (w.setCell ⟨b, k * 10 + 5, none⟩ (.int .i64 v)) b n (upTo X k (y.w_s v)) A0 A1 K0 K1 G := by
  have ho := Others.setCell w b (k * 10 + 5) (.int .i64 v)
  refine ⟨by simpa using h.lt, fun i hi => ?_, fun j hj => by rw [World.frozen?_setCell]; exact h.free j hj, fun i hi h0 => ?_, fun i hi h0 => ?_, h.dis⟩
  · have h0 := h.ent i hi
    by_cases e : i = k
    · subst e
      rw [upTo_at] at h0 ⊢
      have c : ∀ q, q ≠ i * 10 + 5 → (w.setCell ⟨b, i * 10 + 5, none⟩ (.int .i64 v)).cell? ⟨b, q, none⟩ = w.cell? ⟨b, q, none⟩ := fun q hq => World.cell?_setCell_other _ _ _ _ (by intro hh; injection hh with _ h2 _; omega)
      exact ⟨by simpa using h.lt, (c _ (by omega)).trans h0.c0, (c _ (by omega)).trans h0.c1, (c _ (by omega)).trans h0.c2, (c _ (by omega)).trans h0.c3, (c _ (by omega)).trans h0.c4, World.cell?_setCell_same _ _ _ h0.c5, (c _ (by omega)).trans h0.c6, (c _ (by omega)).trans h0.c7, (c _ (by omega)).trans h0.c8, (c _ (by omega)).trans h0.c9⟩
    · rw [upTo_ne _ _ _ e] at h0 ⊢
      have c : ∀ q, q < 10 → (w.setCell ⟨b, k * 10 + 5, none⟩ (.int .i64 v)).cell? ⟨b, i * 10 + q, none⟩ = w.cell? ⟨b, i * 10 + q, none⟩ := fun q hq => World.cell?_setCell_other _ _ _ _ (by intro hh; injection hh with _ h2 _; omega)
      exact ⟨by simpa using h.lt, (c 0 (by omega)).trans h0.c0, (c 1 (by omega)).trans h0.c1, (c 2 (by omega)).trans h0.c2, (c 3 (by omega)).trans h0.c3, (c 4 (by omega)).trans h0.c4, (c 5 (by omega)).trans h0.c5, (c 6 (by omega)).trans h0.c6, (c 7 (by omega)).trans h0.c7, (c 8 (by omega)).trans h0.c8, (c 9 (by omega)).trans h0.c9⟩
  · have hx : (upTo X k (y.w_s v) i).tn = (upTo X k y i).tn := by unfold upTo; split <;> rfl
    rw [hx] at h0
    obtain ⟨e1, e2, e3⟩ := h.l0 i hi h0
    refine ⟨e1, e2, ?_⟩
    have e4 := e3.blk (ho.block _ e2) (by rw [ho.size]; exact Nat.le_refl _)
    by_cases e : i = k
    · subst e
      rw [upTo_at] at e4 ⊢
      exact e4
    · rw [upTo_ne _ _ _ e] at e4 ⊢
      exact e4
  · have hx : (upTo X k (y.w_s v) i).n = (upTo X k y i).n := by unfold upTo; split <;> rfl
    rw [hx] at h0
    obtain ⟨e1, e2, e3⟩ := h.l1 i hi h0
    refine ⟨e1, e2, ?_⟩
    have e4 := e3.blk (ho.block _ e2) (by rw [ho.size]; exact Nat.le_refl _)
    by_cases e : i = k
    · subst e
      rw [upTo_at] at e4 ⊢
      exact e4
    · rw [upTo_ne _ _ _ e] at e4 ⊢
      exact e4
theorem ToC.set6 {k : Nat} {y : Wn} (h : ToC w b n (upTo X k y) A0 A1 K0 K1 G) (hk : k < n) (v : Int) : ToC (w.setCell ⟨b, k * 10 + 6, none⟩ (.int .i64 v)) b n (upTo X k (y.w_lo v)) A0 A1 K0 K1 G := by
  have ho := Others.setCell w b (k * 10 + 6) (.int .i64 v)
  refine ⟨by simpa using h.lt, fun i hi => ?_, fun j hj => by rw [World.frozen?_setCell]; exact h.free j hj, fun i hi h0 => ?_, fun i hi h0 => ?_, h.dis⟩
  · have h0 := h.ent i hi
    by_cases e : i = k
    · subst e
      rw [upTo_at] at h0 ⊢
      have c : ∀ q, q ≠ i * 10 + 6 → (w.setCell ⟨b, i * 10 + 6, none⟩ (.int .i64 v)).cell? ⟨b, q, none⟩ = w.cell? ⟨b, q, none⟩ := fun q hq => World.cell?_setCell_other _ _ _ _ (by intro hh; injection hh with _ h2 _; omega)
      exact ⟨by simpa using h.lt, (c _ (by omega)).trans h0.c0, (c _ (by omega)).trans h0.c1, (c _ (by omega)).trans h0.c2, (c _ (by omega)).trans h0.c3, (c _ (by omega)).trans h0.c4, (c _ (by omega)).trans h0.c5, World.cell?_setCell_same _ _ _ h0.c6, (c _ (by omega)).trans h0.c7, (c _ (by omega)).trans h0.c8, (c _ (by omega)).trans h0.c9⟩
    · rw [upTo_ne _ _ _ e] at h0 ⊢
      have c : ∀ q, q < 10 → (w.setCell ⟨b, k * 10 + 6, none⟩ (.int .i64 v)).cell? ⟨b, i * 10 + q, none⟩ = w.cell? ⟨b, i * 10 + q, none⟩ := fun q hq => World.cell?_setCell_other _ _ _ _ (by intro hh; injection hh with _ h2 _; omega)
      exact ⟨by simpa using h.lt, (c 0 (by omega)).trans h0.c0, (c 1 (by omega)).trans h0.c1, (c 2 (by omega)).trans h0.c2, (c 3 (by omega)).trans h0.c3, (c 4 (by omega)).trans h0.c4, (c 5 (by omega)).trans h0.c5, (c 6 (by omega)).trans h0.c6, (c 7 (by omega)).trans h0.c7, (c 8 (by omega)).trans h0.c8, (c 9 (by omega)).trans h0.c9⟩
  · have hx : (upTo X k (y.w_lo v) i).tn = (upTo X k y i).tn := by unfold upTo; split <;> rfl
    rw [hx] at h0
    obtain ⟨e1, e2, e3⟩ := h.l0 i hi h0
    refine ⟨e1, e2, ?_⟩
    have e4 := e3.blk (ho.block _ e2) (by rw [ho.size]; exact Nat.le_refl _)
    by_cases e : i = k
    · subst e
      rw [upTo_at] at e4 ⊢
      exact e4
    · rw [upTo_ne _ _ _ e] at e4 ⊢
      exact e4
  · have hx : (upTo X k (y.w_lo v) i).n = (upTo X k y i).n := by unfold upTo; split <;> rfl
    rw [hx] at h0
    obtain ⟨e1, e2, e3⟩ := h.l1 i hi h0
    refine ⟨e1, e2, ?_⟩
    have e4 := e3.blk (ho.block _ e2) (by rw [ho.size]; exact Nat.le_refl _)
    by_cases e : i = k
    · subst e
      rw [upTo_at] at e4 ⊢
      exact e4
    · rw [upTo_ne _ _ _ e] at e4 ⊢
      exact e4
theorem ToC.set7 {k : Nat} {y : Wn} (h : ToC w b n (upTo X k y) A0 A1 K0 K1 G) (hk : k < n) (v : Int) : ToC (w.setCell ⟨b, k * 10 + 7, none⟩ (.int .i64 v)) b n (upTo X k (y.w_hi v)) A0 A1 K0 K1 G := by
  have ho := Others.setCell w b (k * 10 + 7) (.int .i64 v)
  refine ⟨by simpa using h.lt, fun i hi => ?_, fun j hj => by rw [World.frozen?_setCell]; exact h.free j hj, fun i hi h0 => ?_, fun i hi h0 => ?_, h.dis⟩
  · have h0 := h.ent i hi
    by_cases e : i = k
    · subst e
      rw [upTo_at] at h0 ⊢
      have c : ∀ q, q ≠ i * 10 + 7 → (w.setCell ⟨b, i * 10 + 7, none⟩ (.int .i64 v)).cell? ⟨b, q, none⟩ = w.cell? ⟨b, q, none⟩ := fun q hq => World.cell?_setCell_other _ _ _ _ (by intro hh; injection hh with _ h2 _; omega)
      exact ⟨by simpa using h.lt, (c _ (by omega)).trans h0.c0, (c _ (by omega)).trans h0.c1, (c _ (by omega)).trans h0.c2, (c _ (by omega)).trans h0.c3, (c _ (by omega)).trans h0.c4, (c _ (by omega)).trans h0.c5, (c _ (by omega)).trans h0.c6, World.cell?_setCell_same _ _ _ h0.c7, (c _ (by omega)).trans h0.c8, (c _ (by omega)).trans h0.c9⟩
    · rw [upTo_ne _ _ _ e] at h0 ⊢
      have c : ∀ q, q < 10 → (w.setCell ⟨b, k * 10 + 7, none⟩ (.int .i64 v)).cell? ⟨b, i * 10 + q, none⟩ = w.cell? ⟨b, i * 10 + q, none⟩ := fun q hq => World.cell?_setCell_other _ _ _ _ (by intro hh; injection hh with _ h2 _; omega)
      exact ⟨by simpa using h.lt, (c 0 (by omega)).trans h0.c0, (c 1 (by omega)).trans h0.c1, (c 2 (by omega)).trans h0.c2, (c 3 (by omega)).trans h0.c3, (c 4 (by omega)).trans h0.c4, (c 5 (by omega)).trans h0.c5, (c 6 (by omega)).trans h0.c6, (c 7 (by omega)).trans h0.c7, (c 8 (by omega)).trans h0.c8, (c 9 (by omega)).trans h0.c9⟩
  · have hx : (upTo X k (y.w_hi v) i).tn = (upTo X k y i).tn := by unfold upTo; split <;> rfl
    rw [hx] at h0
    obtain ⟨e1, e2, e3⟩ := h.l0 i hi h0
    refine ⟨e1, e2, ?_⟩
    have e4 := e3.blk (ho.block _ e2) (by rw [ho.size]; exact Nat.le_refl _)
    by_cases e : i = k
    · subst e
      rw [upTo_at] at e4 ⊢
      exact e4
    · rw [upTo_ne _ _ _ e] at e4 ⊢
      exact e4
  · have hx : (upTo X k (y.w_hi v) i).n = (upTo X k y i).n := by unfold upTo; split <;> rfl
    rw [hx] at h0
    obtain ⟨e1, e2, e3⟩ := h.l1 i hi h0
    refine ⟨e1, e2, ?_⟩
    have e4 := e3.blk (ho.block _ e2) (by rw [ho.size]; exact Nat.le_refl _)
    by_cases e : i = k
    · subst e
      rw [upTo_at] at e4 ⊢
      exact e4
    · rw [upTo_ne _ _ _ e] at e4 ⊢
      exact e4
theorem ToC.set9 {k : Nat} {y : Wn} (h : ToC w b n (upTo X k y) A0 A1 K0 K1 G) (hk : k < n) (v : Bool) : ToC (w.setCell ⟨b, k * 10 + 9, none⟩ (.bool v)) b n (upTo X k (y.w_fu v)) A0 A1 K0 K1 G := by
  have ho := Others.setCell w b (k * 10 + 9) (.bool v)
  refine ⟨by simpa using h.lt, fun i hi => ?_, fun j hj => by rw [World.frozen?_setCell]; exact h.free j hj, fun i hi h0 => ?_, fun i hi h0 => ?_, h.dis⟩
  · have h0 := h.ent i hi
    by_cases e : i = k
    · subst e
      rw [upTo_at] at h0 ⊢
      have c : ∀ q, q ≠ i * 10 + 9 → (w.setCell ⟨b, i * 10 + 9, none⟩ (.bool v)).cell? ⟨b, q, none⟩ = w.cell? ⟨b, q, none⟩ := fun q hq => World.cell?_setCell_other _ _ _ _ (by intro hh; injection hh with _ h2 _; omega)
      exact ⟨by simpa using h.lt, (c _ (by omega)).trans h0.c0, (c _ (by omega)).trans h0.c1, (c _ (by omega)).trans h0.c2, (c _ (by omega)).trans h0.c3, (c _ (by omega)).trans h0.c4, (c _ (by omega)).trans h0.c5, (c _ (by omega)).trans h0.c6, (c _ (by omega)).trans h0.c7, (c _ (by omega)).trans h0.c8, World.cell?_setCell_same _ _ _ h0.c9⟩
    · rw [upTo_ne _ _ _ e] at h0 ⊢
      have c : ∀ q, q < 10 → (w.setCell ⟨b, k * 10 + 9, none⟩ (.bool v)).cell? ⟨b, i * 10 + q, none⟩ = w.cell? ⟨b, i * 10 + q, none⟩ := fun q hq => World.cell?_setCell_other _ _ _ _ (by intro hh; injection hh with _ h2 _; omega)
      exact ⟨by simpa using h.lt, (c 0 (by omega)).trans h0.c0, (c 1 (by omega)).trans h0.c1, (c 2 (by omega)).trans h0.c2, (c 3 (by omega)).trans h0.c3, (c 4 (by omega)).trans h0.c4, (c 5 (by omega)).trans h0.c5, (c 6 (by omega)).trans h0.c6, (c 7 (by omega)).trans h0.c7, (c 8 (by omega)).trans h0.c8, (c 9 (by omega)).trans h0.c9⟩
  · have hx : (upTo X k (y.w_fu v) i).tn = (upTo X k y i).tn := by unfold upTo; split <;> rfl
    rw [hx] at h0
    obtain ⟨e1, e2, e3⟩ := h.l0 i hi h0
    refine ⟨e1, e2, ?_⟩
    have e4 := e3.blk (ho.block _ e2) (by rw [ho.size]; exact Nat.le_refl _)
    by_cases e : i = k
    · subst e
      rw [upTo_at] at e4 ⊢
      exact e4
    · rw [upTo_ne _ _ _ e] at e4 ⊢
      exact e4
  · have hx : (upTo X k (y.w_fu v) i).n = (upTo X k y i).n := by unfold upTo; split <;> rfl
    rw [hx] at h0
    obtain ⟨e1, e2, e3⟩ := h.l1 i hi h0
    refine ⟨e1, e2, ?_⟩
    have e4 := e3.blk (ho.block _ e2) (by rw [ho.size]; exact Nat.le_refl _)
    by_cases e : i = k
    · subst e
      rw [upTo_at] at e4 ⊢
      exact e4
    · rw [upTo_ne _ _ _ e] at e4 ⊢
      exact e4
theorem ToC.list0 {k : Nat} {y : Wn} (h : ToC w b n (upTo X k y) A0 A1 K0 K1 G) (hk : k < n) (hp : 0 < y.tn) (ht : Thru (G (k * 2 + 0)) w w') (nm' : Nat → ByteArray) (vl' : Nat → ByteArray) (hn : TOwn w' (G (k * 2 + 0)) y.tn y.tn nm' vl') : ToC w' b n (upTo X k (y.wl_T nm' vl')) A0 A1 K0 K1 G := by
  have hne : b ≠ G (k * 2 + 0) := by have := (h.l0 k hk (by rw [upTo_at]; exact hp)).2.1; exact this.symm
  have hbb := ht.block b h.lt hne
  have kc : ∀ j, w'.cell? ⟨b, j, none⟩ = w.cell? ⟨b, j, none⟩ := fun j => World.cell?_of_block (w := w) (a := ⟨b, j, none⟩) hbb
  refine ⟨Nat.lt_of_lt_of_le h.lt ht.size, fun i hi => ?_, fun j hj => (World.frozen?_of_block (w := w) (a := ⟨b, j, none⟩) hbb).trans (h.free j hj), fun i hi h0 => ?_, fun i hi h0 => ?_, h.dis⟩
  · have h0 := (h.ent i hi).move (Nat.lt_of_lt_of_le h.lt ht.size) kc
    unfold upTo at h0 ⊢
    split
    · rename_i e
      subst e
      simp only [if_true] at h0
      exact ⟨h0.lt, h0.c0, h0.c1, h0.c2, h0.c3, h0.c4, h0.c5, h0.c6, h0.c7, h0.c8, h0.c9⟩
    · rename_i e
      simp only [e, if_false] at h0
      exact h0
  · have hx : (upTo X k (y.wl_T nm' vl') i).tn = (upTo X k y i).tn := by unfold upTo; split <;> rfl
    rw [hx] at h0
    obtain ⟨e1, e2, e3⟩ := h.l0 i hi h0
    refine ⟨e1, e2, ?_⟩
    by_cases e : i = k
    · subst e
      rw [upTo_at]
      exact hn
    · have e4 := e3.blk (ht.block _ e3.lt (h.dis _ _ (by omega) (by omega) (by omega))) ht.size
      rw [upTo_ne _ _ _ e] at e4 ⊢
      exact e4
  · have hx : (upTo X k (y.wl_T nm' vl') i).n = (upTo X k y i).n := by unfold upTo; split <;> rfl
    rw [hx] at h0
    obtain ⟨e1, e2, e3⟩ := h.l1 i hi h0
    refine ⟨e1, e2, ?_⟩
    have e4 := e3.blk (ht.block _ e3.lt (h.dis _ _ (by omega) (by omega) (by omega))) ht.size
    by_cases e : i = k
    · subst e
      rw [upTo_at] at e4 ⊢
      exact e4
    · rw [upTo_ne _ _ _ e] at e4 ⊢
      exact e4
theorem ToC.list1 {k : Nat} {y : Wn} (h : ToC w b n (upTo X k y) A0 A1 K0 K1 G) (hk : k < n) (hp : 0 < y.n) (ht : Thru (G (k * 2 + 1)) w w') (f' : Nat → Int) (hn : IOwn w' (G (k * 2 + 1)) 0 y.n f') : ToC w' b n (upTo X k (y.wl_N f')) A0 A1 K0 K1 G := by
  have hne : b ≠ G (k * 2 + 1) := by have := (h.l1 k hk (by rw [upTo_at]; exact hp)).2.1; exact this.symm
  have hbb := ht.block b h.lt hne
  have kc : ∀ j, w'.cell? ⟨b, j, none⟩ = w.cell? ⟨b, j, none⟩ := fun j => World.cell?_of_block (w := w) (a := ⟨b, j, none⟩) hbb
  refine ⟨Nat.lt_of_lt_of_le h.lt ht.size, fun i hi => ?_, fun j hj => (World.frozen?_of_block (w := w) (a := ⟨b, j, none⟩) hbb).trans (h.free j hj), fun i hi h0 => ?_, fun i hi h0 => ?_, h.dis⟩
  · have h0 := (h.ent i hi).move (Nat.lt_of_lt_of_le h.lt ht.size) kc
    unfold upTo at h0 ⊢
    split
    · rename_i e
      subst e
      simp only [if_true] at h0
      exact ⟨h0.lt, h0.c0, h0.c1, h0.c2, h0.c3, h0.c4, h0.c5, h0.c6, h0.c7, h0.c8, h0.c9⟩
    · rename_i e
      simp only [e, if_false] at h0
      exact h0
  · have hx : (upTo X k (y.wl_N f') i).tn = (upTo X k y i).tn := by unfold upTo; split <;> rfl
    rw [hx] at h0
    obtain ⟨e1, e2, e3⟩ := h.l0 i hi h0
    refine ⟨e1, e2, ?_⟩
    have e4 := e3.blk (ht.block _ e3.lt (h.dis _ _ (by omega) (by omega) (by omega))) ht.size
    by_cases e : i = k
    · subst e
      rw [upTo_at] at e4 ⊢
      exact e4
    · rw [upTo_ne _ _ _ e] at e4 ⊢
      exact e4
  · have hx : (upTo X k (y.wl_N f') i).n = (upTo X k y i).n := by unfold upTo; split <;> rfl
    rw [hx] at h0
    obtain ⟨e1, e2, e3⟩ := h.l1 i hi h0
    refine ⟨e1, e2, ?_⟩
    by_cases e : i = k
    · subst e
      rw [upTo_at]
      exact hn
    · have e4 := e3.blk (ht.block _ e3.lt (h.dis _ _ (by omega) (by omega) (by omega))) ht.size
      rw [upTo_ne _ _ _ e] at e4 ⊢
      exact e4
end

/-- One that bears the marks from k on. -/
def mkTo (k : Nat) (x : Wn) : Wn := { m := mt ((k : Nat) : Int), tn := x.tn, nm := mtN (k + 1), vl := mtV (k + 1), st := ((k + 1 + 2 * x.tn : Nat) : Int), c := ((k + 1 + 2 * x.tn + 1 + 1 : Nat) : Int), s := ((k + 1 + 2 * x.tn + 1 + 1 + 1 : Nat) : Int), lo := ((k + 1 + 2 * x.tn + 1 + 1 + 1 + 1 : Nat) : Int), hi := ((k + 1 + 2 * x.tn + 1 + 1 + 1 + 1 + 1 : Nat) : Int), n := x.n, f := mIn (k + 1 + 2 * x.tn + 1 + 1 + 1 + 1 + 1 + 1) x.n, fu := (((k + 1 + 2 * x.tn + 1 + 1 + 1 + 1 + 1 + 1 + x.n : Nat) : Int) % 3 == 0), ver := ((k + 1 + 2 * x.tn + 1 : Nat) : Int), di := x.di }
/-- How many marks one bears. -/
def spTo (x : Wn) : Nat := 1 + 2 * x.tn + 1 + 1 + 1 + 1 + 1 + 1 + x.n + 1
/-- The next mark behind the first i. -/
def kOTo (X : Nat → Wn) (k0 : Nat) : Nat → Nat
  | 0 => k0
  | i + 1 => kOTo X k0 i + spTo (X i)
theorem kOTo_mono (X : Nat → Wn) (k0 : Nat) : ∀ {i j : Nat}, i ≤ j → kOTo X k0 i ≤ kOTo X k0 j
  | i, 0, h => by rw [show i = 0 by omega]; exact Nat.le_refl _
  | i, j + 1, h => by
    by_cases e : i = j + 1
    · rw [e]; exact Nat.le_refl _
    · have := kOTo_mono X k0 (show i ≤ j by omega)
      show _ ≤ kOTo X k0 j + spTo (X j)
      omega
theorem kOTo_ge (X : Nat → Wn) (k0 i : Nat) : k0 ≤ kOTo X k0 i := kOTo_mono X k0 (Nat.zero_le i)
theorem kOTo_le (X : Nat → Wn) (k0 : Nat) : ∀ (n : Nat), ToSize n X → kOTo X k0 n ≤ k0 + n * 4000000
  | 0, _ => by simp [kOTo]
  | n + 1, h => by
    have h1 := kOTo_le X k0 n (fun i hi => h i (by omega))
    have h2 := h n (by omega)
    have g0 := (show WiS (X n) from h2).tn; have g1 := (show WiS (X n) from h2).n;
    show kOTo X k0 n + spTo (X n) ≤ _
    unfold spTo
    omega
/-- The first m of them marked. -/
def mATo (X : Nat → Wn) (k0 m : Nat) : Nat → Wn := fun i => if i < m then mkTo (kOTo X k0 i) (X i) else X i
theorem mATo_up (X : Nat → Wn) (k0 k : Nat) : upTo (mATo X k0 k) k (mkTo (kOTo X k0 k) (X k)) = mATo X k0 (k + 1) := by
  funext i
  unfold upTo mATo
  by_cases e : i = k
  · subst e; simp
  · by_cases e2 : i < k
    · simp [e, e2, show i < k + 1 by omega]
    · simp [e, e2, show ¬ i < k + 1 by omega]
theorem ToC.cast {w : World} {b n k : Nat} {X : Nat → Wn} {y y' : Wn} {A0 A1 : Nat → Option Addr} {K0 K1 : Nat → Nat} {G : Nat → Nat} (h : ToC w b n (upTo X k y) A0 A1 K0 K1 G) (e : y = y') : ToC w b n (upTo X k y') A0 A1 K0 K1 G := e ▸ h
theorem mATo_zero (X : Nat → Wn) (k0 : Nat) : mATo X k0 0 = X := by funext i; simp [mATo]
theorem mATo_at (X : Nat → Wn) (k0 k : Nat) : mATo X k0 k k = X k := by simp [mATo]
end Go.Proofs.Ytjdijikmdlklkaa
