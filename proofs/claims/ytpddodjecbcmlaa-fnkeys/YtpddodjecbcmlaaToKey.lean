/- Tags and keys copied by the laws. -/
import Derived.Test.YtpddodjecbcmlaaTags
namespace Go.Proofs.Ytpddodjecbcmlaa
open Go.RowKit
set_option linter.unusedSimpArgs false
set_option linter.unusedVariables false

theorem Try.info69 : (Try.prog.info? 64).map (fun i => (i.zero, i.size, i.bytes)) = some (some (.agg #[.string ByteArray.empty, .string ByteArray.empty]), 2, 32) := by kernel_rfl

/-- n tags of the call's own in block b, the first k of them laid. -/
structure TOwn (w : World) (b n k : Nat) (nm vl : Nat → ByteArray) : Prop where
  lt : b < w.heap.size
  cell : ∀ i, i < k → i < n → w.cell? ⟨b, i * 2, none⟩ = some (.string (nm i)) ∧ w.cell? ⟨b, i * 2 + 1, none⟩ = some (.string (vl i))
  there : ∀ j, j < n * 2 → ∃ v, w.cell? ⟨b, j, none⟩ = some v
  free : ∀ j, j < n * 2 → w.frozen? ⟨b, j, none⟩ = false

theorem TOwn.row {w : World} {b n : Nat} {nm vl : Nat → ByteArray} (h : TOwn w b n n nm vl) : TRow w (some ⟨b, 0, none⟩) n nm vl :=
  ⟨.inr ⟨b, 0, rfl, h.lt, fun i hi => by simpa using h.cell i hi hi⟩⟩
theorem TOwn.keep {w w' : World} {b n k : Nat} {nm vl : Nat → ByteArray} (h : TOwn w b n k nm vl) (hb : Below w.heap.size w w') : TOwn w' b n k nm vl :=
  ⟨Nat.lt_of_lt_of_le h.lt hb.size, fun i hk hi => ⟨(hb.cell (p := ⟨b, i * 2, none⟩) h.lt).trans (h.cell i hk hi).1, (hb.cell (p := ⟨b, i * 2 + 1, none⟩) h.lt).trans (h.cell i hk hi).2⟩,
    fun j hj => by obtain ⟨v, hv⟩ := h.there j hj; exact ⟨v, (hb.cell (p := ⟨b, j, none⟩) h.lt).trans hv⟩, fun j hj => (hb.frozen (p := ⟨b, j, none⟩) h.lt).trans (h.free j hj)⟩

theorem TOwn.store {w : World} {b n k : Nat} {nm vl : Nat → ByteArray} (h : TOwn w b n k nm vl) (hk : k < n) :
    TOwn ((w.setCell ⟨b, k * 2, none⟩ (.string (nm k))).setCell ⟨b, k * 2 + 1, none⟩ (.string (vl k))) b n (k + 1) nm vl := by
  obtain ⟨v1, hv1⟩ := h.there (k * 2) (by omega)
  obtain ⟨v2, hv2⟩ := h.there (k * 2 + 1) (by omega)
  have e1 : (w.setCell ⟨b, k * 2, none⟩ (.string (nm k))).cell? ⟨b, k * 2 + 1, none⟩ = some v2 := by
    rw [World.cell?_setCell_other _ _ _ _ (by intro hh; injection hh with _ h2 _; omega)]; exact hv2
  have other : ∀ j, j ≠ k * 2 → j ≠ k * 2 + 1 → ((w.setCell ⟨b, k * 2, none⟩ (.string (nm k))).setCell ⟨b, k * 2 + 1, none⟩ (.string (vl k))).cell? ⟨b, j, none⟩ = w.cell? ⟨b, j, none⟩ := fun j h1 h2 => by
    rw [World.cell?_setCell_other _ _ _ _ (by intro hh; injection hh with _ h3 _; omega), World.cell?_setCell_other _ _ _ _ (by intro hh; injection hh with _ h3 _; omega)]
  have at0 : ((w.setCell ⟨b, k * 2, none⟩ (.string (nm k))).setCell ⟨b, k * 2 + 1, none⟩ (.string (vl k))).cell? ⟨b, k * 2, none⟩ = some (.string (nm k)) := by
    rw [World.cell?_setCell_other _ _ _ _ (by intro hh; injection hh with _ h3 _; omega), World.cell?_setCell_same _ _ _ hv1]
  have at1 : ((w.setCell ⟨b, k * 2, none⟩ (.string (nm k))).setCell ⟨b, k * 2 + 1, none⟩ (.string (vl k))).cell? ⟨b, k * 2 + 1, none⟩ = some (.string (vl k)) :=
    World.cell?_setCell_same _ _ _ e1
  refine ⟨by simpa using h.lt, fun i hi hin => ?_, fun j hj => ?_, fun j hj => by simpa using h.free j hj⟩
  · by_cases e : i = k
    · subst e; exact ⟨at0, at1⟩
    · rw [other _ (by omega) (by omega), other _ (by omega) (by omega)]
      exact h.cell i (by omega) hin
  · by_cases e0 : j = k * 2
    · subst e0; exact ⟨_, at0⟩
    · by_cases e1 : j = k * 2 + 1
      · subst e1; exact ⟨_, at1⟩
      · rw [other _ e0 e1]; exact h.there j hj

/-- Three new blocks of three cells. -/
theorem three_new (w : World) (a0 a1 a2 b0 b1 b2 c0 c1 c2 : Value) (T U V : Nat) {w1 : World}
    (hb : Below (((w.alloc (.cells #[a0, a1, a2] T)).alloc (.cells #[b0, b1, b2] U)).alloc (.cells #[c0, c1, c2] V)).heap.size (((w.alloc (.cells #[a0, a1, a2] T)).alloc (.cells #[b0, b1, b2] U)).alloc (.cells #[c0, c1, c2] V)) w1) :
    (w1.cell? ⟨w.heap.size, 2, none⟩ = some a2) ∧
    (w1.cell? ⟨w.heap.size + 1, 0, none⟩ = some b0 ∧ w1.cell? ⟨w.heap.size + 1, 1, none⟩ = some b1 ∧ w1.cell? ⟨w.heap.size + 1, 2, none⟩ = some b2) ∧
    (w1.cell? ⟨w.heap.size + 1 + 1, 0, none⟩ = some c0 ∧ w1.cell? ⟨w.heap.size + 1 + 1, 1, none⟩ = some c1 ∧ w1.cell? ⟨w.heap.size + 1 + 1, 2, none⟩ = some c2) ∧
    (∀ j, w1.frozen? ⟨w.heap.size + 1, j, none⟩ = false) ∧ (∀ j, w1.frozen? ⟨w.heap.size + 1 + 1, j, none⟩ = false) ∧ w.heap.size + 3 ≤ w1.heap.size := by
  have hs := hb.size
  simp at hs
  have c : ∀ b j, b < w.heap.size + 3 → w1.cell? ⟨b, j, none⟩ = _ := fun b j h => hb.cell (p := ⟨b, j, none⟩) (by simp; omega)
  have d : ∀ b j, b < w.heap.size + 3 → w1.frozen? ⟨b, j, none⟩ = _ := fun b j h => hb.frozen (p := ⟨b, j, none⟩) (by simp; omega)
  refine ⟨(c _ _ (by omega)).trans ?_, ⟨(c _ _ (by omega)).trans ?_, (c _ _ (by omega)).trans ?_, (c _ _ (by omega)).trans ?_⟩, ⟨(c _ _ (by omega)).trans ?_, (c _ _ (by omega)).trans ?_, (c _ _ (by omega)).trans ?_⟩, fun j => (d _ _ (by omega)).trans ?_, fun j => (d _ _ (by omega)).trans ?_, by omega⟩
  all_goals simp [go_sem]

theorem TOwn.others {w w' : World} {b c n k : Nat} {nm vl : Nat → ByteArray} (h : TOwn w b n k nm vl) (ho : Others c w w') (hne : b ≠ c) : TOwn w' b n k nm vl :=
  have cl : ∀ j, w'.cell? ⟨b, j, none⟩ = w.cell? ⟨b, j, none⟩ := fun j => World.cell?_of_block (w := w) (a := ⟨b, j, none⟩) (ho.block b hne)
  have fz : ∀ j, w'.frozen? ⟨b, j, none⟩ = w.frozen? ⟨b, j, none⟩ := fun j => World.frozen?_of_block (w := w) (a := ⟨b, j, none⟩) (ho.block b hne)
  ⟨by rw [ho.size]; exact h.lt, fun i hk hi => by rw [cl, cl]; exact h.cell i hk hi, fun j hj => by rw [cl]; exact h.there j hj, fun j hj => by rw [fz]; exact h.free j hj⟩

end Go.Proofs.Ytpddodjecbcmlaa
