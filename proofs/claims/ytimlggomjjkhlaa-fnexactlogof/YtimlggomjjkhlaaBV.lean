/- Bytes of an answer: nil, or in memory of their own; their marks. -/
import Derived.Test.YtimlggomjjkhlaaSSb
namespace Go.Proofs.Ytimlggomjjkhlaa
open Go.RowKit
set_option linter.unusedSimpArgs false
set_option linter.unusedVariables false

structure BV (w : World) (lo hi : Nat) (ao : Option Addr) (L : List Int) : Prop where
  bd : Byt L
  top : hi ≤ w.heap.size
  is : (ao = none ∧ L = []) ∨ ∃ g off, ao = some ⟨g, off, none⟩ ∧ lo ≤ g ∧ g < hi ∧ Own w g off L.length (fl L)
theorem BV.row {w : World} {lo hi : Nat} {ao : Option Addr} {L : List Int} (h : BV w lo hi ao L) : Row w ao L.length (fl L) := by
  rcases h.is with ⟨_, rfl⟩ | ⟨g, off, rfl, _, _, ho⟩
  · exact ⟨h.bd.fl, .inl rfl⟩
  · exact ho.row
theorem BV.keep {w w' : World} {lo hi : Nat} {ao : Option Addr} {L : List Int} (h : BV w lo hi ao L) (hb : Below w.heap.size w w') : BV w' lo hi ao L := by
  refine ⟨h.bd, Nat.le_trans h.top hb.size, ?_⟩
  rcases h.is with h0 | ⟨g, off, e, h1, h2, ho⟩
  · exact .inl h0
  · exact .inr ⟨g, off, e, h1, h2, ho.keep hb⟩
theorem BV.wit {w w' : World} {lo hi lo' hi' : Nat} {ao : Option Addr} {L : List Int} (h : BV w lo hi ao L) (hw : Wit lo' hi' w w') (hd : hi ≤ lo' ∨ hi' ≤ lo) : BV w' lo hi ao L := by
  refine ⟨h.bd, by rw [hw.size]; exact h.top, ?_⟩
  rcases h.is with h0 | ⟨g, off, e, h1, h2, ho⟩
  · exact .inl h0
  · exact .inr ⟨g, off, e, h1, h2, hw.own ho (by omega)⟩
theorem bv_of {w : World} {base : Nat} {v : Value} {L : List Int} (h : OwnL w base v L) : ∃ ao c, v = .slice ao L.length c ∧ BV w base w.heap.size ao L := by
  by_cases h0 : L.length = 0
  · rcases h.own.2 with ⟨rfl, _⟩ | ⟨g, cap, cur, rfl, hbg, hg, hnc, _⟩
    · exact ⟨none, 0, by rw [h0], h.bd, Nat.le_refl _, .inl ⟨rfl, List.eq_nil_of_length_eq_zero h0⟩⟩
    · have hlt := (Array.getElem?_eq_some_iff.1 hg).1
      exact ⟨_, cap, rfl, h.bd, Nat.le_refl _, .inr ⟨g, 0, rfl, hbg, hlt, h.bd.fl, hlt, fun i hi => by omega, fun i hi => by omega⟩⟩
  · obtain ⟨g, cap, rfl, hg, _, ho⟩ := h.own' (by omega)
    exact ⟨_, cap, rfl, h.bd, Nat.le_refl _, .inr ⟨g, 0, rfl, hg, ho.lt, ho⟩⟩
theorem bv_nil (w : World) (lo hi : Nat) (h : hi ≤ w.heap.size) : BV w lo hi none [] := ⟨byt_nil, h, .inl ⟨rfl, rfl⟩⟩

theorem eqBV (ao bo : Option Addr) (ca cb lo hi lo' hi' : Nat) (L : List Int) (w : World) (h : BV w lo hi ao L) (k : BV w lo' hi' bo L) (hl : L.length ≤ 1048576) :
    Calls Try.prog 15 #[.slice ao L.length ca, .slice bo L.length cb] w fun e w' => e = .returned (.bool true) ∧ Below w.heap.size w w' :=
  eqByteS_same ao bo L.length ca cb (fl L) w h.row k.row hl

theorem markBV (ao : Option Addr) (c lo hi : Nat) (L : List Int) (w : World) (h : BV w lo hi ao L) (hl : L.length ≤ 1048576) :
    Calls Try.prog 16 #[.slice ao L.length c, .int .i64 1] w fun e w' => e = .returned (.int .i64 ((L.length : Int) + 1)) ∧ Row w' ao L.length marks ∧ Wit lo hi w w' := by
  rcases h.is with ⟨rfl, rfl⟩ | ⟨g, off, rfl, h1, h2, ho⟩
  · refine (mark_none none c w).mono fun e w' hh => ?_
    obtain ⟨rfl, rfl⟩ := hh
    exact ⟨rfl, ⟨fun i => by unfold marks; omega, .inl rfl⟩, Wit.refl _ _ _⟩
  · refine (mark_one g off L.length c (fl L) w ho hl).mono fun e w' hh => ?_
    obtain ⟨rfl, hm, hX⟩ := hh
    exact ⟨rfl, hm.row, Wit.ofOthers hX h1 h2⟩
end Go.Proofs.Ytimlggomjjkhlaa
