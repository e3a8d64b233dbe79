/- What is read of a log, in numbers and lists. -/
import Derived.Test.YtimlggomjjkhlaaPcM
import Derived.Test.YtimlggomjjkhlaaReadFixed
namespace Go.Proofs.Ytimlggomjjkhlaa
open Go.RowKit
set_option linter.unusedSimpArgs false
set_option linter.unusedVariables false

/-- The bytes up to the block's end are there, and noughts. -/
def zeros (B : List Int) (a : Nat) : Prop := a + lft a ≤ B.length ∧ ∀ i, i < lft a → fl B (a + i) = 0
def NogOk (B : List Int) (a : Nat) : Prop := 6 ≤ lft a ∨ zeros B a
def pn (B : List Int) (a : Nat) : Nat := (fl B (a + 4)).toNat
def pk (B : List Int) (a : Nat) : Int := fl B (a + 5)
def pD (B : List Int) (a : Nat) : List Int := (B.drop (a + 6)).take (pn B a)
structure Pc (B : List Int) (a : Nat) : Prop where
  head : a + 6 ≤ B.length
  fit : 6 + pn B a ≤ lft a
  all : a + 6 + pn B a ≤ B.length
  sum : crcL (pk B a :: pD B a) = num (fl B) a 4
def okK (o : Bool) (k : Int) : Bool := if o then (k == 3 || k == 4) else (k == 1 || k == 2)

/-- From the state (a, now, o, out, g) the reading comes to r in at most f steps. -/
def RD (B : List Int) : Nat → Nat → List Int → Bool → List (List Int) → Nat → (List (List Int) × Nat) → Prop
  | 0, _, _, _, _, _, _ => False
  | f + 1, a, now, o, out, g, r =>
    (B.length ≤ a ∧ r = (out, g)) ∨
    (a < B.length ∧ lft a < 6 ∧ ¬ zeros B a ∧ r = (out, g)) ∨
    (a < B.length ∧ lft a < 6 ∧ zeros B a ∧ RD B f (a + lft a) now o out g r) ∨
    (a < B.length ∧ 6 ≤ lft a ∧ ¬ (Pc B a ∧ okK o (pk B a) = true) ∧ r = (out, g)) ∨
    (a < B.length ∧ 6 ≤ lft a ∧ (Pc B a ∧ okK o (pk B a) = true) ∧ (pk B a = 2 ∨ pk B a = 3) ∧ RD B f (a + 6 + pn B a) (now ++ pD B a) true out g r) ∨
    (a < B.length ∧ 6 ≤ lft a ∧ (Pc B a ∧ okK o (pk B a) = true) ∧ (pk B a = 1 ∨ pk B a = 4) ∧ RD B f (a + 6 + pn B a) [] false (out ++ [now ++ pD B a]) (a + 6 + pn B a) r)
def Fin (B : List Int) (a : Nat) (now : List Int) (o : Bool) (out : List (List Int)) (g : Nat) (r : List (List Int) × Nat) : Prop := ∃ f, RD B f a now o out g r

theorem RD.det {B : List Int} : ∀ {f f' a : Nat} {now : List Int} {o : Bool} {out : List (List Int)} {g : Nat} {r r' : List (List Int) × Nat}, RD B f a now o out g r → RD B f' a now o out g r' → r = r' := by
  intro f
  induction f with
  | zero => intro f' a now o out g r r' h _; exact h.elim
  | succ f ih =>
    intro f' a now o out g r r' h k
    cases f' with
    | zero => exact k.elim
    | succ f' =>
      rcases h with ⟨hA, e⟩ | ⟨hA, hB, hC, e⟩ | ⟨hA, hB, hC, hR⟩ | ⟨hA, hB, hC, e⟩ | ⟨hA, hB, hC, hE, hR⟩ | ⟨hA, hB, hC, hE, hR⟩ <;>
      rcases k with ⟨kA, e'⟩ | ⟨kA, kB, kC, e'⟩ | ⟨kA, kB, kC, kR⟩ | ⟨kA, kB, kC, e'⟩ | ⟨kA, kB, kC, kE, kR⟩ | ⟨kA, kB, kC, kE, kR⟩ <;>
      first
        | (rw [e, e']; done)
        | (exfalso; omega)
        | exact absurd kC hC
        | exact absurd hC kC
        | exact ih hR kR
theorem Fin.det {B : List Int} {a : Nat} {now : List Int} {o : Bool} {out : List (List Int)} {g : Nat} {r r' : List (List Int) × Nat} (h : Fin B a now o out g r) (k : Fin B a now o out g r') : r = r' := by
  obtain ⟨f, h⟩ := h
  obtain ⟨f', k⟩ := k
  exact h.det k

variable {B : List Int} {a : Nat} {now : List Int} {o : Bool} {out : List (List Int)} {g : Nat} {r : List (List Int) × Nat}
theorem fin_end (h : B.length ≤ a) : Fin B a now o out g (out, g) := ⟨1, .inl ⟨h, rfl⟩⟩
theorem fin_nstop (h1 : a < B.length) (h2 : lft a < 6) (h3 : ¬ zeros B a) : Fin B a now o out g (out, g) := ⟨1, .inr (.inl ⟨h1, h2, h3, rfl⟩)⟩
theorem fin_nog (h1 : a < B.length) (h2 : lft a < 6) (h3 : zeros B a) (h : Fin B (a + lft a) now o out g r) : Fin B a now o out g r := by
  obtain ⟨f, h⟩ := h
  exact ⟨f + 1, .inr (.inr (.inl ⟨h1, h2, h3, h⟩))⟩
theorem fin_pstop (h1 : a < B.length) (h2 : 6 ≤ lft a) (h3 : ¬ (Pc B a ∧ okK o (pk B a) = true)) : Fin B a now o out g (out, g) := ⟨1, .inr (.inr (.inr (.inl ⟨h1, h2, h3, rfl⟩)))⟩
theorem fin_more (h2 : 6 ≤ lft a) (h3 : Pc B a) (h4 : okK o (pk B a) = true) (h5 : pk B a = 2 ∨ pk B a = 3) (h : Fin B (a + 6 + pn B a) (now ++ pD B a) true out g r) : Fin B a now o out g r := by
  obtain ⟨f, h⟩ := h
  exact ⟨f + 1, .inr (.inr (.inr (.inr (.inl ⟨by have := h3.head; omega, h2, ⟨h3, h4⟩, h5, h⟩))))⟩
theorem fin_rec (h2 : 6 ≤ lft a) (h3 : Pc B a) (h4 : okK o (pk B a) = true) (h5 : pk B a = 1 ∨ pk B a = 4) (h : Fin B (a + 6 + pn B a) [] false (out ++ [now ++ pD B a]) (a + 6 + pn B a) r) : Fin B a now o out g r := by
  obtain ⟨f, h⟩ := h
  exact ⟨f + 1, .inr (.inr (.inr (.inr (.inr ⟨by have := h3.head; omega, h2, ⟨h3, h4⟩, h5, h⟩))))⟩

/-- A piece, with the noughts ahead of it. -/
theorem fin_more' (hn : NogOk B a) (h3 : Pc B (a + nog a)) (h4 : okK o (pk B (a + nog a)) = true) (h5 : pk B (a + nog a) = 2 ∨ pk B (a + nog a) = 3) (h : Fin B (a + nog a + 6 + pn B (a + nog a)) (now ++ pD B (a + nog a)) true out g r) : Fin B a now o out g r := by
  by_cases h6 : lft a < 6
  · rcases hn with hn | hn
    · omega
    · have hl := lft_next a
      rw [nog_some h6] at *
      exact fin_nog (by have := h3.head; omega) h6 hn (fin_more (by omega) h3 h4 h5 h)
  · rw [nog_zero (by omega)] at *
    exact fin_more (by simpa using (by omega : 6 ≤ lft a)) h3 h4 h5 h
theorem fin_rec' (hn : NogOk B a) (h3 : Pc B (a + nog a)) (h4 : okK o (pk B (a + nog a)) = true) (h5 : pk B (a + nog a) = 1 ∨ pk B (a + nog a) = 4) (h : Fin B (a + nog a + 6 + pn B (a + nog a)) [] false (out ++ [now ++ pD B (a + nog a)]) (a + nog a + 6 + pn B (a + nog a)) r) : Fin B a now o out g r := by
  by_cases h6 : lft a < 6
  · rcases hn with hn | hn
    · omega
    · have hl := lft_next a
      rw [nog_some h6] at *
      exact fin_nog (by have := h3.head; omega) h6 hn (fin_rec (by omega) h3 h4 h5 h)
  · rw [nog_zero (by omega)] at *
    exact fin_rec (by simpa using (by omega : 6 ≤ lft a)) h3 h4 h5 h
theorem fin_stop' (h : ¬ (NogOk B a ∧ Pc B (a + nog a) ∧ okK o (pk B (a + nog a)) = true)) : Fin B a now o out g (out, g) := by
  by_cases h0 : B.length ≤ a
  · exact fin_end h0
  · by_cases h6 : lft a < 6
    · by_cases hz : zeros B a
      · have hl := lft_next a
        rw [nog_some h6] at h
        refine fin_nog (by omega) h6 hz ?_
        by_cases h1 : B.length ≤ a + lft a
        · exact fin_end h1
        · exact fin_pstop (by omega) (by omega) (fun hh => h ⟨.inr hz, hh.1, hh.2⟩)
      · exact fin_nstop (by omega) h6 hz
    · rw [nog_zero (by omega)] at h
      exact fin_pstop (by omega) (by omega) (fun hh => h ⟨.inl (by omega), hh.1, hh.2⟩)
theorem okK_cases {o : Bool} {k : Int} (h : okK o k = true) : (k = 2 ∨ k = 3) ∨ (k = 1 ∨ k = 4) := by
  cases o <;> simp [okK] at h <;> omega

theorem fl_take {L : List Int} {n i : Nat} (h : i < n) : fl (L.take n) i = fl L i := by
  simp only [fl, List.getD_eq_getElem?_getD]
  rw [List.getElem?_take_of_lt h]
theorem fl_drop (L : List Int) (n i : Nat) : fl (L.drop n) i = fl L (n + i) := by
  simp only [fl, List.getD_eq_getElem?_getD]
  rw [List.getElem?_drop]
theorem num_head (B : List Int) (a : Nat) : num (fl ((B.drop a).take 6)) 0 4 = num (fl B) a 4 := by
  simp only [num]
  rw [fl_take (by omega), fl_take (by omega), fl_take (by omega), fl_take (by omega), fl_drop, fl_drop, fl_drop, fl_drop]
theorem pk_head (B : List Int) (a : Nat) : fl ((B.drop a).take 6) 5 = pk B a := by
  rw [fl_take (by omega), fl_drop]; rfl
theorem pn_head (B : List Int) (hB : Byt B) (a : Nat) : fl ((B.drop a).take 6) 4 = (pn B a : Int) := by
  rw [fl_take (by omega), fl_drop]
  have := hB.fl (a + 4)
  unfold pn
  omega
theorem pn_bd (B : List Int) (hB : Byt B) (a : Nat) : pn B a ≤ 255 := by
  have := hB.fl (a + 4)
  unfold pn
  omega
theorem pk_bd (B : List Int) (hB : Byt B) (a : Nat) : 0 ≤ pk B a ∧ pk B a ≤ 255 := hB.fl _
theorem num4_bd (B : List Int) (hB : Byt B) (a : Nat) : 0 ≤ num (fl B) a 4 ∧ num (fl B) a 4 < 4294967296 := by
  have := num_bd (fl B) hB.fl a 4
  simpa using this
end Go.Proofs.Ytimlggomjjkhlaa
