/- What a record's pieces are, in numbers and lists. -/
import Derived.Test.YtimlggomjjkhlaaLists
namespace Go.Proofs.Ytimlggomjjkhlaa
open Go.RowKit
set_option linter.unusedSimpArgs false
set_option linter.unusedVariables false

def lft (a : Nat) : Nat := 64 - a % 64
def nog (a : Nat) : Nat := if lft a < 6 then lft a else 0
def kindN (first last : Bool) : Int := if first then (if last then 1 else 2) else (if last then 4 else 3)
def pieceL (k : Int) (D : List Int) : List Int := pfL (crcL (k :: D)) 4 ++ ((D.length : Int) :: k :: D)
def runL : Nat → Nat → Bool → List Int → List Int
  | 0, _, _, _ => []
  | fu + 1, a, first, R =>
    if R.length ≤ lft a - 6 then pieceL (kindN first true) R
    else pieceL (kindN first false) (R.take (lft a - 6)) ++ runL fu (a + lft a) false (R.drop (lft a - 6))
def allL (a : Nat) (R : List Int) : List Int := List.replicate (nog a) 0 ++ runL (2 * R.length + 2) (a + nog a) true R
def fuel (a : Nat) (R : List Int) : Nat := 2 * R.length + (if lft a = 6 then 1 else 0) + 1

theorem lft_bd (a : Nat) : 1 ≤ lft a ∧ lft a ≤ 64 := by unfold lft; omega
theorem lft_next (a : Nat) : lft (a + lft a) = 64 := by unfold lft; omega
theorem nog_zero {a : Nat} (h : 6 ≤ lft a) : nog a = 0 := by unfold nog; rw [if_neg (by omega)]
theorem nog_some {a : Nat} (h : lft a < 6) : nog a = lft a := by unfold nog; rw [if_pos h]
theorem lft_nog (a : Nat) : 6 ≤ lft (a + nog a) := by
  by_cases h : lft a < 6
  · rw [nog_some h, lft_next]; omega
  · rw [nog_zero (by omega)]; simp; omega
theorem nog_lt (a : Nat) : nog a < 6 := by unfold nog; split <;> omega
theorem kindN_bd (f l : Bool) : 0 ≤ kindN f l ∧ kindN f l ≤ 255 := by cases f <;> cases l <;> decide
theorem kindN_bd4 (f l : Bool) : 1 ≤ kindN f l ∧ kindN f l ≤ 4 := by cases f <;> cases l <;> decide
theorem pieceL_length (k : Int) (D : List Int) : (pieceL k D).length = 6 + D.length := by
  simp [pieceL, pfL_length]; omega
theorem pieceL_bd {k : Int} {D : List Int} (hk : 0 ≤ k ∧ k ≤ 255) (hD : Byt D) (hl : D.length ≤ 255) : Byt (pieceL k D) :=
  (pfL_bd _ _).append (byt_cons (by omega) (byt_cons hk hD))

theorem runL_last {fu a : Nat} {first : Bool} {R : List Int} (h : R.length ≤ lft a - 6) : runL (fu + 1) a first R = pieceL (kindN first true) R := by
  rw [runL, if_pos h]
theorem runL_more {fu a : Nat} {first : Bool} {R : List Int} (h : ¬ R.length ≤ lft a - 6) :
    runL (fu + 1) a first R = pieceL (kindN first false) (R.take (lft a - 6)) ++ runL fu (a + lft a) false (R.drop (lft a - 6)) := by
  rw [runL, if_neg h]
theorem runL_length_le (fu a : Nat) (first : Bool) (R : List Int) : (runL fu a first R).length ≤ R.length + 6 * fu := by
  induction fu generalizing a first R with
  | zero => simp [runL]
  | succ fu ih =>
    by_cases h : R.length ≤ lft a - 6
    · rw [runL_last h, pieceL_length]; omega
    · rw [runL_more h, List.length_append, pieceL_length, List.length_take]
      have := ih (a + lft a) false (R.drop (lft a - 6))
      rw [List.length_drop] at this
      omega
theorem runL_pos {fu a : Nat} (first : Bool) (R : List Int) (h : 0 < fu) : 6 ≤ (runL fu a first R).length := by
  obtain ⟨fu, rfl⟩ : ∃ k, fu = k + 1 := ⟨fu - 1, by omega⟩
  by_cases h : R.length ≤ lft a - 6
  · rw [runL_last h, pieceL_length]; omega
  · rw [runL_more h, List.length_append, pieceL_length]; omega
theorem allL_length_le (a : Nat) (R : List Int) (h : R.length ≤ 2000) : (allL a R).length ≤ 30000 := by
  have := runL_length_le (2 * R.length + 2) (a + nog a) true R
  have := nog_lt a
  simp only [allL, List.length_append, List.length_replicate]
  omega
theorem allL_pos (a : Nat) (R : List Int) : 6 ≤ (allL a R).length := by
  have := runL_pos (fu := 2 * R.length + 2) (a := a + nog a) true R (by omega)
  simp only [allL, List.length_append]
  omega

/-- Where the pieces stand: Lo is laid, R is left, and T is all of it. -/
structure Mid (T : List Int) (a : Nat) (fu : Nat) (Lo : List Int) (first : Bool) (R : List Int) : Prop where
  eq : Lo ++ runL fu (a + Lo.length) first R = T
  fu : fuel (a + Lo.length) R ≤ fu
  left : 6 ≤ lft (a + Lo.length)

theorem Mid.last {T : List Int} {a fu : Nat} {Lo : List Int} {first : Bool} {R : List Int} (h : Mid T a fu Lo first R) (hl : R.length ≤ lft (a + Lo.length) - 6) :
    Lo ++ pieceL (kindN first true) R = T := by
  have hf := h.fu
  unfold fuel at hf
  obtain ⟨k, rfl⟩ : ∃ k, fu = k + 1 := ⟨fu - 1, by omega⟩
  rw [← h.eq, runL_last hl]
theorem Mid.more {T : List Int} {a fu : Nat} {Lo : List Int} {first : Bool} {R : List Int} (h : Mid T a fu Lo first R) (hl : ¬ R.length ≤ lft (a + Lo.length) - 6) :
    ∃ fu', fu = fu' + 1 ∧ Mid T a fu' (Lo ++ pieceL (kindN first false) (R.take (lft (a + Lo.length) - 6))) false (R.drop (lft (a + Lo.length) - 6)) := by
  have hf := h.fu
  have hle := h.left
  have hb := lft_bd (a + Lo.length)
  have hn := lft_next (a + Lo.length)
  unfold fuel at hf
  obtain ⟨k, rfl⟩ : ∃ k, fu = k + 1 := ⟨fu - 1, by omega⟩
  have hlen : a + (Lo ++ pieceL (kindN first false) (R.take (lft (a + Lo.length) - 6))).length = a + Lo.length + lft (a + Lo.length) := by
    rw [List.length_append, pieceL_length, List.length_take]; omega
  refine ⟨k, rfl, ?_, ?_, ?_⟩
  · rw [hlen, List.append_assoc, ← runL_more hl]; exact h.eq
  · rw [hlen]
    unfold fuel
    rw [hn, List.length_drop]
    simp only [show ¬ (64 : Nat) = 6 from by omega, if_false]
    by_cases h6 : lft (a + Lo.length) = 6
    · rw [if_pos h6] at hf; omega
    · rw [if_neg h6] at hf; omega
  · rw [hlen, hn]; omega
theorem Mid.start (a : Nat) (R : List Int) : Mid (allL a R) a (2 * R.length + 2) (List.replicate (nog a) 0) true R := by
  refine ⟨?_, ?_, ?_⟩
  · rw [List.length_replicate]; rfl
  · unfold fuel; split <;> omega
  · rw [List.length_replicate]; exact lft_nog a
theorem Mid.bound {T : List Int} {a fu : Nat} {Lo : List Int} {first : Bool} {R : List Int} (h : Mid T a fu Lo first R) : Lo.length + 6 ≤ T.length := by
  have hf := h.fu
  unfold fuel at hf
  have := runL_pos (a := a + Lo.length) first R (show 0 < fu by omega)
  rw [← h.eq, List.length_append]
  omega
end Go.Proofs.Ytimlggomjjkhlaa
