/- Keys are in the order of their bytes. -/
import Derived.Test.YtpddodjecbcmlaaKl
import Derived.Laws.BytesArg
namespace Go.Proofs.Ytpddodjecbcmlaa
open Go.RowKit
set_option linter.unusedSimpArgs false
set_option linter.unusedVariables false

theorem lt_less : ∀ (a b : List Int), (∀ z ∈ a, 0 ≤ z ∧ z ≤ 255) → (∀ z ∈ b, 0 ≤ z ∧ z ≤ 255) → ltL a b → Op.bytesLess (a.map fun n => UInt8.ofNat n.toNat) (b.map fun n => UInt8.ofNat n.toNat) = true
  | [], [], _, _, h => h.elim
  | [], _ :: _, _, _, _ => rfl
  | _ :: _, [], _, _, h => h.elim
  | x :: a, y :: b, ha, hb, h => by
    have hx := ha x (List.mem_cons_self ..)
    have hy := hb y (List.mem_cons_self ..)
    have ex : (UInt8.ofNat x.toNat).toNat = x.toNat := by rw [UInt8.toNat_ofNat']; omega
    have ey : (UInt8.ofNat y.toNat).toNat = y.toNat := by rw [UInt8.toNat_ofNat']; omega
    simp only [List.map_cons, Op.bytesLess, Bool.or_eq_true, Bool.and_eq_true, decide_eq_true_eq, beq_iff_eq]
    rcases h with h | ⟨rfl, h⟩
    · refine .inl ?_
      rw [UInt8.lt_iff_toNat_lt, ex, ey]
      omega
    · exact .inr ⟨rfl, lt_less a b (fun z hz => ha z (List.mem_cons_of_mem _ hz)) (fun z hz => hb z (List.mem_cons_of_mem _ hz)) h⟩
theorem str_toList (l : List Int) : (strOfNums l).toList = l.map fun n => UInt8.ofNat n.toNat := by rw [ByteArray.toList_eq]; rfl
theorem less_irr (l : List UInt8) : Op.bytesLess l l = false := by
  cases h : Op.bytesLess l l with
  | false => rfl
  | true => have := ((less_tri l l).1 h).1; rw [h] at this; cases this
def Three (c : Int) : Prop := c = -1 ∨ c = 0 ∨ c = 1
theorem cmpT_three (a b : ByteArray) : Three (cmpT a b) := by unfold cmpT Three; split <;> (try split) <;> omega
theorem cmpI_three (a b : Int) : Three (cmpI a b) := by unfold cmpI Three; split <;> (try split) <;> omega
theorem tc_three {c : Nat → Int} (h : ∀ k, Three (c k)) : ∀ d k, Three (tc c d k)
  | 0, k => .inr (.inl rfl)
  | d + 1, k => by
    unfold tc
    split
    · exact tc_three h d (k + 1)
    · exact h k
theorem kc_three (x y : Wn) : Three (kc x y) := by
  unfold kc keyCmp
  refine tc_three (fun k => ?_) 3 0
  unfold keyC
  split
  · exact cmpT_three _ _
  · split
    · unfold tagsC
      split
      · exact cmpI_three _ _
      · exact tc_three (fun j => tc_three (fun i => by unfold tagC; split <;> exact cmpT_three _ _) 2 0) _ _
    · exact cmpI_three _ _
theorem tc_zero {c : Nat → Int} : ∀ d k, tc c d k = 0 → ∀ j, k ≤ j → j < k + d → c j = 0
  | 0, k, _, j, h1, h2 => by omega
  | d + 1, k, h, j, h1, h2 => by
    unfold tc at h
    by_cases e : c k = 0
    · rw [if_pos e] at h
      by_cases ej : j = k
      · rw [ej]; exact e
      · exact tc_zero d (k + 1) h j (by omega) (by omega)
    · rw [if_neg e] at h; exact absurd h e
theorem ktf_congr {nm vl nm' vl' : Nat → ByteArray} : ∀ t k, (∀ j, k ≤ j → j < k + t → tagB (nm j) (vl j) = tagB (nm' j) (vl' j)) → ktf nm vl t k = ktf nm' vl' t k
  | 0, _, _ => rfl
  | t + 1, k, h => by rw [ktf, ktf, h k (by omega) (by omega), ktf_congr t (k + 1) (fun j h1 h2 => h j (by omega) (by omega))]
theorem kb_eq {x y : Wn} (h : kc x y = 0) : kbW x = kbW y := by
  have h3 := tc_zero 3 0 h
  have a0 := h3 0 (by omega) (by omega)
  have a1 := h3 1 (by omega) (by omega)
  have a2 := h3 2 (by omega) (by omega)
  simp only [keyC, if_true, if_false, show ¬ (1 : Nat) = 0 from by omega, show ¬ (2 : Nat) = 0 from by omega, show ¬ (2 : Nat) = 1 from by omega] at a0 a1 a2
  have em := cmpT_zero a0
  have hz : tc (fun k => cmpTag (x.nm k) (x.vl k) (y.nm k) (y.vl k)) (min x.tn y.tn) 0 = 0 := by
    by_cases hz : tc (fun k => cmpTag (x.nm k) (x.vl k) (y.nm k) (y.vl k)) (min x.tn y.tn) 0 = 0
    · exact hz
    · rw [tagsC_some hz] at a1; exact absurd a1 hz
  rw [tagsC_zero hz] at a1
  have en : x.tn = y.tn := by unfold cmpI at a1; split at a1 <;> (try split at a1) <;> omega
  have es : x.st = y.st := by unfold cmpI at a2; split at a2 <;> (try split at a2) <;> omega
  have et : ktf x.nm x.vl x.tn 0 = ktf y.nm y.vl x.tn 0 := ktf_congr _ _ (fun j h1 h2 => cmpTag_zero (tc_zero _ _ hz j h1 (by omega)))
  unfold kbW kbytes
  rw [ktags_ktf, ktags_ktf, em, es, ← en, et]
/-- The order of the keys is that of their bytes. -/
theorem key_order {x y : Wn} (hx : gK x = true) (hy : gK y = true) :
    (kc x y = -1 ∧ Op.bytesLess (strOfNums (kbW x)).toList (strOfNums (kbW y)).toList = true ∧ Op.bytesLess (strOfNums (kbW y)).toList (strOfNums (kbW x)).toList = false) ∨
    (kc x y = 0 ∧ Op.bytesLess (strOfNums (kbW x)).toList (strOfNums (kbW y)).toList = false ∧ Op.bytesLess (strOfNums (kbW y)).toList (strOfNums (kbW x)).toList = false) ∨
    (kc x y = 1 ∧ Op.bytesLess (strOfNums (kbW x)).toList (strOfNums (kbW y)).toList = false ∧ Op.bytesLess (strOfNums (kbW y)).toList (strOfNums (kbW x)).toList = true) := by
  have bx : ∀ z ∈ kbW x, 0 ≤ z ∧ z ≤ 255 := kbytes_bd _ _ _ _ _
  have by' : ∀ z ∈ kbW y, 0 ≤ z ∧ z ≤ 255 := kbytes_bd _ _ _ _ _
  rw [str_toList, str_toList]
  rcases kc_three x y with h | h | h
  · have h1 := lt_less _ _ bx by' (kb_lt hx hy (by omega))
    exact .inl ⟨h, h1, ((less_tri _ _).1 h1).1⟩
  · rw [kb_eq h]
    exact .inr (.inl ⟨h, less_irr _, less_irr _⟩)
  · have h1 := lt_less _ _ by' bx (kb_lt hy hx (by rw [kc_swap]; omega))
    exact .inr (.inr ⟨h, ((less_tri _ _).1 h1).1, h1⟩)
end Go.Proofs.Ytpddodjecbcmlaa
