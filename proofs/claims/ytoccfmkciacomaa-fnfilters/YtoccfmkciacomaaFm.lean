/- A filter has each key that was put into it; its bytes, with their room told. -/
import Derived.Test.YtoccfmkciacomaaFo
import Derived.Test.YtoccfmkciacomaaMhLaw
import Derived.Test.YtoccfmkciacomaaCp
import Derived.Laws.BitsAllLaws
namespace Go.Proofs.Ytoccfmkciacomaa
open Go.RowKit
set_option linter.unusedSimpArgs false
set_option linter.unusedVariables false

theorem or_and {x y z : Int} (hx : 0 ≤ x ∧ x ≤ 255) (hy : 0 ≤ y ∧ y ≤ 255) (hz : 0 ≤ z ∧ z ≤ 255) : bits .and .u8 (bits .or .u8 x y) z = (((x.toNat &&& z.toNat) ||| (y.toNat &&& z.toNat) : Nat) : Int) := by
  have h1 := or_bd x y
  rw [u8_and _ _ h1.1 (by omega) hz.1 (by omega), u8_or x y hx.1 (by omega) hy.1 (by omega), Int.toNat_natCast, Nat.and_or_distrib_right]
theorem or_keep {x y z : Int} (hx : 0 ≤ x ∧ x ≤ 255) (hy : 0 ≤ y ∧ y ≤ 255) (hz : 0 ≤ z ∧ z ≤ 255) (h : bits .and .u8 x z ≠ 0) : bits .and .u8 (bits .or .u8 x y) z ≠ 0 := by
  rw [or_and hx hy hz]
  rw [u8_and _ _ hx.1 (by omega) hz.1 (by omega)] at h
  have h2 : x.toNat &&& z.toNat ≤ (x.toNat &&& z.toNat) ||| (y.toNat &&& z.toNat) := Nat.left_le_or
  omega
theorem bt_pos (j : Int) : 1 ≤ bt j := by unfold bt; repeat' split <;> omega
theorem or_has {x : Int} (hx : 0 ≤ x ∧ x ≤ 255) (j : Int) : bits .and .u8 (bits .or .u8 x (bt j)) (bt j) ≠ 0 := by
  have hb := bt_bd j
  have hp := bt_pos j
  rw [or_and hx hb hb]
  have h2 : (bt j).toNat &&& (bt j).toNat ≤ (x.toNat &&& (bt j).toNat) ||| ((bt j).toNat &&& (bt j).toNat) := Nat.right_le_or
  rw [Nat.and_self] at h2
  rw [Nat.and_self]
  omega
/-- Bytes. -/
def FB (f : Nat → Int) : Prop := ∀ i, 0 ≤ f i ∧ f i ≤ 255
theorem FB.setB {f : Nat → Int} (h : FB f) (x : Int) : FB (setB f x) := fun i => by
  unfold Go.Proofs.Ytoccfmkciacomaa.setB
  split
  · exact or_bd _ _
  · exact h i
theorem FB.putL {f : Nat → Int} (h : FB f) (L : List Int) : FB (putL f L) := by
  induction L generalizing f with
  | nil => exact h
  | cons x L ih => exact ih (h.setB x)
theorem isSet_iff (f : Nat → Int) (x : Int) : isSet f x = true ↔ bits .and .u8 (f (x / 8).toNat) (bt (x % 8)) ≠ 0 := by
  unfold isSet
  simp
theorem setB_has {f : Nat → Int} (h : FB f) (x : Int) : isSet (setB f x) x = true := by
  rw [isSet_iff]
  unfold setB
  simp only [if_true]
  exact or_has (h _) _
theorem setB_keep {f : Nat → Int} (h : FB f) {x p : Int} (hp : isSet f p = true) : isSet (setB f x) p = true := by
  rw [isSet_iff] at hp ⊢
  unfold setB
  split
  · rename_i e
    rw [e] at hp
    exact or_keep (h _) (bt_bd _) (bt_bd _) hp
  · exact hp
theorem putL_keep {f : Nat → Int} (h : FB f) (L : List Int) {p : Int} (hp : isSet f p = true) : isSet (putL f L) p = true := by
  induction L generalizing f with
  | nil => exact hp
  | cons x L ih => exact ih (h.setB x) (setB_keep h hp)
theorem putL_has {f : Nat → Int} (h : FB f) (L : List Int) : ∀ p ∈ L, isSet (putL f L) p = true := by
  induction L generalizing f with
  | nil => intro p hp; cases hp
  | cons x L ih =>
    intro p hp
    rcases List.mem_cons.1 hp with rfl | hp
    · exact putL_keep (h.setB p) L (setB_has h p)
    · exact ih (h.setB x) p hp
theorem kyF_fb (K : Nat → ByteArray) (y m : Nat) : ∀ k, FB (kyF K y m k)
  | 0 => fun i => by simp [kyF]
  | k + 1 => (kyF_fb K y m k).putL _
/-- Each key that was put in is there. -/
theorem kyF_has (K : Nat → ByteArray) (y m : Nat) : ∀ k i, i < k → allSet (kyF K y m k) (plL (hOf (K i) 0) (hOf (K i) 1) (8 * m) y) = true
  | 0, i, h => absurd h (Nat.not_lt_zero _)
  | k + 1, i, h => by
    unfold allSet
    rw [List.all_eq_true]
    intro p hp
    by_cases e : i = k
    · subst e
      exact putL_has (kyF_fb K y m i) _ p hp
    · have := kyF_has K y m k i (by omega)
      unfold allSet at this
      rw [List.all_eq_true] at this
      exact putL_keep (kyF_fb K y m k) _ (this p hp)
theorem mh_congr {f g : Nat → Int} {n : Nat} {L : List Int} (hL : ∀ x ∈ L, (x / 8).toNat < n) (h : ∀ i, i < n → f i = g i) : allSet f L = allSet g L := by
  unfold allSet
  have : ∀ x ∈ L, isSet f x = isSet g x := fun x hx => by unfold isSet; rw [h _ (hL x hx)]
  induction L with
  | nil => rfl
  | cons x L ih =>
    rw [List.all_cons, List.all_cons, this x (List.mem_cons_self ..), ih (fun y hy => hL y (List.mem_cons_of_mem _ hy)) (fun y hy => this y (List.mem_cons_of_mem _ hy))]
theorem fw_bd (p : Int) : 1 ≤ fwI p ∧ fwI p ≤ 8 := by unfold fwI; repeat' split <;> omega
theorem fb_bd (n : Nat) (p : Int) : 8 ≤ fbI n p ∧ fbI n p ≤ 200 := by
  unfold fbI fbQ
  repeat' split <;> omega
/-- A filter of keys may have each of them. -/
theorem fo_has (K : Nat → ByteArray) (n : Nat) (p : Int) (i : Nat) (hi : i < n) : mhB (fwI p) (fbI n p).toNat (fl (ffl (kyF K (fwI p).toNat (fbI n p).toNat n) (fbI n p).toNat)) (K i) = true := by
  have hw := fw_bd p
  have hb := fb_bd n p
  unfold mhB
  rw [if_pos ⟨⟨by omega, by omega⟩, by omega, by omega⟩]
  refine Eq.trans (mh_congr (n := (fbI n p).toNat) (fun x hx => ?_) (fun j hj => ffl_fl hj)) (kyF_has K (fwI p).toNat (fbI n p).toNat n i hi)
  unfold plL at hx
  obtain ⟨k, _, rfl⟩ := List.mem_map.1 hx
  have := pl_bd (hOf (K i) 0) (hOf (K i) 1) (M := 8 * ((fbI n p).toNat : Int)) (by omega) k
  omega
end Go.Proofs.Ytoccfmkciacomaa
