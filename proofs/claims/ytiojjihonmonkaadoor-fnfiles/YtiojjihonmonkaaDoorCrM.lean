/- A crash, in numbers. / crash: what it leaves. -/
import Derived.Test.YtiojjihonmonkaaDoorInts
import Derived.Test.YtiojjihonmonkaaDoorPutO
import Derived.Test.YtiojjihonmonkaaDoorSortF
import Derived.Test.YtiojjihonmonkaaDoorTell
namespace Go.Proofs.YtiojjihonmonkaaDoor
open Go.RowKit
set_option linter.unusedSimpArgs false
set_option linter.unusedVariables false

/-- The bytes of file k that are not synced. -/
def loose (F : Nat → Fil) (k : Nat) : Int := ((F k).len : Int) - (F k).sy
/-- How many draws are used up ahead of file k. -/
def uD (F : Nat → Fil) (dn : Nat) : Nat → Nat
  | 0 => 0
  | k + 1 => if loose F k = 0 then uD F dn k else if uD F dn k < dn then uD F dn k + 1 else uD F dn k
def drawD (F : Nat → Fil) (dn : Nat) (d : Nat → Int) (k : Nat) : Int := if uD F dn k < dn then d (uD F dn k) else 0
/-- What stays of file k. -/
def stayD (F : Nat → Fil) (dn : Nat) (d : Nat → Int) (k : Nat) : Int := (F k).sy + md (drawD F dn d k) (loose F k + 1)
def crFil (F : Nat → Fil) (dn : Nat) (d : Nat → Int) (k : Nat) : Fil := if loose F k = 0 then F k else { F k with len := (stayD F dn d k).toNat, sy := stayD F dn d k }
/-- The first k files have crashed. -/
def crF (F : Nat → Fil) (dn : Nat) (d : Nat → Int) (k i : Nat) : Fil := if i < k then crFil F dn d i else F i
theorem uD_le (F : Nat → Fil) (dn : Nat) : ∀ k, uD F dn k ≤ dn
  | 0 => Nat.zero_le _
  | k + 1 => by
    have := uD_le F dn k
    simp only [uD]
    split
    · exact this
    · split <;> omega
theorem stay_bd {F : Nat → Fil} {dn : Nat} {d : Nat → Int} {k : Nat} (h0 : 0 ≤ (F k).sy) (h1 : (F k).sy ≤ ((F k).len : Int)) : (F k).sy ≤ stayD F dn d k ∧ stayD F dn d k ≤ ((F k).len : Int) := by
  have := md_bd (a := drawD F dn d k) (b := loose F k + 1) (by unfold loose; omega)
  unfold stayD
  unfold loose at this ⊢
  omega
theorem crF_succ (F : Nat → Fil) (dn : Nat) (d : Nat → Int) (k : Nat) : crF F dn d (k + 1) = fun i => if i = k then crFil F dn d k else crF F dn d k i := by
  funext i
  unfold crF
  by_cases h1 : i < k
  · rw [if_pos (by omega), if_neg (by omega), if_pos h1]
  · by_cases h2 : i = k
    · subst h2; rw [if_pos (by omega), if_pos rfl]
    · rw [if_neg (by omega), if_neg h2, if_neg h1]
theorem crFil_len {F : Nat → Fil} {dn : Nat} {d : Nat → Int} {k : Nat} (h0 : 0 ≤ (F k).sy) (h1 : (F k).sy ≤ ((F k).len : Int)) : (crFil F dn d k).len ≤ (F k).len := by
  have := stay_bd (dn := dn) (d := d) h0 h1
  unfold crFil
  split
  · exact Nat.le_refl _
  · show (stayD F dn d k).toNat ≤ _
    omega
theorem crFil_nm (F : Nat → Fil) (dn : Nat) (d : Nat → Int) (k : Nat) : (crFil F dn d k).nm = (F k).nm := by unfold crFil; split <;> rfl
theorem crFil_f (F : Nat → Fil) (dn : Nat) (d : Nat → Int) (k : Nat) : (crFil F dn d k).f = (F k).f := by unfold crFil; split <;> rfl
theorem crF_nm (F : Nat → Fil) (dn : Nat) (d : Nat → Int) (k i : Nat) : (crF F dn d k i).nm = (F i).nm := by unfold crF; split; exact crFil_nm _ _ _ _; rfl
theorem crF_f (F : Nat → Fil) (dn : Nat) (d : Nat → Int) (k i : Nat) : (crF F dn d k i).f = (F i).f := by unfold crF; split; exact crFil_f _ _ _ _; rfl
/-- The draws that are left lie at ao. -/
def DL (w : World) (ao : Option Addr) (m cap : Nat) (d : Nat → Int) : Prop := m ≤ cap ∧ IRow w ao m d
end Go.Proofs.YtiojjihonmonkaaDoor
namespace Go.Proofs.YtiojjihonmonkaaDoor
open Go.RowKit
open Go.ChangeMaps (setBlock)
set_option linter.unusedSimpArgs false
set_option linter.unusedVariables false

/-- Where file i's bytes are said to lie when the first k files have crashed. -/
def Sk (F : Nat → Fil) (S : Nat → Value) (dn : Nat) (d : Nat → Int) (k i : Nat) : Value := if i < k ∧ loose F i ≠ 0 then .slice (sAd (S i)) (stayD F dn d i).toNat (stayD F dn d i).toNat else S i
theorem lOf_congr {F F' : Nat → Fil} {S S' : Nat → Value} {n : Nat} (h : ∀ i, i < n → fOf F S i = fOf F' S' i) : lOf F S n = lOf F' S' n := by
  unfold lOf
  exact List.map_congr_left fun i hi => by rw [h i (List.mem_range.1 hi)]
theorem cr_zero (F : Nat → Fil) (S : Nat → Value) (dn : Nat) (d : Nat → Int) (n : Nat) : lOf (crF F dn d 0) (Sk F S dn d 0) n = lOf F S n := lOf_congr fun i _ => by simp [fOf, crF, Sk]
theorem cr_skip {F : Nat → Fil} {S : Nat → Value} {dn : Nat} {d : Nat → Int} {n k : Nat} (h : loose F k = 0) : lOf (crF F dn d (k + 1)) (Sk F S dn d (k + 1)) n = lOf (crF F dn d k) (Sk F S dn d k) n := lOf_congr fun i _ => by
  by_cases e : i = k
  · subst e; simp [fOf, crF, Sk, crFil, h]
  · have : (i < k + 1) = (i < k) := by apply propext; omega
    simp only [fOf, crF, Sk, this]
theorem cr_at {F : Nat → Fil} {S : Nat → Value} {dn : Nat} {d : Nat → Int} {n k : Nat} (hk : k < n) : (lOf (crF F dn d k) (Sk F S dn d k) n)[k]? = some (fOf F S k, k) := by
  rw [lOf_at _ _ hk]
  simp [fOf, crF, Sk]
theorem cr_set {F : Nat → Fil} {S : Nat → Value} {dn : Nat} {d : Nat → Int} {n k : Nat} (hk : k < n) (h : loose F k ≠ 0) : (lOf (crF F dn d k) (Sk F S dn d k) n).set k (((F k).nm, (sAd (S k), (stayD F dn d k).toNat, (stayD F dn d k).toNat), stayD F dn d k), k) = lOf (crF F dn d (k + 1)) (Sk F S dn d (k + 1)) n := by
  apply List.ext_getElem?
  intro i
  rw [List.getElem?_set, lOf_len]
  by_cases e : k = i
  · subst e
    rw [if_pos rfl, if_pos hk, lOf_at _ _ hk]
    simp [fOf, crF, Sk, crFil, h, sAd, sCp]
  · rw [if_neg e]
    by_cases hi : i < n
    · rw [lOf_at _ _ hi, lOf_at _ _ hi]
      have : (i < k + 1) = (i < k) := by apply propext; omega
      simp only [fOf, crF, Sk, this]
    · rw [List.getElem?_eq_none (by rw [lOf_len]; omega), List.getElem?_eq_none (by rw [lOf_len]; omega)]
structure CR (w : World) (Q : Int) (bm n : Nat) (F : Nat → Fil) (S : Nat → Value) (dn : Nat) (d : Nat → Int) (rb : Nat) (rv : Value) (k : Nat) (dv : Value) (wr : World) : Prop where
  draws : ∃ ao cap, dv = .slice ao (dn - uD F dn k) cap ∧ DL wr ao (dn - uD F dn k) cap (fun i => d (uD F dn k + i)) ∧ ∀ b off, ao = some ⟨b, off, none⟩ → dn - uD F dn k ≠ 0 → b ≠ bm
  map : MHas wr bm (lOf (crF F dn d k) (Sk F S dn d k) n) n
  row : wr.ownsRow rb 35 3 rv n (((lOf F S n).map (·.1)).flatMap fenc)
  box : QAt wr w.heap.size Q (.map (some bm))
  bel : Below bm w wr
  oth : ∀ j, j < w.heap.size → j ≠ bm → wr.heap[j]? = w.heap[j]?

end Go.Proofs.YtiojjihonmonkaaDoor
