/- crash: what it leaves. -/
import Derived.Test.YtgedpjabjoodjaaDoorCrF
import Derived.Test.YtgedpjabjoodjaaDoorSortF
import Derived.Test.YtgedpjabjoodjaaDoorTell
namespace Go.Proofs.YtgedpjabjoodjaaDoor
open Go.RowKit
open Go.ChangeMaps (setBlock)
set_option linter.unusedSimpArgs false
set_option linter.unusedVariables false

/-- Where file i's bytes are said to lie when the first k files have crashed. -/
def Sk (F : Nat → Fil) (S : Nat → Value) (dn : Nat) (d : Nat → Int) (k i : Nat) : Value := if i < k ∧ loose F i ≠ 0 then .slice (sAd (S i)) (stayD F dn d i).toNat (stayD F dn d i).toNat else S i
theorem lOf_congr {F F' : Nat → Fil} {S S' : Nat → Value} {n : Nat} (h : ∀ i, i < n → fOf F S i = fOf F' S' i) : lOf F S n = lOf F' S' n := by
  unfold lOf
  exact List.map_congr_left fun i hi => by rw [h i (List.mem_range.1 hi)]
theorem cr_zero (F : Nat → Fil) (S : Nat → Value) (dn : Nat) (d : Nat → Int) (n : Nat) : lOf (crF F dn d 0) (Sk F S dn d 0) n = lOf F S n := lOf_congr fun i _ => by simp [fOf, crF, Sk]
theorem cr_skip {F : Nat → Fil} {S : Nat → Value} {dn : Nat} {d : Nat → Int} {n k : Nat} (h : loose F k = 0) : lOf (crF F dn d (k + 1)) (Sk F S dn d (k + 1)) n = lOf (crF F dn d k) (Sk F S dn d k) n := lOf_congr fun i _ => by
  by_cases e : i = k
  · subst e; simp [fOf, crF, Sk, crFil, h]
  · have : (i < k + 1) = (i < k) := by apply propext; omega
    simp only [fOf, crF, Sk, this]
theorem cr_at {F : Nat → Fil} {S : Nat → Value} {dn : Nat} {d : Nat → Int} {n k : Nat} (hk : k < n) : (lOf (crF F dn d k) (Sk F S dn d k) n)[k]? = some (fOf F S k, k) := by
  rw [lOf_at _ _ hk]
  simp [fOf, crF, Sk]
theorem cr_set {F : Nat → Fil} {S : Nat → Value} {dn : Nat} {d : Nat → Int} {n k : Nat} (hk : k < n) (h : loose F k ≠ 0) : (lOf (crF F dn d k) (Sk F S dn d k) n).set k (((F k).nm, (sAd (S k), (stayD F dn d k).toNat, (stayD F dn d k).toNat), stayD F dn d k), k) = lOf (crF F dn d (k + 1)) (Sk F S dn d (k + 1)) n := by
  apply List.ext_getElem?
  intro i
  rw [List.getElem?_set, lOf_len]
  by_cases e : k = i
  · subst e
    rw [if_pos rfl, if_pos hk, lOf_at _ _ hk]
    simp [fOf, crF, Sk, crFil, h, sAd, sCp]
  · rw [if_neg e]
    by_cases hi : i < n
    · rw [lOf_at _ _ hi, lOf_at _ _ hi]
      have : (i < k + 1) = (i < k) := by apply propext; omega
      simp only [fOf, crF, Sk, this]
    · rw [List.getElem?_eq_none (by rw [lOf_len]; omega), List.getElem?_eq_none (by rw [lOf_len]; omega)]
structure CR (w : World) (Q : Int) (bm n : Nat) (F : Nat → Fil) (S : Nat → Value) (dn : Nat) (d : Nat → Int) (rb : Nat) (rv : Value) (k : Nat) (dv : Value) (wr : World) : Prop where
  draws : ∃ ao cap, dv = .slice ao (dn - uD F dn k) cap ∧ DL wr ao (dn - uD F dn k) cap (fun i => d (uD F dn k + i)) ∧ ∀ b off, ao = some ⟨b, off, none⟩ → dn - uD F dn k ≠ 0 → b ≠ bm
  map : MHas wr bm (lOf (crF F dn d k) (Sk F S dn d k) n) n
  row : wr.ownsRow rb 73 3 rv n (((lOf F S n).map (·.1)).flatMap fenc)
  box : QAt wr w.heap.size Q (.map (some bm))
  bel : Below bm w wr
  oth : ∀ j, j < w.heap.size → j ≠ bm → wr.heap[j]? = w.heap[j]?

end Go.Proofs.YtgedpjabjoodjaaDoor
