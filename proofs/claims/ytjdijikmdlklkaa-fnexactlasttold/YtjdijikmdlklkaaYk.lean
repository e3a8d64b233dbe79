/- Keys compared: from one to the other and back, in a row; the place of a key among rising windows. / Told ones compared, in the program: by their keys, then by their versions. -/
import Derived.Test.YtjdijikmdlklkaaKl
import Derived.Test.YtjdijikmdlklkaaTr
import Derived.Test.YtjdijikmdlklkaaCompareK
import Derived.Deep.RegionHeld3
namespace Go.Proofs.Ytjdijikmdlklkaa
open Go.RowKit
set_option linter.unusedSimpArgs false
set_option linter.unusedVariables false

theorem less_tri : ∀ a b : List UInt8, (Op.bytesLess a b = true → Op.bytesLess b a = false ∧ (a == b) = false) ∧ (Op.bytesLess a b = false → (a == b) = false → Op.bytesLess b a = true)
  | [], [] => by simp [Op.bytesLess]
  | [], _ :: _ => by simp [Op.bytesLess]
  | _ :: _, [] => by simp [Op.bytesLess]
  | x :: a, y :: b => by
    obtain ⟨i1, i2⟩ := less_tri a b
    simp only [Op.bytesLess, Bool.or_eq_true, Bool.and_eq_true, decide_eq_true_eq, beq_iff_eq, Bool.or_eq_false_iff, Bool.and_eq_false_iff, decide_eq_false_iff_not, beq_eq_false_iff_ne, List.cons_beq_cons]
    refine ⟨fun h => ?_, fun h h2 => ?_⟩
    · rcases h with h | ⟨rfl, h⟩
      · have h' : ¬ y < x := by rw [UInt8.lt_iff_toNat_lt] at h ⊢; omega
        have hne : x ≠ y := by rintro rfl; rw [UInt8.lt_iff_toNat_lt] at h; omega
        exact ⟨⟨h', .inl hne.symm⟩, .inl hne⟩
      · have h' : ¬ x < x := by rw [UInt8.lt_iff_toNat_lt]; omega
        exact ⟨⟨h', .inr (i1 h).1⟩, .inr (beq_eq_false_iff_ne.1 (i1 h).2)⟩
    · by_cases e : x = y
      · subst e
        refine .inr ⟨rfl, i2 (h.2.resolve_left (fun h => h rfl)) (beq_eq_false_iff_ne.2 (h2.resolve_left (fun h => h rfl)))⟩
      · refine .inl ?_
        have h3 := h.1
        rw [UInt8.lt_iff_toNat_lt] at h3 ⊢
        have : x.toNat ≠ y.toNat := fun h4 => e (UInt8.toNat_inj.1 h4)
        omega
theorem cmpT_swap (a b : ByteArray) : cmpT b a = - cmpT a b := by
  obtain ⟨i1, i2⟩ := less_tri a.toList b.toList
  unfold cmpT
  by_cases h : Op.bytesLess a.toList b.toList = true
  · obtain ⟨h1, h2⟩ := i1 h
    have h3 : (b.toList == a.toList) = false := by
      rw [beq_eq_false_iff_ne] at h2 ⊢
      exact h2.symm
    simp [h, h1, h3]
  · have h' : Op.bytesLess a.toList b.toList = false := by simpa using h
    by_cases h2 : (a.toList == b.toList) = true
    · have e := beq_iff_eq.1 h2
      have h4 : Op.bytesLess b.toList b.toList = false := by rw [e] at h'; exact h'
      simp [e, h4]
    · have h2' : (a.toList == b.toList) = false := by simpa using h2
      simp [h', h2', i2 h' h2']
theorem cmpI_swap (a b : Int) : cmpI b a = - cmpI a b := by unfold cmpI; split <;> split <;> (try split) <;> (try split) <;> omega
theorem tc_swap {c c' : Nat → Int} (h : ∀ k, c' k = - c k) : ∀ d k, tc c' d k = - tc c d k
  | 0, k => by simp [tc]
  | d + 1, k => by
    have ih := tc_swap h d (k + 1)
    simp only [tc, h k, ih]
    by_cases e : c k = 0
    · simp [e]
    · have : ¬ - c k = 0 := by omega
      simp [e, this]
theorem cmpTag_swap (a b a' b' : ByteArray) : cmpTag a' b' a b = - cmpTag a b a' b' := tc_swap (fun k => by unfold tagC; split <;> rw [cmpT_swap]) 2 0
theorem kc_swap (x y : Wn) : kc y x = - kc x y := by
  unfold kc keyCmp
  refine tc_swap (fun k => ?_) 3 0
  unfold keyC
  split
  · exact cmpT_swap _ _
  · split
    · unfold tagsC
      have h1 := tc_swap (c := fun k => cmpTag (x.nm k) (x.vl k) (y.nm k) (y.vl k)) (c' := fun k => cmpTag (y.nm k) (y.vl k) (x.nm k) (x.vl k)) (fun k => cmpTag_swap _ _ _ _) (min x.tn y.tn) 0
      rw [Nat.min_comm y.tn x.tn, h1]
      by_cases e : tc (fun k => cmpTag (x.nm k) (x.vl k) (y.nm k) (y.vl k)) (min x.tn y.tn) 0 = 0
      · rw [e, if_pos rfl, if_pos (by omega)]
        exact cmpI_swap _ _
      · have : ¬ - tc (fun k => cmpTag (x.nm k) (x.vl k) (y.nm k) (y.vl k)) (min x.tn y.tn) 0 = 0 := by omega
        simp [e, this]
    · exact cmpI_swap _ _
def Three (c : Int) : Prop := c = -1 ∨ c = 0 ∨ c = 1
theorem cmpT_three (a b : ByteArray) : Three (cmpT a b) := by unfold cmpT Three; split <;> (try split) <;> omega
theorem cmpI_three (a b : Int) : Three (cmpI a b) := by unfold cmpI Three; split <;> (try split) <;> omega
theorem tc_three {c : Nat → Int} (h : ∀ k, Three (c k)) : ∀ d k, Three (tc c d k)
  | 0, k => .inr (.inl rfl)
  | d + 1, k => by
    unfold tc
    split
    · exact tc_three h d (k + 1)
    · exact h k
theorem kc_three (x y : Wn) : Three (kc x y) := by
  unfold kc keyCmp
  refine tc_three (fun k => ?_) 3 0
  unfold keyC
  split
  · exact cmpT_three _ _
  · split
    · unfold tagsC
      split
      · exact cmpI_three _ _
      · exact tc_three (fun j => tc_three (fun i => by unfold tagC; split <;> exact cmpT_three _ _) 2 0) _ _
    · exact cmpI_three _ _
theorem tc_zero {c : Nat → Int} : ∀ d k, tc c d k = 0 → ∀ j, k ≤ j → j < k + d → c j = 0
  | 0, k, _, j, h1, h2 => by omega
  | d + 1, k, h, j, h1, h2 => by
    unfold tc at h
    by_cases e : c k = 0
    · rw [if_pos e] at h
      by_cases ej : j = k
      · rw [ej]; exact e
      · exact tc_zero d (k + 1) h j (by omega) (by omega)
    · rw [if_neg e] at h; exact absurd h e
theorem ktf_congr {nm vl nm' vl' : Nat → ByteArray} : ∀ t k, (∀ j, k ≤ j → j < k + t → tagB (nm j) (vl j) = tagB (nm' j) (vl' j)) → ktf nm vl t k = ktf nm' vl' t k
  | 0, _, _ => rfl
  | t + 1, k, h => by rw [ktf, ktf, h k (by omega) (by omega), ktf_congr t (k + 1) (fun j h1 h2 => h j (by omega) (by omega))]
theorem kb_eq {x y : Wn} (h : kc x y = 0) : kbW x = kbW y := by
  have h3 := tc_zero 3 0 h
  have a0 := h3 0 (by omega) (by omega)
  have a1 := h3 1 (by omega) (by omega)
  have a2 := h3 2 (by omega) (by omega)
  simp only [keyC, if_true, if_false, show ¬ (1 : Nat) = 0 from by omega, show ¬ (2 : Nat) = 0 from by omega, show ¬ (2 : Nat) = 1 from by omega] at a0 a1 a2
  have em := cmpT_zero a0
  have hz : tc (fun k => cmpTag (x.nm k) (x.vl k) (y.nm k) (y.vl k)) (min x.tn y.tn) 0 = 0 := by
    by_cases hz : tc (fun k => cmpTag (x.nm k) (x.vl k) (y.nm k) (y.vl k)) (min x.tn y.tn) 0 = 0
    · exact hz
    · rw [tagsC_some hz] at a1; exact absurd a1 hz
  rw [tagsC_zero hz] at a1
  have en : x.tn = y.tn := by unfold cmpI at a1; split at a1 <;> (try split at a1) <;> omega
  have es : x.st = y.st := by unfold cmpI at a2; split at a2 <;> (try split at a2) <;> omega
  have et : ktf x.nm x.vl x.tn 0 = ktf y.nm y.vl x.tn 0 := ktf_congr _ _ (fun j h1 h2 => cmpTag_zero (tc_zero _ _ hz j h1 (by omega)))
  unfold kbW kbytes
  rw [ktags_ktf, ktags_ktf, em, es, ← en, et]
theorem kc_iff {x y : Wn} (hx : gK x = true) (hy : gK y = true) : kc x y < 0 ↔ ltL (kbW x) (kbW y) := by
  refine ⟨kb_lt hx hy, fun h => ?_⟩
  rcases kc_three x y with e | e | e
  · omega
  · rw [kb_eq e] at h; exact (ltL_irr _ h).elim
  · have h1 := kb_lt hy hx (by rw [kc_swap]; omega)
    exact (ltL_irr _ (ltL_trans _ _ _ h h1)).elim
theorem at_mono {z : Int} {X : Nat → Wn} {n : Nat} {t : Wn} (h : GWs z X n) (ht : gK t = true) {i j : Nat} (hij : i ≤ j) (hj : j < n) (hk : kc (X j) t < 0) : kc (X i) t < 0 := by
  rcases Nat.lt_or_eq_of_le hij with q | rfl
  · have h1 := kb_rise h (j - i - 1) i (by omega)
    rw [show i + (j - i - 1 + 1) = j from by omega] at h1
    exact (kc_iff (h.each i (by omega)).key ht).2 (ltL_trans _ _ _ h1 ((kc_iff (h.each j hj).key ht).1 hk))
  · exact hk
/-- The place of a key: all ahead of it are less, the one there is not. -/
structure PosK (X : Nat → Wn) (n : Nat) (t : Wn) (p : Nat) : Prop where
  le : p ≤ n
  lt : ∀ i, i < p → kc (X i) t < 0
  ge : p < n → 0 ≤ kc (X p) t
theorem PosK.one {X : Nat → Wn} {n : Nat} {t : Wn} {p q : Nat} (h : PosK X n t p) (g : PosK X n t q) : p = q := by
  rcases Nat.lt_trichotomy p q with e | e | e
  · have := g.lt p e; have := h.ge (by have := g.le; omega); omega
  · exact e
  · have := h.lt q e; have := g.ge (by have := h.le; omega); omega
theorem posK_ex (X : Nat → Wn) (t : Wn) : ∀ n, ∃ p, PosK X n t p
  | 0 => ⟨0, Nat.le_refl _, fun i hi => by omega, fun h => by omega⟩
  | n + 1 => by
    obtain ⟨p, h⟩ := posK_ex X t n
    by_cases hp : p < n
    · exact ⟨p, by omega, h.lt, fun _ => h.ge hp⟩
    · obtain rfl : p = n := by have := h.le; omega
      by_cases hk : kc (X p) t < 0
      · exact ⟨p + 1, Nat.le_refl _, fun i hi => by
          by_cases e : i = p
          · rw [e]; exact hk
          · exact h.lt i (by omega), fun h => by omega⟩
      · exact ⟨p, by omega, h.lt, fun _ => by omega⟩
end Go.Proofs.Ytjdijikmdlklkaa
namespace Go.Proofs.Ytjdijikmdlklkaa
open Go.RowKit
set_option linter.unusedSimpArgs false
set_option linter.unusedVariables false

/-- The two comparisons in their order. -/
def tkC (x y : Wn) (i : Nat) : Int := if i = 0 then kc x y else cmpI x.ver y.ver
/-- What a comparison of told ones says. -/
def tk (x y : Wn) : Int := tc (tkC x y) 2 0

set_option maxHeartbeats 8000000 in
theorem compareTolds_any (x y : Wn) (a0 a1 b0 b1 : Option Addr) (c0 c1 d0 d1 : Nat) (w : World) (hr : TRow w a0 x.tn x.nm x.vl) (hr' : TRow w b0 y.tn y.nm y.vl) (hS : WiS x) (hS' : WiS y) (hx : gK x = true) (hy : gK y = true) :
    Calls Try.prog 19 #[.agg #[.string x.m, .slice a0 x.tn c0, .int .i64 x.st, .int .i64 x.ver, .int .i64 x.c, .int .i64 x.s, .int .i64 x.lo, .int .i64 x.hi, .slice a1 x.n c1, .bool x.fu], .agg #[.string y.m, .slice b0 y.tn d0, .int .i64 y.st, .int .i64 y.ver, .int .i64 y.c, .int .i64 y.s, .int .i64 y.lo, .int .i64 y.hi, .slice b1 y.n d1, .bool y.fu]] w fun e w' => e = .returned (.int .i64 (tk x y)) ∧ Below w.heap.size w w' := by
  have hB : Below w.heap.size w ((w.alloc (.cells #[.string x.m, .slice a0 x.tn c0, .int .i64 x.st, .int .i64 x.ver, .int .i64 x.c, .int .i64 x.s, .int .i64 x.lo, .int .i64 x.hi, .slice a1 x.n c1, .bool x.fu] 45)).alloc (.cells #[.string y.m, .slice b0 y.tn d0, .int .i64 y.st, .int .i64 y.ver, .int .i64 y.c, .int .i64 y.s, .int .i64 y.lo, .int .i64 y.hi, .slice b1 y.n d1, .bool y.fu] 45)) := ((Below.refl _ _).alloc (Nat.le_refl _) _).alloc (by simp) _
  have ka : ToAt ((w.alloc (.cells #[.string x.m, .slice a0 x.tn c0, .int .i64 x.st, .int .i64 x.ver, .int .i64 x.c, .int .i64 x.s, .int .i64 x.lo, .int .i64 x.hi, .slice a1 x.n c1, .bool x.fu] 45)).alloc (.cells #[.string y.m, .slice b0 y.tn d0, .int .i64 y.st, .int .i64 y.ver, .int .i64 y.c, .int .i64 y.s, .int .i64 y.lo, .int .i64 y.hi, .slice b1 y.n d1, .bool y.fu] 45)) w.heap.size 0 x a0 a1 c0 c1 := (ToAt.new w x a0 a1 c0 c1 45).keep ((Below.refl _ _).alloc (Nat.le_refl _) _)
  have kb : ToAt ((w.alloc (.cells #[.string x.m, .slice a0 x.tn c0, .int .i64 x.st, .int .i64 x.ver, .int .i64 x.c, .int .i64 x.s, .int .i64 x.lo, .int .i64 x.hi, .slice a1 x.n c1, .bool x.fu] 45)).alloc (.cells #[.string y.m, .slice b0 y.tn d0, .int .i64 y.st, .int .i64 y.ver, .int .i64 y.c, .int .i64 y.s, .int .i64 y.lo, .int .i64 y.hi, .slice b1 y.n d1, .bool y.fu] 45)) (w.heap.size + 1) 0 y b0 b1 d0 d1 := by
    have := ToAt.new (w.alloc (.cells #[.string x.m, .slice a0 x.tn c0, .int .i64 x.st, .int .i64 x.ver, .int .i64 x.c, .int .i64 x.s, .int .i64 x.lo, .int .i64 x.hi, .slice a1 x.n c1, .bool x.fu] 45)) y b0 b1 d0 d1 45
    simpa using this
  have hra := hr.keep hB
  have hrb := hr'.keep hB
  have hcmp := fun W (h : TRow W a0 x.tn x.nm x.vl) (h' : TRow W b0 y.tn y.nm y.vl) => compareKeys_impl_good x.m y.m x.st y.st a0 b0 x.tn y.tn c0 d0 x.nm x.vl y.nm y.vl W h h' hS.m hS'.m hS.tn hS'.tn hS.ts hS'.ts hx hy
  have e0 : keyCmp x.m y.m x.st y.st x.tn y.tn x.nm x.vl y.nm y.vl = kc x y := rfl
  rw [e0] at hcmp
  obtain ⟨la, p0, p1, p2, p3, _, _, _, _, _, _⟩ := ka
  obtain ⟨lb, q0, q1, q2, q3, _, _, _, _, _, _⟩ := kb
  simp only [Nat.zero_add] at p1 p2 p3 q1 q2 q3
  have hsz := hB.size
  clear hr hr' hS hS' hx hy e0
  go_enter Try.func19, Try.ntmps19
  go_wp2
  go_region_held3 (fun w' => w'.cell? ⟨w.heap.size, 0, none⟩ = some (.string x.m) ∧ w'.cell? ⟨w.heap.size, 1, none⟩ = some (.slice a0 x.tn c0) ∧ w'.cell? ⟨w.heap.size, 2, none⟩ = some (.int .i64 x.st) ∧ w'.cell? ⟨w.heap.size, 3, none⟩ = some (.int .i64 x.ver) ∧ w'.cell? ⟨w.heap.size + 1, 0, none⟩ = some (.string y.m) ∧ w'.cell? ⟨w.heap.size + 1, 1, none⟩ = some (.slice b0 y.tn d0) ∧ w'.cell? ⟨w.heap.size + 1, 2, none⟩ = some (.int .i64 y.st) ∧ w'.cell? ⟨w.heap.size + 1, 3, none⟩ = some (.int .i64 y.ver)) (go_keep) (first | (go_at_call 39; refine (compare_i _ _ _).mono ?_; rintro e w' ⟨rfl, rfl⟩) | (go_at_call 20; refine (hcmp _ ?_ ?_).mono ?_; exact hra.keep (Below.refl _ _).drew; exact hrb.keep (Below.refl _ _).drew; rintro e w3 ⟨rfl, hb3⟩; have s0 := (hb3.cell (p := ⟨w.heap.size, 0, none⟩) la).trans p0; have s1 := (hb3.cell (p := ⟨w.heap.size, 1, none⟩) la).trans p1; have s2 := (hb3.cell (p := ⟨w.heap.size, 2, none⟩) la).trans p2; have s3 := (hb3.cell (p := ⟨w.heap.size, 3, none⟩) la).trans p3; have t0 := (hb3.cell (p := ⟨w.heap.size + 1, 0, none⟩) lb).trans q0; have t1 := (hb3.cell (p := ⟨w.heap.size + 1, 1, none⟩) lb).trans q1; have t2 := (hb3.cell (p := ⟨w.heap.size + 1, 2, none⟩) lb).trans q2; have t3 := (hb3.cell (p := ⟨w.heap.size + 1, 3, none⟩) lb).trans q3; have hbw3 : Below w.heap.size w w3 := hB.drew.trans (hb3.mono hsz); clear hb3) | (go_at_call 38; refine (or_any _ 2 2 (tkC x y) _ ?_ (by omega)).mono ?_; (intro i hi; rcases (show i = 0 ∨ i = 1 by omega) with rfl | rfl <;> simp [tkC, go_sem]); rintro e w' ⟨rfl, rfl⟩))
  all_goals
    go_wp2
    go_ret
    exact ⟨rfl, hbw3.alloc hbw3.size _⟩
end Go.Proofs.Ytjdijikmdlklkaa
