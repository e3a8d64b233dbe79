/- Times, sizes, and the start of a window: both texts, and the law of StartOf, walked. / Keys compared: texts, numbers, the first that is not nought. -/
import Derived.Test.YtflmbcgokiiedaaVal
import Derived.Test.YtflmbcgokiiedaaBy
import Derived.Deep.RegionHeld3
namespace Go.Proofs.Ytflmbcgokiiedaa
open Go.RowKit
set_option linter.unusedSimpArgs false
set_option linter.unusedVariables false

def isTm (t : Int) : Bool := btw 0 t 1000000000
def isSz (z : Int) : Bool := btw 1 z 100000

theorem isTime_any (v : Int) (w : World) :
    Calls Try.prog 90 #[.int .i64 v] w fun e w' => e = .returned (.bool (isTm v)) ∧ w' = w := by
  by_cases h1 : 0 ≤ v
  · by_cases h2 : v ≤ 1000000000
    · have h : isTm v = true := by simp [isTm, btw, h1, h2]
      go_enter Try.func90, Try.ntmps90
      go_wp2
      go_ret
      exact ⟨by simp_all, rfl⟩
    · have h : isTm v = false := by simp [isTm, btw, h2]
      go_enter Try.func90, Try.ntmps90
      go_wp2
      go_ret
      exact ⟨by simp_all, rfl⟩
  · have h : isTm v = false := by simp [isTm, btw, h1]
    have h3 : decide (0 ≤ v) = false := by simpa using h1
    go_enter Try.func90, Try.ntmps90
    go_wp2
    go_ret
    exact ⟨by simp_all, rfl⟩

theorem isSize_any (v : Int) (w : World) :
    Calls Try.prog 89 #[.int .i64 v] w fun e w' => e = .returned (.bool (isSz v)) ∧ w' = w := by
  by_cases h1 : 1 ≤ v
  · by_cases h2 : v ≤ 100000
    · have h : isSz v = true := by simp [isSz, btw, h1, h2]
      go_enter Try.func89, Try.ntmps89
      go_wp2
      go_ret
      exact ⟨by simp_all, rfl⟩
    · have h : isSz v = false := by simp [isSz, btw, h2]
      go_enter Try.func89, Try.ntmps89
      go_wp2
      go_ret
      exact ⟨by simp_all, rfl⟩
  · have h : isSz v = false := by simp [isSz, btw, h1]
    have h3 : decide (1 ≤ v) = false := by simpa using h1
    go_enter Try.func89, Try.ntmps89
    go_wp2
    go_ret
    exact ⟨by simp_all, rfl⟩

theorem l11Time_any (v : Int) (w : World) :
    Calls Try.prog 64 #[.int .i64 v] w fun e w' => e = .returned (.bool (isTm v)) ∧ w' = w := by
  go_enter Try.func64, Try.ntmps64
  go_wp2_with fail
  refine (l1In_any v 0 1000000000 _).mono ?_
  rintro e w1 ⟨rfl, rfl⟩
  go_wp2
  go_ret
  exact ⟨rfl, rfl⟩

/-- What StartOf answers. -/
def SoA (t z : Int) : Ending := if isTm t = true ∧ isSz z = true then .returned (.tuple #[.int .i64 (t - t % z), .bool true]) else .returned (.tuple #[.int .i64 0, .bool false])

theorem l1In_is (n lo hi : Int) (B : Bool) (h : Hid (btw lo n hi = B)) (w : World) :
    Calls Try.prog 63 #[.int .i64 n, .int .i64 lo, .int .i64 hi] w fun e w' => e = .returned (.bool B) ∧ w' = w := by
  have := l1In_any n lo hi w
  rw [h.out] at this
  exact this

end Go.Proofs.Ytflmbcgokiiedaa
namespace Go.Proofs.Ytflmbcgokiiedaa
open Go.RowKit
set_option linter.unusedSimpArgs false
set_option linter.unusedVariables false

def cmpT (a b : ByteArray) : Int := if Op.bytesLess a.toList b.toList = true then -1 else if (a.toList == b.toList) = true then 0 else 1
def cmpI (a b : Int) : Int := if a < b then -1 else if b < a then 1 else 0
/-- The first of c k, c (k + 1), .. that is not 0, of t of them. -/
def tc (c : Nat → Int) : Nat → Nat → Int
  | 0, _ => 0
  | t + 1, k => if c k = 0 then tc c t (k + 1) else c k

theorem l1Text_any (a b : ByteArray) (w : World) : Calls Try.prog 87 #[.string a, .string b] w fun e w' => e = .returned (.int .i64 (cmpT a b)) ∧ w' = w := by
  generalize hC : cmpT a b = C
  by_cases h1 : Op.bytesLess a.toList b.toList = true
  · have H : Hid (C = -1) := by unfold Hid; rw [← hC]; simp [cmpT, h1]
    clear hC
    go_enter Try.func87, Try.ntmps87
    go_wp2
    go_ret
    rw [H.out]
    exact ⟨rfl, rfl⟩
  · have h1' : Op.bytesLess a.toList b.toList = false := by simpa using h1
    by_cases h2 : (a.toList == b.toList) = true
    · have H : Hid (C = 0) := by unfold Hid; rw [← hC]; unfold cmpT; rw [if_neg h1, if_pos h2]
      clear hC h1
      go_enter Try.func87, Try.ntmps87
      go_wp2
      go_ret
      rw [H.out]
      exact ⟨rfl, rfl⟩
    · have H : Hid (C = 1) := by unfold Hid; rw [← hC]; unfold cmpT; rw [if_neg h1, if_neg h2]
      have h2' : (a.toList == b.toList) = false := by simpa using h2
      clear hC h1 h2
      go_enter Try.func87, Try.ntmps87
      go_wp2
      go_ret
      rw [H.out]
      exact ⟨rfl, rfl⟩

theorem isNaN_s (a : ByteArray) (w : World) : Calls Try.prog 104 #[.string a] w fun e w' => e = .returned (.bool false) ∧ w' = w := by
  go_enter Try.func104, Try.ntmps104
  go_wp2
  go_ret
  exact ⟨by simp, rfl⟩
theorem isNaN_i (a : Int) (w : World) : Calls Try.prog 105 #[.int .i64 a] w fun e w' => e = .returned (.bool false) ∧ w' = w := by
  go_enter Try.func105, Try.ntmps105
  go_wp2
  go_ret
  exact ⟨by simp, rfl⟩

theorem compare_s (a b : ByteArray) (w : World) : Calls Try.prog 96 #[.string a, .string b] w fun e w' => e = .returned (.int .i64 (cmpT a b)) ∧ w' = w := by
  generalize hC : cmpT a b = C
  by_cases h1 : Op.bytesLess a.toList b.toList = true
  · have H : Hid (C = -1) := by unfold Hid; rw [← hC]; simp [cmpT, h1]
    clear hC
    go_enter Try.func96, Try.ntmps96
    go_wp2_with (go_at_call 104; refine (isNaN_s _ _).mono ?_; rintro e w' ⟨rfl, rfl⟩)
    go_ret
    rw [H.out]
    exact ⟨rfl, rfl⟩
  · have h1' : Op.bytesLess a.toList b.toList = false := by simpa using h1
    by_cases h2 : (a.toList == b.toList) = true
    · have H : Hid (C = 0) := by unfold Hid; rw [← hC]; unfold cmpT; rw [if_neg h1, if_pos h2]
      clear hC h1
      go_enter Try.func96, Try.ntmps96
      go_wp2_with (go_at_call 104; refine (isNaN_s _ _).mono ?_; rintro e w' ⟨rfl, rfl⟩)
      go_ret
      rw [H.out]
      exact ⟨rfl, rfl⟩
    · have H : Hid (C = 1) := by unfold Hid; rw [← hC]; unfold cmpT; rw [if_neg h1, if_neg h2]
      have h2' : (a.toList == b.toList) = false := by simpa using h2
      clear hC h1 h2
      go_enter Try.func96, Try.ntmps96
      go_wp2_with (go_at_call 104; refine (isNaN_s _ _).mono ?_; rintro e w' ⟨rfl, rfl⟩)
      go_ret
      rw [H.out]
      exact ⟨rfl, rfl⟩
theorem compare_i (a b : Int) (w : World) : Calls Try.prog 99 #[.int .i64 a, .int .i64 b] w fun e w' => e = .returned (.int .i64 (cmpI a b)) ∧ w' = w := by
  generalize hC : cmpI a b = C
  by_cases h1 : a < b
  · have H : Hid (C = -1) := by unfold Hid; rw [← hC]; unfold cmpI; rw [if_pos h1]
    clear hC
    go_enter Try.func99, Try.ntmps99
    go_wp2_with (go_at_call 105; refine (isNaN_i _ _).mono ?_; rintro e w' ⟨rfl, rfl⟩)
    go_ret
    rw [H.out]
    exact ⟨rfl, rfl⟩
  · by_cases h2 : b < a
    · have H : Hid (C = 1) := by unfold Hid; rw [← hC]; unfold cmpI; rw [if_neg h1, if_pos h2]
      clear hC
      go_enter Try.func99, Try.ntmps99
      go_wp2_with (go_at_call 105; refine (isNaN_i _ _).mono ?_; rintro e w' ⟨rfl, rfl⟩)
      go_ret
      rw [H.out]
      exact ⟨rfl, rfl⟩
    · have H : Hid (C = 0) := by unfold Hid; rw [← hC]; unfold cmpI; rw [if_neg h1, if_neg h2]
      clear hC
      go_enter Try.func99, Try.ntmps99
      go_wp2_with (go_at_call 105; refine (isNaN_i _ _).mono ?_; rintro e w' ⟨rfl, rfl⟩)
      go_ret
      rw [H.out]
      exact ⟨rfl, rfl⟩

set_option maxHeartbeats 400000 in
theorem or_any (b n cap : Nat) (c : Nat → Int) (w : World) (hc : ∀ i, i < n → w.cell? ⟨b, i, none⟩ = some (.int .i64 (c i))) (hn : n ≤ 8) :
    Calls Try.prog 95 #[.slice (some ⟨b, 0, none⟩) n cap] w fun e w' => e = .returned (.int .i64 (tc c n 0)) ∧ w' = w := by
  generalize hC : tc c n 0 = C
  have HC : Hid (tc c n 0 = C) := hC
  clear hC
  go_enter Try.func95, Try.ntmps95
  go_wp2
  go_loopw [8] (fun i wr => ∃ k : Nat, k ≤ n ∧ i = .int .i64 k ∧ Hid (tc c (n - k) k = C) ∧ wr = w) (fun i _ => n - (intOf i).toNat)
  case atStart => exact ⟨0, by omega, rfl, HC, rfl⟩
  case round =>
    obtain ⟨k, hk, rfl, HK, rfl⟩ := hrel
    by_cases hlt : k < n
    · have h1 := hc k hlt
      have e : n - k = (n - (k + 1)) + 1 := by omega
      by_cases h0 : c k = 0
      · have HK' : Hid (tc c (n - (k + 1)) (k + 1) = C) := by unfold Hid; rw [← HK.out, e]; simp [tc, h0]
        have h0' : (c k != 0) = false := by simp [h0]
        clear hc e h0
        go_wp2
        go_roundw
        case rel => exact ⟨k + 1, by omega, by go_num, HK', trivial⟩
        case measure => simp [intOf]; omega
      · have HK' : Hid (c k = C) := by unfold Hid; rw [← HK.out, e]; simp [tc, h0]
        have h0' : (c k != 0) = true := by simp [h0]
        clear hc e h0
        go_wp2
        go_ret
        rw [HK'.out]
        exact ⟨rfl, rfl⟩
    · have HZ : Hid (C = 0) := by unfold Hid; rw [← HK.out, show n - k = 0 from by omega]; rfl
      go_wp2
      go_ret
      rw [HZ.out]
      exact ⟨rfl, rfl⟩

def tagC (a b a' b' : ByteArray) (i : Nat) : Int := if i = 0 then cmpT a a' else cmpT b b'
def cmpTag (a b a' b' : ByteArray) : Int := tc (tagC a b a' b') 2 0

set_option maxHeartbeats 1000000 in
theorem compareTags_any (a b a' b' : ByteArray) (w : World) :
    Calls Try.prog 98 #[.agg #[.string a, .string b], .agg #[.string a', .string b']] w fun e w' => e = .returned (.int .i64 (cmpTag a b a' b')) ∧ Below w.heap.size w w' := by
  have hB : Below w.heap.size w ((w.alloc (.cells #[.string a, .string b] 114)).alloc (.cells #[.string a', .string b'] 114)) := ((Below.refl _ _).alloc (Nat.le_refl _) _).alloc (by simp) _
  go_enter Try.func98, Try.ntmps98
  go_wp2
  go_region_held3 (fun w' => w'.cell? ⟨w.heap.size, 0, none⟩ = some (.string a) ∧ w'.cell? ⟨w.heap.size, 1, none⟩ = some (.string b) ∧ w'.cell? ⟨w.heap.size + 1, 0, none⟩ = some (.string a') ∧ w'.cell? ⟨w.heap.size + 1, 1, none⟩ = some (.string b')) (go_keep) (first | (go_at_call 96; refine (compare_s _ _ _).mono ?_; rintro e w' ⟨rfl, rfl⟩) | (go_at_call 95; refine (or_any _ 2 2 (tagC a b a' b') _ ?_ (by omega)).mono ?_; (intro i hi; rcases (show i = 0 ∨ i = 1 by omega) with rfl | rfl <;> simp [tagC, go_sem]); rintro e w' ⟨rfl, rfl⟩))
  go_wp2
  go_ret
  exact ⟨rfl, (hB.alloc (by simp; omega) _).drew⟩

theorem cmpTag_eq (a b a' b' : ByteArray) : cmpTag a b a' b' = if cmpT a a' = 0 then cmpT b b' else cmpT a a' := by
  unfold cmpTag
  by_cases h : cmpT a a' = 0
  · by_cases h2 : cmpT b b' = 0 <;> simp [tc, tagC, h, h2]
  · simp [tc, tagC, h]
def tagsC (c : Nat → Int) (n n' : Nat) : Int := if tc c (min n n') 0 = 0 then cmpI n n' else tc c (min n n') 0
theorem tagsC_zero {c : Nat → Int} {n n' : Nat} (h : tc c (min n n') 0 = 0) : tagsC c n n' = cmpI n n' := by unfold tagsC; rw [if_pos h]
theorem tagsC_some {c : Nat → Int} {n n' : Nat} (h : tc c (min n n') 0 ≠ 0) : tagsC c n n' = tc c (min n n') 0 := by unfold tagsC; rw [if_neg h]
theorem tc_step {c : Nat → Int} {M k : Nat} (hk : k < M) (h : c k = 0) : tc c (M - k) k = tc c (M - (k + 1)) (k + 1) := by
  rw [show M - k = (M - (k + 1)) + 1 from by omega]; simp [tc, h]
theorem tc_stop {c : Nat → Int} {M k : Nat} (hk : k < M) (h : c k ≠ 0) : tc c (M - k) k = c k := by
  rw [show M - k = (M - (k + 1)) + 1 from by omega]; simp [tc, h]
theorem tc_end {c : Nat → Int} {M k : Nat} (hk : M ≤ k) : tc c (M - k) k = 0 := by rw [show M - k = 0 from by omega]; rfl
end Go.Proofs.Ytflmbcgokiiedaa
