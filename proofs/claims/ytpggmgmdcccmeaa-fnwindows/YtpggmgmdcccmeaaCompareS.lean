/- Keys compared: texts, numbers, the first that is not nought. / The lists of tags compared by the library's CompareFunc. / Keys compared, the program's text. / Keys compared, the model's text. -/
import Derived.Test.YtpggmgmdcccmeaaSo
import Derived.Deep.RegionHeld3
import Derived.Test.YtpggmgmdcccmeaaGoodKeys
namespace Go.Proofs.Ytpggmgmdcccmeaa
open Go.RowKit
set_option linter.unusedSimpArgs false
set_option linter.unusedVariables false

def cmpT (a b : ByteArray) : Int := if Op.bytesLess a.toList b.toList = true then -1 else if (a.toList == b.toList) = true then 0 else 1
def cmpI (a b : Int) : Int := if a < b then -1 else if b < a then 1 else 0
/-- The first of c k, c (k + 1), .. that is not 0, of t of them. -/
def tc (c : Nat → Int) : Nat → Nat → Int
  | 0, _ => 0
  | t + 1, k => if c k = 0 then tc c t (k + 1) else c k

theorem l1Text_any (a b : ByteArray) (w : World) : Calls Try.prog 71 #[.string a, .string b] w fun e w' => e = .returned (.int .i64 (cmpT a b)) ∧ w' = w := by
  generalize hC : cmpT a b = C
  by_cases h1 : Op.bytesLess a.toList b.toList = true
  · have H : Hid (C = -1) := by unfold Hid; rw [← hC]; simp [cmpT, h1]
    clear hC
    go_enter Try.func71, Try.ntmps71
    go_wp2
    go_ret
    rw [H.out]
    exact ⟨rfl, rfl⟩
  · have h1' : Op.bytesLess a.toList b.toList = false := by simpa using h1
    by_cases h2 : (a.toList == b.toList) = true
    · have H : Hid (C = 0) := by unfold Hid; rw [← hC]; unfold cmpT; rw [if_neg h1, if_pos h2]
      clear hC h1
      go_enter Try.func71, Try.ntmps71
      go_wp2
      go_ret
      rw [H.out]
      exact ⟨rfl, rfl⟩
    · have H : Hid (C = 1) := by unfold Hid; rw [← hC]; unfold cmpT; rw [if_neg h1, if_neg h2]
      have h2' : (a.toList == b.toList) = false := by simpa using h2
      clear hC h1 h2
      go_enter Try.func71, Try.ntmps71
      go_wp2
      go_ret
      rw [H.out]
      exact ⟨rfl, rfl⟩

theorem isNaN_s (a : ByteArray) (w : World) : Calls Try.prog 89 #[.string a] w fun e w' => e = .returned (.bool false) ∧ w' = w := by
  go_enter Try.func89, Try.ntmps89
  go_wp2
  go_ret
  exact ⟨by simp, rfl⟩
theorem isNaN_i (a : Int) (w : World) : Calls Try.prog 90 #[.int .i64 a] w fun e w' => e = .returned (.bool false) ∧ w' = w := by
  go_enter Try.func90, Try.ntmps90
  go_wp2
  go_ret
  exact ⟨by simp, rfl⟩

theorem compare_s (a b : ByteArray) (w : World) : Calls Try.prog 81 #[.string a, .string b] w fun e w' => e = .returned (.int .i64 (cmpT a b)) ∧ w' = w := by
  generalize hC : cmpT a b = C
  by_cases h1 : Op.bytesLess a.toList b.toList = true
  · have H : Hid (C = -1) := by unfold Hid; rw [← hC]; simp [cmpT, h1]
    clear hC
    go_enter Try.func81, Try.ntmps81
    go_wp2_with (go_at_call 89; refine (isNaN_s _ _).mono ?_; rintro e w' ⟨rfl, rfl⟩)
    go_ret
    rw [H.out]
    exact ⟨rfl, rfl⟩
  · have h1' : Op.bytesLess a.toList b.toList = false := by simpa using h1
    by_cases h2 : (a.toList == b.toList) = true
    · have H : Hid (C = 0) := by unfold Hid; rw [← hC]; unfold cmpT; rw [if_neg h1, if_pos h2]
      clear hC h1
      go_enter Try.func81, Try.ntmps81
      go_wp2_with (go_at_call 89; refine (isNaN_s _ _).mono ?_; rintro e w' ⟨rfl, rfl⟩)
      go_ret
      rw [H.out]
      exact ⟨rfl, rfl⟩
    · have H : Hid (C = 1) := by unfold Hid; rw [← hC]; unfold cmpT; rw [if_neg h1, if_neg h2]
      have h2' : (a.toList == b.toList) = false := by simpa using h2
      clear hC h1 h2
      go_enter Try.func81, Try.ntmps81
      go_wp2_with (go_at_call 89; refine (isNaN_s _ _).mono ?_; rintro e w' ⟨rfl, rfl⟩)
      go_ret
      rw [H.out]
      exact ⟨rfl, rfl⟩
theorem compare_i (a b : Int) (w : World) : Calls Try.prog 84 #[.int .i64 a, .int .i64 b] w fun e w' => e = .returned (.int .i64 (cmpI a b)) ∧ w' = w := by
  generalize hC : cmpI a b = C
  by_cases h1 : a < b
  · have H : Hid (C = -1) := by unfold Hid; rw [← hC]; unfold cmpI; rw [if_pos h1]
    clear hC
    go_enter Try.func84, Try.ntmps84
    go_wp2_with (go_at_call 90; refine (isNaN_i _ _).mono ?_; rintro e w' ⟨rfl, rfl⟩)
    go_ret
    rw [H.out]
    exact ⟨rfl, rfl⟩
  · by_cases h2 : b < a
    · have H : Hid (C = 1) := by unfold Hid; rw [← hC]; unfold cmpI; rw [if_neg h1, if_pos h2]
      clear hC
      go_enter Try.func84, Try.ntmps84
      go_wp2_with (go_at_call 90; refine (isNaN_i _ _).mono ?_; rintro e w' ⟨rfl, rfl⟩)
      go_ret
      rw [H.out]
      exact ⟨rfl, rfl⟩
    · have H : Hid (C = 0) := by unfold Hid; rw [← hC]; unfold cmpI; rw [if_neg h1, if_neg h2]
      clear hC
      go_enter Try.func84, Try.ntmps84
      go_wp2_with (go_at_call 90; refine (isNaN_i _ _).mono ?_; rintro e w' ⟨rfl, rfl⟩)
      go_ret
      rw [H.out]
      exact ⟨rfl, rfl⟩

set_option maxHeartbeats 400000 in
theorem or_any (b n cap : Nat) (c : Nat → Int) (w : World) (hc : ∀ i, i < n → w.cell? ⟨b, i, none⟩ = some (.int .i64 (c i))) (hn : n ≤ 8) :
    Calls Try.prog 80 #[.slice (some ⟨b, 0, none⟩) n cap] w fun e w' => e = .returned (.int .i64 (tc c n 0)) ∧ w' = w := by
  generalize hC : tc c n 0 = C
  have HC : Hid (tc c n 0 = C) := hC
  clear hC
  go_enter Try.func80, Try.ntmps80
  go_wp2
  go_loopw [8] (fun i wr => ∃ k : Nat, k ≤ n ∧ i = .int .i64 k ∧ Hid (tc c (n - k) k = C) ∧ wr = w) (fun i _ => n - (intOf i).toNat)
  case atStart => exact ⟨0, by omega, rfl, HC, rfl⟩
  case round =>
    obtain ⟨k, hk, rfl, HK, rfl⟩ := hrel
    by_cases hlt : k < n
    · have h1 := hc k hlt
      have e : n - k = (n - (k + 1)) + 1 := by omega
      by_cases h0 : c k = 0
      · have HK' : Hid (tc c (n - (k + 1)) (k + 1) = C) := by unfold Hid; rw [← HK.out, e]; simp [tc, h0]
        have h0' : (c k != 0) = false := by simp [h0]
        clear hc e h0
        go_wp2
        go_roundw
        case rel => exact ⟨k + 1, by omega, by go_num, HK', trivial⟩
        case measure => simp [intOf]; omega
      · have HK' : Hid (c k = C) := by unfold Hid; rw [← HK.out, e]; simp [tc, h0]
        have h0' : (c k != 0) = true := by simp [h0]
        clear hc e h0
        go_wp2
        go_ret
        rw [HK'.out]
        exact ⟨rfl, rfl⟩
    · have HZ : Hid (C = 0) := by unfold Hid; rw [← HK.out, show n - k = 0 from by omega]; rfl
      go_wp2
      go_ret
      rw [HZ.out]
      exact ⟨rfl, rfl⟩

def tagC (a b a' b' : ByteArray) (i : Nat) : Int := if i = 0 then cmpT a a' else cmpT b b'
def cmpTag (a b a' b' : ByteArray) : Int := tc (tagC a b a' b') 2 0

set_option maxHeartbeats 1000000 in
theorem compareTags_any (a b a' b' : ByteArray) (w : World) :
    Calls Try.prog 83 #[.agg #[.string a, .string b], .agg #[.string a', .string b']] w fun e w' => e = .returned (.int .i64 (cmpTag a b a' b')) ∧ Below w.heap.size w w' := by
  have hB : Below w.heap.size w ((w.alloc (.cells #[.string a, .string b] 92)).alloc (.cells #[.string a', .string b'] 92)) := ((Below.refl _ _).alloc (Nat.le_refl _) _).alloc (by simp) _
  go_enter Try.func83, Try.ntmps83
  go_wp2
  go_region_held3 (fun w' => w'.cell? ⟨w.heap.size, 0, none⟩ = some (.string a) ∧ w'.cell? ⟨w.heap.size, 1, none⟩ = some (.string b) ∧ w'.cell? ⟨w.heap.size + 1, 0, none⟩ = some (.string a') ∧ w'.cell? ⟨w.heap.size + 1, 1, none⟩ = some (.string b')) (go_keep) (first | (go_at_call 81; refine (compare_s _ _ _).mono ?_; rintro e w' ⟨rfl, rfl⟩) | (go_at_call 80; refine (or_any _ 2 2 (tagC a b a' b') _ ?_ (by omega)).mono ?_; (intro i hi; rcases (show i = 0 ∨ i = 1 by omega) with rfl | rfl <;> simp [tagC, go_sem]); rintro e w' ⟨rfl, rfl⟩))
  go_wp2
  go_ret
  exact ⟨rfl, (hB.alloc (by simp; omega) _).drew⟩

theorem cmpTag_eq (a b a' b' : ByteArray) : cmpTag a b a' b' = if cmpT a a' = 0 then cmpT b b' else cmpT a a' := by
  unfold cmpTag
  by_cases h : cmpT a a' = 0
  · by_cases h2 : cmpT b b' = 0 <;> simp [tc, tagC, h, h2]
  · simp [tc, tagC, h]
def tagsC (c : Nat → Int) (n n' : Nat) : Int := if tc c (min n n') 0 = 0 then cmpI n n' else tc c (min n n') 0
theorem tagsC_zero {c : Nat → Int} {n n' : Nat} (h : tc c (min n n') 0 = 0) : tagsC c n n' = cmpI n n' := by unfold tagsC; rw [if_pos h]
theorem tagsC_some {c : Nat → Int} {n n' : Nat} (h : tc c (min n n') 0 ≠ 0) : tagsC c n n' = tc c (min n n') 0 := by unfold tagsC; rw [if_neg h]
theorem tc_step {c : Nat → Int} {M k : Nat} (hk : k < M) (h : c k = 0) : tc c (M - k) k = tc c (M - (k + 1)) (k + 1) := by
  rw [show M - k = (M - (k + 1)) + 1 from by omega]; simp [tc, h]
theorem tc_stop {c : Nat → Int} {M k : Nat} (hk : k < M) (h : c k ≠ 0) : tc c (M - k) k = c k := by
  rw [show M - k = (M - (k + 1)) + 1 from by omega]; simp [tc, h]
theorem tc_end {c : Nat → Int} {M k : Nat} (hk : M ≤ k) : tc c (M - k) k = 0 := by rw [show M - k = 0 from by omega]; rfl
end Go.Proofs.Ytpggmgmdcccmeaa
namespace Go.Proofs.Ytpggmgmdcccmeaa
open Go.RowKit
set_option linter.unusedSimpArgs false
set_option linter.unusedVariables false

theorem cmpI_less {a b : Nat} (h : a < b) : cmpI a b = -1 := by unfold cmpI; rw [if_pos (by omega)]
theorem cmpI_more {a b : Nat} (h : b < a) : cmpI a b = 1 := by unfold cmpI; rw [if_neg (by omega), if_pos (by omega)]
theorem cmpI_same {a b : Nat} (h : a = b) : cmpI a b = 0 := by unfold cmpI; rw [if_neg (by omega), if_neg (by omega)]

set_option maxHeartbeats 1000000 in
theorem compareFunc_any (ao bo : Option Addr) (n n' ca cb : Nat) (nm vl nm' vl' : Nat → ByteArray) (w : World) (hr : TRow w ao n nm vl) (hr' : TRow w bo n' nm' vl') (hn : n ≤ 1048576) (hn' : n' ≤ 1048576) :
    Calls Try.prog 82 #[.slice ao n ca, .slice bo n' cb, .func (.func 83) #[] #[]] w fun e w' => e = .returned (.int .i64 (tagsC (fun k => cmpTag (nm k) (vl k) (nm' k) (vl' k)) n n')) ∧ Below w.heap.size w w' := by
  obtain ⟨hl⟩ := hr
  obtain ⟨hl'⟩ := hr'
  generalize hc : (fun k => cmpTag (nm k) (vl k) (nm' k) (vl' k)) = c
  have HC : Hid (∀ k, cmpTag (nm k) (vl k) (nm' k) (vl' k) = c k) := fun k => by rw [← hc]
  clear hc
  generalize hT : tagsC c n n' = T
  have HT : Hid (tagsC c n n' = T) := hT
  clear hT
  go_enter Try.func82, Try.ntmps82
  go_wp2
  go_loopw [13] (fun i wr => ∃ k : Nat, k ≤ n ∧ k ≤ n' ∧ i = .int .i64 k ∧ Hid (tc c (min n n' - k) k = tc c (min n n') 0) ∧ Below w.heap.size w wr) (fun i _ => n - (intOf i).toNat)
  case atStart => exact ⟨0, Nat.zero_le _, Nat.zero_le _, rfl, rfl, Below.refl _ _⟩
  case round =>
    obtain ⟨k, hk, hk', rfl, HK, hbk⟩ := hrel
    have hbn := fun O => hbk.alloc (B := w.heap.size) hbk.size O
    by_cases hlt : k < n
    · obtain ⟨b, off, rfl, hblt, hc⟩ := hl.resolve_left (by omega)
      have hc1 : wr.cell? ⟨b, off + k * 2, none⟩ = some (.string (nm k)) := (hbk.cell (p := ⟨b, off + k * 2, none⟩) hblt).trans (hc k hlt).1
      have hc2 : wr.cell? ⟨b, off + k * 2 + 1, none⟩ = some (.string (vl k)) := (hbk.cell (p := ⟨b, off + k * 2 + 1, none⟩) hblt).trans (hc k hlt).2
      by_cases hlt' : k < n'
      · obtain ⟨b', off', rfl, hblt', hc'⟩ := hl'.resolve_left (by omega)
        have e1 : wr.cell? ⟨b', off' + k * 2, none⟩ = some (.string (nm' k)) := (hbk.cell (p := ⟨b', off' + k * 2, none⟩) hblt').trans (hc' k hlt').1
        have e2 : wr.cell? ⟨b', off' + k * 2 + 1, none⟩ = some (.string (vl' k)) := (hbk.cell (p := ⟨b', off' + k * 2 + 1, none⟩) hblt').trans (hc' k hlt').2
        have hne : b' < wr.heap.size := Nat.lt_of_lt_of_le hblt' hbk.size
        have e1' : ∀ O, (wr.alloc O).cell? ⟨b', off' + k * 2, none⟩ = some (.string (nm' k)) := fun O => (World.cell?_alloc_old _ _ _ (Nat.ne_of_lt hne)).trans e1
        have e2' : ∀ O, (wr.alloc O).cell? ⟨b', off' + k * 2 + 1, none⟩ = some (.string (vl' k)) := fun O => (World.cell?_alloc_old _ _ _ (Nat.ne_of_lt hne)).trans e2
        have hbm := fun O O' => (hbn O).alloc (B := w.heap.size) (hbn O).size O'
        clear hc hc' hl hl'
        go_wp2_with fail
        refine (compareTags_any _ _ _ _ _).mono ?_
        rintro e w2 ⟨rfl, hb2⟩
        rw [HC.out]
        have hbw : Below w.heap.size w w2 := (hbm _ _).trans (hb2.mono (hbm _ _).size)
        clear hb2
        by_cases h0 : c k = 0
        · have HK' : Hid (tc c (min n n' - (k + 1)) (k + 1) = tc c (min n n') 0) := (tc_step (by omega) h0).symm.trans HK.out
          have h0' : (c k != 0) = false := by simp [h0]
          clear h0
          go_wp2
          go_roundw
          case rel => exact ⟨k + 1, by omega, by omega, by go_num, HK', hbw⟩
          case measure => simp [intOf]; omega
        · have HK' : Hid (c k = T) := by
            have e : tc c (min n n') 0 = c k := HK.out.symm.trans (tc_stop (by omega) h0)
            unfold Hid; rw [← HT.out, tagsC_some (by rw [e]; exact h0), e]
          have h0' : (c k != 0) = true := by simp [h0]
          clear h0
          go_wp2
          go_ret
          rw [HK'.out]
          exact ⟨rfl, hbw⟩
      · have HZ : Hid (T = 1) := by
          have e : tc c (min n n') 0 = 0 := HK.out.symm.trans (tc_end (by omega))
          unfold Hid; rw [← HT.out, tagsC_zero e, cmpI_more (by omega)]
        have hge : (n' : Int) ≤ (k : Int) := by omega
        clear hc hl hl'
        go_wp2
        go_ret
        rw [HZ.out]
        exact ⟨rfl, hbn _⟩
    · have e : tc c (min n n') 0 = 0 := HK.out.symm.trans (tc_end (by omega))
      by_cases hl2 : n < n'
      · have HZ : Hid (T = -1) := by unfold Hid; rw [← HT.out, tagsC_zero e, cmpI_less hl2]
        clear e
        go_wp2
        go_ret
        rw [HZ.out]
        exact ⟨rfl, hbk⟩
      · have HZ : Hid (T = 0) := by unfold Hid; rw [← HT.out, tagsC_zero e, cmpI_same (by omega)]
        clear e
        go_wp2
        go_ret
        rw [HZ.out]
        exact ⟨rfl, hbk⟩

def keyC (m m' : ByteArray) (st st' : Int) (t : Int) (i : Nat) : Int := if i = 0 then cmpT m m' else if i = 1 then t else cmpI st st'
/-- What CompareKeys answers of good keys. -/
def keyCmp (m m' : ByteArray) (st st' : Int) (n n' : Nat) (nm vl nm' vl' : Nat → ByteArray) : Int :=
  tc (keyC m m' st st' (tagsC (fun k => cmpTag (nm k) (vl k) (nm' k) (vl' k)) n n')) 3 0
end Go.Proofs.Ytpggmgmdcccmeaa
namespace Go.Proofs.Ytpggmgmdcccmeaa
open Go.RowKit
set_option linter.unusedSimpArgs false
set_option linter.unusedVariables false

set_option maxHeartbeats 4000000 in
theorem compareKeys_impl_good (m m' : ByteArray) (st st' : Int) (ao bo : Option Addr) (n n' ca cb : Nat) (nm vl nm' vl' : Nat → ByteArray) (w : World) (hr : TRow w ao n nm vl) (hr' : TRow w bo n' nm' vl')
    (hm : m.size ≤ 1048576) (hm' : m'.size ≤ 1048576) (hn : n ≤ 1048576) (hn' : n' ≤ 1048576) (hs : TSize n nm vl 1048576) (hs' : TSize n' nm' vl' 1048576)
    (hG : Hid (goodB m n nm vl st = true)) (hG' : Hid (goodB m' n' nm' vl' st' = true)) :
    Calls Try.prog 67 #[.agg #[.string m, .slice ao n ca, .int .i64 st], .agg #[.string m', .slice bo n' cb, .int .i64 st']] w fun e w' => e = .returned (.int .i64 (keyCmp m m' st st' n n' nm vl nm' vl')) ∧ Below w.heap.size w w' := by
  have hB : Below w.heap.size w ((w.alloc (.cells #[.string m, .slice ao n ca, .int .i64 st] 32)).alloc (.cells #[.string m', .slice bo n' cb, .int .i64 st'] 32)) := ((Below.refl _ _).alloc (Nat.le_refl _) _).alloc (by simp) _
  have ka : KAt ((w.alloc (.cells #[.string m, .slice ao n ca, .int .i64 st] 32)).alloc (.cells #[.string m', .slice bo n' cb, .int .i64 st'] 32)) w.heap.size m (.slice ao n ca) st := (KAt.new w m (.slice ao n ca) st 32).keep ((Below.refl _ _).alloc (Nat.le_refl _) _)
  have kb : KAt ((w.alloc (.cells #[.string m, .slice ao n ca, .int .i64 st] 32)).alloc (.cells #[.string m', .slice bo n' cb, .int .i64 st'] 32)) (w.heap.size + 1) m' (.slice bo n' cb) st' := by
    have := KAt.new (w.alloc (.cells #[.string m, .slice ao n ca, .int .i64 st] 32)) m' (.slice bo n' cb) st' 32
    simpa using this
  go_enter Try.func67, Try.ntmps67
  go_wp2_with fail
  refine (goodKey_impl m st ao n ca nm vl _ (hr.keep hB) hm hn hs).mono ?_
  rintro e w1 ⟨rfl, hb1⟩
  rw [hG.out]
  have ka1 := ka.keep hb1
  have kb1 := kb.keep hb1
  have hbw1 : Below w.heap.size w w1 := hB.trans (hb1.mono (by simp; omega))
  clear ka kb hB hb1
  obtain ⟨la, a0, a1, a2⟩ := ka1
  obtain ⟨lb, b0, b1, b2⟩ := kb1
  go_wp2_with fail
  refine (goodKey_impl m' st' bo n' cb nm' vl' _ (hr'.keep hbw1) hm' hn' hs').mono ?_
  rintro e w2 ⟨rfl, hb2⟩
  rw [hG'.out]
  obtain ⟨la, a0, a1, a2⟩ := KAt.keep ⟨la, a0, a1, a2⟩ hb2
  obtain ⟨lb, b0, b1, b2⟩ := KAt.keep ⟨lb, b0, b1, b2⟩ hb2
  have hbw2 : Below w.heap.size w w2 := hbw1.trans (hb2.mono hbw1.size)
  have hra := hr.keep hbw2
  have hrb := hr'.keep hbw2
  clear hb2 hbw1
  have hsz := hbw2.size
  go_wp2
  go_region_held3 (fun w' => w'.cell? ⟨w.heap.size, 0, none⟩ = some (.string m) ∧ w'.cell? ⟨w.heap.size, 1, none⟩ = some (.slice ao n ca) ∧ w'.cell? ⟨w.heap.size, 2, none⟩ = some (.int .i64 st) ∧ w'.cell? ⟨w.heap.size + 1, 0, none⟩ = some (.string m') ∧ w'.cell? ⟨w.heap.size + 1, 1, none⟩ = some (.slice bo n' cb) ∧ w'.cell? ⟨w.heap.size + 1, 2, none⟩ = some (.int .i64 st')) (go_keep) (first | (go_at_call 81; refine (compare_s _ _ _).mono ?_; rintro e w' ⟨rfl, rfl⟩) | (go_at_call 84; refine (compare_i _ _ _).mono ?_; rintro e w' ⟨rfl, rfl⟩) | (go_at_call 82; refine (compareFunc_any ao bo n n' ca cb nm vl nm' vl' _ ?_ ?_ hn hn').mono ?_; exact hra.keep (Below.refl _ _).drew; exact hrb.keep (Below.refl _ _).drew; rintro e w3 ⟨rfl, hb3⟩; have s0 := (hb3.cell (p := ⟨w.heap.size, 0, none⟩) la).trans a0; have s1 := (hb3.cell (p := ⟨w.heap.size, 1, none⟩) la).trans a1; have s2 := (hb3.cell (p := ⟨w.heap.size, 2, none⟩) la).trans a2; have t0 := (hb3.cell (p := ⟨w.heap.size + 1, 0, none⟩) lb).trans b0; have t1 := (hb3.cell (p := ⟨w.heap.size + 1, 1, none⟩) lb).trans b1; have t2 := (hb3.cell (p := ⟨w.heap.size + 1, 2, none⟩) lb).trans b2; have hbw3 : Below w.heap.size w w3 := hbw2.drew.trans (hb3.mono hsz); clear hb3) | (go_at_call 80; refine (or_any _ 3 3 (keyC m m' st st' (tagsC (fun k => cmpTag (nm k) (vl k) (nm' k) (vl' k)) n n')) _ ?_ (by omega)).mono ?_; (intro i hi; rcases (show i = 0 ∨ i = 1 ∨ i = 2 by omega) with rfl | rfl | rfl <;> simp [keyC, go_sem]); rintro e w' ⟨rfl, rfl⟩))
  all_goals
    go_wp2
    go_ret
    exact ⟨rfl, hbw3.alloc hbw3.size _⟩
end Go.Proofs.Ytpggmgmdcccmeaa
namespace Go.Proofs.Ytpggmgmdcccmeaa
open Go.RowKit
set_option linter.unusedSimpArgs false
set_option linter.unusedVariables false

theorem keyCmp_m {m m' : ByteArray} {st st' : Int} {n n' : Nat} {nm vl nm' vl' : Nat → ByteArray} (h : cmpT m m' ≠ 0) : keyCmp m m' st st' n n' nm vl nm' vl' = cmpT m m' := by
  unfold keyCmp; simp [tc, keyC, h]
theorem keyCmp_t {m m' : ByteArray} {st st' : Int} {n n' : Nat} {nm vl nm' vl' : Nat → ByteArray} (h : cmpT m m' = 0) (h2 : tagsC (fun k => cmpTag (nm k) (vl k) (nm' k) (vl' k)) n n' ≠ 0) : keyCmp m m' st st' n n' nm vl nm' vl' = tagsC (fun k => cmpTag (nm k) (vl k) (nm' k) (vl' k)) n n' := by
  unfold keyCmp; simp [tc, keyC, h, h2]
theorem keyCmp_s {m m' : ByteArray} {st st' : Int} {n n' : Nat} {nm vl nm' vl' : Nat → ByteArray} (h : cmpT m m' = 0) (h2 : tagsC (fun k => cmpTag (nm k) (vl k) (nm' k) (vl' k)) n n' = 0) : keyCmp m m' st st' n n' nm vl nm' vl' = cmpI st st' := by
  unfold keyCmp
  by_cases h3 : cmpI st st' = 0 <;> simp [tc, keyC, h, h2, h3]

theorem l1Text_is (a b : ByteArray) (C : Int) (h : Hid (cmpT a b = C)) (w : World) : Calls Try.prog 71 #[.string a, .string b] w fun e w' => e = .returned (.int .i64 C) ∧ w' = w := by
  have := l1Text_any a b w
  rw [h.out] at this
  exact this

set_option maxHeartbeats 4000000 in
theorem l1Compare_any (m m' : ByteArray) (st st' : Int) (ao bo : Option Addr) (n n' ca cb : Nat) (nm vl nm' vl' : Nat → ByteArray) (w : World) (hr : TRow w ao n nm vl) (hr' : TRow w bo n' nm' vl')
    (hn : n ≤ 1048576) (hn' : n' ≤ 1048576) (hst : 0 ≤ st ∧ st ≤ 1000000000) (hst' : 0 ≤ st' ∧ st' ≤ 1000000000) :
    Calls Try.prog 50 #[.agg #[.string m, .slice ao n ca, .int .i64 st], .agg #[.string m', .slice bo n' cb, .int .i64 st']] w fun e w' => e = .returned (.int .i64 (keyCmp m m' st st' n n' nm vl nm' vl')) ∧ Below w.heap.size w w' := by
  obtain ⟨hl⟩ := hr
  obtain ⟨hl'⟩ := hr'
  have hB : Below w.heap.size w ((w.alloc (.cells #[.string m, .slice ao n ca, .int .i64 st] 32)).alloc (.cells #[.string m', .slice bo n' cb, .int .i64 st'] 32)) := ((Below.refl _ _).alloc (Nat.le_refl _) _).alloc (by simp) _
  have ka : KAt ((w.alloc (.cells #[.string m, .slice ao n ca, .int .i64 st] 32)).alloc (.cells #[.string m', .slice bo n' cb, .int .i64 st'] 32)) w.heap.size m (.slice ao n ca) st := (KAt.new w m (.slice ao n ca) st 32).keep ((Below.refl _ _).alloc (Nat.le_refl _) _)
  have kb : KAt ((w.alloc (.cells #[.string m, .slice ao n ca, .int .i64 st] 32)).alloc (.cells #[.string m', .slice bo n' cb, .int .i64 st'] 32)) (w.heap.size + 1) m' (.slice bo n' cb) st' := by
    have := KAt.new (w.alloc (.cells #[.string m, .slice ao n ca, .int .i64 st] 32)) m' (.slice bo n' cb) st' 32
    simpa using this
  generalize hT : keyCmp m m' st st' n n' nm vl nm' vl' = T
  have HT : Hid (keyCmp m m' st st' n n' nm vl nm' vl' = T) := hT
  clear hT
  generalize h1 : cmpT m m' = c1
  have H1 : Hid (cmpT m m' = c1) := h1
  clear h1
  go_enter Try.func50, Try.ntmps50
  go_wp2_with fail
  refine (l1Text_is _ _ c1 H1 _).mono ?_
  rintro e w1 ⟨rfl, rfl⟩
  by_cases hc1 : c1 = 0
  · have hc1' : (c1 != 0) = false := by simp [hc1]
    have HT2 : Hid (∀ t, tagsC (fun k => cmpTag (nm k) (vl k) (nm' k) (vl' k)) n n' = t → T = if t = 0 then cmpI st st' else t) := fun t ht => by
      by_cases h0 : t = 0
      · rw [if_pos h0, ← HT.out, keyCmp_s (H1.out.trans hc1) (ht.trans h0)]
      · rw [if_neg h0, ← HT.out, keyCmp_t (H1.out.trans hc1) (by rw [ht]; exact h0), ht]
    clear hc1 HT
    generalize hcc : (fun k => cmpTag (nm k) (vl k) (nm' k) (vl' k)) = c at HT2
    have HC : Hid (∀ k, (if cmpT (nm k) (nm' k) = 0 then cmpT (vl k) (vl' k) else cmpT (nm k) (nm' k)) = c k) := fun k => by rw [← hcc]; exact (cmpTag_eq _ _ _ _).symm
    clear hcc
    generalize hW : ((w.alloc (.cells #[.string m, .slice ao n ca, .int .i64 st] 32)).alloc (.cells #[.string m', .slice bo n' cb, .int .i64 st'] 32)) = W at *
    have hWs : w.heap.size + 2 = W.heap.size := by rw [← hW]; simp
    clear hW
    go_wp2
    go_loopw [6] (fun i wr => ∃ k : Nat, k ≤ n ∧ k ≤ n' ∧ i = .int .i64 k ∧ Hid (tc c (min n n' - k) k = tc c (min n n') 0) ∧ Below W.heap.size W wr) (fun i _ => n - (intOf i).toNat)
    case atStart => exact ⟨0, Nat.zero_le _, Nat.zero_le _, rfl, rfl, Below.refl _ _⟩
    case round =>
      obtain ⟨k, hk, hk', rfl, HK, hbk⟩ := hrel
      obtain ⟨la, a0, a1, a2⟩ := ka.keep hbk
      obtain ⟨lb, b0, b1, b2⟩ := kb.keep hbk
      have hbw : Below w.heap.size w wr := hB.trans (hbk.mono hB.size)
      by_cases hlt : k < n
      · by_cases hlt' : k < n'
        · obtain ⟨b, off, rfl, hblt, hc⟩ := hl.resolve_left (by omega)
          obtain ⟨b', off', rfl, hblt', hc'⟩ := hl'.resolve_left (by omega)
          have d1 : wr.cell? ⟨b, off + k * 2, none⟩ = some (.string (nm k)) := (hbw.cell (p := ⟨b, off + k * 2, none⟩) hblt).trans (hc k hlt).1
          have d2 : wr.cell? ⟨b, off + k * 2 + 1, none⟩ = some (.string (vl k)) := (hbw.cell (p := ⟨b, off + k * 2 + 1, none⟩) hblt).trans (hc k hlt).2
          have e1 : wr.cell? ⟨b', off' + k * 2, none⟩ = some (.string (nm' k)) := (hbw.cell (p := ⟨b', off' + k * 2, none⟩) hblt').trans (hc' k hlt').1
          have e2 : wr.cell? ⟨b', off' + k * 2 + 1, none⟩ = some (.string (vl' k)) := (hbw.cell (p := ⟨b', off' + k * 2 + 1, none⟩) hblt').trans (hc' k hlt').2
          have q1 : (k : Int) < (n : Int) := by omega
          have q2 : (k : Int) < (n' : Int) := by omega
          generalize h2 : cmpT (nm k) (nm' k) = c2
          have H2 : Hid (cmpT (nm k) (nm' k) = c2) := h2
          clear h2
          generalize h3 : cmpT (vl k) (vl' k) = c3
          have H3 : Hid (cmpT (vl k) (vl' k) = c3) := h3
          clear h3
          have HCk : Hid ((if c2 = 0 then c3 else c2) = c k) := by have := HC.out k; rw [H2.out, H3.out] at this; exact this
          clear hc hc' hl hl'
          by_cases hz2 : c2 = 0
          · have hz2' : (c2 != 0) = false := by simp [hz2]
            have HCk2 : Hid (c3 = c k) := by have := HCk.out; rw [if_pos hz2] at this; exact this
            clear hz2 HCk
            by_cases hz3 : c3 = 0
            · have hz3' : (c3 != 0) = false := by simp [hz3]
              have HK' : Hid (tc c (min n n' - (k + 1)) (k + 1) = tc c (min n n') 0) := (tc_step (by omega) (HCk2.out.symm.trans hz3)).symm.trans HK.out
              clear hz3
              go_wp2
              go_quiet ((go_at_call 71; exact Calls.quiet_of_same (l1Text_is _ _ _ H2 _)))
              go_wp2
              go_quiet ((go_at_call 71; exact (l1Text_is _ _ _ H3 _).mono fun e w' h => ⟨h.1, _, h.2⟩))
              go_wp2
              go_roundw
              case rel => exact ⟨k + 1, by omega, by omega, by go_num, HK', below_drewN hbk _⟩
              case measure => simp [intOf]; omega
            · have hz3' : (c3 != 0) = true := by simp [hz3]
              have HF : Hid (T = c3) := by
                have e : tc c (min n n') 0 = c3 := by rw [HCk2.out]; exact HK.out.symm.trans (tc_stop (by omega) (by rw [← HCk2.out]; exact hz3))
                have := HT2.out c3 (by rw [tagsC_some (by rw [e]; exact hz3), e])
                rw [if_neg hz3] at this; exact this
              clear hz3
              go_wp2
              go_quiet ((go_at_call 71; exact Calls.quiet_of_same (l1Text_is _ _ _ H2 _)))
              go_wp2
              go_quiet ((go_at_call 71; exact (l1Text_is _ _ _ H3 _).mono fun e w' h => ⟨h.1, _, h.2⟩))
              go_wp2
              go_ret
              rw [HF.out]
              exact ⟨rfl, below_drewN hbw _⟩
          · have hz2' : (c2 != 0) = true := by simp [hz2]
            have HCk2 : Hid (c2 = c k) := by have := HCk.out; rw [if_neg hz2] at this; exact this
            have HF : Hid (T = c2) := by
              have e : tc c (min n n') 0 = c2 := by rw [HCk2.out]; exact HK.out.symm.trans (tc_stop (by omega) (by rw [← HCk2.out]; exact hz2))
              have := HT2.out c2 (by rw [tagsC_some (by rw [e]; exact hz2), e])
              rw [if_neg hz2] at this; exact this
            clear hz2 HCk
            go_wp2
            go_quiet ((go_at_call 71; exact Calls.quiet_of_same (l1Text_is _ _ _ H2 _)))
            go_wp2
            go_ret
            rw [HF.out]
            exact ⟨rfl, below_drewN hbw _⟩
        · have e : tc c (min n n') 0 = 0 := HK.out.symm.trans (tc_end (by omega))
          have HF : Hid (T = 1) := by
            have := HT2.out 1 (by rw [tagsC_zero e, cmpI_more (by omega)])
            unfold Hid; simpa using this
          have q1 : (k : Int) < (n : Int) := by omega
          have q2 : decide ((k : Int) < (n' : Int)) = false := by simp; omega
          have q3 : ((n : Int) - (n' : Int) == 0) = false := by simp; omega
          clear e hl hl'
          go_wp2
          go_ret
          rw [HF.out]
          exact ⟨rfl, hbw⟩
      · have e : tc c (min n n') 0 = 0 := HK.out.symm.trans (tc_end (by omega))
        have q1 : decide ((k : Int) < (n : Int)) = false := by simp; omega
        by_cases hl2 : n < n'
        · have HF : Hid (T = -1) := by
            have := HT2.out (-1) (by rw [tagsC_zero e, cmpI_less hl2])
            unfold Hid; simpa using this
          have q3 : ((n : Int) - (n' : Int) == 0) = false := by simp; omega
          clear e hl hl'
          go_wp2
          go_ret
          rw [HF.out]
          exact ⟨rfl, hbw⟩
        · have HF : Hid (T = cmpI st st') := by
            have := HT2.out 0 (by rw [tagsC_zero e, cmpI_same (by omega)])
            unfold Hid; simpa using this
          have q3 : ((n : Int) - (n' : Int) == 0) = true := by simp; omega
          clear e hl hl'
          by_cases g1 : st < st'
          · have HF2 : Hid (T = -1) := by unfold Hid; rw [HF.out]; unfold cmpI; rw [if_pos g1]
            have g2 : st - st' < 0 := by omega
            go_wp2
            go_ret
            rw [HF2.out]
            exact ⟨rfl, hbw⟩
          · by_cases g2 : st' < st
            · have HF2 : Hid (T = 1) := by unfold Hid; rw [HF.out]; unfold cmpI; rw [if_neg g1, if_pos g2]
              have g3 : ¬ st - st' < 0 := by omega
              have g4 : 0 < st - st' := by omega
              go_wp2
              go_ret
              rw [HF2.out]
              exact ⟨rfl, hbw⟩
            · have HF2 : Hid (T = 0) := by unfold Hid; rw [HF.out]; unfold cmpI; rw [if_neg g1, if_neg g2]
              have g3 : ¬ st - st' < 0 := by omega
              have g4 : ¬ 0 < st - st' := by omega
              go_wp2
              go_ret
              rw [HF2.out]
              exact ⟨rfl, hbw⟩
  · have hc1' : (c1 != 0) = true := by simp [hc1]
    have HF : Hid (T = c1) := by unfold Hid; rw [← HT.out, keyCmp_m (by rw [H1.out]; exact hc1), H1.out]
    clear hc1
    go_wp2
    go_ret
    rw [HF.out]
    exact ⟨rfl, hB⟩
end Go.Proofs.Ytpggmgmdcccmeaa
