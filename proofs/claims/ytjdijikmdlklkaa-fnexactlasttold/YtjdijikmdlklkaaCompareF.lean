/- A key in memory. / Keys compared: texts, numbers, the first that is not nought. / The lists of tags compared by the library's CompareFunc. -/
import Derived.Test.YtjdijikmdlklkaaSzKey
import Derived.Deep.RegionHeld3
namespace Go.Proofs.Ytjdijikmdlklkaa
open Go.RowKit
set_option linter.unusedSimpArgs false
set_option linter.unusedVariables false

/-- A key lies in block b. -/
structure KAt (w : World) (b : Nat) (m : ByteArray) (sv : Value) (st : Int) : Prop where
  lt : b < w.heap.size
  c0 : w.cell? ⟨b, 0, none⟩ = some (.string m)
  c1 : w.cell? ⟨b, 1, none⟩ = some sv
  c2 : w.cell? ⟨b, 2, none⟩ = some (.int .i64 st)
theorem KAt.keep {w w' : World} {b : Nat} {m : ByteArray} {sv : Value} {st : Int} (h : KAt w b m sv st) (hb : Below w.heap.size w w') : KAt w' b m sv st :=
  ⟨Nat.lt_of_lt_of_le h.lt hb.size, (hb.cell (p := ⟨b, 0, none⟩) h.lt).trans h.c0, (hb.cell (p := ⟨b, 1, none⟩) h.lt).trans h.c1, (hb.cell (p := ⟨b, 2, none⟩) h.lt).trans h.c2⟩
theorem KAt.new (w : World) (m : ByteArray) (sv : Value) (st : Int) (T : Nat) : KAt (w.alloc (.cells #[.string m, sv, .int .i64 st] T)) w.heap.size m sv st :=
  ⟨by simp, by simp [go_sem], by simp [go_sem], by simp [go_sem]⟩

end Go.Proofs.Ytjdijikmdlklkaa
namespace Go.Proofs.Ytjdijikmdlklkaa
open Go.RowKit
set_option linter.unusedSimpArgs false
set_option linter.unusedVariables false

def cmpT (a b : ByteArray) : Int := if Op.bytesLess a.toList b.toList = true then -1 else if (a.toList == b.toList) = true then 0 else 1
def cmpI (a b : Int) : Int := if a < b then -1 else if b < a then 1 else 0
/-- The first of c k, c (k + 1), .. that is not 0, of t of them. -/
def tc (c : Nat → Int) : Nat → Nat → Int
  | 0, _ => 0
  | t + 1, k => if c k = 0 then tc c t (k + 1) else c k

theorem l1Text_any (a b : ByteArray) (w : World) : Calls Try.prog 32 #[.string a, .string b] w fun e w' => e = .returned (.int .i64 (cmpT a b)) ∧ w' = w := by
  generalize hC : cmpT a b = C
  by_cases h1 : Op.bytesLess a.toList b.toList = true
  · have H : Hid (C = -1) := by unfold Hid; rw [← hC]; simp [cmpT, h1]
    clear hC
    go_enter Try.func32, Try.ntmps32
    go_wp2
    go_ret
    rw [H.out]
    exact ⟨rfl, rfl⟩
  · have h1' : Op.bytesLess a.toList b.toList = false := by simpa using h1
    by_cases h2 : (a.toList == b.toList) = true
    · have H : Hid (C = 0) := by unfold Hid; rw [← hC]; unfold cmpT; rw [if_neg h1, if_pos h2]
      clear hC h1
      go_enter Try.func32, Try.ntmps32
      go_wp2
      go_ret
      rw [H.out]
      exact ⟨rfl, rfl⟩
    · have H : Hid (C = 1) := by unfold Hid; rw [← hC]; unfold cmpT; rw [if_neg h1, if_neg h2]
      have h2' : (a.toList == b.toList) = false := by simpa using h2
      clear hC h1 h2
      go_enter Try.func32, Try.ntmps32
      go_wp2
      go_ret
      rw [H.out]
      exact ⟨rfl, rfl⟩

theorem isNaN_s (a : ByteArray) (w : World) : Calls Try.prog 55 #[.string a] w fun e w' => e = .returned (.bool false) ∧ w' = w := by
  go_enter Try.func55, Try.ntmps55
  go_wp2
  go_ret
  exact ⟨by simp, rfl⟩
theorem isNaN_i (a : Int) (w : World) : Calls Try.prog 54 #[.int .i64 a] w fun e w' => e = .returned (.bool false) ∧ w' = w := by
  go_enter Try.func54, Try.ntmps54
  go_wp2
  go_ret
  exact ⟨by simp, rfl⟩

theorem compare_s (a b : ByteArray) (w : World) : Calls Try.prog 40 #[.string a, .string b] w fun e w' => e = .returned (.int .i64 (cmpT a b)) ∧ w' = w := by
  generalize hC : cmpT a b = C
  by_cases h1 : Op.bytesLess a.toList b.toList = true
  · have H : Hid (C = -1) := by unfold Hid; rw [← hC]; simp [cmpT, h1]
    clear hC
    go_enter Try.func40, Try.ntmps40
    go_wp2_with (go_at_call 55; refine (isNaN_s _ _).mono ?_; rintro e w' ⟨rfl, rfl⟩)
    go_ret
    rw [H.out]
    exact ⟨rfl, rfl⟩
  · have h1' : Op.bytesLess a.toList b.toList = false := by simpa using h1
    by_cases h2 : (a.toList == b.toList) = true
    · have H : Hid (C = 0) := by unfold Hid; rw [← hC]; unfold cmpT; rw [if_neg h1, if_pos h2]
      clear hC h1
      go_enter Try.func40, Try.ntmps40
      go_wp2_with (go_at_call 55; refine (isNaN_s _ _).mono ?_; rintro e w' ⟨rfl, rfl⟩)
      go_ret
      rw [H.out]
      exact ⟨rfl, rfl⟩
    · have H : Hid (C = 1) := by unfold Hid; rw [← hC]; unfold cmpT; rw [if_neg h1, if_neg h2]
      have h2' : (a.toList == b.toList) = false := by simpa using h2
      clear hC h1 h2
      go_enter Try.func40, Try.ntmps40
      go_wp2_with (go_at_call 55; refine (isNaN_s _ _).mono ?_; rintro e w' ⟨rfl, rfl⟩)
      go_ret
      rw [H.out]
      exact ⟨rfl, rfl⟩
theorem compare_i (a b : Int) (w : World) : Calls Try.prog 39 #[.int .i64 a, .int .i64 b] w fun e w' => e = .returned (.int .i64 (cmpI a b)) ∧ w' = w := by
  generalize hC : cmpI a b = C
  by_cases h1 : a < b
  · have H : Hid (C = -1) := by unfold Hid; rw [← hC]; unfold cmpI; rw [if_pos h1]
    clear hC
    go_enter Try.func39, Try.ntmps39
    go_wp2_with (go_at_call 54; refine (isNaN_i _ _).mono ?_; rintro e w' ⟨rfl, rfl⟩)
    go_ret
    rw [H.out]
    exact ⟨rfl, rfl⟩
  · by_cases h2 : b < a
    · have H : Hid (C = 1) := by unfold Hid; rw [← hC]; unfold cmpI; rw [if_neg h1, if_pos h2]
      clear hC
      go_enter Try.func39, Try.ntmps39
      go_wp2_with (go_at_call 54; refine (isNaN_i _ _).mono ?_; rintro e w' ⟨rfl, rfl⟩)
      go_ret
      rw [H.out]
      exact ⟨rfl, rfl⟩
    · have H : Hid (C = 0) := by unfold Hid; rw [← hC]; unfold cmpI; rw [if_neg h1, if_neg h2]
      clear hC
      go_enter Try.func39, Try.ntmps39
      go_wp2_with (go_at_call 54; refine (isNaN_i _ _).mono ?_; rintro e w' ⟨rfl, rfl⟩)
      go_ret
      rw [H.out]
      exact ⟨rfl, rfl⟩

set_option maxHeartbeats 400000 in
theorem or_any (b n cap : Nat) (c : Nat → Int) (w : World) (hc : ∀ i, i < n → w.cell? ⟨b, i, none⟩ = some (.int .i64 (c i))) (hn : n ≤ 8) :
    Calls Try.prog 38 #[.slice (some ⟨b, 0, none⟩) n cap] w fun e w' => e = .returned (.int .i64 (tc c n 0)) ∧ w' = w := by
  generalize hC : tc c n 0 = C
  have HC : Hid (tc c n 0 = C) := hC
  clear hC
  go_enter Try.func38, Try.ntmps38
  go_wp2
  go_loopw [8] (fun i wr => ∃ k : Nat, k ≤ n ∧ i = .int .i64 k ∧ Hid (tc c (n - k) k = C) ∧ wr = w) (fun i _ => n - (intOf i).toNat)
  case atStart => exact ⟨0, by omega, rfl, HC, rfl⟩
  case round =>
    obtain ⟨k, hk, rfl, HK, rfl⟩ := hrel
    by_cases hlt : k < n
    · have h1 := hc k hlt
      have e : n - k = (n - (k + 1)) + 1 := by omega
      by_cases h0 : c k = 0
      · have HK' : Hid (tc c (n - (k + 1)) (k + 1) = C) := by unfold Hid; rw [← HK.out, e]; simp [tc, h0]
        have h0' : (c k != 0) = false := by simp [h0]
        clear hc e h0
        go_wp2
        go_roundw
        case rel => exact ⟨k + 1, by omega, by go_num, HK', trivial⟩
        case measure => simp [intOf]; omega
      · have HK' : Hid (c k = C) := by unfold Hid; rw [← HK.out, e]; simp [tc, h0]
        have h0' : (c k != 0) = true := by simp [h0]
        clear hc e h0
        go_wp2
        go_ret
        rw [HK'.out]
        exact ⟨rfl, rfl⟩
    · have HZ : Hid (C = 0) := by unfold Hid; rw [← HK.out, show n - k = 0 from by omega]; rfl
      go_wp2
      go_ret
      rw [HZ.out]
      exact ⟨rfl, rfl⟩

def tagC (a b a' b' : ByteArray) (i : Nat) : Int := if i = 0 then cmpT a a' else cmpT b b'
def cmpTag (a b a' b' : ByteArray) : Int := tc (tagC a b a' b') 2 0

set_option maxHeartbeats 1000000 in
theorem compareTags_any (a b a' b' : ByteArray) (w : World) :
    Calls Try.prog 42 #[.agg #[.string a, .string b], .agg #[.string a', .string b']] w fun e w' => e = .returned (.int .i64 (cmpTag a b a' b')) ∧ Below w.heap.size w w' := by
  have hB : Below w.heap.size w ((w.alloc (.cells #[.string a, .string b] 63)).alloc (.cells #[.string a', .string b'] 63)) := ((Below.refl _ _).alloc (Nat.le_refl _) _).alloc (by simp) _
  go_enter Try.func42, Try.ntmps42
  go_wp2
  go_region_held3 (fun w' => w'.cell? ⟨w.heap.size, 0, none⟩ = some (.string a) ∧ w'.cell? ⟨w.heap.size, 1, none⟩ = some (.string b) ∧ w'.cell? ⟨w.heap.size + 1, 0, none⟩ = some (.string a') ∧ w'.cell? ⟨w.heap.size + 1, 1, none⟩ = some (.string b')) (go_keep) (first | (go_at_call 40; refine (compare_s _ _ _).mono ?_; rintro e w' ⟨rfl, rfl⟩) | (go_at_call 38; refine (or_any _ 2 2 (tagC a b a' b') _ ?_ (by omega)).mono ?_; (intro i hi; rcases (show i = 0 ∨ i = 1 by omega) with rfl | rfl <;> simp [tagC, go_sem]); rintro e w' ⟨rfl, rfl⟩))
  go_wp2
  go_ret
  exact ⟨rfl, (hB.alloc (by simp; omega) _).drew⟩

theorem cmpTag_eq (a b a' b' : ByteArray) : cmpTag a b a' b' = if cmpT a a' = 0 then cmpT b b' else cmpT a a' := by
  unfold cmpTag
  by_cases h : cmpT a a' = 0
  · by_cases h2 : cmpT b b' = 0 <;> simp [tc, tagC, h, h2]
  · simp [tc, tagC, h]
def tagsC (c : Nat → Int) (n n' : Nat) : Int := if tc c (min n n') 0 = 0 then cmpI n n' else tc c (min n n') 0
theorem tagsC_zero {c : Nat → Int} {n n' : Nat} (h : tc c (min n n') 0 = 0) : tagsC c n n' = cmpI n n' := by unfold tagsC; rw [if_pos h]
theorem tagsC_some {c : Nat → Int} {n n' : Nat} (h : tc c (min n n') 0 ≠ 0) : tagsC c n n' = tc c (min n n') 0 := by unfold tagsC; rw [if_neg h]
theorem tc_step {c : Nat → Int} {M k : Nat} (hk : k < M) (h : c k = 0) : tc c (M - k) k = tc c (M - (k + 1)) (k + 1) := by
  rw [show M - k = (M - (k + 1)) + 1 from by omega]; simp [tc, h]
theorem tc_stop {c : Nat → Int} {M k : Nat} (hk : k < M) (h : c k ≠ 0) : tc c (M - k) k = c k := by
  rw [show M - k = (M - (k + 1)) + 1 from by omega]; simp [tc, h]
theorem tc_end {c : Nat → Int} {M k : Nat} (hk : M ≤ k) : tc c (M - k) k = 0 := by rw [show M - k = 0 from by omega]; rfl
end Go.Proofs.Ytjdijikmdlklkaa
namespace Go.Proofs.Ytjdijikmdlklkaa
open Go.RowKit
set_option linter.unusedSimpArgs false
set_option linter.unusedVariables false

theorem cmpI_less {a b : Nat} (h : a < b) : cmpI a b = -1 := by unfold cmpI; rw [if_pos (by omega)]
theorem cmpI_more {a b : Nat} (h : b < a) : cmpI a b = 1 := by unfold cmpI; rw [if_neg (by omega), if_pos (by omega)]
theorem cmpI_same {a b : Nat} (h : a = b) : cmpI a b = 0 := by unfold cmpI; rw [if_neg (by omega), if_neg (by omega)]

set_option maxHeartbeats 1000000 in
theorem compareFunc_any (ao bo : Option Addr) (n n' ca cb : Nat) (nm vl nm' vl' : Nat → ByteArray) (w : World) (hr : TRow w ao n nm vl) (hr' : TRow w bo n' nm' vl') (hn : n ≤ 1048576) (hn' : n' ≤ 1048576) :
    Calls Try.prog 41 #[.slice ao n ca, .slice bo n' cb, .func (.func 42) #[] #[]] w fun e w' => e = .returned (.int .i64 (tagsC (fun k => cmpTag (nm k) (vl k) (nm' k) (vl' k)) n n')) ∧ Below w.heap.size w w' := by
  obtain ⟨hl⟩ := hr
  obtain ⟨hl'⟩ := hr'
  generalize hc : (fun k => cmpTag (nm k) (vl k) (nm' k) (vl' k)) = c
  have HC : Hid (∀ k, cmpTag (nm k) (vl k) (nm' k) (vl' k) = c k) := fun k => by rw [← hc]
  clear hc
  generalize hT : tagsC c n n' = T
  have HT : Hid (tagsC c n n' = T) := hT
  clear hT
  go_enter Try.func41, Try.ntmps41
  go_wp2
  go_loopw [13] (fun i wr => ∃ k : Nat, k ≤ n ∧ k ≤ n' ∧ i = .int .i64 k ∧ Hid (tc c (min n n' - k) k = tc c (min n n') 0) ∧ Below w.heap.size w wr) (fun i _ => n - (intOf i).toNat)
  case atStart => exact ⟨0, Nat.zero_le _, Nat.zero_le _, rfl, rfl, Below.refl _ _⟩
  case round =>
    obtain ⟨k, hk, hk', rfl, HK, hbk⟩ := hrel
    have hbn := fun O => hbk.alloc (B := w.heap.size) hbk.size O
    by_cases hlt : k < n
    · obtain ⟨b, off, rfl, hblt, hc⟩ := hl.resolve_left (by omega)
      have hc1 : wr.cell? ⟨b, off + k * 2, none⟩ = some (.string (nm k)) := (hbk.cell (p := ⟨b, off + k * 2, none⟩) hblt).trans (hc k hlt).1
      have hc2 : wr.cell? ⟨b, off + k * 2 + 1, none⟩ = some (.string (vl k)) := (hbk.cell (p := ⟨b, off + k * 2 + 1, none⟩) hblt).trans (hc k hlt).2
      by_cases hlt' : k < n'
      · obtain ⟨b', off', rfl, hblt', hc'⟩ := hl'.resolve_left (by omega)
        have e1 : wr.cell? ⟨b', off' + k * 2, none⟩ = some (.string (nm' k)) := (hbk.cell (p := ⟨b', off' + k * 2, none⟩) hblt').trans (hc' k hlt').1
        have e2 : wr.cell? ⟨b', off' + k * 2 + 1, none⟩ = some (.string (vl' k)) := (hbk.cell (p := ⟨b', off' + k * 2 + 1, none⟩) hblt').trans (hc' k hlt').2
        have hne : b' < wr.heap.size := Nat.lt_of_lt_of_le hblt' hbk.size
        have e1' : ∀ O, (wr.alloc O).cell? ⟨b', off' + k * 2, none⟩ = some (.string (nm' k)) := fun O => (World.cell?_alloc_old _ _ _ (Nat.ne_of_lt hne)).trans e1
        have e2' : ∀ O, (wr.alloc O).cell? ⟨b', off' + k * 2 + 1, none⟩ = some (.string (vl' k)) := fun O => (World.cell?_alloc_old _ _ _ (Nat.ne_of_lt hne)).trans e2
        have hbm := fun O O' => (hbn O).alloc (B := w.heap.size) (hbn O).size O'
        clear hc hc' hl hl'
        go_wp2_with fail
        refine (compareTags_any _ _ _ _ _).mono ?_
        rintro e w2 ⟨rfl, hb2⟩
        rw [HC.out]
        have hbw : Below w.heap.size w w2 := (hbm _ _).trans (hb2.mono (hbm _ _).size)
        clear hb2
        by_cases h0 : c k = 0
        · have HK' : Hid (tc c (min n n' - (k + 1)) (k + 1) = tc c (min n n') 0) := (tc_step (by omega) h0).symm.trans HK.out
          have h0' : (c k != 0) = false := by simp [h0]
          clear h0
          go_wp2
          go_roundw
          case rel => exact ⟨k + 1, by omega, by omega, by go_num, HK', hbw⟩
          case measure => simp [intOf]; omega
        · have HK' : Hid (c k = T) := by
            have e : tc c (min n n') 0 = c k := HK.out.symm.trans (tc_stop (by omega) h0)
            unfold Hid; rw [← HT.out, tagsC_some (by rw [e]; exact h0), e]
          have h0' : (c k != 0) = true := by simp [h0]
          clear h0
          go_wp2
          go_ret
          rw [HK'.out]
          exact ⟨rfl, hbw⟩
      · have HZ : Hid (T = 1) := by
          have e : tc c (min n n') 0 = 0 := HK.out.symm.trans (tc_end (by omega))
          unfold Hid; rw [← HT.out, tagsC_zero e, cmpI_more (by omega)]
        have hge : (n' : Int) ≤ (k : Int) := by omega
        clear hc hl hl'
        go_wp2
        go_ret
        rw [HZ.out]
        exact ⟨rfl, hbn _⟩
    · have e : tc c (min n n') 0 = 0 := HK.out.symm.trans (tc_end (by omega))
      by_cases hl2 : n < n'
      · have HZ : Hid (T = -1) := by unfold Hid; rw [← HT.out, tagsC_zero e, cmpI_less hl2]
        clear e
        go_wp2
        go_ret
        rw [HZ.out]
        exact ⟨rfl, hbk⟩
      · have HZ : Hid (T = 0) := by unfold Hid; rw [← HT.out, tagsC_zero e, cmpI_same (by omega)]
        clear e
        go_wp2
        go_ret
        rw [HZ.out]
        exact ⟨rfl, hbk⟩

def keyC (m m' : ByteArray) (st st' : Int) (t : Int) (i : Nat) : Int := if i = 0 then cmpT m m' else if i = 1 then t else cmpI st st'
/-- What CompareKeys answers of good keys. -/
def keyCmp (m m' : ByteArray) (st st' : Int) (n n' : Nat) (nm vl nm' vl' : Nat → ByteArray) : Int :=
  tc (keyC m m' st st' (tagsC (fun k => cmpTag (nm k) (vl k) (nm' k) (vl' k)) n n')) 3 0
end Go.Proofs.Ytjdijikmdlklkaa
