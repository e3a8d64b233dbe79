/- The lists of tags compared by the library's CompareFunc. / Keys compared, the program's text. -/
import Derived.Test.YtflmbcgokiiedaaCompare
import Derived.Test.YtflmbcgokiiedaaGoodKeys
import Derived.Deep.RegionHeld3
namespace Go.Proofs.Ytflmbcgokiiedaa
open Go.RowKit
set_option linter.unusedSimpArgs false
set_option linter.unusedVariables false

theorem cmpI_less {a b : Nat} (h : a < b) : cmpI a b = -1 := by unfold cmpI; rw [if_pos (by omega)]
theorem cmpI_more {a b : Nat} (h : b < a) : cmpI a b = 1 := by unfold cmpI; rw [if_neg (by omega), if_pos (by omega)]
theorem cmpI_same {a b : Nat} (h : a = b) : cmpI a b = 0 := by unfold cmpI; rw [if_neg (by omega), if_neg (by omega)]

set_option maxHeartbeats 1000000 in
theorem compareFunc_any (ao bo : Option Addr) (n n' ca cb : Nat) (nm vl nm' vl' : Nat → ByteArray) (w : World) (hr : TRow w ao n nm vl) (hr' : TRow w bo n' nm' vl') (hn : n ≤ 1048576) (hn' : n' ≤ 1048576) :
    Calls Try.prog 97 #[.slice ao n ca, .slice bo n' cb, .func (.func 98) #[] #[]] w fun e w' => e = .returned (.int .i64 (tagsC (fun k => cmpTag (nm k) (vl k) (nm' k) (vl' k)) n n')) ∧ Below w.heap.size w w' := by
  obtain ⟨hl⟩ := hr
  obtain ⟨hl'⟩ := hr'
  generalize hc : (fun k => cmpTag (nm k) (vl k) (nm' k) (vl' k)) = c
  have HC : Hid (∀ k, cmpTag (nm k) (vl k) (nm' k) (vl' k) = c k) := fun k => by rw [← hc]
  clear hc
  generalize hT : tagsC c n n' = T
  have HT : Hid (tagsC c n n' = T) := hT
  clear hT
  go_enter Try.func97, Try.ntmps97
  go_wp2
  go_loopw [13] (fun i wr => ∃ k : Nat, k ≤ n ∧ k ≤ n' ∧ i = .int .i64 k ∧ Hid (tc c (min n n' - k) k = tc c (min n n') 0) ∧ Below w.heap.size w wr) (fun i _ => n - (intOf i).toNat)
  case atStart => exact ⟨0, Nat.zero_le _, Nat.zero_le _, rfl, rfl, Below.refl _ _⟩
  case round =>
    obtain ⟨k, hk, hk', rfl, HK, hbk⟩ := hrel
    have hbn := fun O => hbk.alloc (B := w.heap.size) hbk.size O
    by_cases hlt : k < n
    · obtain ⟨b, off, rfl, hblt, hc⟩ := hl.resolve_left (by omega)
      have hc1 : wr.cell? ⟨b, off + k * 2, none⟩ = some (.string (nm k)) := (hbk.cell (p := ⟨b, off + k * 2, none⟩) hblt).trans (hc k hlt).1
      have hc2 : wr.cell? ⟨b, off + k * 2 + 1, none⟩ = some (.string (vl k)) := (hbk.cell (p := ⟨b, off + k * 2 + 1, none⟩) hblt).trans (hc k hlt).2
      by_cases hlt' : k < n'
      · obtain ⟨b', off', rfl, hblt', hc'⟩ := hl'.resolve_left (by omega)
        have e1 : wr.cell? ⟨b', off' + k * 2, none⟩ = some (.string (nm' k)) := (hbk.cell (p := ⟨b', off' + k * 2, none⟩) hblt').trans (hc' k hlt').1
        have e2 : wr.cell? ⟨b', off' + k * 2 + 1, none⟩ = some (.string (vl' k)) := (hbk.cell (p := ⟨b', off' + k * 2 + 1, none⟩) hblt').trans (hc' k hlt').2
        have hne : b' < wr.heap.size := Nat.lt_of_lt_of_le hblt' hbk.size
        have e1' : ∀ O, (wr.alloc O).cell? ⟨b', off' + k * 2, none⟩ = some (.string (nm' k)) := fun O => (World.cell?_alloc_old _ _ _ (Nat.ne_of_lt hne)).trans e1
        have e2' : ∀ O, (wr.alloc O).cell? ⟨b', off' + k * 2 + 1, none⟩ = some (.string (vl' k)) := fun O => (World.cell?_alloc_old _ _ _ (Nat.ne_of_lt hne)).trans e2
        have hbm := fun O O' => (hbn O).alloc (B := w.heap.size) (hbn O).size O'
        clear hc hc' hl hl'
        go_wp2_with fail
        refine (compareTags_any _ _ _ _ _).mono ?_
        rintro e w2 ⟨rfl, hb2⟩
        rw [HC.out]
        have hbw : Below w.heap.size w w2 := (hbm _ _).trans (hb2.mono (hbm _ _).size)
        clear hb2
        by_cases h0 : c k = 0
        · have HK' : Hid (tc c (min n n' - (k + 1)) (k + 1) = tc c (min n n') 0) := (tc_step (by omega) h0).symm.trans HK.out
          have h0' : (c k != 0) = false := by simp [h0]
          clear h0
          go_wp2
          go_roundw
          case rel => exact ⟨k + 1, by omega, by omega, by go_num, HK', hbw⟩
          case measure => simp [intOf]; omega
        · have HK' : Hid (c k = T) := by
            have e : tc c (min n n') 0 = c k := HK.out.symm.trans (tc_stop (by omega) h0)
            unfold Hid; rw [← HT.out, tagsC_some (by rw [e]; exact h0), e]
          have h0' : (c k != 0) = true := by simp [h0]
          clear h0
          go_wp2
          go_ret
          rw [HK'.out]
          exact ⟨rfl, hbw⟩
      · have HZ : Hid (T = 1) := by
          have e : tc c (min n n') 0 = 0 := HK.out.symm.trans (tc_end (by omega))
          unfold Hid; rw [← HT.out, tagsC_zero e, cmpI_more (by omega)]
        have hge : (n' : Int) ≤ (k : Int) := by omega
        clear hc hl hl'
        go_wp2
        go_ret
        rw [HZ.out]
        exact ⟨rfl, hbn _⟩
    · have e : tc c (min n n') 0 = 0 := HK.out.symm.trans (tc_end (by omega))
      by_cases hl2 : n < n'
      · have HZ : Hid (T = -1) := by unfold Hid; rw [← HT.out, tagsC_zero e, cmpI_less hl2]
        clear e
        go_wp2
        go_ret
        rw [HZ.out]
        exact ⟨rfl, hbk⟩
      · have HZ : Hid (T = 0) := by unfold Hid; rw [← HT.out, tagsC_zero e, cmpI_same (by omega)]
        clear e
        go_wp2
        go_ret
        rw [HZ.out]
        exact ⟨rfl, hbk⟩

def keyC (m m' : ByteArray) (st st' : Int) (t : Int) (i : Nat) : Int := if i = 0 then cmpT m m' else if i = 1 then t else cmpI st st'
/-- What CompareKeys answers of good keys. -/
def keyCmp (m m' : ByteArray) (st st' : Int) (n n' : Nat) (nm vl nm' vl' : Nat → ByteArray) : Int :=
  tc (keyC m m' st st' (tagsC (fun k => cmpTag (nm k) (vl k) (nm' k) (vl' k)) n n')) 3 0
end Go.Proofs.Ytflmbcgokiiedaa
namespace Go.Proofs.Ytflmbcgokiiedaa
open Go.RowKit
set_option linter.unusedSimpArgs false
set_option linter.unusedVariables false

set_option maxHeartbeats 4000000 in
theorem compareKeys_impl_good (m m' : ByteArray) (st st' : Int) (ao bo : Option Addr) (n n' ca cb : Nat) (nm vl nm' vl' : Nat → ByteArray) (w : World) (hr : TRow w ao n nm vl) (hr' : TRow w bo n' nm' vl')
    (hm : m.size ≤ 1048576) (hm' : m'.size ≤ 1048576) (hn : n ≤ 1048576) (hn' : n' ≤ 1048576) (hs : TSize n nm vl 1048576) (hs' : TSize n' nm' vl' 1048576)
    (hG : Hid (goodB m n nm vl st = true)) (hG' : Hid (goodB m' n' nm' vl' st' = true)) :
    Calls Try.prog 82 #[.agg #[.string m, .slice ao n ca, .int .i64 st], .agg #[.string m', .slice bo n' cb, .int .i64 st']] w fun e w' => e = .returned (.int .i64 (keyCmp m m' st st' n n' nm vl nm' vl')) ∧ Below w.heap.size w w' := by
  have hB : Below w.heap.size w ((w.alloc (.cells #[.string m, .slice ao n ca, .int .i64 st] 49)).alloc (.cells #[.string m', .slice bo n' cb, .int .i64 st'] 49)) := ((Below.refl _ _).alloc (Nat.le_refl _) _).alloc (by simp) _
  have ka : KAt ((w.alloc (.cells #[.string m, .slice ao n ca, .int .i64 st] 49)).alloc (.cells #[.string m', .slice bo n' cb, .int .i64 st'] 49)) w.heap.size m (.slice ao n ca) st := (KAt.new w m (.slice ao n ca) st 49).keep ((Below.refl _ _).alloc (Nat.le_refl _) _)
  have kb : KAt ((w.alloc (.cells #[.string m, .slice ao n ca, .int .i64 st] 49)).alloc (.cells #[.string m', .slice bo n' cb, .int .i64 st'] 49)) (w.heap.size + 1) m' (.slice bo n' cb) st' := by
    have := KAt.new (w.alloc (.cells #[.string m, .slice ao n ca, .int .i64 st] 49)) m' (.slice bo n' cb) st' 49
    simpa using this
  go_enter Try.func82, Try.ntmps82
  go_wp2_with fail
  refine (goodKey_impl m st ao n ca nm vl _ (hr.keep hB) hm hn hs).mono ?_
  rintro e w1 ⟨rfl, hb1⟩
  rw [hG.out]
  have ka1 := ka.keep hb1
  have kb1 := kb.keep hb1
  have hbw1 : Below w.heap.size w w1 := hB.trans (hb1.mono (by simp; omega))
  clear ka kb hB hb1
  obtain ⟨la, a0, a1, a2⟩ := ka1
  obtain ⟨lb, b0, b1, b2⟩ := kb1
  go_wp2_with fail
  refine (goodKey_impl m' st' bo n' cb nm' vl' _ (hr'.keep hbw1) hm' hn' hs').mono ?_
  rintro e w2 ⟨rfl, hb2⟩
  rw [hG'.out]
  obtain ⟨la, a0, a1, a2⟩ := KAt.keep ⟨la, a0, a1, a2⟩ hb2
  obtain ⟨lb, b0, b1, b2⟩ := KAt.keep ⟨lb, b0, b1, b2⟩ hb2
  have hbw2 : Below w.heap.size w w2 := hbw1.trans (hb2.mono hbw1.size)
  have hra := hr.keep hbw2
  have hrb := hr'.keep hbw2
  clear hb2 hbw1
  have hsz := hbw2.size
  go_wp2
  go_region_held3 (fun w' => w'.cell? ⟨w.heap.size, 0, none⟩ = some (.string m) ∧ w'.cell? ⟨w.heap.size, 1, none⟩ = some (.slice ao n ca) ∧ w'.cell? ⟨w.heap.size, 2, none⟩ = some (.int .i64 st) ∧ w'.cell? ⟨w.heap.size + 1, 0, none⟩ = some (.string m') ∧ w'.cell? ⟨w.heap.size + 1, 1, none⟩ = some (.slice bo n' cb) ∧ w'.cell? ⟨w.heap.size + 1, 2, none⟩ = some (.int .i64 st')) (go_keep) (first | (go_at_call 96; refine (compare_s _ _ _).mono ?_; rintro e w' ⟨rfl, rfl⟩) | (go_at_call 99; refine (compare_i _ _ _).mono ?_; rintro e w' ⟨rfl, rfl⟩) | (go_at_call 97; refine (compareFunc_any ao bo n n' ca cb nm vl nm' vl' _ ?_ ?_ hn hn').mono ?_; exact hra.keep (Below.refl _ _).drew; exact hrb.keep (Below.refl _ _).drew; rintro e w3 ⟨rfl, hb3⟩; have s0 := (hb3.cell (p := ⟨w.heap.size, 0, none⟩) la).trans a0; have s1 := (hb3.cell (p := ⟨w.heap.size, 1, none⟩) la).trans a1; have s2 := (hb3.cell (p := ⟨w.heap.size, 2, none⟩) la).trans a2; have t0 := (hb3.cell (p := ⟨w.heap.size + 1, 0, none⟩) lb).trans b0; have t1 := (hb3.cell (p := ⟨w.heap.size + 1, 1, none⟩) lb).trans b1; have t2 := (hb3.cell (p := ⟨w.heap.size + 1, 2, none⟩) lb).trans b2; have hbw3 : Below w.heap.size w w3 := hbw2.drew.trans (hb3.mono hsz); clear hb3) | (go_at_call 95; refine (or_any _ 3 3 (keyC m m' st st' (tagsC (fun k => cmpTag (nm k) (vl k) (nm' k) (vl' k)) n n')) _ ?_ (by omega)).mono ?_; (intro i hi; rcases (show i = 0 ∨ i = 1 ∨ i = 2 by omega) with rfl | rfl | rfl <;> simp [keyC, go_sem]); rintro e w' ⟨rfl, rfl⟩))
  all_goals
    go_wp2
    go_ret
    exact ⟨rfl, hbw3.alloc hbw3.size _⟩
end Go.Proofs.Ytflmbcgokiiedaa
