/- The lists of tags compared by the library's CompareFunc. -/
import Derived.Test.YtpddodjecbcmlaaCompare
namespace Go.Proofs.Ytpddodjecbcmlaa
open Go.RowKit
set_option linter.unusedSimpArgs false
set_option linter.unusedVariables false

theorem cmpI_less {a b : Nat} (h : a < b) : cmpI a b = -1 := by unfold cmpI; rw [if_pos (by omega)]
theorem cmpI_more {a b : Nat} (h : b < a) : cmpI a b = 1 := by unfold cmpI; rw [if_neg (by omega), if_pos (by omega)]
theorem cmpI_same {a b : Nat} (h : a = b) : cmpI a b = 0 := by unfold cmpI; rw [if_neg (by omega), if_neg (by omega)]

set_option maxHeartbeats 1000000 in
theorem compareFunc_any (ao bo : Option Addr) (n n' ca cb : Nat) (nm vl nm' vl' : Nat → ByteArray) (w : World) (hr : TRow w ao n nm vl) (hr' : TRow w bo n' nm' vl') (hn : n ≤ 1048576) (hn' : n' ≤ 1048576) :
    Calls Try.prog 35 #[.slice ao n ca, .slice bo n' cb, .func (.func 36) #[] #[]] w fun e w' => e = .returned (.int .i64 (tagsC (fun k => cmpTag (nm k) (vl k) (nm' k) (vl' k)) n n')) ∧ Below w.heap.size w w' := by
  obtain ⟨hl⟩ := hr
  obtain ⟨hl'⟩ := hr'
  generalize hc : (fun k => cmpTag (nm k) (vl k) (nm' k) (vl' k)) = c
  have HC : Hid (∀ k, cmpTag (nm k) (vl k) (nm' k) (vl' k) = c k) := fun k => by rw [← hc]
  clear hc
  generalize hT : tagsC c n n' = T
  have HT : Hid (tagsC c n n' = T) := hT
  clear hT
  go_enter Try.func35, Try.ntmps35
  go_wp2
  go_loopw [13] (fun i wr => ∃ k : Nat, k ≤ n ∧ k ≤ n' ∧ i = .int .i64 k ∧ Hid (tc c (min n n' - k) k = tc c (min n n') 0) ∧ Below w.heap.size w wr) (fun i _ => n - (intOf i).toNat)
  case atStart => exact ⟨0, Nat.zero_le _, Nat.zero_le _, rfl, rfl, Below.refl _ _⟩
  case round =>
    obtain ⟨k, hk, hk', rfl, HK, hbk⟩ := hrel
    have hbn := fun O => hbk.alloc (B := w.heap.size) hbk.size O
    by_cases hlt : k < n
    · obtain ⟨b, off, rfl, hblt, hc⟩ := hl.resolve_left (by omega)
      have hc1 : wr.cell? ⟨b, off + k * 2, none⟩ = some (.string (nm k)) := (hbk.cell (p := ⟨b, off + k * 2, none⟩) hblt).trans (hc k hlt).1
      have hc2 : wr.cell? ⟨b, off + k * 2 + 1, none⟩ = some (.string (vl k)) := (hbk.cell (p := ⟨b, off + k * 2 + 1, none⟩) hblt).trans (hc k hlt).2
      by_cases hlt' : k < n'
      · obtain ⟨b', off', rfl, hblt', hc'⟩ := hl'.resolve_left (by omega)
        have e1 : wr.cell? ⟨b', off' + k * 2, none⟩ = some (.string (nm' k)) := (hbk.cell (p := ⟨b', off' + k * 2, none⟩) hblt').trans (hc' k hlt').1
        have e2 : wr.cell? ⟨b', off' + k * 2 + 1, none⟩ = some (.string (vl' k)) := (hbk.cell (p := ⟨b', off' + k * 2 + 1, none⟩) hblt').trans (hc' k hlt').2
        have hne : b' < wr.heap.size := Nat.lt_of_lt_of_le hblt' hbk.size
        have e1' : ∀ O, (wr.alloc O).cell? ⟨b', off' + k * 2, none⟩ = some (.string (nm' k)) := fun O => (World.cell?_alloc_old _ _ _ (Nat.ne_of_lt hne)).trans e1
        have e2' : ∀ O, (wr.alloc O).cell? ⟨b', off' + k * 2 + 1, none⟩ = some (.string (vl' k)) := fun O => (World.cell?_alloc_old _ _ _ (Nat.ne_of_lt hne)).trans e2
        have hbm := fun O O' => (hbn O).alloc (B := w.heap.size) (hbn O).size O'
        clear hc hc' hl hl'
        go_wp2_with fail
        refine (compareTags_any _ _ _ _ _).mono ?_
        rintro e w2 ⟨rfl, hb2⟩
        rw [HC.out]
        have hbw : Below w.heap.size w w2 := (hbm _ _).trans (hb2.mono (hbm _ _).size)
        clear hb2
        by_cases h0 : c k = 0
        · have HK' : Hid (tc c (min n n' - (k + 1)) (k + 1) = tc c (min n n') 0) := (tc_step (by omega) h0).symm.trans HK.out
          have h0' : (c k != 0) = false := by simp [h0]
          clear h0
          go_wp2
          go_roundw
          case rel => exact ⟨k + 1, by omega, by omega, by go_num, HK', hbw⟩
          case measure => simp [intOf]; omega
        · have HK' : Hid (c k = T) := by
            have e : tc c (min n n') 0 = c k := HK.out.symm.trans (tc_stop (by omega) h0)
            unfold Hid; rw [← HT.out, tagsC_some (by rw [e]; exact h0), e]
          have h0' : (c k != 0) = true := by simp [h0]
          clear h0
          go_wp2
          go_ret
          rw [HK'.out]
          exact ⟨rfl, hbw⟩
      · have HZ : Hid (T = 1) := by
          have e : tc c (min n n') 0 = 0 := HK.out.symm.trans (tc_end (by omega))
          unfold Hid; rw [← HT.out, tagsC_zero e, cmpI_more (by omega)]
        have hge : (n' : Int) ≤ (k : Int) := by omega
        clear hc hl hl'
        go_wp2
        go_ret
        rw [HZ.out]
        exact ⟨rfl, hbn _⟩
    · have e : tc c (min n n') 0 = 0 := HK.out.symm.trans (tc_end (by omega))
      by_cases hl2 : n < n'
      · have HZ : Hid (T = -1) := by unfold Hid; rw [← HT.out, tagsC_zero e, cmpI_less hl2]
        clear e
        go_wp2
        go_ret
        rw [HZ.out]
        exact ⟨rfl, hbk⟩
      · have HZ : Hid (T = 0) := by unfold Hid; rw [← HT.out, tagsC_zero e, cmpI_same (by omega)]
        clear e
        go_wp2
        go_ret
        rw [HZ.out]
        exact ⟨rfl, hbk⟩

def keyC (m m' : ByteArray) (st st' : Int) (t : Int) (i : Nat) : Int := if i = 0 then cmpT m m' else if i = 1 then t else cmpI st st'
/-- What CompareKeys answers of good keys. -/
def keyCmp (m m' : ByteArray) (st st' : Int) (n n' : Nat) (nm vl nm' vl' : Nat → ByteArray) : Int :=
  tc (keyC m m' st st' (tagsC (fun k => cmpTag (nm k) (vl k) (nm' k) (vl' k)) n n')) 3 0
end Go.Proofs.Ytpddodjecbcmlaa
