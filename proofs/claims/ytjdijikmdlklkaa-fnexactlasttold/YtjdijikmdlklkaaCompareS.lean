/- Keys compared, the model's text. -/
import Derived.Test.YtjdijikmdlklkaaCompareF
import Derived.Test.YtjdijikmdlklkaaGoodKeys
namespace Go.Proofs.Ytjdijikmdlklkaa
open Go.RowKit
set_option linter.unusedSimpArgs false
set_option linter.unusedVariables false

theorem keyCmp_m {m m' : ByteArray} {st st' : Int} {n n' : Nat} {nm vl nm' vl' : Nat → ByteArray} (h : cmpT m m' ≠ 0) : keyCmp m m' st st' n n' nm vl nm' vl' = cmpT m m' := by
  unfold keyCmp; simp [tc, keyC, h]
theorem keyCmp_t {m m' : ByteArray} {st st' : Int} {n n' : Nat} {nm vl nm' vl' : Nat → ByteArray} (h : cmpT m m' = 0) (h2 : tagsC (fun k => cmpTag (nm k) (vl k) (nm' k) (vl' k)) n n' ≠ 0) : keyCmp m m' st st' n n' nm vl nm' vl' = tagsC (fun k => cmpTag (nm k) (vl k) (nm' k) (vl' k)) n n' := by
  unfold keyCmp; simp [tc, keyC, h, h2]
theorem keyCmp_s {m m' : ByteArray} {st st' : Int} {n n' : Nat} {nm vl nm' vl' : Nat → ByteArray} (h : cmpT m m' = 0) (h2 : tagsC (fun k => cmpTag (nm k) (vl k) (nm' k) (vl' k)) n n' = 0) : keyCmp m m' st st' n n' nm vl nm' vl' = cmpI st st' := by
  unfold keyCmp
  by_cases h3 : cmpI st st' = 0 <;> simp [tc, keyC, h, h2, h3]

theorem l1Text_is (a b : ByteArray) (C : Int) (h : Hid (cmpT a b = C)) (w : World) : Calls Try.prog 32 #[.string a, .string b] w fun e w' => e = .returned (.int .i64 C) ∧ w' = w := by
  have := l1Text_any a b w
  rw [h.out] at this
  exact this

set_option maxHeartbeats 4000000 in
theorem l1Compare_any (m m' : ByteArray) (st st' : Int) (ao bo : Option Addr) (n n' ca cb : Nat) (nm vl nm' vl' : Nat → ByteArray) (w : World) (hr : TRow w ao n nm vl) (hr' : TRow w bo n' nm' vl')
    (hn : n ≤ 1048576) (hn' : n' ≤ 1048576) (hst : 0 ≤ st ∧ st ≤ 1000000000) (hst' : 0 ≤ st' ∧ st' ≤ 1000000000) :
    Calls Try.prog 14 #[.agg #[.string m, .slice ao n ca, .int .i64 st], .agg #[.string m', .slice bo n' cb, .int .i64 st']] w fun e w' => e = .returned (.int .i64 (keyCmp m m' st st' n n' nm vl nm' vl')) ∧ Below w.heap.size w w' := by
  obtain ⟨hl⟩ := hr
  obtain ⟨hl'⟩ := hr'
  have hB : Below w.heap.size w ((w.alloc (.cells #[.string m, .slice ao n ca, .int .i64 st] 42)).alloc (.cells #[.string m', .slice bo n' cb, .int .i64 st'] 42)) := ((Below.refl _ _).alloc (Nat.le_refl _) _).alloc (by simp) _
  have ka : KAt ((w.alloc (.cells #[.string m, .slice ao n ca, .int .i64 st] 42)).alloc (.cells #[.string m', .slice bo n' cb, .int .i64 st'] 42)) w.heap.size m (.slice ao n ca) st := (KAt.new w m (.slice ao n ca) st 42).keep ((Below.refl _ _).alloc (Nat.le_refl _) _)
  have kb : KAt ((w.alloc (.cells #[.string m, .slice ao n ca, .int .i64 st] 42)).alloc (.cells #[.string m', .slice bo n' cb, .int .i64 st'] 42)) (w.heap.size + 1) m' (.slice bo n' cb) st' := by
    have := KAt.new (w.alloc (.cells #[.string m, .slice ao n ca, .int .i64 st] 42)) m' (.slice bo n' cb) st' 42
    simpa using this
  generalize hT : keyCmp m m' st st' n n' nm vl nm' vl' = T
  have HT : Hid (keyCmp m m' st st' n n' nm vl nm' vl' = T) := hT
  clear hT
  generalize h1 : cmpT m m' = c1
  have H1 : Hid (cmpT m m' = c1) := h1
  clear h1
  go_enter Try.func14, Try.ntmps14
  go_wp2_with fail
  refine (l1Text_is _ _ c1 H1 _).mono ?_
  rintro e w1 ⟨rfl, rfl⟩
  by_cases hc1 : c1 = 0
  · have hc1' : (c1 != 0) = false := by simp [hc1]
    have HT2 : Hid (∀ t, tagsC (fun k => cmpTag (nm k) (vl k) (nm' k) (vl' k)) n n' = t → T = if t = 0 then cmpI st st' else t) := fun t ht => by
      by_cases h0 : t = 0
      · rw [if_pos h0, ← HT.out, keyCmp_s (H1.out.trans hc1) (ht.trans h0)]
      · rw [if_neg h0, ← HT.out, keyCmp_t (H1.out.trans hc1) (by rw [ht]; exact h0), ht]
    clear hc1 HT
    generalize hcc : (fun k => cmpTag (nm k) (vl k) (nm' k) (vl' k)) = c at HT2
    have HC : Hid (∀ k, (if cmpT (nm k) (nm' k) = 0 then cmpT (vl k) (vl' k) else cmpT (nm k) (nm' k)) = c k) := fun k => by rw [← hcc]; exact (cmpTag_eq _ _ _ _).symm
    clear hcc
    generalize hW : ((w.alloc (.cells #[.string m, .slice ao n ca, .int .i64 st] 42)).alloc (.cells #[.string m', .slice bo n' cb, .int .i64 st'] 42)) = W at *
    have hWs : w.heap.size + 2 = W.heap.size := by rw [← hW]; simp
    clear hW
    go_wp2
    go_loopw [6] (fun i wr => ∃ k : Nat, k ≤ n ∧ k ≤ n' ∧ i = .int .i64 k ∧ Hid (tc c (min n n' - k) k = tc c (min n n') 0) ∧ Below W.heap.size W wr) (fun i _ => n - (intOf i).toNat)
    case atStart => exact ⟨0, Nat.zero_le _, Nat.zero_le _, rfl, rfl, Below.refl _ _⟩
    case round =>
      obtain ⟨k, hk, hk', rfl, HK, hbk⟩ := hrel
      obtain ⟨la, a0, a1, a2⟩ := ka.keep hbk
      obtain ⟨lb, b0, b1, b2⟩ := kb.keep hbk
      have hbw : Below w.heap.size w wr := hB.trans (hbk.mono hB.size)
      by_cases hlt : k < n
      · by_cases hlt' : k < n'
        · obtain ⟨b, off, rfl, hblt, hc⟩ := hl.resolve_left (by omega)
          obtain ⟨b', off', rfl, hblt', hc'⟩ := hl'.resolve_left (by omega)
          have d1 : wr.cell? ⟨b, off + k * 2, none⟩ = some (.string (nm k)) := (hbw.cell (p := ⟨b, off + k * 2, none⟩) hblt).trans (hc k hlt).1
          have d2 : wr.cell? ⟨b, off + k * 2 + 1, none⟩ = some (.string (vl k)) := (hbw.cell (p := ⟨b, off + k * 2 + 1, none⟩) hblt).trans (hc k hlt).2
          have e1 : wr.cell? ⟨b', off' + k * 2, none⟩ = some (.string (nm' k)) := (hbw.cell (p := ⟨b', off' + k * 2, none⟩) hblt').trans (hc' k hlt').1
          have e2 : wr.cell? ⟨b', off' + k * 2 + 1, none⟩ = some (.string (vl' k)) := (hbw.cell (p := ⟨b', off' + k * 2 + 1, none⟩) hblt').trans (hc' k hlt').2
          have q1 : (k : Int) < (n : Int) := by omega
          have q2 : (k : Int) < (n' : Int) := by omega
          generalize h2 : cmpT (nm k) (nm' k) = c2
          have H2 : Hid (cmpT (nm k) (nm' k) = c2) := h2
          clear h2
          generalize h3 : cmpT (vl k) (vl' k) = c3
          have H3 : Hid (cmpT (vl k) (vl' k) = c3) := h3
          clear h3
          have HCk : Hid ((if c2 = 0 then c3 else c2) = c k) := by have := HC.out k; rw [H2.out, H3.out] at this; exact this
          clear hc hc' hl hl'
          by_cases hz2 : c2 = 0
          · have hz2' : (c2 != 0) = false := by simp [hz2]
            have HCk2 : Hid (c3 = c k) := by have := HCk.out; rw [if_pos hz2] at this; exact this
            clear hz2 HCk
            by_cases hz3 : c3 = 0
            · have hz3' : (c3 != 0) = false := by simp [hz3]
              have HK' : Hid (tc c (min n n' - (k + 1)) (k + 1) = tc c (min n n') 0) := (tc_step (by omega) (HCk2.out.symm.trans hz3)).symm.trans HK.out
              clear hz3
              go_wp2
              go_quiet ((go_at_call 32; exact Calls.quiet_of_same (l1Text_is _ _ _ H2 _)))
              go_wp2
              go_quiet ((go_at_call 32; exact (l1Text_is _ _ _ H3 _).mono fun e w' h => ⟨h.1, _, h.2⟩))
              go_wp2
              go_roundw
              case rel => exact ⟨k + 1, by omega, by omega, by go_num, HK', below_drewN hbk _⟩
              case measure => simp [intOf]; omega
            · have hz3' : (c3 != 0) = true := by simp [hz3]
              have HF : Hid (T = c3) := by
                have e : tc c (min n n') 0 = c3 := by rw [HCk2.out]; exact HK.out.symm.trans (tc_stop (by omega) (by rw [← HCk2.out]; exact hz3))
                have := HT2.out c3 (by rw [tagsC_some (by rw [e]; exact hz3), e])
                rw [if_neg hz3] at this; exact this
              clear hz3
              go_wp2
              go_quiet ((go_at_call 32; exact Calls.quiet_of_same (l1Text_is _ _ _ H2 _)))
              go_wp2
              go_quiet ((go_at_call 32; exact (l1Text_is _ _ _ H3 _).mono fun e w' h => ⟨h.1, _, h.2⟩))
              go_wp2
              go_ret
              rw [HF.out]
              exact ⟨rfl, below_drewN hbw _⟩
          · have hz2' : (c2 != 0) = true := by simp [hz2]
            have HCk2 : Hid (c2 = c k) := by have := HCk.out; rw [if_neg hz2] at this; exact this
            have HF : Hid (T = c2) := by
              have e : tc c (min n n') 0 = c2 := by rw [HCk2.out]; exact HK.out.symm.trans (tc_stop (by omega) (by rw [← HCk2.out]; exact hz2))
              have := HT2.out c2 (by rw [tagsC_some (by rw [e]; exact hz2), e])
              rw [if_neg hz2] at this; exact this
            clear hz2 HCk
            go_wp2
            go_quiet ((go_at_call 32; exact Calls.quiet_of_same (l1Text_is _ _ _ H2 _)))
            go_wp2
            go_ret
            rw [HF.out]
            exact ⟨rfl, below_drewN hbw _⟩
        · have e : tc c (min n n') 0 = 0 := HK.out.symm.trans (tc_end (by omega))
          have HF : Hid (T = 1) := by
            have := HT2.out 1 (by rw [tagsC_zero e, cmpI_more (by omega)])
            unfold Hid; simpa using this
          have q1 : (k : Int) < (n : Int) := by omega
          have q2 : decide ((k : Int) < (n' : Int)) = false := by simp; omega
          have q3 : ((n : Int) - (n' : Int) == 0) = false := by simp; omega
          clear e hl hl'
          go_wp2
          go_ret
          rw [HF.out]
          exact ⟨rfl, hbw⟩
      · have e : tc c (min n n') 0 = 0 := HK.out.symm.trans (tc_end (by omega))
        have q1 : decide ((k : Int) < (n : Int)) = false := by simp; omega
        by_cases hl2 : n < n'
        · have HF : Hid (T = -1) := by
            have := HT2.out (-1) (by rw [tagsC_zero e, cmpI_less hl2])
            unfold Hid; simpa using this
          have q3 : ((n : Int) - (n' : Int) == 0) = false := by simp; omega
          clear e hl hl'
          go_wp2
          go_ret
          rw [HF.out]
          exact ⟨rfl, hbw⟩
        · have HF : Hid (T = cmpI st st') := by
            have := HT2.out 0 (by rw [tagsC_zero e, cmpI_same (by omega)])
            unfold Hid; simpa using this
          have q3 : ((n : Int) - (n' : Int) == 0) = true := by simp; omega
          clear e hl hl'
          by_cases g1 : st < st'
          · have HF2 : Hid (T = -1) := by unfold Hid; rw [HF.out]; unfold cmpI; rw [if_pos g1]
            have g2 : st - st' < 0 := by omega
            go_wp2
            go_ret
            rw [HF2.out]
            exact ⟨rfl, hbw⟩
          · by_cases g2 : st' < st
            · have HF2 : Hid (T = 1) := by unfold Hid; rw [HF.out]; unfold cmpI; rw [if_neg g1, if_pos g2]
              have g3 : ¬ st - st' < 0 := by omega
              have g4 : 0 < st - st' := by omega
              go_wp2
              go_ret
              rw [HF2.out]
              exact ⟨rfl, hbw⟩
            · have HF2 : Hid (T = 0) := by unfold Hid; rw [HF.out]; unfold cmpI; rw [if_neg g1, if_neg g2]
              have g3 : ¬ st - st' < 0 := by omega
              have g4 : ¬ 0 < st - st' := by omega
              go_wp2
              go_ret
              rw [HF2.out]
              exact ⟨rfl, hbw⟩
  · have hc1' : (c1 != 0) = true := by simp [hc1]
    have HF : Hid (T = c1) := by unfold Hid; rw [← HT.out, keyCmp_m (by rw [H1.out]; exact hc1), H1.out]
    clear hc1
    go_wp2
    go_ret
    rw [HF.out]
    exact ⟨rfl, hB⟩
end Go.Proofs.Ytjdijikmdlklkaa
