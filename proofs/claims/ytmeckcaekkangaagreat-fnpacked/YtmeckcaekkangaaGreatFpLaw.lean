/- The law of FnPacked, walked. -/
import Derived.Test.YtmeckcaekkangaaGreatSa
import Derived.Test.YtmeckcaekkangaaGreatSb
namespace Go.Proofs.YtmeckcaekkangaaGreat
set_option maxRecDepth 100000
open Go.RowKit
set_option linter.unusedSimpArgs false
set_option linter.unusedVariables false

theorem take_flat {Ps : List (List Ent)} {k : Nat} (h : k < Ps.length) : (Ps.take (k + 1)).flatten = (Ps.take k).flatten ++ gR Ps k := by
  rw [List.take_succ_eq_append_getElem h, List.flatten_append]
  simp [gR, h]
theorem take_len {Ps : List (List Ent)} {P : List Ent} (h : Ps.flatten = P) (k : Nat) : (Ps.take k).flatten.length ≤ P.length := by
  have e : Ps.flatten = (Ps.take k).flatten ++ (Ps.drop k).flatten := by rw [← List.flatten_append, List.take_append_drop]
  rw [← h, e, List.length_append]
  omega

set_option maxRecDepth 100000 in
set_option maxHeartbeats 16000000 in
theorem fnPacked_law (ao : Option Addr) (n cap : Nat) (f : Nat → Int) (w : World) (hr : Row w ao n f) (hnx : n ≤ 9223372036854775807) :
    Calls Tryz.prog 3 #[.slice ao n cap] w fun e w' => e = .returned (.bool true) ∧ Below w.heap.size w w' := by
  by_cases hbig : 1048576 < n
  · have hb2 : (1048576 : Int) < (n : Int) := by omega
    go_enter Tryz.func3, Tryz.ntmps3
    go_wp2
    go_ret
    exact ⟨rfl, Below.refl _ _⟩
  · have hb2 : ¬ (1048576 : Int) < (n : Int) := by omega
    go_enter Tryz.func3, Tryz.ntmps3
    go_wp2_with fail
    refine (drawPack_any ao n cap f w hr (by omega)).mono ?_
    rintro e w1 ⟨rv, N, R, bt, rfl, hN, hR6, hRL, b1⟩
    obtain ⟨ro, rc, rfl⟩ := hRL.form
    by_cases hok : RowsOk N (rD R)
    rotate_left
    · have h1 := (rl_pack hRL hN hR6 bt).mono fun e w' h => h.2 hok
      clear hr
      go_wp2_with fail
      refine h1.mono ?_
      rintro e w2 ⟨v2, rfl, hv2, b2⟩
      obtain ⟨lo2, lc2, rfl⟩ := hv2.form
      have hRL2 := hRL.keep b2
      have h3 := (rl_packS hRL2 hN hR6 bt).mono fun e w' h => h.2 hok
      have q2 := b1.trans (b2.mono b1.size)
      simp only [List.length_nil] at *
      clear h1 hv2 hok
      go_wp2_with fail
      refine h3.mono ?_
      rintro e w3 ⟨v3, rfl, hv3, b3⟩
      obtain ⟨lo3, lc3, rfl⟩ := hv3.form
      have q3 := q2.trans (b3.mono q2.size)
      simp only [List.length_nil] at *
      clear h3 hv3
      go_wp2_with fail
      refine (sameEntries_any lo2 lo3 0 lc2 lc3 (eL []) w3 (erow_none _ _ _) (erow_none _ _ _) (by omega) (esize_none _)).mono ?_
      rintro e w4 ⟨rfl, b4⟩
      have q4 := q3.trans (b4.mono q3.size)
      go_wp2
      go_ret
      exact ⟨rfl, q4⟩
    · have hE := (rows_iff.1 hok).2
      have hl : (mg N (rD R)).length ≤ 300 := by rw [mg_len]; exact hok.2.1
      have hT := pkT_of hE (hRL.sm hR6 hok) hl bt
      have h1 := fun (W : World) (hW : RL W w.heap.size (.slice ro N rc) N R) => (rl_pack hW hN hR6 bt).mono fun e w' h => h.1 hok
      have h2 := fun (W : World) (hW : RL W w.heap.size (.slice ro N rc) N R) => (rl_packS hW hN hR6 bt).mono fun e w' h => h.1 hok
      have h3 := fun (W : World) (hW : RL W w.heap.size (.slice ro N rc) N R) => (rl_live hW hN hR6).mono fun e w' h => h.1 hok
      generalize mg N (rD R) = E at *
      generalize pkAll E bt = P at *
      generalize pkAll E true = T at *
      clear hE hl hok hr
      obtain ⟨hPg, hPs, hPl, hTs, hTl, htw⟩ := hT
      go_wp2_with fail
      refine (h1 w1 hRL).mono ?_
      rintro e w2 ⟨v2, rfl, hv2, b2⟩
      obtain ⟨lo2, lc2, rfl, hx2, hc2⟩ := hv2.rd hPs
      have hRL2 := hRL.keep b2
      have q2 := b1.trans (b2.mono b1.size)
      clear hRL b2 hv2 h1
      go_wp2_with fail
      refine (h2 w2 hRL2).mono ?_
      rintro e w3 ⟨v3, rfl, hv3, b3⟩
      obtain ⟨lo3, lc3, rfl, hx3, hc3⟩ := hv3.rd hPs
      have hRL3 := hRL2.keep b3
      have hx23 := hx2.keep b3
      have q3 := q2.trans (b3.mono q2.size)
      clear hRL2 b3 hv3 h2 hx2
      go_wp2_with fail
      refine (sameEntries_any lo2 lo3 P.length lc2 lc3 (eL P) w3 hx23 hx3 (by omega) hPs.sz).mono ?_
      rintro e w4 ⟨rfl, b4⟩
      have hRL4 := hRL3.keep b4
      have hx4 := hx23.keep b4
      have q4 := q3.trans (b4.mono q3.size)
      clear hRL3 b4 hx3 hx23
      go_wp2_with fail
      refine (h3 w4 hRL4).mono ?_
      rintro e w5 ⟨v5, rfl, hv5, b5⟩
      obtain ⟨lo5, lc5, rfl, hx5, hc5⟩ := hv5.rd hTs
      have hx45 := hx4.keep b5
      have q5 := q4.trans (b5.mono q4.size)
      clear hRL4 b5 hv5 h3 hx4
      have bA := below_new w5 (.cells #[.slice lo2 P.length lc2] 26)
      have hA : (w5.alloc (.cells #[.slice lo2 P.length lc2] 26)).cell? ⟨w5.heap.size, 0, none⟩ = some (.slice lo2 P.length lc2) := by simp [go_sem]
      have hLR : LR (w5.alloc (.cells #[.slice lo2 P.length lc2] 26)) w5.heap.size 0 1 (fun _ => P) := ⟨by simp, fun i hi => ⟨lo2, lc2, by rw [show 0 + i = 0 by omega]; exact hA, hc2, hx45.keep bA⟩⟩
      have h6 : Calls Tryz.prog 8 #[.slice (some ⟨w5.heap.size, 0, none⟩) 1 1] (w5.alloc (.cells #[.slice lo2 P.length lc2] 26)) fun e w' => AnE T true (w5.alloc (.cells #[.slice lo2 P.length lc2] 26)) e w' := by
        refine (liveIn_impl w5.heap.size 0 1 1 (fun _ => P) _ hLR (by omega) (by simp [sm]; omega) (fun i hi => hPs.sz) (fun _ => by rw [mg_one]; exact hPs)).mono fun e w' h => ?_
        have := h.1 (rowsOk_one hPg hPl)
        rw [mg_one, htw] at this
        exact this
      have hx46 := hx45.keep bA
      have hx56 := hx5.keep bA
      have q6 := q5.trans (bA.mono q5.size)
      clear hLR hA bA hx45 hx5 htw
      go_wp2_with fail
      generalize w5.alloc (.cells #[.slice lo2 P.length lc2] 26) = w6 at *
      refine h6.mono ?_
      rintro e w7 ⟨v7, rfl, hv7, b7⟩
      obtain ⟨lo7, lc7, rfl, hx7, hc7⟩ := hv7.rd hTs
      have hx47 := hx46.keep b7
      have hx57 := hx56.keep b7
      have q7 := q6.trans (b7.mono q6.size)
      clear h6 hv7 b7 hx46 hx56
      go_wp2_with fail
      refine (goodEntries_impl lo2 P.length lc2 (eL P) w7 hx47 (by omega) hPs.sz).mono ?_
      rintro e w8 ⟨b8, rfl, hb8, c8⟩
      have e8 := hb8.2 (good_iff.2 hPg)
      subst e8
      have hx48 := hx47.keep c8
      have hx58 := hx57.keep c8
      have hx78 := hx7.keep c8
      have q8 := q7.trans (c8.mono q7.size)
      clear hb8 c8 hx47 hx57 hx7
      go_wp2_with fail
      refine (sameEntries_any lo5 lo7 T.length lc5 lc7 (eL T) w8 hx58 hx78 (by omega) hTs.sz).mono ?_
      rintro e w9 ⟨rfl, b9⟩
      have hx49 := hx48.keep b9
      have q9 := q8.trans (b9.mono q8.size)
      clear b9 hx48 hx58 hx78
      go_wp2_with fail
      refine (split_any hPg hPs hPl hx49 hc2).mono ?_
      rintro e wA ⟨plo, plc, Ps, rfl, hRR, hfl, hPsl, bA⟩
      have hxA := hx49.keep bA
      have qA := q9.trans (bA.mono q9.size)
      clear bA hx49
      obtain ⟨pl, hpl⟩ : ∃ pl, Ps.length = pl := ⟨_, rfl⟩
      have HPL : Hid (Ps.length = pl) := hpl
      rw [hpl] at hRR ⊢
      have hpl3 : pl ≤ 300 := by omega
      have HFL : Hid (Ps.flatten = P) := hfl
      clear hpl hfl hPsl
      go_wp2_with fail
      go_loopw [15, 84] (fun u i wr => ∃ (k : Nat) (uo : Option Addr) (tl uc : Nat), k ≤ pl ∧ i = .int .i64 k ∧ u = .slice uo tl uc ∧ Hid (tl = (Ps.take k).flatten.length) ∧ Hid (GatE wA wr wA.heap.size (.slice uo tl uc) ((Ps.take k).flatten)) ∧ Below wA.heap.size wA wr) (fun _ i _ => pl - (intOf i).toNat)
      case atStart => exact ⟨0, none, 0, 0, Nat.zero_le _, rfl, rfl, by simp [Hid], by show GatE _ _ _ _ _; simpa using gatE_nil _ _ _, Below.refl _ _⟩
      case round =>
        obtain ⟨k, uo, tl, uc, hk, rfl, rfl, HTL, HG, hbk⟩ := hrel
        by_cases hlt : k < pl
        · obtain ⟨b, off, rfl, hblt, hc⟩ := hRR.lies.resolve_left (by omega)
          obtain ⟨da, dc, hcell, hEr⟩ := hc k hlt
          have hcw := (hbk.cell (p := ⟨b, off + k, none⟩) hblt).trans hcell
          have hlt' : k < Ps.length := by rw [HPL.out]; exact hlt
          have hlenP := take_len HFL.out (k + 1)
          rw [take_flat hlt', List.length_append] at hlenP
          obtain ⟨v', w', hrun, hG', hb', hs'⟩ := gat_next (pc := dc) 26 HG.out HTL.out hEr hbk (by omega) hbk.size (Nat.le_refl _)
          rw [← take_flat hlt'] at hG'
          obtain ⟨uo', uc', rfl⟩ := hG'.form
          have HG' : Hid (GatE wA w' wA.heap.size (.slice uo' (Ps.take (k + 1)).flatten.length uc') ((Ps.take (k + 1)).flatten)) := hG'
          have hkd : decide ((k : Int) < (pl : Int)) = true := decide_eq_true (by omega)
          have hk2 : (k : Int) < (pl : Int) := by omega
          obtain ⟨gl, hgl⟩ : ∃ gl, (gR Ps k).length = gl := ⟨_, rfl⟩
          obtain ⟨t2, ht2⟩ : ∃ t2, (Ps.take (k + 1)).flatten.length = t2 := ⟨_, rfl⟩
          have HT2 : Hid (t2 = (Ps.take (k + 1)).flatten.length) := ht2.symm
          have hcw2 : wr.cell? ⟨b, off + k, none⟩ = some (.slice da gl dc) := by rw [hcw, ← hgl]
          rw [hgl, ht2] at hrun
          rw [ht2] at HG'
          clear hc hcell hG' HG HTL hEr hcw hlenP hgl ht2 hRR hxA hlt'
          go_wp2_with (at_builtin; refine wpList_append_eq _ rfl (.tmp 88) (.tmp 89) 26 26 rfl rfl (.slice uo tl uc) (.slice da gl dc) (.slice uo' t2 uc') rfl rfl w' hrun ?_)
          go_roundw
          case rel => exact ⟨k + 1, uo', t2, uc', by omega, by go_num, rfl, HT2, HG', hb'⟩
          case measure => simp [intOf]; omega
        · obtain rfl : k = pl := by omega
          have hkd : decide ((k : Int) < (k : Int)) = false := decide_eq_false (by omega)
          have hG := HG.out
          have htl := HTL.out
          rw [← HPL.out, List.take_length, HFL.out] at hG htl
          obtain ⟨uo', uc', eu, hEu⟩ := hG.erow hbk hPs.eb
          injection eu with e1 e2 e3
          subst e1 e3
          rw [← htl] at hEu
          have hxe := hxA.keep hbk
          have hsz := hPs.sz
          rw [← htl] at hxe hsz
          clear hG hxA hRR HG HTL
          subst htl
          go_wp2_with fail
          refine (sameEntries_any uo lo2 P.length uc lc2 (eL P) wr hEu hxe (by omega) hsz).mono ?_
          rintro e wB ⟨rfl, bB⟩
          have qB := (qA.trans (hbk.mono qA.size)).trans (bB.mono (qA.trans (hbk.mono qA.size)).size)
          go_wp2
          go_ret
          exact ⟨rfl, qB⟩
end Go.Proofs.YtmeckcaekkangaaGreat
