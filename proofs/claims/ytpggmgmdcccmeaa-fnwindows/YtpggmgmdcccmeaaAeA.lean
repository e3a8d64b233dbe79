/- AddEvent in the model: a window that is there (made by mkas.py). / What AddEvent answers, in both texts. -/
import Derived.Test.YtpggmgmdcccmeaaAeY
import Derived.Test.YtpggmgmdcccmeaaSj
import Derived.Test.YtpggmgmdcccmeaaTr
import Derived.Test.YtpggmgmdcccmeaaAeV
namespace Go.Proofs.Ytpggmgmdcccmeaa
open Go.RowKit
set_option linter.unusedSimpArgs false
set_option linter.unusedVariables false

theorem irow_can {w : World} {ao : Option Addr} {x : Wn} (h : IRow w ao x.n x.f) (hn : x.n = 8) : IRow w ao 8 (cA (agE x)).f := by
  refine ⟨fun i => ?_, ?_⟩
  · show -9223372036854775808 ≤ (if i < 8 then x.f i else 0) ∧ (if i < 8 then x.f i else 0) ≤ 9223372036854775807
    split
    · exact h.bd i
    · omega
  · rcases h.lies with h0 | ⟨b, off, e, hl, hc⟩
    · omega
    · refine .inr ⟨b, off, e, hl, fun i hi => ?_⟩
      rw [hc i (by omega)]
      simp [cA, agE, hi]
/-- A window of many made dirty. -/
theorem BA.dirt {w : World} {base top gv n vc q : Nat} {Y : Nat → Wn} {y : Wn} (h : BA w base top (.slice (some ⟨gv, 0, none⟩) n vc) n (upWi Y q y)) (hq : q < n) (b : Bool) :
    (∃ u, w.cell? ⟨gv, q * 11 + 10, none⟩ = some u) ∧ w.frozen? ⟨gv, q * 11 + 10, none⟩ = false ∧ gv < top ∧ BA (w.setCell ⟨gv, q * 11 + 10, none⟩ (.bool b)) base top (.slice (some ⟨gv, 0, none⟩) n vc) n (upWi Y q (y.w_di b)) := by
  rcases h.2 with ⟨h0, _⟩ | ⟨g, cap, A0, A1, K0, K1, G, e, h1, h2, h3, h4, h5⟩
  · omega
  · obtain rfl := slice_same e
    refine ⟨⟨_, (h3.ent q hq).c10⟩, h3.free _ (by omega), h2, by simpa using h.1, .inr ⟨gv, cap, A0, A1, K0, K1, G, e, h1, h2, h3.set10 hq b, fun i hi hp => h4 i hi ?_, fun i hi hp => h5 i hi ?_⟩⟩
    · by_cases e' : i = q
      · subst e'; rw [upWi_at] at hp ⊢; exact hp
      · rw [upWi_ne _ _ _ e'] at hp ⊢; exact hp
    · by_cases e' : i = q
      · subst e'; rw [upWi_at] at hp ⊢; exact hp
      · rw [upWi_ne _ _ _ e'] at hp ⊢; exact hp
set_option maxRecDepth 100000 in
set_option maxHeartbeats 16000000 in
theorem addEvent_spec_old (z h mk t v : Int) (ao : Option Addr) (n cap q : Nat) (X : Nat → Wn) (x : Wn) (a0 : Option Addr) (c00 : Nat) (w : World) (hr : WiRow w ao n X) (hn : n ≤ 1048576) (hz : WiSize n X) (hG : Hid (GBd z h mk n X)) (rt : TRow w a0 x.tn x.nm x.vl) (hk : KSz x) (hE : Hid (evK x t v)) (hmh : -9223372036854775808 ≤ mk - h ∧ mk - h ≤ 9223372036854775807) (hl : ¬ t < mk - h)
    (hP : Hid (PosK X n (evX x (t - t % z)) q)) (hyes : Hid (q < n ∧ kc (X q) (evX x (t - t % z)) = 0)) :
    Calls Try.prog 11 #[.agg #[.int .i64 z, .int .i64 h, .int .i64 mk, .slice ao n cap], .agg #[.string x.m, .slice a0 x.tn c00, .int .i64 x.st], .int .i64 t, .int .i64 v] w fun e w' => BAns z h mk n (upWi X q ((agY (X q) (jn (cA (agE (X q))) (oA v))).w_di true)) 0 w e w' := by
  obtain ⟨y, HEq⟩ : ∃ y : Ent, Hid (jn (cA (agE (X q))) (oA v) = y) := ⟨_, rfl⟩
  rw [HEq.out]
  have hqN := hyes.out.1
  have hAq : GA (agE (X q)) := (hG.out.wins.each q hqN).agg
  have hn8 : Hid ((X q).n = 8) := hAq.n
  have HV' : Hid (isV v = true) := hE.out.1
  have hjn : ∀ (ga : Option Addr) (gk G : Nat) (W : World), IRow W ga (X q).n (X q).f → IOwn W G 0 8 (oA v).f → Calls Try.prog 34 #[.agg #[.int .i64 (X q).c, .int .i64 (X q).s, .int .i64 (X q).lo, .int .i64 (X q).hi, .slice ga (X q).n gk, .bool (X q).fu], .agg #[.int .i64 1, .int .i64 v, .int .i64 v, .int .i64 v, .slice (some ⟨G, 0, none⟩) 8 8, .bool false]] W fun e w' => SjO y W e w' := fun ga gk G W h1 h2 => by
    have := l4Join_any (cA (agE (X q))) (oA v) ga (some ⟨G, 0, none⟩) gk 8 W (irow_can h1 hn8.out) h2.row (ai_of hAq) (ga_oA HV'.out)
    rw [HEq.out] at this
    rw [hn8.out]
    exact this
  have hw : IntKind.i64.wrap (mk - h) = mk - h := by rw [IntKind.wrap_i64] <;> omega
  have hbd := hr.bd
  have hfX := hr.fb
  have hgX : Hid (∀ i, i < n → gK (X i) = true) := fun i hi => (hG.out.wins.each i hi).key
  have hgT : Hid (gK (evX x (t - t % z)) = true) := evX_good hE.out.2.2.1 hE.out.2.1 hG.out.size
  have h1t : 0 ≤ t ∧ t ≤ 1000000000 := by have := hE.out.2.1; simpa [isTm, btw] using this
  have h1z : 1 ≤ z ∧ z ≤ 100000 := by have := hG.out.size; simpa [isSz, btw] using this
  have m1 := Int.emod_lt_of_pos t (show 0 < z by omega)
  have m2 := Int.emod_nonneg t (show z ≠ 0 by omega)
  have hz0 : ¬ z = 0 := by omega
  have hw0 : IntKind.i64.wrap (t % z) = t % z := by rw [IntKind.wrap_i64] <;> omega
  have hwT : IntKind.i64.wrap (t - t % z) = t - t % z := by rw [IntKind.wrap_i64] <;> omega
  clear m1 m2
  have M0 := MB.new w z h mk (.slice ao n cap) x.m (.slice a0 x.tn c00) x.st
  go_enter Try.func11, Try.ntmps11
  go_wp2_with fail
  generalize ((w.alloc (.cells #[.int .i64 z, .int .i64 h, .int .i64 mk, .slice ao n cap] 25)).alloc (.cells #[.string x.m, .slice a0 x.tn c00, .int .i64 x.st] 32)).alloc (.cells #[.int .i64 0, .int .i64 0, .int .i64 0, .slice none 0 0] 25) = w0 at M0 ⊢
  refine (goodBoard_spec z h mk ao n cap X _ (hr.keep M0.bw) hn hz).mono ?_
  rintro e w1 ⟨b1, rfl, h1, q1⟩
  have M1 := M0.keep q1
  have e1 : b1 = true := h1.2 hG.out
  subst e1
  have s1 := M1.R.lt
  clear h1 q1 M0
  obtain ⟨_, c0, c1, c2, c3⟩ := id M1.B
  go_wp2_with fail
  refine (l11Own_any z h mk ao n cap X _ (hr.keep M1.bw) hn hz).mono ?_
  rintro e w2 ⟨v', V, rfl, hO, q2⟩
  obtain ⟨va, vc, rfl⟩ := ownsRow_form hO.own
  have hO := hO.mono (base' := w.heap.size + 3) (by omega)
  have M2 := M1.keep q2
  have M4 := M2.putB z h mk (.slice va n vc)
  have hO4 := hO.others (setBd_oth w2 w.heap.size z h mk (.slice va n vc)) (by omega)
  clear c0 c1 c2 c3 M1 q2 hO hr
  obtain ⟨_, c0, c1, c2, c3⟩ := id M2.B
  obtain ⟨_, g0, g1, g2⟩ := id M2.K
  have cf := M2.Bf
  go_wp2_with fail
  change Calls _ _ _ (setBd w2 w.heap.size z h mk (.slice va n vc)) _
  generalize setBd w2 w.heap.size z h mk (.slice va n vc) = w4 at M4 hO4 ⊢
  clear M2 c0 c1 c2 c3 cf g0 g1 g2
  refine (goodKey_spec x.m x.st a0 x.tn c00 x.nm x.vl _ (rt.keep M4.bw) hk.m hk.tn hk.ts).mono ?_
  rintro e w5 ⟨rfl, q5⟩
  have M5 := M4.keep q5
  have hO5 := hO4.keep q5
  obtain ⟨hv, ht, hgx, hst⟩ := hE.out
  have hgx' : goodB x.m x.tn x.nm x.vl x.st = true := hgx
  rw [hgx']
  rw [hst] at M5
  clear hst hgx hgx' M4 hO4 q5
  obtain ⟨_, g0, g1, g2⟩ := id M5.K
  obtain ⟨_, b0, b1, b2, b3⟩ := id M5.B
  go_wp2_with fail
  refine (l11Time_any t _).mono ?_
  rintro e w6 ⟨rfl, rfl⟩
  rw [ht]
  go_wp2_with fail
  refine (l4Value_any v _).mono ?_
  rintro e w7 ⟨rfl, rfl⟩
  rw [hv]
  have hld : decide (t < mk - h) = false := decide_eq_false (by omega)
  go_wp2_with fail
  refine (l11OwnKey_any x.m 0 a0 x.tn c00 x.nm x.vl _ (rt.keep M5.bw) hk.tn).mono ?_
  rintro e w8 ⟨kv, rfl, hown, q8⟩
  obtain ⟨ka, kcp, rfl⟩ := ownsRow_form hown
  have M8 := M5.keep q8
  have hO8 := hO5.keep q8
  have M9 := M8.putK x.m (.slice ka x.tn kcp) 0 (t - t % z)
  have hO9 := hO8.others (setKy_oth w8 (w.heap.size + 1) x.m (.slice ka x.tn kcp) 0 (t - t % z)) (by omega)
  have hsl := M5.R.lt
  have o9 := ownsRow_others hown (setKy_oth w8 (w.heap.size + 1) x.m (.slice ka x.tn kcp) 0 (t - t % z)) (fun hk => by have := (hown.lt _ hk).1; omega)
  have far : ∀ k, (Value.slice ka x.tn kcp).ownBlock = some k → w7.heap.size ≤ k ∧ k < w8.heap.size := fun k hk => hown.lt k hk
  have vl : ∀ k, (Value.slice va n vc).ownBlock = some k → w.heap.size + 3 ≤ k ∧ k < w7.heap.size := fun k hk => hO5.own.lt k hk
  have Vl : ∀ i k, i < n * 2 → (V i).ownBlock = some k → k < w7.heap.size := fun i k hi hk => (hO5.lt hi hk).2
  have sz8 := q8.size
  clear g0 g1 g2 b0 b1 b2 b3 M5 hO5 q8 hown hO8
  obtain ⟨_, g0, g1, g2⟩ := id M8.K
  obtain ⟨_, b0, b1, b2, b3⟩ := id M8.B
  have gf := M8.Kf
  have k2 : ((((w8.setCell ⟨w.heap.size + 1, 0, none⟩ (.string x.m)).setCell ⟨w.heap.size + 1, 1, none⟩ (.slice ka x.tn kcp)).setCell ⟨w.heap.size + 1, 2, none⟩ (.int .i64 0)).setCell ⟨w.heap.size + 1, 2, none⟩ (.int .i64 (t - t % z))).cell? ⟨w.heap.size + 1, 2, none⟩ = some (.int .i64 (t - t % z)) := M9.K.c2
  go_wp2_with fail
  change Calls _ _ _ (setKy w8 (w.heap.size + 1) x.m (.slice ka x.tn kcp) 0 (t - t % z)) _
  have sz9 := (setKy_oth w8 (w.heap.size + 1) x.m (.slice ka x.tn kcp) 0 (t - t % z)).size
  generalize setKy w8 (w.heap.size + 1) x.m (.slice ka x.tn kcp) 0 (t - t % z) = w9 at M9 hO9 o9 sz9 ⊢
  clear M8 k2 g0 g1 g2 b0 b1 b2 b3 gf hw0 hwT hz0 h1t h1z
  generalize hTT : t - t % z = T at *
  have HT : Hid (t - t % z = T) := hTT
  clear hTT
  refine (l11At_any z h mk va ka n vc kcp q X (evX x T) _ ((ba_of hO9 hfX).row hbd hfX).2 hn hgX hgT (trow_of o9) hP).mono ?_
  rintro e wa ⟨bb, rfl, hbb, qa⟩
  have ebb : bb = true := by
    cases bb
    · exact absurd (hbb.2 hyes.out) (by decide)
    · rfl
  subst ebb
  have Ma := M9.keep qa
  have hOa := hO9.keep qa
  have oa := ownsRow_keep o9 qa
  have sza := qa.size
  clear M9 hO9 o9 qa hbb
  obtain ⟨_, g0, g1, g2⟩ := id Ma.K
  obtain ⟨_, b0, b1, b2, b3⟩ := id Ma.B
  obtain ⟨_, d0, d1, d2, d3⟩ := id Ma.R
  have df := Ma.Rf
  go_wp2
  have Hu := hOa.keep (Below.refl _ wa).drew
  have Mu := Ma.keep (Below.refl _ wa).drew
  have hbsu : w.heap.size + 3 ≤ wa.drew.heap.size := by have := Mu.R.lt; omega
  obtain ⟨u, hu⟩ : ∃ u, u = wa.drew := ⟨_, rfl⟩
  rw [← hu] at Hu Mu hbsu
  clear hOa Ma oa g0 g1 g2 b0 b1 b2 b3 d0 d1 d2 d3 df
  obtain ⟨gv, ga0, ga1, gk0, gk1, eva, hg1, hg2, hAt, hIr, hfr, hBA⟩ := agPrep Hu hfX hqN hbsu
  subst eva
  have hqi : (q : Int) < (n : Nat) := by omega
  have e3 := Mu.B.c3
  obtain ⟨_, _, _, _, y3, y4, y5, y6, y7, y8, _, _⟩ := id hAt
  refine wp_region_w (fun w' : World => w'.cell? ⟨w.heap.size, 3, none⟩ = some (.slice (some ⟨gv, 0, none⟩) n vc) ∧ w'.cell? ⟨gv, q * 11 + 3, none⟩ = some (.int .i64 (X q).c) ∧ w'.cell? ⟨gv, q * 11 + 4, none⟩ = some (.int .i64 (X q).s) ∧ w'.cell? ⟨gv, q * 11 + 5, none⟩ = some (.int .i64 (X q).lo) ∧ w'.cell? ⟨gv, q * 11 + 6, none⟩ = some (.int .i64 (X q).hi) ∧ w'.cell? ⟨gv, q * 11 + 7, none⟩ = some (.slice ga1 (X q).n gk1) ∧ w'.cell? ⟨gv, q * 11 + 8, none⟩ = some (.bool (X q).fu)) (fun j => j != 14) (by kernel_rfl) ?_
  change wpW _ _ _ _ _ _ 15 _ _ wa.drew
  rw [← hu]
  clear hu
  have hS0 : (fun w' : World => w'.cell? ⟨w.heap.size, 3, none⟩ = some (.slice (some ⟨gv, 0, none⟩) n vc) ∧ w'.cell? ⟨gv, q * 11 + 3, none⟩ = some (.int .i64 (X q).c) ∧ w'.cell? ⟨gv, q * 11 + 4, none⟩ = some (.int .i64 (X q).s) ∧ w'.cell? ⟨gv, q * 11 + 5, none⟩ = some (.int .i64 (X q).lo) ∧ w'.cell? ⟨gv, q * 11 + 6, none⟩ = some (.int .i64 (X q).hi) ∧ w'.cell? ⟨gv, q * 11 + 7, none⟩ = some (.slice ga1 (X q).n gk1) ∧ w'.cell? ⟨gv, q * 11 + 8, none⟩ = some (.bool (X q).fu)) u := ⟨e3, y3, y4, y5, y6, y7, y8⟩
  refine wpW_take 0 _ (.pointer (some ⟨w.heap.size, 3, none⟩)) rfl (by kernel_rfl) (by kernel_rfl) (by kernel_rfl) (fun _ _ _ h => h) (by kernel_rfl) (.inl ⟨rfl, fun w' hS' => by obtain ⟨s0, s1, s2, s3, s4, s5, s6⟩ := hS'; go_simp⟩) hS0 ?_
  refine wpW_take 1 _ (.slice (some ⟨gv, 0, none⟩) n vc) rfl (by kernel_rfl) (by kernel_rfl) (by kernel_rfl) (fun _ _ _ h => h) (by kernel_rfl) (.inl ⟨rfl, fun w' hS' => by obtain ⟨s0, s1, s2, s3, s4, s5, s6⟩ := hS'; go_simp⟩) hS0 ?_
  refine wpW_take 2 _ (.int .i64 (q : Int)) rfl (by kernel_rfl) (by kernel_rfl) (by kernel_rfl) (fun _ _ _ h => h) (by kernel_rfl) (.inl ⟨rfl, fun w' hS' => by obtain ⟨s0, s1, s2, s3, s4, s5, s6⟩ := hS'; go_simp⟩) hS0 ?_
  refine wpW_take 3 _ (.pointer (some ⟨w.heap.size, 3, none⟩)) rfl (by kernel_rfl) (by kernel_rfl) (by kernel_rfl) (fun _ _ _ h => h) (by kernel_rfl) (.inl ⟨rfl, fun w' hS' => by obtain ⟨s0, s1, s2, s3, s4, s5, s6⟩ := hS'; go_simp⟩) hS0 ?_
  refine wpW_take 4 _ (.slice (some ⟨gv, 0, none⟩) n vc) rfl (by kernel_rfl) (by kernel_rfl) (by kernel_rfl) (fun _ _ _ h => h) (by kernel_rfl) (.inl ⟨rfl, fun w' hS' => by obtain ⟨s0, s1, s2, s3, s4, s5, s6⟩ := hS'; go_simp⟩) hS0 ?_
  refine wpW_take 5 _ (.int .i64 (q : Int)) rfl (by kernel_rfl) (by kernel_rfl) (by kernel_rfl) (fun _ _ _ h => h) (by kernel_rfl) (.inl ⟨rfl, fun w' hS' => by obtain ⟨s0, s1, s2, s3, s4, s5, s6⟩ := hS'; go_simp⟩) hS0 ?_
  refine wpW_take 6 _ (.pointer (some ⟨gv, q * 11, none⟩)) rfl (by kernel_rfl) (by kernel_rfl) (by kernel_rfl) (fun _ _ _ h => h) (by kernel_rfl) (.inl ⟨rfl, fun w' hS' => by obtain ⟨s0, s1, s2, s3, s4, s5, s6⟩ := hS'; go_simp⟩) hS0 ?_
  refine wpW_take 7 _ (.pointer (some ⟨gv, q * 11 + 3, none⟩)) rfl (by kernel_rfl) (by kernel_rfl) (by kernel_rfl) (fun _ _ _ h => h) (by kernel_rfl) (.inl ⟨rfl, fun w' hS' => by obtain ⟨s0, s1, s2, s3, s4, s5, s6⟩ := hS'; go_simp⟩) hS0 ?_
  refine wpW_take 8 _ (.agg #[.int .i64 (X q).c, .int .i64 (X q).s, .int .i64 (X q).lo, .int .i64 (X q).hi, .slice ga1 (X q).n gk1, .bool (X q).fu]) rfl (by kernel_rfl) (by kernel_rfl) (by kernel_rfl) (fun _ _ _ h => h) (by kernel_rfl) (.inl ⟨rfl, fun w' hS' => by obtain ⟨s0, s1, s2, s3, s4, s5, s6⟩ := hS'; go_simp⟩) hS0 ?_
  refine wpW_take 9 _ (.int .i64 v) rfl (by kernel_rfl) (by kernel_rfl) (by kernel_rfl) (fun _ _ _ h => h) (by kernel_rfl) (.inl ⟨rfl, fun w' hS' => by obtain ⟨s0, s1, s2, s3, s4, s5, s6⟩ := hS'; go_simp⟩) hS0 ?_
  simp only [Act.put, List.getElem_toArray, List.getElem_cons_succ, List.getElem_cons_zero, List.setIfInBounds_toArray, List.set_cons_zero, List.set_cons_succ]
  refine wpW_one 10 _ rfl (by kernel_rfl) (step_c1 rfl 73 35 3 rfl _ (by simp [Act.eval, Act.put]) cf_l4Of (l4Of_any v u HV'.out) ?_)
  rintro e u1 ⟨G, rfl, hGg, hI1, q1⟩
  refine ⟨_, rfl, ?_⟩
  have A1 := hAt.keep q1
  have M1 := Mu.keep q1
  refine ⟨fun _ => ⟨M1.B.c3, A1.c3, A1.c4, A1.c5, A1.c6, A1.c7, A1.c8⟩, ?_⟩
  simp only [Act.put, List.getElem_toArray, List.getElem_cons_succ, List.getElem_cons_zero, List.setIfInBounds_toArray, List.set_cons_zero, List.set_cons_succ]
  refine wpW_one 11 _ rfl (by kernel_rfl) (step_c2 rfl 72 74 34 35 35 rfl _ _ (by simp [Act.eval, Act.put]) (by simp [Act.eval, Act.put]) cf_l4Join (hjn ga1 gk1 G u1 (hIr.keep q1) hI1) ?_)
  rintro e u2 ⟨g, cp, rfl, hgg, hI2, q2⟩
  refine ⟨_, rfl, ?_⟩
  have bu2 := q1.trans (q2.mono q1.size)
  have A2 := A1.keep q2
  have M2 := M1.keep q2
  have hS2 : (fun w' : World => w'.cell? ⟨w.heap.size, 3, none⟩ = some (.slice (some ⟨gv, 0, none⟩) n vc) ∧ w'.cell? ⟨gv, q * 11 + 3, none⟩ = some (.int .i64 (X q).c) ∧ w'.cell? ⟨gv, q * 11 + 4, none⟩ = some (.int .i64 (X q).s) ∧ w'.cell? ⟨gv, q * 11 + 5, none⟩ = some (.int .i64 (X q).lo) ∧ w'.cell? ⟨gv, q * 11 + 6, none⟩ = some (.int .i64 (X q).hi) ∧ w'.cell? ⟨gv, q * 11 + 7, none⟩ = some (.slice ga1 (X q).n gk1) ∧ w'.cell? ⟨gv, q * 11 + 8, none⟩ = some (.bool (X q).fu)) u2 := ⟨M2.B.c3, A2.c3, A2.c4, A2.c5, A2.c6, A2.c7, A2.c8⟩
  refine ⟨fun _ => hS2, ?_⟩
  simp only [Act.put, List.getElem_toArray, List.getElem_cons_succ, List.getElem_cons_zero, List.setIfInBounds_toArray, List.set_cons_zero, List.set_cons_succ]
  refine wpW_one 12 _ rfl (by kernel_rfl) (step_idxW rfl 65 66 rfl gv n vc q (by simp [Act.eval, Act.put]) (by simp [Act.eval, Act.put]) hqN ?_)
  refine ⟨fun _ => hS2, ?_⟩
  simp only [Act.put, List.getElem_toArray, List.getElem_cons_succ, List.getElem_cons_zero, List.setIfInBounds_toArray, List.set_cons_zero, List.set_cons_succ]
  refine wpW_one 13 _ rfl (by kernel_rfl) (step_fAg rfl 76 rfl gv (q * 11) (by simp [Act.eval, Act.put]) ?_)
  refine ⟨fun _ => hS2, ?_⟩
  simp only [Act.put, List.getElem_toArray, List.getElem_cons_succ, List.getElem_cons_zero, List.setIfInBounds_toArray, List.set_cons_zero, List.set_cons_succ]
  refine wpW_one 14 _ rfl (by kernel_rfl) (step_stA rfl 77 75 rfl gv (q * 11 + 3) y (some ⟨g, 0, none⟩) 8 cp _ _ _ _ _ _ (by simp [Act.eval, Act.put]) (by simp [Act.eval, Act.put]) A2.c3 A2.c4 A2.c5 A2.c6 A2.c7 A2.c8 (fun i hi => (bu2.frozen (p := ⟨gv, q * 11 + 3 + i, none⟩) hg2).trans (hfr _ (by omega))) ?_)
  refine ⟨fun h => absurd h (by decide), ?_⟩
  refine wpW_done (by kernel_rfl) ?_
  simp only [Act.put, List.getElem_toArray, List.getElem_cons_succ, List.getElem_cons_zero, List.setIfInBounds_toArray, List.set_cons_zero, List.set_cons_succ]
  have hA3 : BA (setAgC u2 gv q y.c y.s y.lo y.hi g cp y.fu) (w.heap.size + 3) u2.heap.size (.slice (some ⟨gv, 0, none⟩) n vc) n (upWi X q (agY (X q) y)) := hBA u2 g cp y bu2 (by have := q1.size; omega) hI2
  have oth := setAg_oth u2 gv q y.c y.s y.lo y.hi g cp y.fu
  have M3 := M2.oth oth hg1
  change Exit.then _ _ Exit.normal _ (setAgC u2 gv q y.c y.s y.lo y.hi g cp y.fu)
  have s3 := oth.size
  generalize setAgC u2 gv q y.c y.s y.lo y.hi g cp y.fu = u3 at hA3 M3 s3 ⊢
  obtain ⟨⟨uo, hd10⟩, hdf, hgt, hA4⟩ := hA3.dirt hqN true
  clear hS0 hS2 e3 y3 y4 y5 y6 y7 y8 hBA hA3 A1 A2 M1 M2 hI1 hI2 hAt hIr hfr hjn oth Hu Mu HEq hAq
  obtain ⟨_, b0, b1, b2, b3⟩ := id M3.B
  obtain ⟨_, d0, d1, d2, d3⟩ := id M3.R
  have df := M3.Rf
  have bwa := M3.bw
  have hgw : ∀ j k, (⟨gv, j, none⟩ : Addr) ≠ ⟨w.heap.size, k, none⟩ := fun j k e => by injection e with e _ _; omega
  clear M3
  go_wp2
  refine bodyPost_ret (v := .tuple #[.agg #[.int .i64 z, .int .i64 h, .int .i64 mk, .slice (some ⟨gv, 0, none⟩) n vc], .int .i64 0]) (by simp [results, Try.results11, go_sem, b0, b1, b2, b3, d0, d1, d2, d3]) rfl ⟨.slice (some ⟨gv, 0, none⟩) n vc, rfl, ?_, ?_⟩
  · refine BA.mono (hA4.same (by simp) (fun c h1 h2 => ?_)) (by omega) (by simp; try omega) (Nat.le_refl _)
    repeat rw [set_blk _ _ _ _ _ (by omega)]
  · repeat' refine Below.setCell ?_ (by first | (simp; done) | (simp; omega)) _
    exact bwa
end Go.Proofs.Ytpggmgmdcccmeaa
namespace Go.Proofs.Ytpggmgmdcccmeaa
open Go.RowKit
set_option linter.unusedSimpArgs false
set_option linter.unusedVariables false

theorem WiB.cln {X : Nat → Wn} {i : Nat} (h : WiB (X i)) : WiB (cln X i) := ⟨h.st, h.c, h.s, h.ver, h.m, h.tn, h.ts, h.n⟩
/-- What is told of a window whose key is not the event's. -/
theorem told_one {z : Int} {X : Nat → Wn} {n j : Nat} (hG : GWs z X n) (hj : j < n) {k : ByteArray} (hk : kS (X j) ≠ k) {b : Bool} (hb : b = true ↔ dS X n (kS (X j)) ∨ kS (X j) = k) : (cln X j).w_di b = X j := by
  have e : b = (X j).di := by
    cases hd : (X j).di with
    | true => exact hb.2 (.inl ⟨j, hj, hd, rfl⟩)
    | false =>
      cases hx : b with
      | false => rfl
      | true =>
        rcases hb.1 hx with ⟨i, hi, h2, h3⟩ | h3
        · by_cases ej : j = i
          · subst ej; rw [hd] at h2; cases h2
          · exact absurd h3 (kS_ne hG hj hi ej)
        · exact absurd h3 hk
  rw [e]
  rfl
/-- Two keys that are not the same have unlike texts. -/
theorem kS_of {x y : Wn} (hx : gK x = true) (hy : gK y = true) (h : kc x y ≠ 0) : kS x ≠ kS y := fun e => by
  have e1 := kS_inj e
  rcases kc_three x y with q | q | q
  · have := kb_lt hx hy (by omega); rw [e1] at this; exact ltL_irr _ this
  · exact h q
  · have := kb_lt hy hx (by rw [kc_swap]; omega); rw [e1] at this; exact ltL_irr _ this
theorem kS_eq {x y : Wn} (h : kc x y = 0) : kS x = kS y := by unfold kS; rw [kb_eq h]
/-- A key that is at no place is unlike all. -/
theorem kc_none {z : Int} {X : Nat → Wn} {n q : Nat} {t : Wn} (hG : GWs z X n) (ht : gK t = true) (hP : PosK X n t q) (hno : ¬ (q < n ∧ kc (X q) t = 0)) {j : Nat} (hj : j < n) : kc (X j) t ≠ 0 := fun e => by
  rcases Nat.lt_trichotomy j q with h | h | h
  · have := hP.lt j h; omega
  · subst h; exact hno ⟨hj, e⟩
  · have h1 := kb_rise hG (j - q - 1) q (by omega)
    rw [show q + (j - q - 1 + 1) = j from by omega, kb_eq e] at h1
    have := (kc_iff (hG.each q (by omega)).key ht).2 h1
    have := hP.ge (by omega)
    omega
/-- What is said of windows that are answered. -/
structure WOk (n : Nat) (X : Nat → Wn) : Prop where
  few : n ≤ 1048576
  bd : ∀ i, i < n → WiB (X i)
  fb : FBw n X
  sz : WiSize n X
theorem agY_ok {x : Wn} {y : Ent} (hb : WiB x) (hs : WiS x) (hy : AI y) (di : Bool) : WiB ((agY x y).w_di di) ∧ WiS ((agY x y).w_di di) ∧ ∀ j, -9223372036854775808 ≤ ((agY x y).w_di di).f j ∧ ((agY x y).w_di di).f j ≤ 9223372036854775807 := by
  refine ⟨⟨hb.st, ?_, hy.s, hb.ver, hb.m, hb.tn, hb.ts, ?_⟩, ⟨hs.m, hs.tn, hs.ts, ?_⟩, fun j => ?_⟩
  · have := hy.c; exact ⟨by show -9223372036854775808 ≤ y.c; omega, by show y.c ≤ 9223372036854775807; omega⟩
  · show 8 ≤ 9223372036854775807; omega
  · show 8 ≤ 1048576; omega
  · have := hy.f j; exact ⟨by show -9223372036854775808 ≤ y.f j; omega, by show y.f j ≤ 9223372036854775807; omega⟩
theorem tldB_of (Y : Nat → Wn) (b : Nat → Bool) {n i : Nat} (hi : i < n) : tldB Y b n i = (Y i).w_di (b i) := by simp [tldB, hi]

set_option maxHeartbeats 4000000 in
/-- What AddEvent answers, in both texts. -/
theorem ae_out (z h mk t v : Int) (n : Nat) (X : Nat → Wn) (x : Wn) (hk : KSz x) (hn : n ≤ 1048576) (hbd : ∀ i, i < n → WiB (X i)) (hfb : FBw n X) (hz : WiSize n X) : ∃ (z' h' mk' : Int) (n' : Nat) (X' : Nat → Wn) (c : Int), WOk n' X' ∧
    (∀ (ao a0 : Option Addr) (cap c0 : Nat) (w : World), WiRow w ao n X → TRow w a0 x.tn x.nm x.vl → Calls Try.prog 11 #[.agg #[.int .i64 z, .int .i64 h, .int .i64 mk, .slice ao n cap], .agg #[.string x.m, .slice a0 x.tn c0, .int .i64 x.st], .int .i64 t, .int .i64 v] w fun e w' => BAns z' h' mk' n' X' c w e w') ∧
    (∀ (ao a0 : Option Addr) (cap c0 : Nat) (w : World), WiRow w ao n X → TRow w a0 x.tn x.nm x.vl → Calls Try.prog 10 #[.agg #[.int .i64 z, .int .i64 h, .int .i64 mk, .slice ao n cap], .agg #[.string x.m, .slice a0 x.tn c0, .int .i64 x.st], .int .i64 t, .int .i64 v] w fun e w' => BAns z' h' mk' n' X' c w e w') := by
  have W0 : WOk n X := ⟨hn, hbd, hfb, hz⟩
  by_cases hG : GBd z h mk n X
  rotate_left
  · exact ⟨0, 0, 0, 0, X, 1, ⟨by omega, fun i hi => by omega, fun i hi => by omega, fun i hi => by omega⟩, fun ao a0 cap c0 w hr rt => addEvent_spec_bad z h mk t v ao n cap X x a0 c0 w hr hn hz hG, fun ao a0 cap c0 w hr rt => addEvent_impl_bad z h mk t v ao n cap X x a0 c0 w hr hn hz hG⟩
  by_cases hE : evK x t v
  rotate_left
  · exact ⟨z, h, mk, n, X, 1, W0, fun ao a0 cap c0 w hr rt => addEvent_spec_no z h mk t v ao n cap X x a0 c0 w hr hn hz hG rt hk hE, fun ao a0 cap c0 w hr rt => addEvent_impl_same z h mk t v 1 ao n cap X x a0 c0 w hr hn hz hG rt (fun base p r sv V W _ hT => addEvent_bad p x a0 c0 t v W hT hk hE)⟩
  have hh : 0 ≤ h ∧ h ≤ 1000000 := by have := hG.hor; simpa [btw] using this
  have hmk : 0 ≤ mk ∧ mk ≤ 1000000000 := by have := hG.mark; simpa [isTm, btw] using this
  have hmh : -9223372036854775808 ≤ mk - h ∧ mk - h ≤ 9223372036854775807 := by omega
  by_cases hl : t < mk - h
  · exact ⟨z, h, mk, n, X, 2, W0, fun ao a0 cap c0 w hr rt => addEvent_spec_late z h mk t v ao n cap X x a0 c0 w hr hn hz hG rt hk hE hmh hl, fun ao a0 cap c0 w hr rt => addEvent_impl_same z h mk t v 2 ao n cap X x a0 c0 w hr hn hz hG rt (fun base p r sv V W HW hT => addEvent_late p z h mk _ x a0 c0 t v W HW.box hmh hT hk hE hl)⟩
  have hgT : gK (evX x (t - t % z)) = true := evX_good hE.2.2.1 hE.2.1 hG.size
  obtain ⟨q, hP⟩ := posK_ex X (evX x (t - t % z)) n
  have hPc : PosK (cln X) n (evX x (t - t % z)) q := ⟨hP.le, hP.lt, hP.ge⟩
  have hm : ∀ i j, i ≤ j → j < n → kc (cln X j) (evX x (t - t % z)) < 0 → kc (cln X i) (evX x (t - t % z)) < 0 := fun i j hij hj hkk => at_mono hG.wins hgT hij hj hkk
  have hbc : ∀ i, i < n → WiB (cln X i) := fun i hi => (hbd i hi).cln
  have hfc : FBw n (cln X) := hfb
  have hgc : ∀ i, i < n → gK (cln X i) = true := fun i hi => (hG.wins.each i hi).key
  have ht : 0 ≤ t ∧ t ≤ 1000000000 := by have := hE.2.1; simpa [isTm, btw] using this
  have hzz : 1 ≤ z ∧ z ≤ 100000 := by have := hG.size; simpa [isSz, btw] using this
  by_cases hy : q < n ∧ kc (X q) (evX x (t - t % z)) = 0
  · -- the window is there
    have hA : GA (agE (X q)) := (hG.wins.each q hy.1).agg
    have hai := ai_jn (ai_of hA) (ga_oA hE.1)
    have hq := agY_ok (hbd q hy.1) (hz q hy.1) hai true
    have hkk : kS (X q) = kS (evX x (t - t % z)) := kS_eq hy.2
    have wok : WOk n (upWi X q ((agY (X q) (jn (cA (agE (X q))) (oA v))).w_di true)) := by
      refine ⟨hn, fun i hi => ?_, fun i hi => ?_, fun i hi => ?_⟩
      · by_cases e : i = q
        · subst e; rw [upWi_at]; exact hq.1
        · rw [upWi_ne _ _ _ e]; exact hbd i hi
      · by_cases e : i = q
        · subst e; rw [upWi_at]; exact hq.2.2
        · rw [upWi_ne _ _ _ e]; exact hfb i hi
      · by_cases e : i = q
        · subst e; rw [upWi_at]; exact hq.2.1
        · rw [upWi_ne _ _ _ e]; exact hz i hi
    have hgY : ∀ i, i < n → gK (upWi (cln X) q (agY (cln X q) (jn (cA (agE (cln X q))) (oA v))) i) = true := fun i hi => by
      by_cases e : i = q
      · subst e; rw [upWi_at]; exact hgc i hi
      · rw [upWi_ne _ _ _ e]; exact hgc i hi
    have hX : ∀ b : Nat → Bool, (∀ i, i < n → (b i = true ↔ dS X n (kS (upWi (cln X) q (agY (cln X q) (jn (cA (agE (cln X q))) (oA v))) i)) ∨ kS (upWi (cln X) q (agY (cln X q) (jn (cA (agE (cln X q))) (oA v))) i) = kS (evX x (t - t % z)))) → ∀ i, i < n → tldB (upWi (cln X) q (agY (cln X q) (jn (cA (agE (cln X q))) (oA v)))) b n i = upWi X q ((agY (X q) (jn (cA (agE (X q))) (oA v))).w_di true) i := fun b hb i hi => by
      rw [tldB_of _ _ hi]
      have h1 := hb i hi
      by_cases e : i = q
      · subst e
        rw [upWi_at] at h1 ⊢
        rw [upWi_at]
        have : b i = true := h1.2 (.inr hkk)
        rw [this]
        rfl
      · rw [upWi_ne _ _ _ e] at h1 ⊢
        rw [upWi_ne _ _ _ e]
        exact told_one hG.wins hi (fun hh => kS_ne hG.wins hi hy.1 e (hh.trans hkk.symm)) h1
    exact ⟨z, h, mk, n, upWi X q ((agY (X q) (jn (cA (agE (X q))) (oA v))).w_di true), 0, wok, fun ao a0 cap c0 w hr rt => addEvent_spec_old z h mk t v ao n cap q X x a0 c0 w hr hn hz hG rt hk hE hmh hl hP hy, fun ao a0 cap c0 w hr rt => addEvent_impl_put z h mk t v ao n cap n X _ _ (fun s => dS X n s ∨ s = kS (evX x (t - t % z))) x a0 c0 w hr hn hz hG rt (fun base p r lo sv V W HW hT hlo => addEvent_old base p r q lo z h mk sv n (cln X) V (dS X n) x a0 c0 t v W HW hbc hfc hgc hn hmh hT hk hE hG.size hl hm hPc hy hA hlo) hgY hn hX⟩
  by_cases h40 : n < 40
  rotate_left
  · -- the board is full
    have e40 : n = 40 := by have := hG.few; omega
    exact ⟨z, h, mk, n, X, 3, W0, fun ao a0 cap c0 w hr rt => addEvent_spec_full z h mk t v ao n cap q X x a0 c0 w hr hn hz hG rt hk hE hmh hl hP hy e40, fun ao a0 cap c0 w hr rt => addEvent_impl_same z h mk t v 3 ao n cap X x a0 c0 w hr hn hz hG rt (fun base p r sv V W HW hT => addEvent_full base p r q z h mk sv n (cln X) V (dS X n) x a0 c0 t v W HW hbc hfc hgc hn hmh hT hk hE hG.size hl hm hPc hy (by omega))⟩
  -- a new window
  have hvv : -1000000000 ≤ v ∧ v ≤ 1000000000 := by have := hE.1; simpa [isV, btw] using this
  have hm1 := Int.emod_lt_of_pos t (show 0 < z by omega)
  have hm2 := Int.emod_nonneg t (show z ≠ 0 by omega)
  have hxB : WiB (nwW x (t - t % z)) := ⟨by show -9223372036854775808 ≤ t - t % z ∧ t - t % z ≤ 9223372036854775807; omega, by simp [nwW], by simp [nwW], by simp [nwW], by show x.m.size ≤ _; have := hk.m; omega, by show x.tn ≤ _; have := hk.tn; omega, fun i hi => ⟨Nat.le_trans (hk.ts i hi).1 (by decide), Nat.le_trans (hk.ts i hi).2 (by decide)⟩, by simp [nwW]⟩
  have hxS : WiS (nwW x (t - t % z)) := ⟨hk.m, hk.tn, hk.ts, by simp [nwW]⟩
  have haio : AI (oA v) := by rw [← cA_oA]; exact ai_of (ga_oA hE.1)
  have hq := agY_ok hxB hxS haio true
  have hqn := hP.le
  have hno : ∀ j, j < n → kS (X j) ≠ kS (evX x (t - t % z)) := fun j hj => kS_of (hG.wins.each j hj).key hgT (kc_none hG.wins hgT hP hy hj)
  have hnk : ∀ T, gK (agY (nwW x T) (oA v)) = gK (evX x T) := fun T => rfl
  have hkS : ∀ T, kS (agY (nwW x T) (oA v)) = kS (evX x T) := fun T => rfl
  have cs : ∀ i, i < n + 1 → i ≠ q → ∃ j, j < n ∧ (∀ (Z : Nat → Wn) (y : Wn), inX Z q y i = Z j) := fun i hi hne => by
    by_cases h1 : i < q
    · exact ⟨i, by omega, fun Z y => by simp [inX, h1]⟩
    · exact ⟨i - 1, by omega, fun Z y => by simp [inX, h1, hne]⟩
  have inq : ∀ (Z : Nat → Wn) (y : Wn), inX Z q y q = y := fun Z y => inX_at Z q y
  have wok : WOk (n + 1) (inX X q (nwS x (t - t % z) v)) := by
    refine ⟨by omega, fun i hi => ?_, fun i hi => ?_, fun i hi => ?_⟩
    · by_cases e : i = q
      · subst e; rw [inq]; exact hq.1
      · obtain ⟨j, hj, ej⟩ := cs i hi e; rw [ej]; exact hbd j hj
    · by_cases e : i = q
      · subst e; rw [inq]; exact hq.2.2
      · obtain ⟨j, hj, ej⟩ := cs i hi e; rw [ej]; exact hfb j hj
    · by_cases e : i = q
      · subst e; rw [inq]; exact hq.2.1
      · obtain ⟨j, hj, ej⟩ := cs i hi e; rw [ej]; exact hz j hj
  have hgY : ∀ i, i < n + 1 → gK (upWi (inX (cln X) q (nwW x (t - t % z))) q (agY (nwW x (t - t % z)) (oA v)) i) = true := fun i hi => by
    by_cases e : i = q
    · subst e; rw [upWi_at, hnk]; exact hgT
    · obtain ⟨j, hj, ej⟩ := cs i hi e; rw [upWi_ne _ _ _ e, ej]; exact hgc j hj
  have hX : ∀ b : Nat → Bool, (∀ i, i < n + 1 → (b i = true ↔ dS X n (kS (upWi (inX (cln X) q (nwW x (t - t % z))) q (agY (nwW x (t - t % z)) (oA v)) i)) ∨ kS (upWi (inX (cln X) q (nwW x (t - t % z))) q (agY (nwW x (t - t % z)) (oA v)) i) = kS (evX x (t - t % z)))) → ∀ i, i < n + 1 → tldB (upWi (inX (cln X) q (nwW x (t - t % z))) q (agY (nwW x (t - t % z)) (oA v))) b (n + 1) i = inX X q (nwS x (t - t % z) v) i := fun b hb i hi => by
    rw [tldB_of _ _ hi]
    have h1 := hb i hi
    by_cases e : i = q
    · subst e
      rw [upWi_at] at h1 ⊢
      rw [inq]
      have : b i = true := h1.2 (.inr (hkS _))
      rw [this]
      rfl
    · obtain ⟨j, hj, ej⟩ := cs i hi e
      rw [upWi_ne _ _ _ e, ej] at h1 ⊢
      rw [ej]
      exact told_one hG.wins hj (hno j hj) h1
  exact ⟨z, h, mk, n + 1, inX X q (nwS x (t - t % z) v), 0, wok, fun ao a0 cap c0 w hr rt => addEvent_spec_new z h mk t v ao n cap q X x a0 c0 w hr hn hz hG rt hk hE hmh hl hP hy h40, fun ao a0 cap c0 w hr rt => addEvent_impl_put z h mk t v ao n cap (n + 1) X _ _ (fun s => dS X n s ∨ s = kS (evX x (t - t % z))) x a0 c0 w hr hn hz hG rt (fun base p r lo sv V W HW hT hlo => addEvent_new base p r q lo z h mk sv n (cln X) V (dS X n) x a0 c0 t v W HW hbc hfc hgc hn hmh hT hk hE hG.size hl hm hPc hy (by omega) hlo) hgY (by omega) hX⟩
end Go.Proofs.Ytpggmgmdcccmeaa
