/- AddEvent in the model: a good board that is full (made by mkas.py). -/
import Derived.Test.YtaiigpffhcofpaaGreatAeM
namespace Go.Proofs.YtaiigpffhcofpaaGreat
set_option maxRecDepth 100000
open Go.RowKit
set_option linter.unusedSimpArgs false
set_option linter.unusedVariables false

set_option maxRecDepth 100000 in
set_option maxHeartbeats 16000000 in
theorem addEvent_spec_full (z h mk t v : Int) (ao : Option Addr) (n cap q : Nat) (X : Nat → Wn) (x : Wn) (a0 : Option Addr) (c00 : Nat) (w : World) (hr : WiRow w ao n X) (hn : n ≤ 1048576) (hz : WiSize n X) (hG : Hid (GBd z h mk n X)) (rt : TRow w a0 x.tn x.nm x.vl) (hk : KSz x) (hE : Hid (evK x t v)) (hmh : -9223372036854775808 ≤ mk - h ∧ mk - h ≤ 9223372036854775807) (hl : ¬ t < mk - h)
    (hP : Hid (PosK X n (evX x (t - t % z)) q)) (hyes : Hid (¬ (q < n ∧ kc (X q) (evX x (t - t % z)) = 0))) (h40 : Hid (n = 40)) :
    Calls Tryz.prog 6 #[.agg #[.int .i64 z, .int .i64 h, .int .i64 mk, .slice ao n cap], .agg #[.string x.m, .slice a0 x.tn c00, .int .i64 x.st], .int .i64 t, .int .i64 v] w fun e w' => BAns z h mk n X 3 w e w' := by
  have hw : IntKind.i64.wrap (mk - h) = mk - h := by rw [IntKind.wrap_i64] <;> omega
  have hbd := hr.bd
  have hfX := hr.fb
  have hgX : Hid (∀ i, i < n → gK (X i) = true) := fun i hi => (hG.out.wins.each i hi).key
  have hgT : Hid (gK (evX x (t - t % z)) = true) := evX_good hE.out.2.2.1 hE.out.2.1 hG.out.size
  have h1t : 0 ≤ t ∧ t ≤ 1000000000 := by have := hE.out.2.1; simpa [isTm, btw] using this
  have h1z : 1 ≤ z ∧ z ≤ 100000 := by have := hG.out.size; simpa [isSz, btw] using this
  have m1 := Int.emod_lt_of_pos t (show 0 < z by omega)
  have m2 := Int.emod_nonneg t (show z ≠ 0 by omega)
  have hz0 : ¬ z = 0 := by omega
  have hw0 : IntKind.i64.wrap (t % z) = t % z := by rw [IntKind.wrap_i64] <;> omega
  have hwT : IntKind.i64.wrap (t - t % z) = t - t % z := by rw [IntKind.wrap_i64] <;> omega
  clear m1 m2
  have M0 := MB.new w z h mk (.slice ao n cap) x.m (.slice a0 x.tn c00) x.st
  go_enter Tryz.func6, Tryz.ntmps6
  go_wp2_with fail
  generalize ((w.alloc (.cells #[.int .i64 z, .int .i64 h, .int .i64 mk, .slice ao n cap] 32)).alloc (.cells #[.string x.m, .slice a0 x.tn c00, .int .i64 x.st] 38)).alloc (.cells #[.int .i64 0, .int .i64 0, .int .i64 0, .slice none 0 0] 32) = w0 at M0 ⊢
  refine (goodBoard_spec z h mk ao n cap X _ (hr.keep M0.bw) hn hz).mono ?_
  rintro e w1 ⟨b1, rfl, h1, q1⟩
  have M1 := M0.keep q1
  have e1 : b1 = true := h1.2 hG.out
  subst e1
  have s1 := M1.R.lt
  clear h1 q1 M0
  obtain ⟨_, c0, c1, c2, c3⟩ := id M1.B
  go_wp2_with fail
  refine (l11Own_any z h mk ao n cap X _ (hr.keep M1.bw) hn hz).mono ?_
  rintro e w2 ⟨v', V, rfl, hO, q2⟩
  obtain ⟨va, vc, rfl⟩ := ownsRow_form hO.own
  have hO := hO.mono (base' := w.heap.size + 3) (by omega)
  have M2 := M1.keep q2
  have M4 := M2.putB z h mk (.slice va n vc)
  have hO4 := hO.others (setBd_oth w2 w.heap.size z h mk (.slice va n vc)) (by omega)
  clear c0 c1 c2 c3 M1 q2 hO hr
  obtain ⟨_, c0, c1, c2, c3⟩ := id M2.B
  obtain ⟨_, g0, g1, g2⟩ := id M2.K
  have cf := M2.Bf
  go_wp2_with fail
  change Calls _ _ _ (setBd w2 w.heap.size z h mk (.slice va n vc)) _
  generalize setBd w2 w.heap.size z h mk (.slice va n vc) = w4 at M4 hO4 ⊢
  clear M2 c0 c1 c2 c3 cf g0 g1 g2
  refine (goodKey_spec x.m x.st a0 x.tn c00 x.nm x.vl _ (rt.keep M4.bw) hk.m hk.tn hk.ts).mono ?_
  rintro e w5 ⟨rfl, q5⟩
  have M5 := M4.keep q5
  have hO5 := hO4.keep q5
  obtain ⟨hv, ht, hgx, hst⟩ := hE.out
  have hgx' : goodB x.m x.tn x.nm x.vl x.st = true := hgx
  rw [hgx']
  rw [hst] at M5
  clear hst hgx hgx' M4 hO4 q5
  obtain ⟨_, g0, g1, g2⟩ := id M5.K
  obtain ⟨_, b0, b1, b2, b3⟩ := id M5.B
  go_wp2_with fail
  refine (l11Time_any t _).mono ?_
  rintro e w6 ⟨rfl, rfl⟩
  rw [ht]
  go_wp2_with fail
  refine (l4Value_any v _).mono ?_
  rintro e w7 ⟨rfl, rfl⟩
  rw [hv]
  have hld : decide (t < mk - h) = false := decide_eq_false (by omega)
  go_wp2_with fail
  refine (l11OwnKey_any x.m 0 a0 x.tn c00 x.nm x.vl _ (rt.keep M5.bw) hk.tn).mono ?_
  rintro e w8 ⟨kv, rfl, hown, q8⟩
  obtain ⟨ka, kcp, rfl⟩ := ownsRow_form hown
  have M8 := M5.keep q8
  have hO8 := hO5.keep q8
  have M9 := M8.putK x.m (.slice ka x.tn kcp) 0 (t - t % z)
  have hO9 := hO8.others (setKy_oth w8 (w.heap.size + 1) x.m (.slice ka x.tn kcp) 0 (t - t % z)) (by omega)
  have hsl := M5.R.lt
  have o9 := ownsRow_others hown (setKy_oth w8 (w.heap.size + 1) x.m (.slice ka x.tn kcp) 0 (t - t % z)) (fun hk => by have := (hown.lt _ hk).1; omega)
  have far : ∀ k, (Value.slice ka x.tn kcp).ownBlock = some k → w7.heap.size ≤ k ∧ k < w8.heap.size := fun k hk => hown.lt k hk
  have vl : ∀ k, (Value.slice va n vc).ownBlock = some k → w.heap.size + 3 ≤ k ∧ k < w7.heap.size := fun k hk => hO5.own.lt k hk
  have Vl : ∀ i k, i < n * 2 → (V i).ownBlock = some k → k < w7.heap.size := fun i k hi hk => (hO5.lt hi hk).2
  have sz8 := q8.size
  clear g0 g1 g2 b0 b1 b2 b3 M5 hO5 q8 hown hO8
  obtain ⟨_, g0, g1, g2⟩ := id M8.K
  obtain ⟨_, b0, b1, b2, b3⟩ := id M8.B
  have gf := M8.Kf
  have k2 : ((((w8.setCell ⟨w.heap.size + 1, 0, none⟩ (.string x.m)).setCell ⟨w.heap.size + 1, 1, none⟩ (.slice ka x.tn kcp)).setCell ⟨w.heap.size + 1, 2, none⟩ (.int .i64 0)).setCell ⟨w.heap.size + 1, 2, none⟩ (.int .i64 (t - t % z))).cell? ⟨w.heap.size + 1, 2, none⟩ = some (.int .i64 (t - t % z)) := M9.K.c2
  go_wp2_with fail
  change Calls _ _ _ (setKy w8 (w.heap.size + 1) x.m (.slice ka x.tn kcp) 0 (t - t % z)) _
  have sz9 := (setKy_oth w8 (w.heap.size + 1) x.m (.slice ka x.tn kcp) 0 (t - t % z)).size
  generalize setKy w8 (w.heap.size + 1) x.m (.slice ka x.tn kcp) 0 (t - t % z) = w9 at M9 hO9 o9 sz9 ⊢
  clear M8 k2 g0 g1 g2 b0 b1 b2 b3 gf hw0 hwT hz0 h1t h1z
  generalize hTT : t - t % z = T at *
  have HT : Hid (t - t % z = T) := hTT
  clear hTT
  refine (l11At_any z h mk va ka n vc kcp q X (evX x T) _ ((ba_of hO9 hfX).row hbd hfX).2 hn hgX hgT (trow_of o9) hP).mono ?_
  rintro e wa ⟨bb, rfl, hbb, qa⟩
  have ebb : bb = false := by
    cases bb
    · rfl
    · exact absurd (hbb.1 rfl) hyes.out
  subst ebb
  have Ma := M9.keep qa
  have hOa := hO9.keep qa
  have oa := ownsRow_keep o9 qa
  have sza := qa.size
  clear M9 hO9 o9 qa hbb
  obtain ⟨_, g0, g1, g2⟩ := id Ma.K
  obtain ⟨_, b0, b1, b2, b3⟩ := id Ma.B
  obtain ⟨_, d0, d1, d2, d3⟩ := id Ma.R
  have df := Ma.Rf
  have hnI : ((n : Int) == 40) = true := by rw [h40.out]; rfl
  have hA := ba_of hOa hfX
  have bwa := Ma.bw
  clear hOa Ma oa
  go_wp2
  refine bodyPost_ret (v := .tuple #[.agg #[.int .i64 z, .int .i64 h, .int .i64 mk, .slice va n vc], .int .i64 3]) (by simp [results, Tryz.results6, go_sem, b0, b1, b2, b3, d0, d1, d2, d3]) rfl ⟨.slice va n vc, rfl, ?_, ?_⟩
  · refine BA.mono (hA.same (by simp) (fun c h1 h2 => ?_)) (by omega) (by simp; try omega) (Nat.le_refl _)
    repeat rw [set_blk _ _ _ _ _ (by omega)]
  · repeat' refine Below.setCell ?_ (by first | (simp; done) | (simp; omega)) _
    exact bwa
end Go.Proofs.YtaiigpffhcofpaaGreat
