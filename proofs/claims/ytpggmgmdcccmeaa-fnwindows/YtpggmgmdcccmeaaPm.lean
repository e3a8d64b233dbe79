/- The place of a key among a board's windows: the model's search. -/
import Derived.Test.YtpggmgmdcccmeaaPl
import Derived.Test.YtpggmgmdcccmeaaGc
namespace Go.Proofs.Ytpggmgmdcccmeaa
open Go.RowKit
set_option linter.unusedSimpArgs false
set_option linter.unusedVariables false

theorem l1c_any (x t : Wn) (a0 b : Option Addr) (c0 d : Nat) (w : World) (r0 : TRow w a0 x.tn x.nm x.vl) (rt : TRow w b t.tn t.nm t.vl) (hx : gK x = true) (ht : gK t = true) :
    Calls Try.prog 50 #[.agg #[.string x.m, .slice a0 x.tn c0, .int .i64 x.st], .agg #[.string t.m, .slice b t.tn d, .int .i64 t.st]] w fun e w' => e = .returned (.int .i64 (kc x t)) ∧ Below w.heap.size w w' := by
  obtain ⟨s1, s2, s3, _⟩ := goodB_sizes hx
  obtain ⟨u1, u2, u3, _⟩ := goodB_sizes ht
  exact l1Compare_any x.m t.m x.st t.st a0 b x.tn t.tn c0 d x.nm x.vl t.nm t.vl w r0 rt (by omega) (by omega) (goodB_st hx) (goodB_st ht)

set_option maxHeartbeats 3200000 in
theorem l11At_any (z h mk : Int) (ao b : Option Addr) (n cap d q : Nat) (X : Nat → Wn) (t : Wn) (w : World) (hr : WiRow w ao n X) (hn : n ≤ 1048576) (hg : Hid (∀ i, i < n → gK (X i) = true)) (ht : Hid (gK t = true)) (rt : TRow w b t.tn t.nm t.vl) (hP : Hid (PosK X n t q)) :
    Calls Try.prog 25 #[.agg #[.int .i64 z, .int .i64 h, .int .i64 mk, .slice ao n cap], .agg #[.string t.m, .slice b t.tn d, .int .i64 t.st]] w fun e w' => PlO n X t q w e w' := by
  have hB : ∀ o o', Below w.heap.size w ((w.alloc o).alloc o') := fun o o' => (below_new w o).alloc (by simp) _
  have hb := hB (.cells #[.int .i64 z, .int .i64 h, .int .i64 mk, .slice ao n cap] 25) (.cells #[.string t.m, .slice b t.tn d, .int .i64 t.st] 32)
  have KT : KAt ((w.alloc (.cells #[.int .i64 z, .int .i64 h, .int .i64 mk, .slice ao n cap] 25)).alloc (.cells #[.string t.m, .slice b t.tn d, .int .i64 t.st] 32)) (w.heap.size + 1) t.m (.slice b t.tn d) t.st := by
    have := KAt.new (w.alloc (.cells #[.int .i64 z, .int .i64 h, .int .i64 mk, .slice ao n cap] 25)) t.m (.slice b t.tn d) t.st 32
    simpa using this
  have BT := (BdAt.new w z h mk (.slice ao n cap) 25).keep (below_new _ (.cells #[.string t.m, .slice b t.tn d, .int .i64 t.st] 32))
  have hlies := (hr.keep hb).lies
  have rt0 := rt.keep hb
  go_enter Try.func25, Try.ntmps25
  go_wp2
  obtain ⟨W0, hW0⟩ : ∃ u, u = ((w.alloc (.cells #[.int .i64 z, .int .i64 h, .int .i64 mk, .slice ao n cap] 25)).alloc (.cells #[.string t.m, .slice b t.tn d, .int .i64 t.st] 32)) := ⟨_, rfl⟩
  rw [← hW0] at hb KT BT hlies rt0 ⊢
  clear hW0 hB
  go_loopw [6] (fun i wr => ∃ k : Nat, k ≤ q ∧ i = .int .i64 k ∧ Below W0.heap.size W0 wr) (fun i _ => q - (intOf i).toNat)
  case atStart => exact ⟨0, Nat.zero_le _, rfl, Below.refl _ _⟩
  case round =>
    obtain ⟨k, hk, rfl, hbk⟩ := hrel
    have hqn := hP.out.le
    by_cases hlt : k < q
    · have hkn : k < n := by omega
      obtain ⟨g, off, rfl, hblt, hc⟩ := hlies.resolve_left (by omega)
      obtain ⟨a0, a1, c0, c1, ea, r0, _⟩ := hc k hkn
      obtain ⟨_, d0, d1, d2, d3, d4, d5, d6, d7, d8, d9, d10⟩ := ea.keep hbk
      obtain ⟨_, t0, t1, t2⟩ := KT.keep hbk
      obtain ⟨_, x0, x1, x2, x3⟩ := BT.keep hbk
      have hq0 : (0 : Int) ≤ (k : Int) := by omega
      have hq1 : (k : Int) < (n : Int) := by omega
      have r0d := (r0.keep hbk).keep (Below.refl _ wr).drew
      have rtd := (rt0.keep hbk).keep (Below.refl _ wr).drew
      have gk := (show Hid (gK (X k) = true) from hg.out k hkn)
      have eaw := ea.keep hbk
      have KTw := KT.keep hbk
      have BTw := BT.keep hbk
      have hneg : kc (X k) t < 0 := hP.out.lt k hlt
      have hdec : decide (kc (X k) t < 0) = true := decide_eq_true hneg
      have HQ : Hid (k < q) := hlt
      clear hc hlies ea hr r0 rt0 rt hb KT BT hqn hk hlt hneg
      go_wp2
      go_region_held3 (fun w' => w'.cell? ⟨w.heap.size, 3, none⟩ = some (.slice (some ⟨g, off, none⟩) n cap) ∧ w'.cell? ⟨g, off + k * 11, none⟩ = some (.string (X k).m) ∧ w'.cell? ⟨g, off + k * 11 + 1, none⟩ = some (.slice a0 (X k).tn c0) ∧ w'.cell? ⟨g, off + k * 11 + 2, none⟩ = some (.int .i64 (X k).st) ∧ w'.cell? ⟨w.heap.size + 1, 0, none⟩ = some (.string t.m) ∧ w'.cell? ⟨w.heap.size + 1, 1, none⟩ = some (.slice b t.tn d) ∧ w'.cell? ⟨w.heap.size + 1, 2, none⟩ = some (.int .i64 t.st)) (go_keep) (first | (go_at_call 50; refine (l1c_any (X k) t a0 b c0 d _ r0d rtd gk.out ht.out).mono ?_; rintro e u ⟨rfl, q1⟩; have q' := (Below.refl _ wr).drew.trans q1; have bu := hbk.trans (q'.mono hbk.size); have eau := eaw.keep q'; have KTu := KTw.keep q'; have BTu := BTw.keep q'; obtain ⟨_, v0, v1, v2, v3, v4, v5, v6, v7, v8, v9, v10⟩ := id eau; obtain ⟨_, s0, s1, s2⟩ := id KTu; obtain ⟨_, o0, o1, o2, o3⟩ := id BTu; clear q1 q'))
      go_wp2
      go_roundw
      case rel => exact ⟨k + 1, HQ.out, by go_num, bu⟩
      case measure => have := HQ.out; simp [intOf]; omega
    obtain rfl : k = q := by omega
    by_cases hkn : k < n
    · skip
      obtain ⟨g, off, rfl, hblt, hc⟩ := hlies.resolve_left (by omega)
      obtain ⟨a0, a1, c0, c1, ea, r0, _⟩ := hc k hkn
      obtain ⟨_, d0, d1, d2, d3, d4, d5, d6, d7, d8, d9, d10⟩ := ea.keep hbk
      obtain ⟨_, t0, t1, t2⟩ := KT.keep hbk
      obtain ⟨_, x0, x1, x2, x3⟩ := BT.keep hbk
      have hq0 : (0 : Int) ≤ (k : Int) := by omega
      have hq1 : (k : Int) < (n : Int) := by omega
      have r0d := (r0.keep hbk).keep (Below.refl _ wr).drew
      have rtd := (rt0.keep hbk).keep (Below.refl _ wr).drew
      have gk := (show Hid (gK (X k) = true) from hg.out k hkn)
      have eaw := ea.keep hbk
      have KTw := KT.keep hbk
      have BTw := BT.keep hbk
      have hneg : 0 ≤ kc (X k) t := hP.out.ge hkn
      have hdec : decide (kc (X k) t < 0) = false := decide_eq_false (by omega)
      clear hc hlies ea hr KT BT hqn hk hlt
      go_wp2
      go_region_held3 (fun w' => w'.cell? ⟨w.heap.size, 3, none⟩ = some (.slice (some ⟨g, off, none⟩) n cap) ∧ w'.cell? ⟨g, off + k * 11, none⟩ = some (.string (X k).m) ∧ w'.cell? ⟨g, off + k * 11 + 1, none⟩ = some (.slice a0 (X k).tn c0) ∧ w'.cell? ⟨g, off + k * 11 + 2, none⟩ = some (.int .i64 (X k).st) ∧ w'.cell? ⟨w.heap.size + 1, 0, none⟩ = some (.string t.m) ∧ w'.cell? ⟨w.heap.size + 1, 1, none⟩ = some (.slice b t.tn d) ∧ w'.cell? ⟨w.heap.size + 1, 2, none⟩ = some (.int .i64 t.st)) (go_keep) (first | (go_at_call 50; refine (l1c_any (X k) t a0 b c0 d _ r0d rtd gk.out ht.out).mono ?_; rintro e u ⟨rfl, q1⟩; have q' := (Below.refl _ wr).drew.trans q1; have bu := hbk.trans (q'.mono hbk.size); have eau := eaw.keep q'; have KTu := KTw.keep q'; have BTu := BTw.keep q'; obtain ⟨_, v0, v1, v2, v3, v4, v5, v6, v7, v8, v9, v10⟩ := id eau; obtain ⟨_, s0, s1, s2⟩ := id KTu; obtain ⟨_, o0, o1, o2, o3⟩ := id BTu; clear q1 q'))
      have r0u := (r0.keep bu).keep (Below.refl _ u).drew
      have rtu := (rt0.keep bu).keep (Below.refl _ u).drew
      clear r0d rtd d0 d1 d2 d3 d4 d5 d6 d7 d8 d9 d10 t0 t1 t2 x0 x1 x2 x3
      go_wp2
      go_region_held3 (fun w' => w'.cell? ⟨w.heap.size, 3, none⟩ = some (.slice (some ⟨g, off, none⟩) n cap) ∧ w'.cell? ⟨g, off + k * 11, none⟩ = some (.string (X k).m) ∧ w'.cell? ⟨g, off + k * 11 + 1, none⟩ = some (.slice a0 (X k).tn c0) ∧ w'.cell? ⟨g, off + k * 11 + 2, none⟩ = some (.int .i64 (X k).st) ∧ w'.cell? ⟨w.heap.size + 1, 0, none⟩ = some (.string t.m) ∧ w'.cell? ⟨w.heap.size + 1, 1, none⟩ = some (.slice b t.tn d) ∧ w'.cell? ⟨w.heap.size + 1, 2, none⟩ = some (.int .i64 t.st)) (go_keep) (first | (go_at_call 50; refine (l1c_any (X k) t a0 b c0 d _ r0u rtu gk.out ht.out).mono ?_; rintro e u2 ⟨rfl, q2⟩; have q3 := (Below.refl _ u).drew.trans q2; have bu2 := bu.trans (q3.mono bu.size); obtain ⟨_, y0, y1, y2, y3, y4, y5, y6, y7, y8, y9, y10⟩ := eau.keep q3; obtain ⟨_, z0, z1, z2⟩ := KTu.keep q3; obtain ⟨_, p0, p1, p2, p3⟩ := BTu.keep q3; clear q2 q3))
      have bw := hb.trans (bu2.mono hb.size)
      go_wp2
      exact bodyPost_ret (v := .tuple #[.int .i64 k, .bool (kc (X k) t == 0)]) (by simp [results, Try.results25, go_sem]) rfl ⟨_, rfl, by simp [hkn], bw⟩
    · obtain rfl : k = n := by omega
      obtain ⟨_, x0, x1, x2, x3⟩ := BT.keep hbk
      clear hlies
      go_wp2
      go_region
      all_goals go_wp2
      all_goals go_region
      all_goals go_wp2
      all_goals refine bodyPost_ret (v := .tuple #[.int .i64 k, .bool false]) (by simp [results, Try.results25, go_sem]) rfl ⟨_, rfl, by simp, ?_⟩
      all_goals have bw := hb.trans (hbk.mono hb.size)
      all_goals first | exact bw | exact bw.drew | exact bw.drew.drew
end Go.Proofs.Ytpggmgmdcccmeaa
