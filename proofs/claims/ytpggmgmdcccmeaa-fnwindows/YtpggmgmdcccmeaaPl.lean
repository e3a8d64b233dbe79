/- The place of a key among the windows at work: the program's search. -/
import Derived.Test.YtpggmgmdcccmeaaKq
import Derived.Test.YtpggmgmdcccmeaaTe
namespace Go.Proofs.Ytpggmgmdcccmeaa
open Go.RowKit
set_option linter.unusedSimpArgs false
set_option linter.unusedVariables false

theorem cmpK_any (x t : Wn) (a0 b : Option Addr) (c0 d : Nat) (w : World) (r0 : TRow w a0 x.tn x.nm x.vl) (rt : TRow w b t.tn t.nm t.vl) (hx : gK x = true) (ht : gK t = true) :
    Calls Try.prog 67 #[.agg #[.string x.m, .slice a0 x.tn c0, .int .i64 x.st], .agg #[.string t.m, .slice b t.tn d, .int .i64 t.st]] w fun e w' => e = .returned (.int .i64 (kc x t)) ∧ Below w.heap.size w w' := by
  obtain ⟨s1, s2, s3, _⟩ := goodB_sizes hx
  obtain ⟨u1, u2, u3, _⟩ := goodB_sizes ht
  have h := compareKeys_impl x.m t.m x.st t.st a0 b x.tn t.tn c0 d x.nm x.vl t.nm t.vl w r0 rt (by omega) (by omega) (by omega) (by omega) (fun i hi => by have := s3 i hi; omega) (fun i hi => by have := u3 i hi; omega)
  have e : cmpAns x.m t.m x.st t.st x.tn t.tn x.nm x.vl t.nm t.vl = kc x t := by
    have h1 : goodB x.m x.tn x.nm x.vl x.st = true := hx
    have h2 : goodB t.m t.tn t.nm t.vl t.st = true := ht
    simp [cmpAns, kc, h1, h2]
  rw [e] at h
  exact h

set_option maxHeartbeats 1600000 in
theorem place1_any (x t : Wn) (a0 a1 b : Option Addr) (c0 c1 d : Nat) (w : World) (r0 : TRow w a0 x.tn x.nm x.vl) (rt : TRow w b t.tn t.nm t.vl) (hx : Hid (gK x = true)) (ht : Hid (gK t = true)) :
    Calls Try.prog 66 #[.agg #[.string x.m, .slice a0 x.tn c0, .int .i64 x.st, .int .i64 x.c, .int .i64 x.s, .int .i64 x.lo, .int .i64 x.hi, .slice a1 x.n c1, .bool x.fu, .int .i64 x.ver, .bool x.di], .agg #[.string t.m, .slice b t.tn d, .int .i64 t.st]] w fun e w' => e = .returned (.int .i64 (kc x t)) ∧ Below w.heap.size w w' := by
  have hB : ∀ o o', Below w.heap.size w ((w.alloc o).alloc o') := fun o o' => (below_new w o).alloc (by simp) _
  go_enter Try.func66, Try.ntmps66
  go_wp2_with fail
  refine (cmpK_any x t a0 b c0 d _ (r0.keep (hB _ _)) (rt.keep (hB _ _)) hx.out ht.out).mono ?_
  rintro e w1 ⟨rfl, q⟩
  have bw := (hB _ _).trans (q.mono (by simp; omega))
  clear q hB
  go_wp2
  exact bodyPost_ret (v := .int .i64 (kc x t)) (by simp [results, Try.results66, go_sem]) rfl ⟨rfl, bw⟩

/-- What the search answers. -/
def PlO (n : Nat) (Y : Nat → Wn) (t : Wn) (p : Nat) (w : World) (e : Ending) (w' : World) : Prop :=
  ∃ bb, e = .returned (.tuple #[.int .i64 p, .bool bb]) ∧ (bb = true ↔ p < n ∧ kc (Y p) t = 0) ∧ Below w.heap.size w w'

set_option maxHeartbeats 1600000 in
theorem searchWin_any (ao b : Option Addr) (n cap d p : Nat) (Y : Nat → Wn) (t : Wn) (w : World) (hr : WiRow w ao n Y) (hn : n ≤ 1048576) (hg : Hid (∀ i, i < n → gK (Y i) = true)) (ht : Hid (gK t = true)) (rt : TRow w b t.tn t.nm t.vl)
    (hm : Hid (∀ i j, i ≤ j → j < n → kc (Y j) t < 0 → kc (Y i) t < 0)) (hP : Hid (PosK Y n t p)) :
    Calls Try.prog 65 #[.slice ao n cap, .agg #[.string t.m, .slice b t.tn d, .int .i64 t.st], .func (.func 66) #[] #[]] w fun e w' => PlO n Y t p w e w' := by
  have hB := below_new w (.cells #[.string t.m, .slice b t.tn d, .int .i64 t.st] 32)
  have KT := KAt.new w t.m (.slice b t.tn d) t.st 32
  go_enter Try.func65, Try.ntmps65
  go_wp2
  have hlies := (hr.keep hB).lies
  have rt0 := rt.keep hB
  generalize hW0 : w.alloc (.cells #[.string t.m, .slice b t.tn d, .int .i64 t.st] 32) = W0 at *
  clear hW0
  go_loopw [9, 10] (fun i j wr => ∃ lo hi : Nat, lo ≤ hi ∧ hi ≤ n ∧ i = .int .i64 lo ∧ j = .int .i64 hi ∧ Hid (lo ≤ p ∧ p ≤ hi) ∧ Below W0.heap.size W0 wr) (fun i j _ => (intOf j).toNat - (intOf i).toNat)
  case atStart => exact ⟨0, n, Nat.zero_le _, Nat.le_refl _, rfl, rfl, ⟨Nat.zero_le _, hP.out.le⟩, Below.refl _ _⟩
  case round =>
    obtain ⟨lo, hi, h1, h2, rfl, rfl, hp, hbk⟩ := hrel
    by_cases hlt : lo < hi
    · obtain ⟨g, off, rfl, hblt, hc⟩ := hlies.resolve_left (by omega)
      obtain ⟨k, hk⟩ : ∃ k, k = (lo + hi) / 2 := ⟨_, rfl⟩
      have hk1 : lo ≤ k ∧ k < hi := by omega
      obtain ⟨a0, a1, c0, c1, ea, r0, _⟩ := hc k (by omega)
      obtain ⟨_, d0, d1, d2, d3, d4, d5, d6, d7, d8, d9, d10⟩ := ea.keep hbk
      obtain ⟨_, t0, t1, t2⟩ := KT.keep hbk
      have e1 : ((lo : Int) + (hi : Int)) / 2 = (k : Int) := by omega
      have hq0 : (0 : Int) ≤ (k : Int) := by omega
      have hq1 : (k : Int) < (n : Int) := by omega
      have r0d := (r0.keep hbk).keep (Below.refl _ wr).drew
      have rtd := (rt0.keep hbk).keep (Below.refl _ wr).drew
      have gk := (show Hid (gK (Y k) = true) from hg.out k (by omega))
      have eaw := ea.keep hbk
      have KTw := KT.keep hbk
      clear hc hlies ea hr r0 rt0 rt hk hB KT
      have HLT : Hid (lo ≤ k ∧ k < hi ∧ hi ≤ n) := ⟨hk1.1, hk1.2, h2⟩
      by_cases hneg : kc (Y k) t < 0
      · have HP : Hid (k + 1 ≤ p ∧ p ≤ hi) := by
          refine ⟨?_, hp.out.2⟩
          refine Nat.lt_of_not_le (fun hle => ?_)
          have x1 := hm.out p k hle (by omega) hneg
          have x2 := hP.out.ge (by omega)
          omega
        have hdec : decide (kc (Y k) t < 0) = true := decide_eq_true hneg
        clear hk1 h1 h2 hneg
        go_wp2
        go_region_held3 (fun w' => w'.cell? ⟨g, off + k * 11, none⟩ = some (.string (Y k).m) ∧ w'.cell? ⟨g, off + k * 11 + 1, none⟩ = some (.slice a0 (Y k).tn c0) ∧ w'.cell? ⟨g, off + k * 11 + 2, none⟩ = some (.int .i64 (Y k).st) ∧ w'.cell? ⟨g, off + k * 11 + 3, none⟩ = some (.int .i64 (Y k).c) ∧ w'.cell? ⟨g, off + k * 11 + 4, none⟩ = some (.int .i64 (Y k).s) ∧ w'.cell? ⟨g, off + k * 11 + 5, none⟩ = some (.int .i64 (Y k).lo) ∧ w'.cell? ⟨g, off + k * 11 + 6, none⟩ = some (.int .i64 (Y k).hi) ∧ w'.cell? ⟨g, off + k * 11 + 7, none⟩ = some (.slice a1 (Y k).n c1) ∧ w'.cell? ⟨g, off + k * 11 + 8, none⟩ = some (.bool (Y k).fu) ∧ w'.cell? ⟨g, off + k * 11 + 9, none⟩ = some (.int .i64 (Y k).ver) ∧ w'.cell? ⟨g, off + k * 11 + 10, none⟩ = some (.bool (Y k).di) ∧ w'.cell? ⟨w.heap.size, 0, none⟩ = some (.string t.m) ∧ w'.cell? ⟨w.heap.size, 1, none⟩ = some (.slice b t.tn d) ∧ w'.cell? ⟨w.heap.size, 2, none⟩ = some (.int .i64 t.st)) (go_keep) (first | (go_at_call 66; refine (place1_any (Y k) t a0 a1 b c0 c1 d _ r0d rtd gk ht).mono ?_; rintro e u ⟨rfl, q⟩; have q' := (Below.refl _ wr).drew.trans q; have bu := hbk.trans (q'.mono hbk.size); obtain ⟨_, v0, v1, v2, v3, v4, v5, v6, v7, v8, v9, v10⟩ := eaw.keep q'; obtain ⟨_, s0, s1, s2⟩ := KTw.keep q'; clear q q'))
        go_wp2
        go_roundw
        case rel => exact ⟨k + 1, hi, by have := HLT.out; omega, HLT.out.2.2, by go_num, rfl, HP, bu⟩
        case measure => have := HLT.out; simp [intOf]; omega
      · have HP : Hid (lo ≤ p ∧ p ≤ k) := by
          refine ⟨hp.out.1, ?_⟩
          refine Nat.le_of_not_lt (fun hle => ?_)
          have x1 := hP.out.lt k hle
          omega
        have hdec : decide (kc (Y k) t < 0) = false := decide_eq_false hneg
        have hnneg : 0 ≤ kc (Y k) t := by omega
        clear hk1 h1 h2 hneg
        go_wp2
        go_region_held3 (fun w' => w'.cell? ⟨g, off + k * 11, none⟩ = some (.string (Y k).m) ∧ w'.cell? ⟨g, off + k * 11 + 1, none⟩ = some (.slice a0 (Y k).tn c0) ∧ w'.cell? ⟨g, off + k * 11 + 2, none⟩ = some (.int .i64 (Y k).st) ∧ w'.cell? ⟨g, off + k * 11 + 3, none⟩ = some (.int .i64 (Y k).c) ∧ w'.cell? ⟨g, off + k * 11 + 4, none⟩ = some (.int .i64 (Y k).s) ∧ w'.cell? ⟨g, off + k * 11 + 5, none⟩ = some (.int .i64 (Y k).lo) ∧ w'.cell? ⟨g, off + k * 11 + 6, none⟩ = some (.int .i64 (Y k).hi) ∧ w'.cell? ⟨g, off + k * 11 + 7, none⟩ = some (.slice a1 (Y k).n c1) ∧ w'.cell? ⟨g, off + k * 11 + 8, none⟩ = some (.bool (Y k).fu) ∧ w'.cell? ⟨g, off + k * 11 + 9, none⟩ = some (.int .i64 (Y k).ver) ∧ w'.cell? ⟨g, off + k * 11 + 10, none⟩ = some (.bool (Y k).di) ∧ w'.cell? ⟨w.heap.size, 0, none⟩ = some (.string t.m) ∧ w'.cell? ⟨w.heap.size, 1, none⟩ = some (.slice b t.tn d) ∧ w'.cell? ⟨w.heap.size, 2, none⟩ = some (.int .i64 t.st)) (go_keep) (first | (go_at_call 66; refine (place1_any (Y k) t a0 a1 b c0 c1 d _ r0d rtd gk ht).mono ?_; rintro e u ⟨rfl, q⟩; have q' := (Below.refl _ wr).drew.trans q; have bu := hbk.trans (q'.mono hbk.size); obtain ⟨_, v0, v1, v2, v3, v4, v5, v6, v7, v8, v9, v10⟩ := eaw.keep q'; obtain ⟨_, s0, s1, s2⟩ := KTw.keep q'; clear q q'))
        go_wp2
        go_roundw
        case rel => exact ⟨lo, k, by have := HLT.out; omega, by have := HLT.out; omega, rfl, rfl, HP, bu⟩
        case measure => have := HLT.out; simp [intOf]; omega
    · obtain rfl : lo = hi := by omega
      obtain rfl : lo = p := by have := hp.out; omega
      have bwr := (hB.trans (hbk.mono hB.size))
      by_cases hlt2 : lo < n
      · obtain ⟨g, off, rfl, hblt, hc⟩ := hlies.resolve_left (by omega)
        obtain ⟨a0, a1, c0, c1, ea, r0, _⟩ := hc lo hlt2
        obtain ⟨_, d0, d1, d2, d3, d4, d5, d6, d7, d8, d9, d10⟩ := ea.keep hbk
        obtain ⟨_, t0, t1, t2⟩ := KT.keep hbk
        have hq0 : (0 : Int) ≤ (lo : Int) := by omega
        have hq1 : (lo : Int) < (n : Int) := by omega
        have r0d := (r0.keep hbk).keep (Below.refl _ wr).drew
        have rtd := (rt0.keep hbk).keep (Below.refl _ wr).drew
        have gk := (show Hid (gK (Y lo) = true) from hg.out lo hlt2)
        have eaw := ea.keep hbk
        have KTw := KT.keep hbk
        have hwB := hB
        clear hc hlies ea hr r0 rt0 rt hB KT
        go_wp2
        go_region_held3 (fun w' => w'.cell? ⟨g, off + lo * 11, none⟩ = some (.string (Y lo).m) ∧ w'.cell? ⟨g, off + lo * 11 + 1, none⟩ = some (.slice a0 (Y lo).tn c0) ∧ w'.cell? ⟨g, off + lo * 11 + 2, none⟩ = some (.int .i64 (Y lo).st) ∧ w'.cell? ⟨g, off + lo * 11 + 3, none⟩ = some (.int .i64 (Y lo).c) ∧ w'.cell? ⟨g, off + lo * 11 + 4, none⟩ = some (.int .i64 (Y lo).s) ∧ w'.cell? ⟨g, off + lo * 11 + 5, none⟩ = some (.int .i64 (Y lo).lo) ∧ w'.cell? ⟨g, off + lo * 11 + 6, none⟩ = some (.int .i64 (Y lo).hi) ∧ w'.cell? ⟨g, off + lo * 11 + 7, none⟩ = some (.slice a1 (Y lo).n c1) ∧ w'.cell? ⟨g, off + lo * 11 + 8, none⟩ = some (.bool (Y lo).fu) ∧ w'.cell? ⟨g, off + lo * 11 + 9, none⟩ = some (.int .i64 (Y lo).ver) ∧ w'.cell? ⟨g, off + lo * 11 + 10, none⟩ = some (.bool (Y lo).di) ∧ w'.cell? ⟨w.heap.size, 0, none⟩ = some (.string t.m) ∧ w'.cell? ⟨w.heap.size, 1, none⟩ = some (.slice b t.tn d) ∧ w'.cell? ⟨w.heap.size, 2, none⟩ = some (.int .i64 t.st)) (go_keep) (first | (go_at_call 66; refine (place1_any (Y lo) t a0 a1 b c0 c1 d _ r0d rtd gk ht).mono ?_; rintro e u ⟨rfl, q⟩; have q' := (Below.refl _ wr).drew.trans q; have bu := hbk.trans (q'.mono hbk.size); obtain ⟨_, v0, v1, v2, v3, v4, v5, v6, v7, v8, v9, v10⟩ := eaw.keep q'; obtain ⟨_, s0, s1, s2⟩ := KTw.keep q'; clear q q'))
        go_wp2
        have bu' := hwB.trans (bu.mono hwB.size)
        exact bodyPost_ret (v := .tuple #[.int .i64 lo, .bool (kc (Y lo) t == 0)]) (by simp [results, Try.results65, go_sem]) rfl ⟨_, rfl, by simp [hlt2], bu'⟩
      · obtain rfl : lo = n := by omega
        clear hlies
        go_wp2
        go_region
        all_goals go_wp2
        all_goals refine bodyPost_ret (v := .tuple #[.int .i64 lo, .bool false]) (by simp [results, Try.results65, go_sem]) rfl ⟨_, rfl, by simp, ?_⟩
        all_goals first | exact bwr | exact bwr.drew

set_option maxHeartbeats 1600000 in
theorem place_any (base p r q : Nat) (z h mk : Int) (v : Value) (n : Nat) (Y : Nat → Wn) (V : Nat → Value) (S : ByteArray → Prop) (t : Wn) (b : Option Addr) (d : Nat) (w : World) (H : WSt w base p r z h mk v n Y V S) (hbd : ∀ i, i < n → WiB (Y i)) (hf : FBw n Y) (hg : Hid (∀ i, i < n → gK (Y i) = true)) (hn : n ≤ 1048576)
    (ht : Hid (gK t = true)) (rt : TRow w b t.tn t.nm t.vl) (hm : Hid (∀ i j, i ≤ j → j < n → kc (Y j) t < 0 → kc (Y i) t < 0)) (hP : Hid (PosK Y n t q)) :
    Calls Try.prog 40 #[.pointer (some ⟨p, 0, none⟩), .agg #[.string t.m, .slice b t.tn d, .int .i64 t.st]] w fun e w' => PlO n Y t q w e w' := by
  obtain ⟨va, vc, rfl⟩ := ownsRow_form H.out.own
  have hr := ((ba_of H.out hf).row hbd hf).2
  have hb := below_new w (.cells #[.string t.m, .slice b t.tn d, .int .i64 t.st] 32)
  have e3 := (hb.cell (p := ⟨p, 3, none⟩) H.box.lt).trans H.box.c3
  obtain ⟨_, k0, k1, k2⟩ := KAt.new w t.m (.slice b t.tn d) t.st 32
  have KK := KAt.new w t.m (.slice b t.tn d) t.st 32
  have hrd := (hr.keep hb).keep (Below.refl _ _).drew
  have rtd := (rt.keep hb).keep (Below.refl _ _).drew
  have plt := Nat.lt_of_lt_of_le H.box.lt hb.size
  clear hr
  go_enter Try.func40, Try.ntmps40
  go_wp2
  go_region_held3 (fun w' => w'.cell? ⟨p, 3, none⟩ = some (.slice va n vc) ∧ w'.cell? ⟨w.heap.size, 0, none⟩ = some (.string t.m) ∧ w'.cell? ⟨w.heap.size, 1, none⟩ = some (.slice b t.tn d) ∧ w'.cell? ⟨w.heap.size, 2, none⟩ = some (.int .i64 t.st)) (go_keep) (first | (go_at_call 65; refine (searchWin_any va b n vc d q Y t _ hrd hn hg ht rtd hm hP).mono ?_; rintro e u ⟨b1, rfl, h1, q1⟩; have H1 : Hid (b1 = true ↔ q < n ∧ kc (Y q) t = 0) := h1; have q' := (Below.refl _ _).drew.trans q1; have bu := hb.trans (q'.mono hb.size); have v3 := (q'.cell (p := ⟨p, 3, none⟩) plt).trans e3; obtain ⟨_, s0, s1, s2⟩ := KK.keep q'; clear q1 q' h1))
  go_wp2
  exact bodyPost_ret (v := .tuple #[.int .i64 q, .bool b1]) (by simp [results, Try.results40, go_sem]) rfl ⟨_, rfl, H1.out, bu⟩
end Go.Proofs.Ytpggmgmdcccmeaa
