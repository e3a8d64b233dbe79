/- AddEvent in the model: a new window (made by mkas.py). -/
import Derived.Test.YtpggmgmdcccmeaaAeY
import Derived.Test.YtpggmgmdcccmeaaTr
namespace Go.Proofs.Ytpggmgmdcccmeaa
open Go.RowKit
set_option linter.unusedSimpArgs false
set_option linter.unusedVariables false

/-- A new window as the model makes it. -/
def nwS (x : Wn) (T v : Int) : Wn := (agY (nwW x T) (oA v)).w_di true
theorem step_asS {w : World} {ops : Array Oper} {o : Oper} {a : Act} {K : Act → World → Prop} {Q : Exit → Act → World → Prop} {E : Prop} (hgd : o.guard = none) (k : Nat)
    (ho : o.op = .assign (.tmp k)) (va : Option Addr) (n c : Nat) (hx : a.eval (.tmp k) = .slice va n c) (h : K (a.put o.dst (.slice va n c)) w) :
    if Region.wanted o (yielded ops a.tmps) = true then Oper.wp Try.prog o a w K Q else E := by
  have hw : Region.wanted o (yielded ops a.tmps) = true := by simp [Region.wanted, hgd]
  rw [if_pos hw]
  have hx' : a.tmps.getD k undef = .slice va n c := hx
  unfold Oper.wp execOp
  simp only [ho, Act.eval, hx']
  go_simp
  exact h
theorem flatW_one {w : World} {base n : Nat} {v : Value} {X : Nat → Wn} {V : Nat → Value} (h : OutW w base v n X V) : ∀ u ∈ ((List.range n).flatMap fun j => wcells (X j) (V (j * 2 + 0)) (V (j * 2 + 1))), u.oneCell' = true := fun u hu => by
  obtain ⟨j, hj, hu⟩ := List.mem_flatMap.1 hu
  have hj := List.mem_range.1 hj
  obtain ⟨b0, d0, f0⟩ := ownsRow_form (h.r0 j hj)
  obtain ⟨b1, d1, f1⟩ := ownsRow_form (h.r1 j hj)
  rw [f0, f1] at hu
  simp only [wcells, List.mem_cons, List.not_mem_nil, or_false] at hu
  rcases hu with rfl | rfl | rfl | rfl | rfl | rfl | rfl | rfl | rfl | rfl | rfl <;> rfl
/-- What lies where of windows of the call's own. -/
theorem OutW.lie {w : World} {base n vc : Nat} {va : Option Addr} {X : Nat → Wn} {V : Nat → Value} (h : OutW w base (.slice va n vc) n X V) : n ≤ vc ∧ (∃ g, va = none ∨ va = some ⟨g, 0, none⟩) ∧ (n = 0 ∨ ∃ g, va = some ⟨g, 0, none⟩ ∧ ∀ j u, ((List.range n).flatMap fun j => wcells (X j) (V (j * 2 + 0)) (V (j * 2 + 1)))[j]? = some u → w.cell? ⟨g, j, none⟩ = some u) := by
  have hl := h.own.1
  rcases h.own.2 with ⟨e, h0⟩ | ⟨g, cap, cur, e, _, hg, hnc, _⟩
  · injection e with e1 e2 e3
    exact ⟨by omega, ⟨0, .inl e1⟩, .inl h0⟩
  · injection e with e1 e2 e3
    subst e1 e3
    refine ⟨hnc, ⟨g, .inr rfl⟩, .inr ⟨g, rfl, fun j u hu => ?_⟩⟩
    rw [h.own.cellAt j (by have := (List.getElem?_eq_some_iff.1 hu).1; omega)]
    exact hu
set_option maxRecDepth 100000 in
set_option maxHeartbeats 16000000 in
theorem addEvent_spec_new (z h mk t v : Int) (ao : Option Addr) (n cap q : Nat) (X : Nat → Wn) (x : Wn) (a0 : Option Addr) (c00 : Nat) (w : World) (hr : WiRow w ao n X) (hn : n ≤ 1048576) (hz : WiSize n X) (hG : Hid (GBd z h mk n X)) (rt : TRow w a0 x.tn x.nm x.vl) (hk : KSz x) (hE : Hid (evK x t v)) (hmh : -9223372036854775808 ≤ mk - h ∧ mk - h ≤ 9223372036854775807) (hl : ¬ t < mk - h)
    (hP : Hid (PosK X n (evX x (t - t % z)) q)) (hyes : Hid (¬ (q < n ∧ kc (X q) (evX x (t - t % z)) = 0))) (h40 : n < 40) :
    Calls Try.prog 11 #[.agg #[.int .i64 z, .int .i64 h, .int .i64 mk, .slice ao n cap], .agg #[.string x.m, .slice a0 x.tn c00, .int .i64 x.st], .int .i64 t, .int .i64 v] w fun e w' => BAns z h mk (n + 1) (inX X q (nwS x (t - t % z) v)) 0 w e w' := by
  have HV' : Hid (isV v = true) := hE.out.1
  have hqn : q ≤ n := hP.out.le
  have hw : IntKind.i64.wrap (mk - h) = mk - h := by rw [IntKind.wrap_i64] <;> omega
  have hbd := hr.bd
  have hfX := hr.fb
  have hgX : Hid (∀ i, i < n → gK (X i) = true) := fun i hi => (hG.out.wins.each i hi).key
  have hgT : Hid (gK (evX x (t - t % z)) = true) := evX_good hE.out.2.2.1 hE.out.2.1 hG.out.size
  have h1t : 0 ≤ t ∧ t ≤ 1000000000 := by have := hE.out.2.1; simpa [isTm, btw] using this
  have h1z : 1 ≤ z ∧ z ≤ 100000 := by have := hG.out.size; simpa [isSz, btw] using this
  have m1 := Int.emod_lt_of_pos t (show 0 < z by omega)
  have m2 := Int.emod_nonneg t (show z ≠ 0 by omega)
  have hz0 : ¬ z = 0 := by omega
  have hw0 : IntKind.i64.wrap (t % z) = t % z := by rw [IntKind.wrap_i64] <;> omega
  have hwT : IntKind.i64.wrap (t - t % z) = t - t % z := by rw [IntKind.wrap_i64] <;> omega
  clear m1 m2
  have M0 := MB.new w z h mk (.slice ao n cap) x.m (.slice a0 x.tn c00) x.st
  go_enter Try.func11, Try.ntmps11
  go_wp2_with fail
  generalize ((w.alloc (.cells #[.int .i64 z, .int .i64 h, .int .i64 mk, .slice ao n cap] 25)).alloc (.cells #[.string x.m, .slice a0 x.tn c00, .int .i64 x.st] 32)).alloc (.cells #[.int .i64 0, .int .i64 0, .int .i64 0, .slice none 0 0] 25) = w0 at M0 ⊢
  refine (goodBoard_spec z h mk ao n cap X _ (hr.keep M0.bw) hn hz).mono ?_
  rintro e w1 ⟨b1, rfl, h1, q1⟩
  have M1 := M0.keep q1
  have e1 : b1 = true := h1.2 hG.out
  subst e1
  have s1 := M1.R.lt
  clear h1 q1 M0
  obtain ⟨_, c0, c1, c2, c3⟩ := id M1.B
  go_wp2_with fail
  refine (l11Own_any z h mk ao n cap X _ (hr.keep M1.bw) hn hz).mono ?_
  rintro e w2 ⟨v', V, rfl, hO, q2⟩
  obtain ⟨va, vc, rfl⟩ := ownsRow_form hO.own
  have hO := hO.mono (base' := w.heap.size + 3) (by omega)
  have M2 := M1.keep q2
  have M4 := M2.putB z h mk (.slice va n vc)
  have hO4 := hO.others (setBd_oth w2 w.heap.size z h mk (.slice va n vc)) (by omega)
  clear c0 c1 c2 c3 M1 q2 hO hr
  obtain ⟨_, c0, c1, c2, c3⟩ := id M2.B
  obtain ⟨_, g0, g1, g2⟩ := id M2.K
  have cf := M2.Bf
  go_wp2_with fail
  change Calls _ _ _ (setBd w2 w.heap.size z h mk (.slice va n vc)) _
  generalize setBd w2 w.heap.size z h mk (.slice va n vc) = w4 at M4 hO4 ⊢
  clear M2 c0 c1 c2 c3 cf g0 g1 g2
  refine (goodKey_spec x.m x.st a0 x.tn c00 x.nm x.vl _ (rt.keep M4.bw) hk.m hk.tn hk.ts).mono ?_
  rintro e w5 ⟨rfl, q5⟩
  have M5 := M4.keep q5
  have hO5 := hO4.keep q5
  obtain ⟨hv, ht, hgx, hst⟩ := hE.out
  have hgx' : goodB x.m x.tn x.nm x.vl x.st = true := hgx
  rw [hgx']
  rw [hst] at M5
  clear hst hgx hgx' M4 hO4 q5
  obtain ⟨_, g0, g1, g2⟩ := id M5.K
  obtain ⟨_, b0, b1, b2, b3⟩ := id M5.B
  go_wp2_with fail
  refine (l11Time_any t _).mono ?_
  rintro e w6 ⟨rfl, rfl⟩
  rw [ht]
  go_wp2_with fail
  refine (l4Value_any v _).mono ?_
  rintro e w7 ⟨rfl, rfl⟩
  rw [hv]
  have hld : decide (t < mk - h) = false := decide_eq_false (by omega)
  go_wp2_with fail
  refine (l11OwnKey_any x.m 0 a0 x.tn c00 x.nm x.vl _ (rt.keep M5.bw) hk.tn).mono ?_
  rintro e w8 ⟨kv, rfl, hown, q8⟩
  obtain ⟨ka, kcp, rfl⟩ := ownsRow_form hown
  have M8 := M5.keep q8
  have hO8 := hO5.keep q8
  have M9 := M8.putK x.m (.slice ka x.tn kcp) 0 (t - t % z)
  have hO9 := hO8.others (setKy_oth w8 (w.heap.size + 1) x.m (.slice ka x.tn kcp) 0 (t - t % z)) (by omega)
  have hsl := M5.R.lt
  have o9 := ownsRow_others hown (setKy_oth w8 (w.heap.size + 1) x.m (.slice ka x.tn kcp) 0 (t - t % z)) (fun hk => by have := (hown.lt _ hk).1; omega)
  have far : ∀ k, (Value.slice ka x.tn kcp).ownBlock = some k → w7.heap.size ≤ k ∧ k < w8.heap.size := fun k hk => hown.lt k hk
  have vl : ∀ k, (Value.slice va n vc).ownBlock = some k → w.heap.size + 3 ≤ k ∧ k < w7.heap.size := fun k hk => hO5.own.lt k hk
  have Vl : ∀ i k, i < n * 2 → (V i).ownBlock = some k → k < w7.heap.size := fun i k hi hk => (hO5.lt hi hk).2
  have sz8 := q8.size
  clear g0 g1 g2 b0 b1 b2 b3 M5 hO5 q8 hown hO8
  obtain ⟨_, g0, g1, g2⟩ := id M8.K
  obtain ⟨_, b0, b1, b2, b3⟩ := id M8.B
  have gf := M8.Kf
  have k2 : ((((w8.setCell ⟨w.heap.size + 1, 0, none⟩ (.string x.m)).setCell ⟨w.heap.size + 1, 1, none⟩ (.slice ka x.tn kcp)).setCell ⟨w.heap.size + 1, 2, none⟩ (.int .i64 0)).setCell ⟨w.heap.size + 1, 2, none⟩ (.int .i64 (t - t % z))).cell? ⟨w.heap.size + 1, 2, none⟩ = some (.int .i64 (t - t % z)) := M9.K.c2
  go_wp2_with fail
  change Calls _ _ _ (setKy w8 (w.heap.size + 1) x.m (.slice ka x.tn kcp) 0 (t - t % z)) _
  have sz9 := (setKy_oth w8 (w.heap.size + 1) x.m (.slice ka x.tn kcp) 0 (t - t % z)).size
  generalize setKy w8 (w.heap.size + 1) x.m (.slice ka x.tn kcp) 0 (t - t % z) = w9 at M9 hO9 o9 sz9 ⊢
  clear M8 k2 g0 g1 g2 b0 b1 b2 b3 gf hw0 hwT hz0 h1t h1z
  generalize hTT : t - t % z = T at *
  have HT : Hid (t - t % z = T) := hTT
  clear hTT
  refine (l11At_any z h mk va ka n vc kcp q X (evX x T) _ ((ba_of hO9 hfX).row hbd hfX).2 hn hgX hgT (trow_of o9) hP).mono ?_
  rintro e wa ⟨bb, rfl, hbb, qa⟩
  have ebb : bb = false := by
    cases bb
    · rfl
    · exact absurd (hbb.1 rfl) hyes.out
  subst ebb
  have Ma := M9.keep qa
  have hOa := hO9.keep qa
  have oa := ownsRow_keep o9 qa
  have sza := qa.size
  clear M9 hO9 o9 qa hbb
  obtain ⟨_, g0, g1, g2⟩ := id Ma.K
  obtain ⟨_, b0, b1, b2, b3⟩ := id Ma.B
  obtain ⟨_, d0, d1, d2, d3⟩ := id Ma.R
  have df := Ma.Rf
  have hnI : ((n : Int) == 40) = false := beq_eq_false_iff_ne.2 (by omega)
  obtain ⟨hnc, hvf, hlie⟩ := hOa.lie
  have hone := flatW_one hOa
  obtain ⟨L, HL⟩ : ∃ L : List Value, Hid (L = ((List.range n).flatMap fun j => wcells (X j) (V (j * 2 + 0)) (V (j * 2 + 1)))) := ⟨_, rfl⟩
  have hLl : L.length = n * 11 := by rw [HL.out]; exact hOa.own.1
  rw [← HL.out] at hlie hone
  have hq11 : q * 11 ≤ n * 11 := by omega
  obtain ⟨va1, vc1, u1, hrun1, own1, gr1, at1⟩ := appW wa wa.heap.size (.slice none 0 0) 0 [] (World.ownsRow_nil _ _ _ _) va q vc (L.take (q * 11)) (by rw [List.length_take, hLl]; omega) (hlie.elim (fun e => .inl (by omega)) (fun ⟨g, e, hc⟩ => .inr ⟨g, 0, e, fun j u hu => by
    rw [Nat.zero_add]
    refine hc j u ?_
    rw [List.getElem?_take] at hu
    split at hu
    · exact hu
    · cases hu⟩)) (fun u hu => hone u (List.mem_of_mem_take hu)) (by omega) (by omega) (Nat.le_refl _) 23
  rw [Nat.zero_add] at hrun1 own1 at1
  rw [List.nil_append] at own1
  have q1 : Below wa.heap.size wa u1 := (Below.refl _ _).grown gr1 (Nat.le_refl _) (fun k hk => by cases hk)
  have hat1 : ∀ k, (Value.slice va1 q vc1).ownBlock = some k → wa.heap.size ≤ k := fun k hk => (own1.lt k hk).1
  have hsl1 := run_front va n vc q (by omega) hvf
  have hsl2 := run_rest va n vc q hqn hnc
  have hqi : (q : Int) ≤ (n : Nat) := by omega
  go_wp2_with (at_builtin; refine wpList_append_eq _ rfl (.tmp 89) (.tmp 93) 23 23 rfl rfl (.slice none 0 0) (.slice va q vc) (.slice va1 q vc1) rfl rfl u1 hrun1 ?_)
  have Mu := (Ma.keep q1).keep (Below.refl _ u1).drew
  have Ou := (hOa.keep q1).keep (Below.refl _ u1).drew
  have ou := ownsRow_keep (ownsRow_keep oa q1) (Below.refl _ u1).drew
  have w1u := ownsRow_keep own1 (Below.refl _ u1).drew
  have su1 : wa.heap.size ≤ u1.drew.heap.size := q1.size
  obtain ⟨u, hu⟩ : ∃ u, u = u1.drew := ⟨_, rfl⟩
  rw [← hu] at Mu Ou ou w1u su1
  clear hrun1 own1 gr1 at1 q1 hOa Ma oa g0 g1 g2 b0 b1 b2 b3 d0 d1 d2 d3 df
  obtain ⟨_, y0, y1, y2⟩ := id Mu.K
  refine wp_region_w (fun w' : World => w'.cell? ⟨w.heap.size + 1, 0, none⟩ = some (.string x.m) ∧ w'.cell? ⟨w.heap.size + 1, 1, none⟩ = some (.slice ka x.tn kcp) ∧ w'.cell? ⟨w.heap.size + 1, 2, none⟩ = some (.int .i64 T)) (fun _ => true) (by kernel_rfl) ?_
  change wpW _ _ _ _ _ _ 8 _ _ u1.drew
  rw [← hu]
  clear hu
  have hS0 : (fun w' : World => w'.cell? ⟨w.heap.size + 1, 0, none⟩ = some (.string x.m) ∧ w'.cell? ⟨w.heap.size + 1, 1, none⟩ = some (.slice ka x.tn kcp) ∧ w'.cell? ⟨w.heap.size + 1, 2, none⟩ = some (.int .i64 T)) u := ⟨y0, y1, y2⟩
  refine wpW_take 0 _ (.slice va1 q vc1) rfl (by kernel_rfl) (by kernel_rfl) (by kernel_rfl) (fun _ _ _ h => h) (by kernel_rfl) (.inl ⟨rfl, fun w' hS' => by obtain ⟨s0, s1, s2⟩ := hS'; go_simp⟩) hS0 ?_
  refine wpW_take 1 _ (.agg #[.string x.m, .slice ka x.tn kcp, .int .i64 T]) rfl (by kernel_rfl) (by kernel_rfl) (by kernel_rfl) (fun _ _ _ h => h) (by kernel_rfl) (.inl ⟨rfl, fun w' hS' => by obtain ⟨s0, s1, s2⟩ := hS'; go_simp⟩) hS0 ?_
  refine wpW_take 2 _ (.int .i64 v) rfl (by kernel_rfl) (by kernel_rfl) (by kernel_rfl) (fun _ _ _ h => h) (by kernel_rfl) (.inl ⟨rfl, fun w' hS' => by obtain ⟨s0, s1, s2⟩ := hS'; go_simp⟩) hS0 ?_
  simp only [Act.put, List.getElem_toArray, List.getElem_cons_succ, List.getElem_cons_zero, List.setIfInBounds_toArray, List.set_cons_zero, List.set_cons_succ]
  refine wpW_one 3 _ rfl (by kernel_rfl) (step_c1 rfl 97 35 3 rfl _ (by simp [Act.eval, Act.put]) cf_l4Of (l4Of_own v u HV'.out) ?_)
  rintro e u2 ⟨gz, rfl, hgz, hoz, q2⟩
  refine ⟨_, rfl, ?_⟩
  have M2 := Mu.keep q2
  have hS2 : (fun w' : World => w'.cell? ⟨w.heap.size + 1, 0, none⟩ = some (.string x.m) ∧ w'.cell? ⟨w.heap.size + 1, 1, none⟩ = some (.slice ka x.tn kcp) ∧ w'.cell? ⟨w.heap.size + 1, 2, none⟩ = some (.int .i64 T)) u2 := ⟨M2.K.c0, M2.K.c1, M2.K.c2⟩
  refine ⟨fun _ => hS2, ?_⟩
  simp only [Act.put, List.getElem_toArray, List.getElem_cons_succ, List.getElem_cons_zero, List.setIfInBounds_toArray, List.set_cons_zero, List.set_cons_succ]
  refine wpW_take 4 _ (.agg #[.string x.m, .slice ka x.tn kcp, .int .i64 T, .int .i64 1, .int .i64 v, .int .i64 v, .int .i64 v, .slice (some ⟨gz, 0, none⟩) 8 8, .bool false, .int .i64 0, .bool true]) rfl (by kernel_rfl) (by kernel_rfl) (by kernel_rfl) (fun _ _ _ h => h) (by kernel_rfl) (.inl ⟨rfl, fun w' hS' => by obtain ⟨s0, s1, s2⟩ := hS'; go_simp⟩) hS2 ?_
  simp only [Act.put, List.getElem_toArray, List.getElem_cons_succ, List.getElem_cons_zero, List.setIfInBounds_toArray, List.set_cons_zero, List.set_cons_succ]
  have bX := below_new u2 (.cells #[.string x.m, .slice ka x.tn kcp, .int .i64 T, .int .i64 1, .int .i64 v, .int .i64 v, .int .i64 v, .slice (some ⟨gz, 0, none⟩) 8 8, .bool false, .int .i64 0, .bool true] 39)
  have hnewc : ∀ j u', (wcells (nwS x T v) (.slice ka x.tn kcp) (.slice (some ⟨gz, 0, none⟩) 8 8))[j]? = some u' → (u2.alloc (.cells #[.string x.m, .slice ka x.tn kcp, .int .i64 T, .int .i64 1, .int .i64 v, .int .i64 v, .int .i64 v, .slice (some ⟨gz, 0, none⟩) 8 8, .bool false, .int .i64 0, .bool true] 39)).cell? ((⟨u2.heap.size, 0, none⟩ : Addr).add j) = some u' := eleven_new u2 (nwS x T v) (.slice ka x.tn kcp) (.slice (some ⟨gz, 0, none⟩) 8 8) 39
  have M3' := M2.keep bX
  refine wpW_one 5 _ rfl (by kernel_rfl) (step_buildW rfl 99 rfl (nwS x T v) (.slice ka x.tn kcp) (.slice (some ⟨gz, 0, none⟩) 8 8) true ⟨_, _, _, rfl⟩ ⟨_, _, _, rfl⟩ (by simp [Act.eval, Act.put, nwS, nwW, agY, agW, oA, Wn.w_di]) ?_)
  refine ⟨fun _ => ⟨M3'.K.c0, M3'.K.c1, M3'.K.c2⟩, ?_⟩
  change wpW _ _ _ _ _ _ _ _ _ (u2.alloc (.cells #[.string x.m, .slice ka x.tn kcp, .int .i64 T, .int .i64 1, .int .i64 v, .int .i64 v, .int .i64 v, .slice (some ⟨gz, 0, none⟩) 8 8, .bool false, .int .i64 0, .bool true] 39))
  have bu3 : Below u.heap.size u (u2.alloc (.cells #[.string x.m, .slice ka x.tn kcp, .int .i64 T, .int .i64 1, .int .i64 v, .int .i64 v, .int .i64 v, .slice (some ⟨gz, 0, none⟩) 8 8, .bool false, .int .i64 0, .bool true] 39)) := q2.trans (bX.mono q2.size)
  have hoz3 := ownsRow_keep hoz bX
  have hsz2 := q2.size
  have hsz3 := bX.size
  generalize u2.alloc (.cells #[.string x.m, .slice ka x.tn kcp, .int .i64 T, .int .i64 1, .int .i64 v, .int .i64 v, .int .i64 v, .slice (some ⟨gz, 0, none⟩) 8 8, .bool false, .int .i64 0, .bool true] 39) = u3 at bX hnewc M3' bu3 hoz3 hsz3 ⊢
  have O3 := Ou.keep bu3
  have o3 := ownsRow_keep ou bu3
  have w13 := ownsRow_keep w1u bu3
  obtain ⟨va2, vc2, u4, hrun2, own2, gr2, at2⟩ := appW u3 wa.heap.size (.slice va1 q vc1) q (L.take (q * 11)) w13 (some ⟨u2.heap.size, 0, none⟩) 1 1 (wcells (nwS x T v) (.slice ka x.tn kcp) (.slice (some ⟨gz, 0, none⟩) 8 8)) rfl (.inr ⟨u2.heap.size, 0, rfl, fun j u' hu => by
    have := hnewc j u' hu
    rw [show (⟨u2.heap.size, 0, none⟩ : Addr).add j = ⟨u2.heap.size, 0 + j, none⟩ from by unfold Addr.add; split <;> simp_all] at this
    exact this⟩) (fun u' hu => by
    simp only [wcells, List.mem_cons, List.not_mem_nil, or_false] at hu
    rcases hu with rfl | rfl | rfl | rfl | rfl | rfl | rfl | rfl | rfl | rfl | rfl <;> rfl) (by omega) (by omega) (by omega) 23
  have vl1 : ∀ k, (Value.slice va1 q vc1).ownBlock = some k → wa.heap.size ≤ k ∧ k < u.heap.size := fun k hk => w1u.lt k hk
  have hsz4 := gr2.size
  have M4 := M3'.grow gr2 (fun k hk => by have := vl1 k hk; have := Mu.R.lt; omega)
  have hS4 : (fun w' : World => w'.cell? ⟨w.heap.size + 1, 0, none⟩ = some (.string x.m) ∧ w'.cell? ⟨w.heap.size + 1, 1, none⟩ = some (.slice ka x.tn kcp) ∧ w'.cell? ⟨w.heap.size + 1, 2, none⟩ = some (.int .i64 T)) u4 := ⟨M4.K.c0, M4.K.c1, M4.K.c2⟩
  simp only [Act.put, List.getElem_toArray, List.getElem_cons_succ, List.getElem_cons_zero, List.setIfInBounds_toArray, List.set_cons_zero, List.set_cons_succ]
  refine wpW_one 6 _ rfl (by kernel_rfl) (step_append_ty rfl (.tmp 95) (.tmp 100) 23 23 rfl rfl (.slice va1 q vc1) (.slice (some ⟨u2.heap.size, 0, none⟩) 1 1) (.slice va2 (q + 1) vc2) (by simp [Act.eval, Act.put]) (by simp [Act.eval, Act.put]) u4 hrun2 ?_)
  refine ⟨fun _ => hS4, ?_⟩
  simp only [Act.put, List.getElem_toArray, List.getElem_cons_succ, List.getElem_cons_zero, List.setIfInBounds_toArray, List.set_cons_zero, List.set_cons_succ]
  refine wpW_one 7 _ rfl (by kernel_rfl) (step_asS rfl 101 rfl va2 (q + 1) vc2 (by simp [Act.eval, Act.put]) ?_)
  refine ⟨fun _ => hS4, ?_⟩
  refine wpW_done (by kernel_rfl) ?_
  simp only [Act.put, List.getElem_toArray, List.getElem_cons_succ, List.getElem_cons_zero, List.setIfInBounds_toArray, List.set_cons_zero, List.set_cons_succ]
  have ak : ∀ k, (Value.slice ka x.tn kcp).ownBlock = some k → k < wa.heap.size := fun k hk => by have := far k hk; omega
  have az : ∀ k, (Value.slice (some ⟨gz, 0, none⟩) 8 8).ownBlock = some k → u.heap.size ≤ k ∧ k < u2.heap.size := fun k hk => by have := hoz.lt k hk; have ek : gz = k := (by injection hk); omega
  have Vw : ∀ i k, i < n * 2 → (V i).ownBlock = some k → k < wa.heap.size := fun i k hi hk => by have := Vl i k hi hk; omega
  have vw : ∀ k, (Value.slice va n vc).ownBlock = some k → k < wa.heap.size := fun k hk => by have := vl k hk; omega
  have O4 : OutW u4 (w.heap.size + 3) (.slice va n vc) n X V := by
    have ne : ∀ (c : Value) (e' s' m' : Nat) (ys : List Value), u3.ownsRow (w.heap.size + 3) e' s' c m' ys → (∀ k, c.ownBlock = some k → k < wa.heap.size) → u4.ownsRow (w.heap.size + 3) e' s' c m' ys := fun c e' s' m' ys hc hlt => ownsRow_kept hc gr2 (fun k hk hh => by have := vl1 k hk; have := hlt k hh; omega)
    exact ⟨ne _ _ _ _ _ O3.own vw, fun i hi => ne _ _ _ _ _ (O3.r0 i hi) (fun k hk => Vw _ k (by omega) hk), fun i hi => ne _ _ _ _ _ (O3.r1 i hi) (fun k hk => Vw _ k (by omega) hk), O3.dis, O3.apart⟩
  have o4 := ownsRow_kept o3 gr2 (fun k hk hh => by have := vl1 k hk; have := ak k hh; omega)
  have z4 := ownsRow_kept hoz3 gr2 (fun k hk hh => by have := vl1 k hk; have := az k hh; omega)
  obtain ⟨_, _, hlie4⟩ := O4.lie
  rw [← HL.out] at hlie4
  obtain ⟨va3, vc3, u5, hrun3, own3, gr3, at3⟩ := appW u4 wa.heap.size (.slice va2 (q + 1) vc2) (q + 1) _ own2 (vtl va vc q) (n - q) (vc - q) (L.drop (q * 11)) (by rw [List.length_drop, hLl]; omega) (by
    by_cases e0 : n - q = 0
    · exact .inl e0
    · rcases hlie4 with h0 | ⟨g, e, hc⟩
      · omega
      · rw [e, vtl_some (by omega)]
        refine .inr ⟨g, q * 11, rfl, fun j u' hu => hc _ u' ?_⟩
        rw [List.getElem?_drop] at hu
        exact hu) (fun u' hu => hone u' (List.mem_of_mem_drop hu)) (by omega) (by omega) (by omega) 23
  have en : q + 1 + (n - q) = n + 1 := by omega
  rw [en] at hrun3 own3 at3
  rw [List.append_assoc] at own3
  have vl2 : ∀ k, (Value.slice va2 (q + 1) vc2).ownBlock = some k → wa.heap.size ≤ k ∧ k ≠ gz := fun k hk => by
    refine ⟨(own2.lt k hk).1, fun e => ?_⟩
    have ez : (Value.slice (some ⟨gz, 0, none⟩) 8 8).ownBlock = some k := by rw [e]; rfl
    have hz' := az k ez
    rcases at2 with at2 | at2
    · rw [at2] at hk; have := vl1 k hk; omega
    · rw [at2] at hk; injection hk with hk; omega
  have vl3 : ∀ k, (Value.slice va3 (n + 1) vc3).ownBlock = some k → wa.heap.size ≤ k ∧ k ≠ gz := fun k hk => by
    rcases at3 with at3 | at3
    · rw [at3] at hk; exact vl2 k hk
    · rw [at3] at hk; injection hk with hk
      exact ⟨by omega, fun e => by have := az gz rfl; omega⟩
  have O5 : OutW u5 (w.heap.size + 3) (.slice va n vc) n X V := by
    have ne : ∀ (c : Value) (e' s' m' : Nat) (ys : List Value), u4.ownsRow (w.heap.size + 3) e' s' c m' ys → (∀ k, c.ownBlock = some k → k < wa.heap.size) → u5.ownsRow (w.heap.size + 3) e' s' c m' ys := fun c e' s' m' ys hc hlt => ownsRow_kept hc gr3 (fun k hk hh => by have := vl2 k hk; have := hlt k hh; omega)
    exact ⟨ne _ _ _ _ _ O4.own vw, fun i hi => ne _ _ _ _ _ (O4.r0 i hi) (fun k hk => Vw _ k (by omega) hk), fun i hi => ne _ _ _ _ _ (O4.r1 i hi) (fun k hk => Vw _ k (by omega) hk), O4.dis, O4.apart⟩
  have o5 := ownsRow_kept o4 gr3 (fun k hk hh => by have := vl2 k hk; have := ak k hh; omega)
  have z5 := ownsRow_kept z4 gr3 (fun k hk hh => by have := vl2 k hk; have ek : gz = k := (by injection hh); omega)
  have Rl := Mu.R.lt
  have OF : OutW u5 (w.heap.size + 3) (.slice va3 (n + 1) vc3) (n + 1) (inX X q (nwS x T v)) (inV V q (.slice ka x.tn kcp) (.slice (some ⟨gz, 0, none⟩) 8 8)) := by
    rw [HL.out] at own3
    refine O5.ins2 (show TV u5 _ _ (nwS x T v) from ownsRow_mono o5 (by omega)) (show HV u5 _ _ (nwS x T v) from ownsRow_mono z5 (by omega)) (fun k hk => ⟨fun hh => ?_, fun i hi hh => ?_⟩) (fun k hk => ⟨fun hh => ?_, fun i hi hh => ?_, fun hh => ?_⟩) hqn (ownsRow_mono own3 (by omega)) (fun k hk => ⟨fun i hi hh => ?_, fun hh => ?_, fun hh => ?_⟩)
    · have := far k hk; have := vl k hh; omega
    · have := far k hk; have := Vl i k hi hh; omega
    · have := az k hk; have := vw k hh; omega
    · have := az k hk; have := Vw i k hi hh; omega
    · have := az k hk; have := ak k hh; omega
    · have := vl3 k hk; have := Vw i k hi hh; omega
    · have := vl3 k hk; have := ak k hh; omega
    · have := vl3 k hk; have ek : gz = k := (by injection hh); omega
  have hFin : FBw (n + 1) (inX X q (nwS x T v)) := fun j hj => by
    unfold inX
    by_cases h1 : j < q
    · rw [if_pos h1]; exact hfX j (by omega)
    · by_cases h2 : j = q
      · rw [if_neg h1, if_pos h2]
        intro i
        show -9223372036854775808 ≤ (if i = (bk v).toNat then (1 : Int) else 0) ∧ (if i = (bk v).toNat then (1 : Int) else 0) ≤ 9223372036854775807
        split <;> omega
      · rw [if_neg h1, if_neg h2]; exact hfX (j - 1) (by omega)
  have hA := ba_of OF hFin
  have M5 := M4.grow gr3 (fun k hk => by have := vl2 k hk; omega)
  have hsz5 := gr3.size
  obtain ⟨_, a0', a1', a2', a3'⟩ := id M4.B
  clear hS0 hS2 hS4 hrun2 own2 own3 O3 O4 O5 o3 o4 o5 z4 z5 hoz hoz3 w13 w1u M2 M3' Mu Ou ou hnewc bX OF hFin hlie hlie4 hone y0 y1 y2 hsl1
  obtain ⟨_, b0, b1, b2, b3⟩ := id M5.B
  have bf := M5.Bf
  obtain ⟨_, d0, d1, d2, d3⟩ := id M5.R
  have df := M5.Rf
  have bwa := M5.bw
  have M6 := M5.put3 (.slice va3 (n + 1) vc3)
  clear M4 M5
  go_wp2_with (at_builtin; refine wpList_append_eq _ rfl (.tmp 102) (.tmp 106) 23 23 rfl rfl (.slice va2 (q + 1) vc2) (.slice (vtl va vc q) (n - q) (vc - q)) (.slice va3 (n + 1) vc3) rfl rfl u5 hrun3 ?_)
  refine bodyPost_ret (v := .tuple #[.agg #[.int .i64 z, .int .i64 h, .int .i64 mk, .slice va3 (n + 1) vc3], .int .i64 0]) (by simp [results, Try.results11, go_sem, b0, b1, b2, b3, d0, d1, d2, d3]) rfl ⟨.slice va3 (n + 1) vc3, rfl, ?_, ?_⟩
  · refine BA.mono (base := w.heap.size + 3) (top := u5.heap.size) ?_ (by omega) (by first | (simp; done) | (simp; omega)) (Nat.le_refl _)
    rw [HT.out]
    refine hA.same (by simp) (fun c h1 h2 => ?_)
    repeat rw [set_blk _ _ _ _ _ (by omega)]
  · repeat' refine Below.setCell ?_ (by first | (simp; done) | (simp; omega)) _
    exact bwa
end Go.Proofs.Ytpggmgmdcccmeaa
