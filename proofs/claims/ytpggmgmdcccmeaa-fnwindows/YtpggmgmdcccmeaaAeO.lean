/- addEvent of a window that is there (made by mkat.py). -/
import Derived.Test.YtpggmgmdcccmeaaAeE
namespace Go.Proofs.Ytpggmgmdcccmeaa
open Go.RowKit
set_option linter.unusedSimpArgs false
set_option linter.unusedVariables false

set_option maxRecDepth 100000 in
set_option maxHeartbeats 16000000 in
theorem addEvent_old (base p r q lo : Nat) (z h mk : Int) (sv : Value) (n : Nat) (Y : Nat → Wn) (V : Nat → Value) (S : ByteArray → Prop) (x : Wn) (a0 : Option Addr) (c0 : Nat) (t v : Int) (w : World) (H : WSt w base p r z h mk sv n Y V S) (hbd : ∀ i, i < n → WiB (Y i)) (hf : FBw n Y) (hg : Hid (∀ i, i < n → gK (Y i) = true)) (hn : n ≤ 1048576)
    (hmh : -9223372036854775808 ≤ mk - h ∧ mk - h ≤ 9223372036854775807) (rt : TRow w a0 x.tn x.nm x.vl) (hz : KSz x) (hE : Hid (evK x t v)) (hsz : Hid (isSz z = true)) (hl : ¬ t < mk - h)
    (hm : Hid (∀ i j, i ≤ j → j < n → kc (Y j) (evX x (t - t % z)) < 0 → kc (Y i) (evX x (t - t % z)) < 0)) (hP : Hid (PosK Y n (evX x (t - t % z)) q)) (hyes : Hid (q < n ∧ kc (Y q) (evX x (t - t % z)) = 0)) (hA : GA (agE (Y q))) (hlo : lo ≤ p ∧ lo ≤ r ∧ base ≤ w.heap.size) :
    Calls Try.prog 31 #[.pointer (some ⟨p, 0, none⟩), .agg #[.string x.m, .slice a0 x.tn c0, .int .i64 x.st], .int .i64 t, .int .i64 v] w fun e w' => AdO base p r lo z h mk n (upWi Y q (agY (Y q) (jn (cA (agE (Y q))) (oA v)))) (fun s => S s ∨ s = kS (evX x (t - t % z))) w e w' := by
  obtain ⟨y, hy⟩ : ∃ y : Ent, Hid (jn (cA (agE (Y q))) (oA v) = y) := ⟨_, rfl⟩
  rw [hy.out]
  have hga : ∀ i, i < 2 → GA (if i = 0 then agE (Y q) else oA v) := fun i hi => by
    by_cases e : i = 0
    · rw [if_pos e]; exact hA
    · rw [if_neg e]; exact ga_oA hE.out.1
  have hqN := hyes.out.1
  obtain ⟨va, vc, rfl⟩ := ownsRow_form H.out.own
  obtain ⟨hv, ht, hgx, hst⟩ := hE.out
  have HST : Hid (x.st = 0) := hst
  clear hst
  have hgT : Hid (gK (evX x (t - t % z)) = true) := evX_good hgx ht hsz.out
  have hSo : Hid (SoA t z = .returned (.tuple #[.int .i64 (t - t % z), .bool true])) := by unfold Hid SoA; rw [if_pos ⟨ht, hsz.out⟩]
  generalize t - t % z = T at hm hP hyes hgT hSo ⊢
  have hpl : ∀ (b : Option Addr) (d : Nat) (W : World), Below w.heap.size w W → TRow W b x.tn x.nm x.vl → Calls Try.prog 40 #[.pointer (some ⟨p, 0, none⟩), .agg #[.string x.m, .slice b x.tn d, .int .i64 T]] W fun e w' => PlO n Y (evX x T) q W e w' := fun b d W hbW hrW => place_any base p r q z h mk (.slice va n vc) n Y V S (evX x T) b d W (H.keep hbW) hbd hf hg hn hgT hrW hm hP
  have hbx := H.box
  have hw : IntKind.i64.wrap (mk - h) = mk - h := by rw [IntKind.wrap_i64] <;> omega
  have K0 : KBx w (w.alloc (.cells #[.string x.m, .slice a0 x.tn c0, .int .i64 x.st] 32)) w.heap.size x.m (.slice a0 x.tn c0) x.st := ⟨KAt.new w x.m (.slice a0 x.tn c0) x.st 32, fun j => by simp [go_sem], below_new w _⟩
  have HH : Hid (WSt w base p r z h mk (.slice va n vc) n Y V S) := H
  have hqn : q ≤ n := hP.out.le
  clear H hbd hg hP hm hsz
  go_enter Try.func31, Try.ntmps31
  go_wp2_with fail
  generalize w.alloc (.cells #[.string x.m, .slice a0 x.tn c0, .int .i64 x.st] 32) = w0 at K0 ⊢
  refine (aggOf_yes v _ hv).mono ?_
  rintro e w1 ⟨G, rfl, hG, oG, hb1⟩
  have hB2 := below_new w1 (.cells #[.int .i64 1, .int .i64 v, .int .i64 v, .int .i64 v, .slice (some ⟨G, 0, none⟩) 8 8, .bool false] 35)
  have K2' : EvB w (w1.alloc (.cells #[.int .i64 1, .int .i64 v, .int .i64 v, .int .i64 v, .slice (some ⟨G, 0, none⟩) 8 8, .bool false] 35)) w.heap.size w1.heap.size G x.m (.slice a0 x.tn c0) x.st v := ⟨(K0.keep hb1).keep hB2, AAt.new w1 1 v v v (.slice (some ⟨G, 0, none⟩) 8 8) false 35, oG.keep hB2, by have := K0.A.lt; have := hb1.size; omega, by have := K0.A.lt; omega⟩
  obtain ⟨AB, hAB⟩ : ∃ AB, Hid (AB = w1.heap.size) := ⟨_, rfl⟩
  have K2 := K2'
  rw [← hAB.out] at K2
  clear K0 hb1 hB2 oG K2' hv
  go_wp2_with fail
  generalize w1.alloc (.cells #[.int .i64 1, .int .i64 v, .int .i64 v, .int .i64 v, .slice (some ⟨G, 0, none⟩) 8 8, .bool false] 35) = w2 at K2 ⊢
  rw [← hAB.out]
  have K2A := K2.K.A
  obtain ⟨_, k0, k1, k2⟩ := K2A
  refine (isTime_any t _).mono ?_
  rintro e w3 ⟨rfl, rfl⟩
  rw [ht]
  go_wp2_with fail
  refine (goodK_any x a0 c0 _ (rt.keep K2.K.bw) hz).mono ?_
  rintro e w4 ⟨rfl, hb4⟩
  have K4 := K2.keep hb4
  rw [HST.out] at K4
  have K4A := K4.K.A
  have p1 := (K4.K.bw.cell (p := ⟨p, 1, none⟩) hbx.lt).trans hbx.c1
  have p2 := (K4.K.bw.cell (p := ⟨p, 2, none⟩) hbx.lt).trans hbx.c2
  clear k0 k1 k2 K2 hb4
  obtain ⟨_, k0, k1, k2⟩ := K4A
  rw [hgx]
  go_wp2
  go_quiet (fail)
  go_wp2_with fail
  have KD := K4.keep (below_drewN (Below.refl w4.heap.size w4) nq)
  refine (copyKey_any x.m 0 a0 x.tn c0 x.nm x.vl _ (rt.keep KD.K.bw) hz.tn).mono ?_
  rintro e w5 ⟨kv, rfl, hown, hb5⟩
  obtain ⟨ka, kcp, rfl⟩ := ownsRow_form hown
  have K5 := KD.keep hb5
  have K6 := K5.put x.m (.slice ka x.tn kcp) 0
  have hne : (Value.slice ka x.tn kcp).ownBlock ≠ some w.heap.size := fun hk => by have := (hown.lt _ hk).1; have := KD.K.A.lt; omega
  have hown0 := ownsRow_mono hown (base' := w.heap.size + 1) (by have := KD.K.A.lt; omega)
  have o6 := ownsRow_others (ownsRow_others (ownsRow_others hown0 (Others.setCell w5 w.heap.size 0 (.string x.m)) hne) (Others.setCell _ w.heap.size 1 (.slice ka x.tn kcp)) hne) (Others.setCell _ w.heap.size 2 (.int .i64 0)) hne
  have p0 := (K6.K.bw.cell (p := ⟨p, 0, none⟩) hbx.lt).trans hbx.c0
  have K5A := K5.K.A
  have K5z := K5.K.fz
  obtain ⟨_, e0, e1, e2⟩ := K5A
  clear k0 k1 k2 K4 KD hown hown0 hb5 p1 p2
  go_wp2_with fail
  generalize ((w5.setCell ⟨w.heap.size, 0, none⟩ (.string x.m)).setCell ⟨w.heap.size, 1, none⟩ (.slice ka x.tn kcp)).setCell ⟨w.heap.size, 2, none⟩ (.int .i64 0) = w6 at K6 o6 p0 ⊢
  refine (startOf_impl t z _).mono ?_
  rintro e w7 ⟨rfl, rfl⟩
  rw [hSo.out]
  have K7 := K6.set2 T
  have o7 := ownsRow_others o6 (Others.setCell _ w.heap.size 2 (.int .i64 T)) hne
  have K6A := K6.K.A
  have K6z := K6.K.fz
  obtain ⟨_, f0, f1, f2⟩ := K6A
  clear e0 e1 e2 K5 K5z
  go_wp2_with fail
  generalize w7.setCell ⟨w.heap.size, 2, none⟩ (.int .i64 T) = w8 at K7 o7 ⊢
  refine (hpl ka kcp _ K7.K.bw (trow_of o7)).mono ?_
  rintro e w9 ⟨bb, rfl, hbb, hb9⟩
  have ebb : bb = true := by
    cases bb
    · exact absurd (hbb.2 hyes.out) (by decide)
    · rfl
  subst ebb
  have K9 := K7.keep hb9
  have o9 := ownsRow_keep o7 hb9
  have p3 := (K9.K.bw.cell (p := ⟨p, 3, none⟩) hbx.lt).trans hbx.c3
  clear f0 f1 f2 K6 K7 hbb hpl o6 o7 p0 hb9
  go_wp2
  have pb := HH.out.pb
  have rb := HH.out.rb
  have hbsz := hbx.lt
  have Hu := HH.out.keep (K9.keep (Below.refl _ w9).drew).K.bw
  have Eu := (K9.keep (Below.refl _ w9).drew).t
  have ou := ownsRow_keep o9 (Below.refl _ w9).drew
  have bwu : Below lo w w9.drew := (K9.keep (Below.refl _ w9).drew).K.bw.mono (by omega)
  have hfu := hf
  have hbsu : base ≤ w9.drew.heap.size := by have := bwu.size; omega
  have hgv0 : ∀ g : Nat, va = some ⟨g, 0, none⟩ → g < w.heap.size := fun g e => (HH.out.out.own.lt g (by rw [e]; rfl)).2
  have hkne : ∀ g, g < w9.drew.heap.size → g < w.heap.size → (Value.slice ka x.tn kcp).ownBlock ≠ some g := fun g _ h2 hk => by have := (ou.lt g hk).1; omega
  have HEq : Hid (jn (cA (agE (Y q))) (oA v) = y) := hy
  clear hy
  obtain ⟨u, hu⟩ : ∃ u, u = w9.drew := ⟨_, rfl⟩
  rw [← hu] at Hu Eu ou bwu hbsu hkne
  clear K9 o9 p3
  obtain ⟨gv, ga0, ga1, gk0, gk1, eva, hg1, hg2, hAt, hIr, hfr, hBA⟩ := agPrep Hu.out hfu hqN hbsu
  have hgvl := hgv0 gv eva
  subst eva
  have hgvne : gv ≠ w.heap.size := by omega
  have hqi : (q : Int) < (n : Nat) := by omega
  have e3 := Hu.box.c3
  obtain ⟨_, _, _, _, y3, y4, y5, y6, y7, y8, _, _⟩ := id hAt
  obtain ⟨_, b0, b1, b2, b3, b4, b5⟩ := id Eu.A
  refine wp_region_w (fun w' : World => w'.cell? ⟨p, 3, none⟩ = some (.slice (some ⟨gv, 0, none⟩) n vc) ∧ w'.cell? ⟨gv, q * 11 + 3, none⟩ = some (.int .i64 (Y q).c) ∧ w'.cell? ⟨gv, q * 11 + 4, none⟩ = some (.int .i64 (Y q).s) ∧ w'.cell? ⟨gv, q * 11 + 5, none⟩ = some (.int .i64 (Y q).lo) ∧ w'.cell? ⟨gv, q * 11 + 6, none⟩ = some (.int .i64 (Y q).hi) ∧ w'.cell? ⟨gv, q * 11 + 7, none⟩ = some (.slice ga1 (Y q).n gk1) ∧ w'.cell? ⟨gv, q * 11 + 8, none⟩ = some (.bool (Y q).fu) ∧ w'.cell? ⟨AB, 0, none⟩ = some (.int .i64 1) ∧ w'.cell? ⟨AB, 1, none⟩ = some (.int .i64 v) ∧ w'.cell? ⟨AB, 2, none⟩ = some (.int .i64 v) ∧ w'.cell? ⟨AB, 3, none⟩ = some (.int .i64 v) ∧ w'.cell? ⟨AB, 4, none⟩ = some (.slice (some ⟨G, 0, none⟩) 8 8) ∧ w'.cell? ⟨AB, 5, none⟩ = some (.bool false)) (fun j => j != 20) (by kernel_rfl) ?_
  change wpW _ _ _ _ _ _ 21 _ _ w9.drew
  rw [← hu]
  clear hu
  have hS0 : (fun w' : World => w'.cell? ⟨p, 3, none⟩ = some (.slice (some ⟨gv, 0, none⟩) n vc) ∧ w'.cell? ⟨gv, q * 11 + 3, none⟩ = some (.int .i64 (Y q).c) ∧ w'.cell? ⟨gv, q * 11 + 4, none⟩ = some (.int .i64 (Y q).s) ∧ w'.cell? ⟨gv, q * 11 + 5, none⟩ = some (.int .i64 (Y q).lo) ∧ w'.cell? ⟨gv, q * 11 + 6, none⟩ = some (.int .i64 (Y q).hi) ∧ w'.cell? ⟨gv, q * 11 + 7, none⟩ = some (.slice ga1 (Y q).n gk1) ∧ w'.cell? ⟨gv, q * 11 + 8, none⟩ = some (.bool (Y q).fu) ∧ w'.cell? ⟨AB, 0, none⟩ = some (.int .i64 1) ∧ w'.cell? ⟨AB, 1, none⟩ = some (.int .i64 v) ∧ w'.cell? ⟨AB, 2, none⟩ = some (.int .i64 v) ∧ w'.cell? ⟨AB, 3, none⟩ = some (.int .i64 v) ∧ w'.cell? ⟨AB, 4, none⟩ = some (.slice (some ⟨G, 0, none⟩) 8 8) ∧ w'.cell? ⟨AB, 5, none⟩ = some (.bool false)) u := ⟨e3, y3, y4, y5, y6, y7, y8, b0, b1, b2, b3, b4, b5⟩
  refine wpW_take 0 _ (.pointer (some ⟨p, 0, none⟩)) rfl (by kernel_rfl) (by kernel_rfl) (by kernel_rfl) (fun _ _ _ h => h) (by kernel_rfl) (.inl ⟨rfl, fun w' hS' => by obtain ⟨s0, s1, s2, s3, s4, s5, s6, s7, s8, s9, s10, s11, s12⟩ := hS'; go_simp⟩) hS0 ?_
  refine wpW_take 1 _ (.pointer (some ⟨p, 0, none⟩)) rfl (by kernel_rfl) (by kernel_rfl) (by kernel_rfl) (fun _ _ _ h => h) (by kernel_rfl) (.inl ⟨rfl, fun w' hS' => by obtain ⟨s0, s1, s2, s3, s4, s5, s6, s7, s8, s9, s10, s11, s12⟩ := hS'; go_simp⟩) hS0 ?_
  refine wpW_take 2 _ (.pointer (some ⟨p, 0, none⟩)) rfl (by kernel_rfl) (by kernel_rfl) (by kernel_rfl) (fun _ _ _ h => h) (by kernel_rfl) (.inl ⟨rfl, fun w' hS' => by obtain ⟨s0, s1, s2, s3, s4, s5, s6, s7, s8, s9, s10, s11, s12⟩ := hS'; go_simp⟩) hS0 ?_
  refine wpW_take 3 _ (.pointer (some ⟨p, 3, none⟩)) rfl (by kernel_rfl) (by kernel_rfl) (by kernel_rfl) (fun _ _ _ h => h) (by kernel_rfl) (.inl ⟨rfl, fun w' hS' => by obtain ⟨s0, s1, s2, s3, s4, s5, s6, s7, s8, s9, s10, s11, s12⟩ := hS'; go_simp⟩) hS0 ?_
  refine wpW_take 4 _ (.slice (some ⟨gv, 0, none⟩) n vc) rfl (by kernel_rfl) (by kernel_rfl) (by kernel_rfl) (fun _ _ _ h => h) (by kernel_rfl) (.inl ⟨rfl, fun w' hS' => by obtain ⟨s0, s1, s2, s3, s4, s5, s6, s7, s8, s9, s10, s11, s12⟩ := hS'; go_simp⟩) hS0 ?_
  refine wpW_take 5 _ (.int .i64 (q : Int)) rfl (by kernel_rfl) (by kernel_rfl) (by kernel_rfl) (fun _ _ _ h => h) (by kernel_rfl) (.inl ⟨rfl, fun w' hS' => by obtain ⟨s0, s1, s2, s3, s4, s5, s6, s7, s8, s9, s10, s11, s12⟩ := hS'; go_simp⟩) hS0 ?_
  refine wpW_take 6 _ (.pointer (some ⟨p, 0, none⟩)) rfl (by kernel_rfl) (by kernel_rfl) (by kernel_rfl) (fun _ _ _ h => h) (by kernel_rfl) (.inl ⟨rfl, fun w' hS' => by obtain ⟨s0, s1, s2, s3, s4, s5, s6, s7, s8, s9, s10, s11, s12⟩ := hS'; go_simp⟩) hS0 ?_
  refine wpW_take 7 _ (.pointer (some ⟨p, 0, none⟩)) rfl (by kernel_rfl) (by kernel_rfl) (by kernel_rfl) (fun _ _ _ h => h) (by kernel_rfl) (.inl ⟨rfl, fun w' hS' => by obtain ⟨s0, s1, s2, s3, s4, s5, s6, s7, s8, s9, s10, s11, s12⟩ := hS'; go_simp⟩) hS0 ?_
  refine wpW_take 8 _ (.pointer (some ⟨p, 0, none⟩)) rfl (by kernel_rfl) (by kernel_rfl) (by kernel_rfl) (fun _ _ _ h => h) (by kernel_rfl) (.inl ⟨rfl, fun w' hS' => by obtain ⟨s0, s1, s2, s3, s4, s5, s6, s7, s8, s9, s10, s11, s12⟩ := hS'; go_simp⟩) hS0 ?_
  refine wpW_take 9 _ (.pointer (some ⟨p, 3, none⟩)) rfl (by kernel_rfl) (by kernel_rfl) (by kernel_rfl) (fun _ _ _ h => h) (by kernel_rfl) (.inl ⟨rfl, fun w' hS' => by obtain ⟨s0, s1, s2, s3, s4, s5, s6, s7, s8, s9, s10, s11, s12⟩ := hS'; go_simp⟩) hS0 ?_
  refine wpW_take 10 _ (.slice (some ⟨gv, 0, none⟩) n vc) rfl (by kernel_rfl) (by kernel_rfl) (by kernel_rfl) (fun _ _ _ h => h) (by kernel_rfl) (.inl ⟨rfl, fun w' hS' => by obtain ⟨s0, s1, s2, s3, s4, s5, s6, s7, s8, s9, s10, s11, s12⟩ := hS'; go_simp⟩) hS0 ?_
  refine wpW_take 11 _ (.int .i64 (q : Int)) rfl (by kernel_rfl) (by kernel_rfl) (by kernel_rfl) (fun _ _ _ h => h) (by kernel_rfl) (.inl ⟨rfl, fun w' hS' => by obtain ⟨s0, s1, s2, s3, s4, s5, s6, s7, s8, s9, s10, s11, s12⟩ := hS'; go_simp⟩) hS0 ?_
  refine wpW_take 12 _ (.pointer (some ⟨gv, q * 11, none⟩)) rfl (by kernel_rfl) (by kernel_rfl) (by kernel_rfl) (fun _ _ _ h => h) (by kernel_rfl) (.inl ⟨rfl, fun w' hS' => by obtain ⟨s0, s1, s2, s3, s4, s5, s6, s7, s8, s9, s10, s11, s12⟩ := hS'; go_simp⟩) hS0 ?_
  refine wpW_take 13 _ (.pointer (some ⟨gv, q * 11 + 3, none⟩)) rfl (by kernel_rfl) (by kernel_rfl) (by kernel_rfl) (fun _ _ _ h => h) (by kernel_rfl) (.inl ⟨rfl, fun w' hS' => by obtain ⟨s0, s1, s2, s3, s4, s5, s6, s7, s8, s9, s10, s11, s12⟩ := hS'; go_simp⟩) hS0 ?_
  refine wpW_take 14 _ (.agg #[.int .i64 (Y q).c, .int .i64 (Y q).s, .int .i64 (Y q).lo, .int .i64 (Y q).hi, .slice ga1 (Y q).n gk1, .bool (Y q).fu]) rfl (by kernel_rfl) (by kernel_rfl) (by kernel_rfl) (fun _ _ _ h => h) (by kernel_rfl) (.inl ⟨rfl, fun w' hS' => by obtain ⟨s0, s1, s2, s3, s4, s5, s6, s7, s8, s9, s10, s11, s12⟩ := hS'; go_simp⟩) hS0 ?_
  refine wpW_take 15 _ (.agg #[.int .i64 1, .int .i64 v, .int .i64 v, .int .i64 v, .slice (some ⟨G, 0, none⟩) 8 8, .bool false]) rfl (by kernel_rfl) (by kernel_rfl) (by kernel_rfl) (fun _ _ _ h => h) (by kernel_rfl) (.inl ⟨rfl, fun w' hS' => by obtain ⟨s0, s1, s2, s3, s4, s5, s6, s7, s8, s9, s10, s11, s12⟩ := hS'; go_simp⟩) hS0 ?_
  simp only [Act.put, List.getElem_toArray, List.getElem_cons_succ, List.getElem_cons_zero, List.setIfInBounds_toArray, List.set_cons_zero, List.set_cons_succ]
  have bN := below_new u (.cells #[.int .i64 (agE (Y q)).c, .int .i64 (agE (Y q)).s, .int .i64 (agE (Y q)).lo, .int .i64 (agE (Y q)).hi, .slice ga1 (agE (Y q)).n gk1, .bool (agE (Y q)).fu, .int .i64 (oA v).c, .int .i64 (oA v).s, .int .i64 (oA v).lo, .int .i64 (oA v).hi, .slice (some ⟨G, 0, none⟩) (oA v).n 8, .bool (oA v).fu] 35)
  have hAR := arow_two (u := u) (x := agE (Y q)) (y := oA v) (c0 := gk1) (c1 := 8) hIr Eu.I.row
  refine wpW_one 16 _ rfl (by kernel_rfl) (step_buildA rfl 109 110 rfl (agE (Y q)) (oA v) ga1 (some ⟨G, 0, none⟩) gk1 8 (by simp [Act.eval, Act.put, agE]) (by simp [Act.eval, Act.put, oA]) ?_)
  generalize u.alloc (.cells #[.int .i64 (agE (Y q)).c, .int .i64 (agE (Y q)).s, .int .i64 (agE (Y q)).lo, .int .i64 (agE (Y q)).hi, .slice ga1 (agE (Y q)).n gk1, .bool (agE (Y q)).fu, .int .i64 (oA v).c, .int .i64 (oA v).s, .int .i64 (oA v).lo, .int .i64 (oA v).hi, .slice (some ⟨G, 0, none⟩) (oA v).n 8, .bool (oA v).fu] 35) = u1 at bN hAR ⊢
  have E1 := Eu.keep bN
  have H1 := Hu.keep bN
  have A1 := hAt.keep bN
  refine ⟨fun _ => ⟨H1.box.c3, A1.c3, A1.c4, A1.c5, A1.c6, A1.c7, A1.c8, E1.A.c0, E1.A.c1, E1.A.c2, E1.A.c3, E1.A.c4, E1.A.c5⟩, ?_⟩
  simp only [Act.put, List.getElem_toArray, List.getElem_cons_succ, List.getElem_cons_zero, List.setIfInBounds_toArray, List.set_cons_zero, List.set_cons_succ]
  refine wpW_one 17 _ rfl (by kernel_rfl) (step_c1 rfl 111 61 115 rfl _ (by simp [Act.eval, Act.put]) cf_join (joinAll_any _ 2 2 _ u1 hAR hga (by omega)) ?_)
  rintro e u2 ⟨g, rfl, hgg, hI2, q2⟩
  rw [jf_two] at hI2 ⊢
  simp only [if_true, show ¬ (1 : Nat) = 0 from by decide, if_false] at hI2 ⊢
  rw [HEq.out] at hI2 ⊢
  clear HEq
  refine ⟨_, rfl, ?_⟩
  have bu2 := bN.trans (q2.mono bN.size)
  have E2 := E1.keep q2
  have H2 := H1.keep q2
  have A2 := A1.keep q2
  have hS2 : (fun w' : World => w'.cell? ⟨p, 3, none⟩ = some (.slice (some ⟨gv, 0, none⟩) n vc) ∧ w'.cell? ⟨gv, q * 11 + 3, none⟩ = some (.int .i64 (Y q).c) ∧ w'.cell? ⟨gv, q * 11 + 4, none⟩ = some (.int .i64 (Y q).s) ∧ w'.cell? ⟨gv, q * 11 + 5, none⟩ = some (.int .i64 (Y q).lo) ∧ w'.cell? ⟨gv, q * 11 + 6, none⟩ = some (.int .i64 (Y q).hi) ∧ w'.cell? ⟨gv, q * 11 + 7, none⟩ = some (.slice ga1 (Y q).n gk1) ∧ w'.cell? ⟨gv, q * 11 + 8, none⟩ = some (.bool (Y q).fu) ∧ w'.cell? ⟨AB, 0, none⟩ = some (.int .i64 1) ∧ w'.cell? ⟨AB, 1, none⟩ = some (.int .i64 v) ∧ w'.cell? ⟨AB, 2, none⟩ = some (.int .i64 v) ∧ w'.cell? ⟨AB, 3, none⟩ = some (.int .i64 v) ∧ w'.cell? ⟨AB, 4, none⟩ = some (.slice (some ⟨G, 0, none⟩) 8 8) ∧ w'.cell? ⟨AB, 5, none⟩ = some (.bool false)) u2 := ⟨H2.box.c3, A2.c3, A2.c4, A2.c5, A2.c6, A2.c7, A2.c8, E2.A.c0, E2.A.c1, E2.A.c2, E2.A.c3, E2.A.c4, E2.A.c5⟩
  refine ⟨fun _ => hS2, ?_⟩
  simp only [Act.put, List.getElem_toArray, List.getElem_cons_succ, List.getElem_cons_zero, List.setIfInBounds_toArray, List.set_cons_zero, List.set_cons_succ]
  refine wpW_one 18 _ rfl (by kernel_rfl) (step_idxW rfl 99 100 rfl gv n vc q (by simp [Act.eval, Act.put]) (by simp [Act.eval, Act.put]) hqN ?_)
  refine ⟨fun _ => hS2, ?_⟩
  simp only [Act.put, List.getElem_toArray, List.getElem_cons_succ, List.getElem_cons_zero, List.setIfInBounds_toArray, List.set_cons_zero, List.set_cons_succ]
  refine wpW_one 19 _ rfl (by kernel_rfl) (step_fAg rfl 113 rfl gv (q * 11) (by simp [Act.eval, Act.put]) ?_)
  refine ⟨fun _ => hS2, ?_⟩
  simp only [Act.put, List.getElem_toArray, List.getElem_cons_succ, List.getElem_cons_zero, List.setIfInBounds_toArray, List.set_cons_zero, List.set_cons_succ]
  refine wpW_one 20 _ rfl (by kernel_rfl) (step_stA rfl 114 112 rfl gv (q * 11 + 3) y (some ⟨g, 0, none⟩) 8 8 _ _ _ _ _ _ (by simp [Act.eval, Act.put]) (by simp [Act.eval, Act.put]) A2.c3 A2.c4 A2.c5 A2.c6 A2.c7 A2.c8 (fun i hi => (bu2.frozen (p := ⟨gv, q * 11 + 3 + i, none⟩) hg2).trans (hfr _ (by omega))) ?_)
  refine ⟨fun h => absurd h (by decide), ?_⟩
  refine wpW_done (by kernel_rfl) ?_
  simp only [Act.put, List.getElem_toArray, List.getElem_cons_succ, List.getElem_cons_zero, List.setIfInBounds_toArray, List.set_cons_zero, List.set_cons_succ]
  have hA3 := hBA u2 g 8 y bu2 (by have := bN.size; omega) hI2
  have oth := setAg_oth u2 gv q y.c y.s y.lo y.hi g 8 y.fu
  have HB := Hu.agg bu2 oth hg1 hA3
  have hgvD : gv < w.heap.size ∨ gv ≠ w.heap.size := .inr hgvne
  have KK : KAt (setAgC u2 gv q y.c y.s y.lo y.hi g 8 y.fu) w.heap.size x.m (.slice ka x.tn kcp) T := by
    have kb := oth.block w.heap.size (by omega)
    have kc : ∀ j, (setAgC u2 gv q y.c y.s y.lo y.hi g 8 y.fu).cell? ⟨w.heap.size, j, none⟩ = u2.cell? ⟨w.heap.size, j, none⟩ := fun j => World.cell?_of_block (w := u2) (a := ⟨w.heap.size, j, none⟩) kb
    exact ⟨by rw [oth.size]; exact E2.K.lt, (kc _).trans E2.K.c0, (kc _).trans E2.K.c1, (kc _).trans E2.K.c2⟩
  have TT : TRow (setAgC u2 gv q y.c y.s y.lo y.hi g 8 y.fu) ka x.tn x.nm x.vl := trow_of (ownsRow_others (ownsRow_keep ou bu2) oth ((hkne gv hg2 hgvl)))
  have bwF : Below lo w (setAgC u2 gv q y.c y.s y.lo y.hi g 8 y.fu) := (bwu.trans (bu2.mono (by omega))).trans (oth.below (by omega))
  change Exit.then _ _ Exit.normal _ (setAgC u2 gv q y.c y.s y.lo y.hi g 8 y.fu)
  generalize setAgC u2 gv q y.c y.s y.lo y.hi g 8 y.fu = u3 at HB KK TT bwF ⊢
  clear hS0 hS2 e3 y3 y4 y5 y6 y7 y8 b0 b1 b2 b3 b4 b5 hBA hA3 oth A1 A2 H1 H2 E1 E2 hAR hI2 hAt hIr hfr
  have HBd := HB.keep (Below.refl _ u3).drew
  have KKd := KK.keep (Below.refl _ u3).drew
  have TTd := TT.keep (Below.refl _ u3).drew
  have bwd := bwF.drew
  obtain ⟨_, k0, k1, k2⟩ := KK
  have p4 := HB.c4
  go_wp2
  go_region_held3 (fun w' => w'.cell? ⟨p, 4, none⟩ = some (.map (some r)) ∧ w'.cell? ⟨w.heap.size, 0, none⟩ = some (.string x.m) ∧ w'.cell? ⟨w.heap.size, 1, none⟩ = some (.slice ka x.tn kcp) ∧ w'.cell? ⟨w.heap.size, 2, none⟩ = some (.int .i64 T)) (go_keep) (first | (go_at_call 42; refine (addW_any (evX x T) r S ka kcp _ TTd hgT HBd.set).mono ?_; rintro e u4 ⟨rfl, hset, ht4⟩; have HF := HBd.thru ht4 hset; have p4' := HF.c4; have kb := ht4.block w.heap.size KKd.lt (by omega); have kc' : ∀ j, u4.cell? ⟨w.heap.size, j, none⟩ = u3.drew.cell? ⟨w.heap.size, j, none⟩ := fun j => World.cell?_of_block (w := u3.drew) (a := ⟨w.heap.size, j, none⟩) kb; have k0' := (kc' 0).trans KKd.c0; have k1' := (kc' 1).trans KKd.c1; have k2' := (kc' 2).trans KKd.c2))
  have bF : Below lo w u4 := bwd.trans (ht4.below (by omega) (by have := bwd.size; have := Below.size bwd; omega))
  clear HBd KKd TTd hset ht4 p4 k0 k1 k2 p4' kb kc' k0' k1' k2'
  go_wp2
  go_ret
  exact ⟨_, _, rfl, HF, bF⟩
end Go.Proofs.Ytpggmgmdcccmeaa
