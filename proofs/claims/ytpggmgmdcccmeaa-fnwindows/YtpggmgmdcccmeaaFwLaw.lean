/- The law of FnWindows, walked (made by mklaw.py). -/
import Derived.Test.YtpggmgmdcccmeaaSa
import Derived.Test.YtpggmgmdcccmeaaDb
namespace Go.Proofs.Ytpggmgmdcccmeaa
open Go.RowKit
set_option linter.unusedSimpArgs false
set_option linter.unusedVariables false

/-- One of what is told. -/
theorem TA.one {w : World} {base top m : Nat} {ta : Option Addr} {tc : Nat} {T : Nat → Wn} (h : TA w base top (.slice ta m tc) m T) (hf : FBw m T) {j : Nat} (hj : j < m) : ∃ g a0 a1 k0 k1, ta = some ⟨g, 0, none⟩ ∧ ToAt w g (j * 10) (T j) a0 a1 k0 k1 ∧ TRow w a0 (T j).tn (T j).nm (T j).vl ∧ IRow w a1 (T j).n (T j).f := by
  rcases h.2 with ⟨h0, _⟩ | ⟨g, cap, A0, A1, K0, K1, G, e, _, _, C, _, _⟩
  · omega
  · refine ⟨g, A0 j, A1 j, K0 j, K1 j, slice_form e, C.ent j hj, ?_, ?_⟩
    · by_cases h0 : (T j).tn = 0
      · exact ⟨.inl h0⟩
      · obtain ⟨q1, _, q3⟩ := C.l0 j hj (by omega)
        rw [q1]; exact q3.row
    · by_cases h0 : (T j).n = 0
      · exact ⟨hf j hj, .inl h0⟩
      · obtain ⟨q1, _, q3⟩ := C.l1 j hj (by omega)
        rw [q1]; exact q3.row

set_option maxRecDepth 100000 in
set_option maxHeartbeats 8000000 in
theorem fnWindows_good (ao : Option Addr) (n cap : Nat) (f : Nat → Int) (ao2 : Option Addr) (n2 cap2 : Nat) (f2 : Nat → Int) (w : World) (hr : Row w ao n f) (hr2 : Row w ao2 n2 f2) (hnn : n + n2 ≤ 1048576) :
    Calls Try.prog 3 #[.slice ao n cap, .slice ao2 n2 cap2] w fun e w' => e = .returned (.bool true) ∧ Below w.heap.size w w' := by
  have hn : n ≤ 1048576 := by omega
  have hn2 : n2 ≤ 1048576 := by omega
  have hnI : ¬ (1048576 : Int) < (n : Int) + (n2 : Int) := by omega
  have hnd : decide ((1048576 : Int) < (n : Int) + (n2 : Int)) = false := decide_eq_false hnI
  have hw : IntKind.i64.wrap ((n : Int) + (n2 : Int)) = (n : Int) + (n2 : Int) := by rw [IntKind.wrap_i64]; omega
  go_enter Try.func3, Try.ntmps3
  go_wp2_with fail
  refine (drawTellDirty_any ao n cap f w hr hn).mono ?_
  rintro e w1 ⟨z, hz, mk, va, m, vc, X, rfl, hA, hok, q1⟩
  have HOK : Hid (WOk m X) := hok
  clear hok
  have b2 := below_new w1 (.cells #[.int .i64 z, .int .i64 hz, .int .i64 mk, .slice va m vc] 25)
  have C2 := BdAt.new w1 z hz mk (.slice va m vc) 25
  have A2 := hA.keep b2
  have bw2 := q1.trans (b2.mono q1.size)
  clear hA b2 q1
  obtain ⟨_, c0, c1, c2, c3⟩ := id C2
  go_wp2_with fail
  generalize w1.alloc (.cells #[.int .i64 z, .int .i64 hz, .int .i64 mk, .slice va m vc] 25) = w2 at C2 A2 bw2 c0 c1 c2 c3 ⊢
  generalize w1.heap.size = bb at C2 A2 c0 c1 c2 c3 ⊢
  have row2 : WiRow w2 va m X := (A2.row HOK.out.bd HOK.out.fb).2
  rcases td_full z hz mk m X HOK.out with ⟨z', h', mk', m', T', hok', hS, hI⟩ | ⟨hG, hW, hS, hI⟩
  · refine (hI va vc w2 row2).mono ?_
    rintro e w3 ⟨v3, t3, s, rfl, hs, A3, TA3, q3⟩
    obtain ⟨xa, xc, rfl⟩ := A3.form
    obtain ⟨ta, tc, rfl⟩ := TA3.form
    have b4 := below_new w3 (.cells #[.int .i64 z', .int .i64 h', .int .i64 mk', (.slice xa m' xc)] 25)
    have q4 := q3.trans (b4.mono q3.size)
    have bw4 := bw2.trans (q4.mono bw2.size)
    obtain ⟨_, e0, e1, e2, e3⟩ := C2.keep q4
    have row4 := row2.keep q4
    clear c0 c1 c2 c3 hI A3 TA3 q3 q4 b4
    go_wp2_with fail
    refine (hS va vc _ row4).mono ?_
    rintro e w5 ⟨v5, t5, s5, rfl, hs5, A5, TA5, q5⟩
    obtain ⟨ya, yc, rfl⟩ := A5.form
    obtain ⟨ua, uc, rfl⟩ := TA5.form
    have bw5 := bw4.trans (q5.mono bw4.size)
    have bw6 := bw5.trans ((below_new w5 (.cells #[.int .i64 z', .int .i64 h', .int .i64 mk', (.slice ya m' yc)] 25)).mono bw5.size)
    clear hS A5 TA5 q5 bw5 bw4 e0 e1 e2 e3 row4 row2 C2 A2 bw2
    obtain ⟨w6, hw6⟩ : ∃ u, u = w5.alloc (.cells #[.int .i64 z', .int .i64 h', .int .i64 mk', (.slice ya m' yc)] 25) := ⟨_, rfl⟩
    rw [← hw6] at bw6
    go_wp2_with fail
    rw [← hw6]
    clear hw6
    refine (drawAddEvent_any ao2 n2 cap2 f2 w6 (hr2.keep bw6) hn2).mono ?_
    rintro e a1 ⟨z, hz, mk, va, m, vc, X, km, ka, kcp, T, st, t, v, rfl, hA, hok, hT, hm, hl, hts, q1⟩
    have KZ : Hid (KSz ⟨km, T.length, nmL T, vlL T, st, 0, 0, 0, 0, 0, fun _ => 0, false, 0, false⟩) := ⟨by show km.size ≤ 1048576; omega, by show T.length ≤ 1048576; omega, tsz_w hts (by omega)⟩
    have HOK : Hid (WOk m X) := hok
    have bw1 := bw6.trans (q1.mono bw6.size)
    have b2 := below_new a1 (.cells #[.int .i64 z, .int .i64 hz, .int .i64 mk, .slice va m vc] 25)
    have C2 := BdAt.new a1 z hz mk (.slice va m vc) 25
    have b3 := below_new (a1.alloc (.cells #[.int .i64 z, .int .i64 hz, .int .i64 mk, .slice va m vc] 25)) (.cells #[.string km, .slice ka T.length kcp, .int .i64 st] 32)
    have K3 := KAt.new (a1.alloc (.cells #[.int .i64 z, .int .i64 hz, .int .i64 mk, .slice va m vc] 25)) km (.slice ka T.length kcp) st 32
    have KF3 : ∀ j, ((a1.alloc (.cells #[.int .i64 z, .int .i64 hz, .int .i64 mk, .slice va m vc] 25)).alloc (.cells #[.string km, .slice ka T.length kcp, .int .i64 st] 32)).frozen? ⟨a1.heap.size + 1, j, none⟩ = false := fun j => by simp [go_sem]
    have s2 : (a1.alloc (.cells #[.int .i64 z, .int .i64 hz, .int .i64 mk, .slice va m vc] 25)).heap.size = a1.heap.size + 1 := by simp
    have s3 : ((a1.alloc (.cells #[.int .i64 z, .int .i64 hz, .int .i64 mk, .slice va m vc] 25)).alloc (.cells #[.string km, .slice ka T.length kcp, .int .i64 st] 32)).heap.size = a1.heap.size + 2 := by simp
    rw [s2] at K3
    have C3 := C2.keep b3
    have A3 := (hA.keep b2).keep b3
    have T3 := ownsRow_keep (ownsRow_keep hT b2) b3
    have tlt : ∀ k, (Value.slice ka T.length kcp).ownBlock = some k → k < a1.heap.size := fun k hk => (World.ownsRow.lt hT k hk).2
    have bw3 := (bw1.trans (b2.mono bw1.size)).trans (b3.mono (by have := bw1.size; have := b2.size; omega))
    have hcw : w.heap.size ≤ a1.heap.size := bw1.size
    clear hok hm hl hts hA hT b2 b3 C2 bw1 q1 s2
    obtain ⟨_, c0, c1, c2, c3⟩ := id C3
    obtain ⟨_, k0, k1, k2⟩ := id K3
    go_wp2_with fail
    generalize (a1.alloc (.cells #[.int .i64 z, .int .i64 hz, .int .i64 mk, .slice va m vc] 25)).alloc (.cells #[.string km, .slice ka T.length kcp, .int .i64 st] 32) = a3 at C3 K3 KF3 A3 T3 bw3 s3 ⊢
    generalize a1.heap.size = cb at C3 K3 KF3 A3 s3 tlt hcw c0 c1 c2 c3 k0 k1 k2 ⊢
    have row3 : WiRow a3 va m X := (A3.row HOK.out.bd HOK.out.fb).2
    have tr3 : TRow a3 ka T.length (nmL T) (vlL T) := (TgL.row T3).2
    rcases ae_full z hz mk t v m X ⟨km, T.length, nmL T, vlL T, st, 0, 0, 0, 0, 0, fun _ => 0, false, 0, false⟩ KZ.out HOK.out.few HOK.out.bd HOK.out.fb HOK.out.sz with ⟨z', h', mk', m', X', c, hc, hok', hS, hI⟩ | ⟨hG, hE, q, m', X', hP, hok', AG, hS, hI⟩
    · have hcb : (c != 0) = true := bne_iff_ne.2 hc
      have hcc : (c != c) = false := by simp
      refine (hI va ka vc kcp a3 row3 tr3).mono ?_
      rintro e a4 ⟨v4, rfl, A4, q4⟩
      obtain ⟨xa, xc, rfl⟩ := A4.form
      have b5 := below_new a4 (.cells #[.int .i64 z', .int .i64 h', .int .i64 mk', (.slice xa m' xc)] 25)
      have q5 := q4.trans (b5.mono q4.size)
      have bw5 := bw3.trans (q5.mono bw3.size)
      obtain ⟨_, e0, e1, e2, e3⟩ := C3.keep q5
      obtain ⟨_, g0, g1, g2⟩ := K3.keep q5
      have row5 := row3.keep q5
      have tr5 := tr3.keep q5
      clear c0 c1 c2 c3 k0 k1 k2 hI
      go_wp2_with fail
      refine (hS va ka vc kcp _ row5 tr5).mono ?_
      rintro e a6 ⟨v6, rfl, A6, q6⟩
      obtain ⟨ya, yc, rfl⟩ := A6.form
      have bw6 := bw5.trans (q6.mono bw5.size)
      have bw7 := bw6.trans ((below_new a6 (.cells #[.int .i64 z', .int .i64 h', .int .i64 mk', (.slice ya m' yc)] 25)).mono bw6.size)
      clear hS
      go_wp2
      go_ret
      exact ⟨rfl, bw7⟩
    · have ht : 0 ≤ t ∧ t ≤ 1000000000 := by have := hE.2.1; simpa [isTm, btw] using this
      have hzz : 1 ≤ z ∧ z ≤ 100000 := by have := hG.size; simpa [isSz, btw] using this
      have hm1 := Int.emod_lt_of_pos t (show 0 < z by omega)
      have hm2 := Int.emod_nonneg t (show z ≠ 0 by omega)
      have hSo : Hid (SoA t z = .returned (.tuple #[.int .i64 (t - t % z), .bool true])) := by unfold Hid SoA; rw [if_pos ⟨hE.2.1, hG.size⟩]
      have hgT : Hid (gK (evX ⟨km, T.length, nmL T, vlL T, st, 0, 0, 0, 0, 0, fun _ => 0, false, 0, false⟩ (t - t % z)) = true) := evX_good hE.2.2.1 hE.2.1 hG.size
      have HG : Hid (GBd z hz mk m X) := hG
      have HAG : Hid (AeGd z hz mk t v m X ⟨km, T.length, nmL T, vlL T, st, 0, 0, 0, 0, 0, fun _ => 0, false, 0, false⟩ q m' X') := AG
      have HP : Hid (PosK X m (evX ⟨km, T.length, nmL T, vlL T, st, 0, 0, 0, 0, 0, fun _ => 0, false, 0, false⟩ (t - t % z)) q) := hP
      have HO' : Hid (WOk m' X') := hok'
      have l1 : ¬ t < t - t % z := by omega
      have l1d : decide (t < t - t % z) = false := decide_eq_false l1
      have l2 : ¬ t - t % z + z ≤ t := by omega
      have l2d : decide (t - t % z + z ≤ t) = false := decide_eq_false l2
      have l2w : IntKind.i64.wrap (t - t % z + z) = t - t % z + z := by rw [IntKind.wrap_i64] <;> omega
      clear hm1 hm2 hG AG hP hok' hE
      refine (hI va ka vc kcp a3 row3 tr3).mono ?_
      rintro e a4 ⟨v4, rfl, A4, q4⟩
      obtain ⟨xa, xc, rfl⟩ := A4.form
      have b5 := below_new a4 (.cells #[.int .i64 z, .int .i64 hz, .int .i64 mk, (.slice xa m' xc)] 25)
      have Y5 := BdAt.new a4 z hz mk (.slice xa m' xc) 25
      have q5 := q4.trans (b5.mono q4.size)
      have C5 := C3.keep q5
      have K5 := K3.keep q5
      have KF5 : ∀ j, (a4.alloc (.cells #[.int .i64 z, .int .i64 hz, .int .i64 mk, (.slice xa m' xc)] 25)).frozen? ⟨cb + 1, j, none⟩ = false := fun j => (q5.frozen (p := ⟨cb + 1, j, none⟩) K3.lt).trans (KF3 j)
      have X5 := A3.keep q5
      have T5 := ownsRow_keep T3 q5
      have Z5 := A4.keep b5
      have bw5 := bw3.trans (q5.mono bw3.size)
      have row5 := row3.keep q5
      have tr5 := tr3.keep q5
      have sy : cb + 1 < a4.heap.size := by have := q4.size; omega
      obtain ⟨_, e0, e1, e2, e3⟩ := id C5
      obtain ⟨_, g0, g1, g2⟩ := id K5
      clear c0 c1 c2 c3 k0 k1 k2 hI A4 q4 b5 q5 C3 K3 KF3 A3 T3 bw3 row3 tr3
      go_wp2_with fail
      generalize a4.alloc (.cells #[.int .i64 z, .int .i64 hz, .int .i64 mk, (.slice xa m' xc)] 25) = a5 at Y5 C5 K5 KF5 X5 T5 Z5 bw5 row5 tr5 ⊢
      generalize a4.heap.size = yb at Y5 Z5 sy ⊢
      refine (hS va ka vc kcp a5 row5 tr5).mono ?_
      rintro e a6 ⟨v6, rfl, A6, q6⟩
      obtain ⟨ya, yc, rfl⟩ := A6.form
      have b7 := below_new a6 (.cells #[.int .i64 z, .int .i64 hz, .int .i64 mk, (.slice ya m' yc)] 25)
      have q7 := q6.trans (b7.mono q6.size)
      have C7 := C5.keep q7
      have K7 := K5.keep q7
      have KF7 : ∀ j, (a6.alloc (.cells #[.int .i64 z, .int .i64 hz, .int .i64 mk, (.slice ya m' yc)] 25)).frozen? ⟨cb + 1, j, none⟩ = false := fun j => (q7.frozen (p := ⟨cb + 1, j, none⟩) K5.lt).trans (KF5 j)
      have X7 := X5.keep q7
      have T7 := ownsRow_keep T5 q7
      have Y7 := Y5.keep q7
      have Z7 := Z5.keep q7
      have bw7 := bw5.trans (q7.mono bw5.size)
      clear e0 e1 e2 e3 g0 g1 g2 hS A6 q6 b7 q7 C5 K5 KF5 X5 T5 Y5 Z5 bw5 row5 tr5
      obtain ⟨_, e0, e1, e2, e3⟩ := id C7
      obtain ⟨_, g0, g1, g2⟩ := id K7
      obtain ⟨_, y0, y1, y2, y3⟩ := id Y7
      go_wp2_with fail
      generalize a6.alloc (.cells #[.int .i64 z, .int .i64 hz, .int .i64 mk, (.slice ya m' yc)] 25) = a7 at C7 K7 KF7 X7 T7 Y7 Z7 bw7 e0 e1 e2 e3 g0 g1 g2 y0 y1 y2 y3 ⊢
      refine (startOf_impl t z _).mono ?_
      rintro e a7' ⟨rfl, rfl⟩
      rw [hSo.out]
      have o8 := Others.setCell a7' (cb + 1) 2 (.int .i64 (t - t % z))
      have bw8 : Below w.heap.size w (a7'.setCell ⟨cb + 1, 2, none⟩ (.int .i64 (t - t % z))) := bw7.trans (o8.below (by omega))
      have C8 := C7.others o8 (by omega)
      have Y8 := Y7.others o8 (by omega)
      have X8 := X7.same (w' := a7'.setCell ⟨cb + 1, 2, none⟩ (.int .i64 (t - t % z))) (by rw [o8.size]; exact Nat.le_refl _) (fun c h1 h2 => o8.block c (by omega))
      have Z8 := Z7.same (w' := a7'.setCell ⟨cb + 1, 2, none⟩ (.int .i64 (t - t % z))) (by rw [o8.size]; exact Nat.le_refl _) (fun c h1 h2 => o8.block c (by omega))
      have T8 := ownsRow_others T7 o8 (fun hh => by have := tlt _ hh; omega)
      have K8 : KAt (a7'.setCell ⟨cb + 1, 2, none⟩ (.int .i64 (t - t % z))) (cb + 1) km (.slice ka T.length kcp) (t - t % z) := ⟨by rw [o8.size]; exact K7.lt, (World.cell?_setCell_other _ _ _ _ (adr_ne (by decide))).trans K7.c0, (World.cell?_setCell_other _ _ _ _ (adr_ne (by decide))).trans K7.c1, World.cell?_setCell_same _ _ _ K7.c2⟩
      clear C7 Y7 X7 Z7 T7 bw7 o8
      go_wp2_with fail
      generalize a7'.setCell ⟨cb + 1, 2, none⟩ (.int .i64 (t - t % z)) = a8 at C8 Y8 X8 Z8 T8 K8 bw8 ⊢
      clear e0 e1 e2 e3 g0 g1 g2 y0 y1 y2 y3 K7 KF7
      refine (winOf_impl_good z hz mk xa ka m' xc kcp q X' (evX ⟨km, T.length, nmL T, vlL T, st, 0, 0, 0, 0, 0, fun _ => 0, false, 0, false⟩ (t - t % z)) a8 (Z8.row HO'.out.bd HO'.out.fb).2 HO'.out.few HO'.out.sz HAG.out.good (TgL.row T8).2 KZ.out.m KZ.out.tn KZ.out.ts HAG.out.pos).mono ?_
      rintro e a9 ⟨h9, _⟩
      obtain ⟨d0, d1, f0, f1, rfl, WA9, q9⟩ := h9 ⟨hgT.out, HAG.out.lt, HAG.out.key⟩
      have b10 := below_new a9 (.cells #[.string (X' q).m, .slice d0 (X' q).tn f0, .int .i64 (X' q).st, .int .i64 (X' q).c, .int .i64 (X' q).s, .int .i64 (X' q).lo, .int .i64 (X' q).hi, .slice d1 (X' q).n f1, .bool (X' q).fu, .int .i64 (X' q).ver, .bool (X' q).di] 39)
      have V10 := WiAt.new a9 (X' q) d0 d1 f0 f1 39
      have q10 := q9.trans (b10.mono q9.size)
      have C10 := C8.keep q10
      have K10 := K8.keep q10
      have X10 := X8.keep q10
      have T10 := ownsRow_keep T8 q10
      have bw10 := bw8.trans (q10.mono bw8.size)
      obtain ⟨_, e0, e1, e2, e3⟩ := id C10
      obtain ⟨_, g0, g1, g2⟩ := id K10
      clear q9 b10 q10 C8 K8 X8 T8 Y8 Z8 bw8 WA9 h9
      go_wp2_with fail
      generalize a9.alloc (.cells #[.string (X' q).m, .slice d0 (X' q).tn f0, .int .i64 (X' q).st, .int .i64 (X' q).c, .int .i64 (X' q).s, .int .i64 (X' q).lo, .int .i64 (X' q).hi, .slice d1 (X' q).n f1, .bool (X' q).fu, .int .i64 (X' q).ver, .bool (X' q).di] 39) = a10 at V10 C10 K10 X10 T10 bw10 ⊢
      generalize a9.heap.size = wb at V10 ⊢
      refine (winOf_spec_good z hz mk va ka m vc kcp q X (evX ⟨km, T.length, nmL T, vlL T, st, 0, 0, 0, 0, 0, fun _ => 0, false, 0, false⟩ (t - t % z)) a10 (X10.row HOK.out.bd HOK.out.fb).2 HOK.out.few HOK.out.sz HG.out (TgL.row T10).2 KZ.out.m KZ.out.tn KZ.out.ts HP.out).mono ?_
      rintro e a11 ⟨h1, h2⟩
      have hdi := HAG.out.di
      have hst' := HAG.out.st
      by_cases hy : q < m ∧ kc (X q) (evX ⟨km, T.length, nmL T, vlL T, st, 0, 0, 0, 0, 0, fun _ => 0, false, 0, false⟩ (t - t % z)) = 0
      · obtain ⟨p0, p1, r0, r1, rfl, WA11, q11⟩ := h1 ⟨hgT.out, hy⟩
        have b12 := below_new a11 (.cells #[.string (X q).m, .slice p0 (X q).tn r0, .int .i64 (X q).st, .int .i64 (X q).c, .int .i64 (X q).s, .int .i64 (X q).lo, .int .i64 (X q).hi, .slice p1 (X q).n r1, .bool (X q).fu, .int .i64 (X q).ver, .bool (X q).di] 39)
        have q12 := q11.trans (b12.mono q11.size)
        have bw12 := bw10.trans (q12.mono bw10.size)
        have V12 := V10.keep q12
        obtain ⟨_, x0, x1, x2, x3⟩ := C10.keep q12
        obtain ⟨_, u0, u1, u2, u3, u4, u5, u6, u7, u8, u9, u10⟩ := V12
        simp only [Nat.zero_add] at u1 u2 u3 u4 u5 u6 u7 u8 u9 u10
        rw [hdi] at u10
        rw [hst'] at u2
        clear h1 h2 q11 q12 b12 C10 K10 X10 T10 V10 bw10 e0 e1 e2 e3 g0 g1 g2 WA11
        go_wp2
        go_ret
        exact ⟨rfl, bw12⟩
      · obtain ⟨hc', hs'⟩ := (HAG.out.ag.resolve_left hy).2
        obtain ⟨p0, p1, r0, r1, rfl, WA11, q11⟩ := h2 (fun hh => hy hh.2)
        have b12 := below_new a11 (.cells #[.string wn0.m, .slice p0 wn0.tn r0, .int .i64 wn0.st, .int .i64 wn0.c, .int .i64 wn0.s, .int .i64 wn0.lo, .int .i64 wn0.hi, .slice p1 wn0.n r1, .bool wn0.fu, .int .i64 wn0.ver, .bool wn0.di] 39)
        have O12 := WiAt.new a11 wn0 p0 p1 r0 r1 39
        have q12 := q11.trans (b12.mono q11.size)
        have bw12 := bw10.trans (q12.mono bw10.size)
        have V12 := V10.keep q12
        obtain ⟨_, x0, x1, x2, x3⟩ := C10.keep q12
        obtain ⟨_, u0, u1, u2, u3, u4, u5, u6, u7, u8, u9, u10⟩ := V12
        simp only [Nat.zero_add] at u1 u2 u3 u4 u5 u6 u7 u8 u9 u10
        rw [hdi] at u10
        rw [hst'] at u2
        rw [hc'] at u3
        rw [hs'] at u4
        have o9 := O12.c9
        simp only [Nat.zero_add] at o9
        have ver0 : (wn0.ver == 0) = true := rfl
        clear h1 h2 q11 q12 b12 C10 K10 X10 T10 V10 bw10 e0 e1 e2 e3 g0 g1 g2 WA11 O12
        go_wp2
        go_ret
        exact ⟨rfl, bw12⟩
  · obtain ⟨N, HN⟩ : ∃ N, Hid (tN (fun i => (X i).di) m = N) := ⟨_, rfl⟩
    obtain ⟨TL, HTL⟩ : ∃ TL, Hid (tL (cln X) (fun i => (X i).di) m = TL) := ⟨_, rfl⟩
    have HT : Hid (∀ j, j < N → ∃ i, i < m ∧ TL j = vInc (cln X i)) := fun j hj => by
      obtain ⟨i, a, _, b⟩ := tL_of (cln X) (fun i => (X i).di) m j (by rw [HN.out]; exact hj)
      exact ⟨i, a, by rw [← HTL.out]; exact b⟩
    have HTf : Hid (FBw N TL) := by unfold Hid; rw [← HN.out, ← HTL.out]; exact tL_fb (Y := cln X) HOK.out.fb (Nat.le_refl _)
    have hNb : N ≤ 1048576 := by have h1 := tN_le (fun i => (X i).di) m; rw [HN.out] at h1; exact Nat.le_trans h1 HOK.out.few
    have HG : Hid (GBd z hz mk m X) := hG
    have HW : Hid (¬ Worn (cln X) m (dS X m)) := hW
    clear hG hW
    rw [HN.out, HTL.out] at hS hI
    refine (hI va vc w2 row2).mono ?_
    rintro e w3 ⟨v3, t3, s, rfl, hs, A3, TA3, q3⟩
    obtain ⟨xa, xc, rfl⟩ := A3.form
    obtain ⟨ta, tc, rfl⟩ := TA3.form
    have b4 := below_new w3 (.cells #[.int .i64 z, .int .i64 hz, .int .i64 mk, (.slice xa m xc)] 25)
    have X4 := BdAt.new w3 z hz mk (.slice xa m xc) 25
    have q4 := q3.trans (b4.mono q3.size)
    have bw4 := bw2.trans (q4.mono bw2.size)
    have C4 := C2.keep q4
    have row4 := row2.keep q4
    have A4 := A3.keep b4
    have TA4 := TA3.keep b4
    obtain ⟨_, e0, e1, e2, e3⟩ := id C4
    clear c0 c1 c2 c3 hI A3 TA3 q3 q4 b4 C2 row2 bw2
    go_wp2_with fail
    generalize w3.alloc (.cells #[.int .i64 z, .int .i64 hz, .int .i64 mk, (.slice xa m xc)] 25) = w4 at X4 bw4 C4 row4 A4 TA4 e0 e1 e2 e3 ⊢
    generalize w3.heap.size = xb at X4 TA4 ⊢
    refine (hS va vc w4 row4).mono ?_
    rintro e w5 ⟨v5, t5, s5, rfl, hs5, A5, TA5, q5⟩
    obtain ⟨ya, yc, rfl⟩ := A5.form
    obtain ⟨ua, uc, rfl⟩ := TA5.form
    have b6 := below_new w5 (.cells #[.int .i64 z, .int .i64 hz, .int .i64 mk, (.slice ya m yc)] 25)
    have q6 := q5.trans (b6.mono q5.size)
    have bw6 := bw4.trans (q6.mono bw4.size)
    have C6 := C4.keep q6
    have X6 := X4.keep q6
    have row6 := row4.keep q6
    have A6 := A4.keep q6
    have TA6 := TA4.keep q6
    have hNN : ((N : Int) != (N : Int)) = false := by simp
    clear hS A5 TA5 q5 q6 b6 C4 X4 row4 A4 TA4 bw4 e0 e1 e2 e3
    go_wp2
    generalize w5.alloc (.cells #[.int .i64 z, .int .i64 hz, .int .i64 mk, (.slice ya m yc)] 25) = w6 at bw6 C6 X6 row6 A6 TA6 ⊢
    go_loopw [67] (fun i wr => ∃ k : Nat, k ≤ N ∧ i = .int .i64 k ∧ Below w6.heap.size w6 wr) (fun i _ => N - (intOf i).toNat)
    case atStart => exact ⟨0, Nat.zero_le _, rfl, Below.refl _ _⟩
    case round =>
      obtain ⟨k, hk, rfl, hbk⟩ := hrel
      have bwk := bw6.trans (hbk.mono bw6.size)
      have Ck := C6.keep hbk
      have rowk := row6.keep hbk
      by_cases hlt : k < N
      · have HLT : Hid (k < N) := hlt
        obtain ⟨i, hi, ei⟩ := HT.out k hlt
        obtain ⟨g, a0, a1, k0, k1, rfl, hat, r0, r1⟩ := TA6.one HTf.out hlt
        rw [ei] at hat r0 r1
        have hatk := hat.keep hbk
        have r0k := r0.keep hbk
        have r1k := r1.keep hbk
        have g' := HG.out.wins.each i hi
        have hsz := HOK.out.sz i hi
        have hki : (k : Int) < (N : Int) := by omega
        obtain ⟨Y, HY⟩ : ∃ Y, Hid (vInc (cln X i) = Y) := ⟨_, rfl⟩
        rw [HY.out] at hatk r0k r1k
        have bT := below_new wr (.cells #[.string Y.m, .slice a0 Y.tn k0, .int .i64 Y.st, .int .i64 Y.ver, .int .i64 Y.c, .int .i64 Y.s, .int .i64 Y.lo, .int .i64 Y.hi, .slice a1 Y.n k1, .bool Y.fu] 37)
        have V := ToAt.new wr Y a0 a1 k0 k1 37
        have CT := Ck.keep bT
        have rowT := rowk.keep bT
        have r0T := r0k.keep bT
        have r1T := r1k.keep bT
        have bwT := bwk.trans (bT.mono bwk.size)
        obtain ⟨_, o0, o1, o2, o3, o4, o5, o6, o7, o8, o9⟩ := id hatk
        obtain ⟨_, e0, e1, e2, e3⟩ := id CT
        clear hat r0 r1 Ck rowk r0k r1k hatk
        go_wp2_with fail
        generalize wr.alloc (.cells #[.string Y.m, .slice a0 Y.tn k0, .int .i64 Y.st, .int .i64 Y.ver, .int .i64 Y.c, .int .i64 Y.s, .int .i64 Y.lo, .int .i64 Y.hi, .slice a1 Y.n k1, .bool Y.fu] 37) = wt at V CT rowT r0T r1T bwT bT e0 e1 e2 e3 ⊢
        generalize wr.heap.size = tb at V ⊢
        have pS := posK_self HG.out.wins hi
        have hgY : gK Y = true := by rw [← HY.out]; exact g'.key
        have hkY : kc (X i) Y = 0 := by rw [← HY.out]; exact kc_self (X i)
        have hv : 0 ≤ (X i).ver ∧ (X i).ver ≤ 1000000 := by have := g'.ver; simpa [btw] using this
        have hwv : IntKind.i64.wrap ((X i).ver + 1) = Y.ver := by
          have e9 : Y.ver = (X i).ver + 1 := by rw [← HY.out]; rfl
          rw [e9, IntKind.wrap_i64] <;> omega
        have hvv : (Y.ver != Y.ver) = false := by simp
        refine (winOf_spec_good z hz mk va a0 m vc k0 i X Y wt rowT HOK.out.few HOK.out.sz HG.out r0T (by rw [← HY.out]; exact hsz.m) (by rw [← HY.out]; exact hsz.tn) (by rw [← HY.out]; exact hsz.ts) (by rw [← HY.out]; exact ⟨pS.le, pS.lt, pS.ge⟩)).mono ?_
        rintro e u ⟨h1, _⟩
        obtain ⟨d0, d1, f0, f1, rfl, WA1, qu⟩ := h1 ⟨hgY, hi, hkY⟩
        have bW := below_new u (.cells #[.string (X i).m, .slice d0 (X i).tn f0, .int .i64 (X i).st, .int .i64 (X i).c, .int .i64 (X i).s, .int .i64 (X i).lo, .int .i64 (X i).hi, .slice d1 (X i).n f1, .bool (X i).fu, .int .i64 (X i).ver, .bool (X i).di] 39)
        have U := WiAt.new u (X i) d0 d1 f0 f1 39
        have qW := qu.trans (bW.mono qu.size)
        have VW := V.keep qW
        have rW := r1T.keep qW
        have iW := (WA1.rows (HOK.out.fb i hi)).2.keep bW
        have bwW := bwT.trans (qW.mono bwT.size)
        have bwk2 : Below w6.heap.size w6 (u.alloc (.cells #[.string (X i).m, .slice d0 (X i).tn f0, .int .i64 (X i).st, .int .i64 (X i).c, .int .i64 (X i).s, .int .i64 (X i).lo, .int .i64 (X i).hi, .slice d1 (X i).n f1, .bool (X i).fu, .int .i64 (X i).ver, .bool (X i).di] 39)) := (hbk.trans (bT.mono hbk.size)).trans (qW.mono (by have := hbk.size; have := bT.size; omega))
        have hsame : ∀ W, IRow W a1 Y.n Y.f → IRow W d1 (X i).n (X i).f → Calls Try.prog 8 #[.agg #[.int .i64 Y.c, .int .i64 Y.s, .int .i64 Y.lo, .int .i64 Y.hi, .slice a1 Y.n k1, .bool Y.fu], .agg #[.int .i64 (X i).c, .int .i64 (X i).s, .int .i64 (X i).lo, .int .i64 (X i).hi, .slice d1 (X i).n f1, .bool (X i).fu]] W fun e w' => e = .returned (.bool true) ∧ Below W.heap.size W w' := fun W i1 i2 => by
          rw [← HY.out] at i1 ⊢
          exact sameAggs_any (agE (X i)) a1 d1 k1 f1 W i1 i2 hsz.n
        obtain ⟨_, v0, v1, v2, v3, v4, v5, v6, v7, v8, v9⟩ := id VW
        obtain ⟨_, u0, u1, u2, u3, u4, u5, u6, u7, u8, u9, u10⟩ := id U
        simp only [Nat.zero_add] at v1 v2 v3 v4 v5 v6 v7 v8 v9 u1 u2 u3 u4 u5 u6 u7 u8 u9 u10
        clear h1 WA1 qu bW qW V CT rowT r0T r1T o0 o1 o2 o3 o4 o5 o6 o7 o8 o9 e0 e1 e2 e3 pS g' VW U
        go_wp2_with fail
        refine (hsame _ rW iW).mono ?_
        rintro e u2' ⟨rfl, q2'⟩
        have hbn := bwk2.trans (q2'.mono bwk2.size)
        clear hsame rW iW q2' bwk2 bwW
        go_wp2
        go_roundw
        case rel => exact ⟨k + 1, by have := HLT.out; omega, by go_num, hbn⟩
        case measure => simp [intOf]; have := HLT.out; omega
      · obtain rfl : k = N := by omega
        have WK := td_wok HG.out HOK.out
        have hcall := tellDirty_impl_good z hz mk xa m xc (tdX X) wr ((A6.keep hbk).row WK.bd WK.fb).2 WK.few WK.sz (td_good HG.out HW.out) (td_unworn X m) (fun i => (tdX X i).di) rfl
        rw [td_none X m] at hcall
        obtain ⟨_, e0, e1, e2, e3⟩ := X6.keep hbk
        go_wp2_with fail
        refine hcall.mono ?_
        clear hcall
        rintro e w7 ⟨v7, t7, s7, rfl, _, A7, TA7, q7⟩
        obtain ⟨za, zc, rfl⟩ := A7.form
        obtain ⟨qa, qc, rfl⟩ := TA7.form
        have bw7 := bwk.trans (q7.mono bwk.size)
        have bw8 := bw7.trans ((below_new w7 (.cells #[.int .i64 z, .int .i64 hz, .int .i64 mk, (.slice za m zc)] 25)).mono bw7.size)
        clear A7 TA7 q7 bw7 bwk Ck rowk C6 X6 row6 A6 TA6 bw6 e0 e1 e2 e3 hbk HG HW HT HTf HN HTL HOK WK
        obtain ⟨w8, hw8⟩ : ∃ u, u = w7.alloc (.cells #[.int .i64 z, .int .i64 hz, .int .i64 mk, (.slice za m zc)] 25) := ⟨_, rfl⟩
        rw [← hw8] at bw8
        go_wp2_with fail
        rw [← hw8]
        clear hw8
        refine (drawAddEvent_any ao2 n2 cap2 f2 w8 (hr2.keep bw8) hn2).mono ?_
        rintro e a1 ⟨z, hz, mk, va, m, vc, X, km, ka, kcp, T, st, t, v, rfl, hA, hok, hT, hm, hl, hts, q1⟩
        have KZ : Hid (KSz ⟨km, T.length, nmL T, vlL T, st, 0, 0, 0, 0, 0, fun _ => 0, false, 0, false⟩) := ⟨by show km.size ≤ 1048576; omega, by show T.length ≤ 1048576; omega, tsz_w hts (by omega)⟩
        have HOK : Hid (WOk m X) := hok
        have bw1 := bw8.trans (q1.mono bw8.size)
        have b2 := below_new a1 (.cells #[.int .i64 z, .int .i64 hz, .int .i64 mk, .slice va m vc] 25)
        have C2 := BdAt.new a1 z hz mk (.slice va m vc) 25
        have b3 := below_new (a1.alloc (.cells #[.int .i64 z, .int .i64 hz, .int .i64 mk, .slice va m vc] 25)) (.cells #[.string km, .slice ka T.length kcp, .int .i64 st] 32)
        have K3 := KAt.new (a1.alloc (.cells #[.int .i64 z, .int .i64 hz, .int .i64 mk, .slice va m vc] 25)) km (.slice ka T.length kcp) st 32
        have KF3 : ∀ j, ((a1.alloc (.cells #[.int .i64 z, .int .i64 hz, .int .i64 mk, .slice va m vc] 25)).alloc (.cells #[.string km, .slice ka T.length kcp, .int .i64 st] 32)).frozen? ⟨a1.heap.size + 1, j, none⟩ = false := fun j => by simp [go_sem]
        have s2 : (a1.alloc (.cells #[.int .i64 z, .int .i64 hz, .int .i64 mk, .slice va m vc] 25)).heap.size = a1.heap.size + 1 := by simp
        have s3 : ((a1.alloc (.cells #[.int .i64 z, .int .i64 hz, .int .i64 mk, .slice va m vc] 25)).alloc (.cells #[.string km, .slice ka T.length kcp, .int .i64 st] 32)).heap.size = a1.heap.size + 2 := by simp
        rw [s2] at K3
        have C3 := C2.keep b3
        have A3 := (hA.keep b2).keep b3
        have T3 := ownsRow_keep (ownsRow_keep hT b2) b3
        have tlt : ∀ k, (Value.slice ka T.length kcp).ownBlock = some k → k < a1.heap.size := fun k hk => (World.ownsRow.lt hT k hk).2
        have bw3 := (bw1.trans (b2.mono bw1.size)).trans (b3.mono (by have := bw1.size; have := b2.size; omega))
        have hcw : w.heap.size ≤ a1.heap.size := bw1.size
        clear hok hm hl hts hA hT b2 b3 C2 bw1 q1 s2
        obtain ⟨_, c0, c1, c2, c3⟩ := id C3
        obtain ⟨_, k0, k1, k2⟩ := id K3
        go_wp2_with fail
        generalize (a1.alloc (.cells #[.int .i64 z, .int .i64 hz, .int .i64 mk, .slice va m vc] 25)).alloc (.cells #[.string km, .slice ka T.length kcp, .int .i64 st] 32) = a3 at C3 K3 KF3 A3 T3 bw3 s3 ⊢
        generalize a1.heap.size = cb at C3 K3 KF3 A3 s3 tlt hcw c0 c1 c2 c3 k0 k1 k2 ⊢
        have row3 : WiRow a3 va m X := (A3.row HOK.out.bd HOK.out.fb).2
        have tr3 : TRow a3 ka T.length (nmL T) (vlL T) := (TgL.row T3).2
        rcases ae_full z hz mk t v m X ⟨km, T.length, nmL T, vlL T, st, 0, 0, 0, 0, 0, fun _ => 0, false, 0, false⟩ KZ.out HOK.out.few HOK.out.bd HOK.out.fb HOK.out.sz with ⟨z', h', mk', m', X', c, hc, hok', hS, hI⟩ | ⟨hG, hE, q, m', X', hP, hok', AG, hS, hI⟩
        · have hcb : (c != 0) = true := bne_iff_ne.2 hc
          have hcc : (c != c) = false := by simp
          refine (hI va ka vc kcp a3 row3 tr3).mono ?_
          rintro e a4 ⟨v4, rfl, A4, q4⟩
          obtain ⟨xa, xc, rfl⟩ := A4.form
          have b5 := below_new a4 (.cells #[.int .i64 z', .int .i64 h', .int .i64 mk', (.slice xa m' xc)] 25)
          have q5 := q4.trans (b5.mono q4.size)
          have bw5 := bw3.trans (q5.mono bw3.size)
          obtain ⟨_, e0, e1, e2, e3⟩ := C3.keep q5
          obtain ⟨_, g0, g1, g2⟩ := K3.keep q5
          have row5 := row3.keep q5
          have tr5 := tr3.keep q5
          clear c0 c1 c2 c3 k0 k1 k2 hI
          go_wp2_with fail
          refine (hS va ka vc kcp _ row5 tr5).mono ?_
          rintro e a6 ⟨v6, rfl, A6, q6⟩
          obtain ⟨ya, yc, rfl⟩ := A6.form
          have bw6 := bw5.trans (q6.mono bw5.size)
          have bw7 := bw6.trans ((below_new a6 (.cells #[.int .i64 z', .int .i64 h', .int .i64 mk', (.slice ya m' yc)] 25)).mono bw6.size)
          clear hS
          go_wp2
          go_ret
          exact ⟨rfl, bw7⟩
        · have ht : 0 ≤ t ∧ t ≤ 1000000000 := by have := hE.2.1; simpa [isTm, btw] using this
          have hzz : 1 ≤ z ∧ z ≤ 100000 := by have := hG.size; simpa [isSz, btw] using this
          have hm1 := Int.emod_lt_of_pos t (show 0 < z by omega)
          have hm2 := Int.emod_nonneg t (show z ≠ 0 by omega)
          have hSo : Hid (SoA t z = .returned (.tuple #[.int .i64 (t - t % z), .bool true])) := by unfold Hid SoA; rw [if_pos ⟨hE.2.1, hG.size⟩]
          have hgT : Hid (gK (evX ⟨km, T.length, nmL T, vlL T, st, 0, 0, 0, 0, 0, fun _ => 0, false, 0, false⟩ (t - t % z)) = true) := evX_good hE.2.2.1 hE.2.1 hG.size
          have HG : Hid (GBd z hz mk m X) := hG
          have HAG : Hid (AeGd z hz mk t v m X ⟨km, T.length, nmL T, vlL T, st, 0, 0, 0, 0, 0, fun _ => 0, false, 0, false⟩ q m' X') := AG
          have HP : Hid (PosK X m (evX ⟨km, T.length, nmL T, vlL T, st, 0, 0, 0, 0, 0, fun _ => 0, false, 0, false⟩ (t - t % z)) q) := hP
          have HO' : Hid (WOk m' X') := hok'
          have l1 : ¬ t < t - t % z := by omega
          have l1d : decide (t < t - t % z) = false := decide_eq_false l1
          have l2 : ¬ t - t % z + z ≤ t := by omega
          have l2d : decide (t - t % z + z ≤ t) = false := decide_eq_false l2
          have l2w : IntKind.i64.wrap (t - t % z + z) = t - t % z + z := by rw [IntKind.wrap_i64] <;> omega
          clear hm1 hm2 hG AG hP hok' hE
          refine (hI va ka vc kcp a3 row3 tr3).mono ?_
          rintro e a4 ⟨v4, rfl, A4, q4⟩
          obtain ⟨xa, xc, rfl⟩ := A4.form
          have b5 := below_new a4 (.cells #[.int .i64 z, .int .i64 hz, .int .i64 mk, (.slice xa m' xc)] 25)
          have Y5 := BdAt.new a4 z hz mk (.slice xa m' xc) 25
          have q5 := q4.trans (b5.mono q4.size)
          have C5 := C3.keep q5
          have K5 := K3.keep q5
          have KF5 : ∀ j, (a4.alloc (.cells #[.int .i64 z, .int .i64 hz, .int .i64 mk, (.slice xa m' xc)] 25)).frozen? ⟨cb + 1, j, none⟩ = false := fun j => (q5.frozen (p := ⟨cb + 1, j, none⟩) K3.lt).trans (KF3 j)
          have X5 := A3.keep q5
          have T5 := ownsRow_keep T3 q5
          have Z5 := A4.keep b5
          have bw5 := bw3.trans (q5.mono bw3.size)
          have row5 := row3.keep q5
          have tr5 := tr3.keep q5
          have sy : cb + 1 < a4.heap.size := by have := q4.size; omega
          obtain ⟨_, e0, e1, e2, e3⟩ := id C5
          obtain ⟨_, g0, g1, g2⟩ := id K5
          clear c0 c1 c2 c3 k0 k1 k2 hI A4 q4 b5 q5 C3 K3 KF3 A3 T3 bw3 row3 tr3
          go_wp2_with fail
          generalize a4.alloc (.cells #[.int .i64 z, .int .i64 hz, .int .i64 mk, (.slice xa m' xc)] 25) = a5 at Y5 C5 K5 KF5 X5 T5 Z5 bw5 row5 tr5 ⊢
          generalize a4.heap.size = yb at Y5 Z5 sy ⊢
          refine (hS va ka vc kcp a5 row5 tr5).mono ?_
          rintro e a6 ⟨v6, rfl, A6, q6⟩
          obtain ⟨ya, yc, rfl⟩ := A6.form
          have b7 := below_new a6 (.cells #[.int .i64 z, .int .i64 hz, .int .i64 mk, (.slice ya m' yc)] 25)
          have q7 := q6.trans (b7.mono q6.size)
          have C7 := C5.keep q7
          have K7 := K5.keep q7
          have KF7 : ∀ j, (a6.alloc (.cells #[.int .i64 z, .int .i64 hz, .int .i64 mk, (.slice ya m' yc)] 25)).frozen? ⟨cb + 1, j, none⟩ = false := fun j => (q7.frozen (p := ⟨cb + 1, j, none⟩) K5.lt).trans (KF5 j)
          have X7 := X5.keep q7
          have T7 := ownsRow_keep T5 q7
          have Y7 := Y5.keep q7
          have Z7 := Z5.keep q7
          have bw7 := bw5.trans (q7.mono bw5.size)
          clear e0 e1 e2 e3 g0 g1 g2 hS A6 q6 b7 q7 C5 K5 KF5 X5 T5 Y5 Z5 bw5 row5 tr5
          obtain ⟨_, e0, e1, e2, e3⟩ := id C7
          obtain ⟨_, g0, g1, g2⟩ := id K7
          obtain ⟨_, y0, y1, y2, y3⟩ := id Y7
          go_wp2_with fail
          generalize a6.alloc (.cells #[.int .i64 z, .int .i64 hz, .int .i64 mk, (.slice ya m' yc)] 25) = a7 at C7 K7 KF7 X7 T7 Y7 Z7 bw7 e0 e1 e2 e3 g0 g1 g2 y0 y1 y2 y3 ⊢
          refine (startOf_impl t z _).mono ?_
          rintro e a7' ⟨rfl, rfl⟩
          rw [hSo.out]
          have o8 := Others.setCell a7' (cb + 1) 2 (.int .i64 (t - t % z))
          have bw8 : Below w.heap.size w (a7'.setCell ⟨cb + 1, 2, none⟩ (.int .i64 (t - t % z))) := bw7.trans (o8.below (by omega))
          have C8 := C7.others o8 (by omega)
          have Y8 := Y7.others o8 (by omega)
          have X8 := X7.same (w' := a7'.setCell ⟨cb + 1, 2, none⟩ (.int .i64 (t - t % z))) (by rw [o8.size]; exact Nat.le_refl _) (fun c h1 h2 => o8.block c (by omega))
          have Z8 := Z7.same (w' := a7'.setCell ⟨cb + 1, 2, none⟩ (.int .i64 (t - t % z))) (by rw [o8.size]; exact Nat.le_refl _) (fun c h1 h2 => o8.block c (by omega))
          have T8 := ownsRow_others T7 o8 (fun hh => by have := tlt _ hh; omega)
          have K8 : KAt (a7'.setCell ⟨cb + 1, 2, none⟩ (.int .i64 (t - t % z))) (cb + 1) km (.slice ka T.length kcp) (t - t % z) := ⟨by rw [o8.size]; exact K7.lt, (World.cell?_setCell_other _ _ _ _ (adr_ne (by decide))).trans K7.c0, (World.cell?_setCell_other _ _ _ _ (adr_ne (by decide))).trans K7.c1, World.cell?_setCell_same _ _ _ K7.c2⟩
          clear C7 Y7 X7 Z7 T7 bw7 o8
          go_wp2_with fail
          generalize a7'.setCell ⟨cb + 1, 2, none⟩ (.int .i64 (t - t % z)) = a8 at C8 Y8 X8 Z8 T8 K8 bw8 ⊢
          clear e0 e1 e2 e3 g0 g1 g2 y0 y1 y2 y3 K7 KF7
          refine (winOf_impl_good z hz mk xa ka m' xc kcp q X' (evX ⟨km, T.length, nmL T, vlL T, st, 0, 0, 0, 0, 0, fun _ => 0, false, 0, false⟩ (t - t % z)) a8 (Z8.row HO'.out.bd HO'.out.fb).2 HO'.out.few HO'.out.sz HAG.out.good (TgL.row T8).2 KZ.out.m KZ.out.tn KZ.out.ts HAG.out.pos).mono ?_
          rintro e a9 ⟨h9, _⟩
          obtain ⟨d0, d1, f0, f1, rfl, WA9, q9⟩ := h9 ⟨hgT.out, HAG.out.lt, HAG.out.key⟩
          have b10 := below_new a9 (.cells #[.string (X' q).m, .slice d0 (X' q).tn f0, .int .i64 (X' q).st, .int .i64 (X' q).c, .int .i64 (X' q).s, .int .i64 (X' q).lo, .int .i64 (X' q).hi, .slice d1 (X' q).n f1, .bool (X' q).fu, .int .i64 (X' q).ver, .bool (X' q).di] 39)
          have V10 := WiAt.new a9 (X' q) d0 d1 f0 f1 39
          have q10 := q9.trans (b10.mono q9.size)
          have C10 := C8.keep q10
          have K10 := K8.keep q10
          have X10 := X8.keep q10
          have T10 := ownsRow_keep T8 q10
          have bw10 := bw8.trans (q10.mono bw8.size)
          obtain ⟨_, e0, e1, e2, e3⟩ := id C10
          obtain ⟨_, g0, g1, g2⟩ := id K10
          clear q9 b10 q10 C8 K8 X8 T8 Y8 Z8 bw8 WA9 h9
          go_wp2_with fail
          generalize a9.alloc (.cells #[.string (X' q).m, .slice d0 (X' q).tn f0, .int .i64 (X' q).st, .int .i64 (X' q).c, .int .i64 (X' q).s, .int .i64 (X' q).lo, .int .i64 (X' q).hi, .slice d1 (X' q).n f1, .bool (X' q).fu, .int .i64 (X' q).ver, .bool (X' q).di] 39) = a10 at V10 C10 K10 X10 T10 bw10 ⊢
          generalize a9.heap.size = wb at V10 ⊢
          refine (winOf_spec_good z hz mk va ka m vc kcp q X (evX ⟨km, T.length, nmL T, vlL T, st, 0, 0, 0, 0, 0, fun _ => 0, false, 0, false⟩ (t - t % z)) a10 (X10.row HOK.out.bd HOK.out.fb).2 HOK.out.few HOK.out.sz HG.out (TgL.row T10).2 KZ.out.m KZ.out.tn KZ.out.ts HP.out).mono ?_
          rintro e a11 ⟨h1, h2⟩
          have hdi := HAG.out.di
          have hst' := HAG.out.st
          by_cases hy : q < m ∧ kc (X q) (evX ⟨km, T.length, nmL T, vlL T, st, 0, 0, 0, 0, 0, fun _ => 0, false, 0, false⟩ (t - t % z)) = 0
          · obtain ⟨p0, p1, r0, r1, rfl, WA11, q11⟩ := h1 ⟨hgT.out, hy⟩
            have b12 := below_new a11 (.cells #[.string (X q).m, .slice p0 (X q).tn r0, .int .i64 (X q).st, .int .i64 (X q).c, .int .i64 (X q).s, .int .i64 (X q).lo, .int .i64 (X q).hi, .slice p1 (X q).n r1, .bool (X q).fu, .int .i64 (X q).ver, .bool (X q).di] 39)
            have q12 := q11.trans (b12.mono q11.size)
            have bw12 := bw10.trans (q12.mono bw10.size)
            have V12 := V10.keep q12
            obtain ⟨_, x0, x1, x2, x3⟩ := C10.keep q12
            obtain ⟨_, u0, u1, u2, u3, u4, u5, u6, u7, u8, u9, u10⟩ := V12
            simp only [Nat.zero_add] at u1 u2 u3 u4 u5 u6 u7 u8 u9 u10
            rw [hdi] at u10
            rw [hst'] at u2
            clear h1 h2 q11 q12 b12 C10 K10 X10 T10 V10 bw10 e0 e1 e2 e3 g0 g1 g2 WA11
            go_wp2
            go_ret
            exact ⟨rfl, bw12⟩
          · obtain ⟨hc', hs'⟩ := (HAG.out.ag.resolve_left hy).2
            obtain ⟨p0, p1, r0, r1, rfl, WA11, q11⟩ := h2 (fun hh => hy hh.2)
            have b12 := below_new a11 (.cells #[.string wn0.m, .slice p0 wn0.tn r0, .int .i64 wn0.st, .int .i64 wn0.c, .int .i64 wn0.s, .int .i64 wn0.lo, .int .i64 wn0.hi, .slice p1 wn0.n r1, .bool wn0.fu, .int .i64 wn0.ver, .bool wn0.di] 39)
            have O12 := WiAt.new a11 wn0 p0 p1 r0 r1 39
            have q12 := q11.trans (b12.mono q11.size)
            have bw12 := bw10.trans (q12.mono bw10.size)
            have V12 := V10.keep q12
            obtain ⟨_, x0, x1, x2, x3⟩ := C10.keep q12
            obtain ⟨_, u0, u1, u2, u3, u4, u5, u6, u7, u8, u9, u10⟩ := V12
            simp only [Nat.zero_add] at u1 u2 u3 u4 u5 u6 u7 u8 u9 u10
            rw [hdi] at u10
            rw [hst'] at u2
            rw [hc'] at u3
            rw [hs'] at u4
            have o9 := O12.c9
            simp only [Nat.zero_add] at o9
            have ver0 : (wn0.ver == 0) = true := rfl
            clear h1 h2 q11 q12 b12 C10 K10 X10 T10 V10 bw10 e0 e1 e2 e3 g0 g1 g2 WA11 O12
            go_wp2
            go_ret
            exact ⟨rfl, bw12⟩
set_option maxRecDepth 100000 in
set_option maxHeartbeats 1600000 in
theorem fnWindows_law (ao : Option Addr) (n cap : Nat) (f : Nat → Int) (ao2 : Option Addr) (n2 cap2 : Nat) (f2 : Nat → Int) (w : World) (hr : Row w ao n f) (hr2 : Row w ao2 n2 f2) (hcn : n ≤ 140737488351232) (hmn : n2 ≤ 140737488351232) :
    Calls Try.prog 3 #[.slice ao n cap, .slice ao2 n2 cap2] w fun e w' => e = .returned (.bool true) ∧ Below w.heap.size w w' := by
  by_cases hn : n + n2 ≤ 1048576
  · exact fnWindows_good ao n cap f ao2 n2 cap2 f2 w hr hr2 hn
  · have hn1 : (1048576 : Int) < (n : Int) + (n2 : Int) := by omega
    have hw : IntKind.i64.wrap ((n : Int) + (n2 : Int)) = (n : Int) + (n2 : Int) := by rw [IntKind.wrap_i64]; omega
    go_enter Try.func3, Try.ntmps3
    go_wp2
    go_ret
    exact ⟨rfl, Below.refl _ _⟩
end Go.Proofs.Ytpggmgmdcccmeaa
