/- ReadEdit in the model. -/
import Derived.Test.YtdcmclbbecnihaaSu
namespace Go.Proofs.Ytdcmclbbecnihaa
open Go.RowKit
set_option linter.unusedSimpArgs false
set_option linter.unusedVariables false

set_option maxRecDepth 10000 in
set_option maxHeartbeats 12800000 in
theorem readEdit_spec (f : Nat → Int) (bb bo n cap : Nat) (w : World) (hr : Row w (some ⟨bb, bo, none⟩) n f) (hbb : bb < w.heap.size) (hn : n ≤ 1048576) (hcap : n ≤ cap) :
    Calls Try.prog 30 #[.slice (some ⟨bb, bo, none⟩) n cap] w fun e w' => RdO f n w e w' := by
  have bn0 := below_new w (.cells #[.int .i64 0, .int .i64 0, .int .i64 0, .slice none 0 0, .slice none 0 0] 45)
  have Z0 := XB.new w 0 0 0 (.slice none 0 0) (.slice none 0 0) 45
  have hs0 : (w.alloc (.cells #[.int .i64 0, .int .i64 0, .int .i64 0, .slice none 0 0, .slice none 0 0] 45)).heap.size = w.heap.size + 1 := by simp
  go_enter Try.func30, Try.ntmps30
  go_wp2_with fail
  generalize w.alloc (.cells #[.int .i64 0, .int .i64 0, .int .i64 0, .slice none 0 0, .slice none 0 0] 45) = wa at *
  have bna := below_new wa (.cells #[.slice (some ⟨bb, bo, none⟩) n cap, .int .i64 0, .bool false] 102)
  have hB0 : BR (wa.alloc (.cells #[.slice (some ⟨bb, bo, none⟩) n cap, .int .i64 0, .bool false] 102)) (w.heap.size + 1) (some ⟨bb, bo, none⟩) n cap 0 false := by
    rw [← hs0]
    refine ⟨by simp, ?_, ?_, ?_, fun j => ?_⟩ <;> simp [go_sem]
  have hs1 : w.heap.size + 1 < (wa.alloc (.cells #[.slice (some ⟨bb, bo, none⟩) n cap, .int .i64 0, .bool false] 102)).heap.size := by simp; omega
  have Z1 := Z0.keep bna
  have bw0 := bn0.trans (bna.mono bn0.size)
  clear Z0 bna bn0 hs0
  generalize wa.alloc (.cells #[.slice (some ⟨bb, bo, none⟩) n cap, .int .i64 0, .bool false] 102) = w0 at *
  obtain ⟨R, hR⟩ : ∃ R, w.heap.size + 1 = R := ⟨_, rfl⟩
  have HR : Hid (w.heap.size + 1 = R) := hR
  rw [hR] at hB0 hs1 ⊢
  clear hR
  have r0 := hr.keep bw0
  have hrw : Hid (∀ W, Mid R (R + 1) w0 W → Row W (some ⟨bb, bo, none⟩) n f) := fun W h => h.row r0 (fun b off e _ => by injection e with e; injection e with e1 _ _; have := HR.out; omega)
  have M0 : Mid R (R + 1) w0 w0 := Mid.refl _ _ _
  have hb0 : bb < w0.heap.size := by have := bw0.size; omega
  refine (number_s f R bb bo n cap 0 false w0 hB0 r0 hb0 hn (by omega)).mono ?_
  rintro e w1 ⟨v1, q1, t1, rfl, hv1, hq1, B1, M1, F1⟩
  have E1 : Hid (NumD f n 0 false v1 q1 t1) := F1
  clear F1
  have hb1 : bb < w1.heap.size := by have := M1.size; omega
  go_wp2_with fail
  refine (number_s f R bb bo n cap q1 t1 w1 B1 (hrw.out w1 M1) hb1 hn hq1).mono ?_
  rintro e w2 ⟨v2, q2, t2, rfl, hv2, hq2, B2, N2, F2⟩
  have E2 : Hid (NumD f n q1 t1 v2 q2 t2) := F2
  clear F2
  have M2 := M1.trans N2
  have hb2 : bb < w2.heap.size := by have := M2.size; omega
  clear N2 B1
  go_wp2_with fail
  refine (number_s f R bb bo n cap q2 t2 w2 B2 (hrw.out w2 M2) hb2 hn hq2).mono ?_
  rintro e w3 ⟨v3, q3, t3, rfl, hv3, hq3, B3, N3, F3⟩
  have E3 : Hid (NumD f n q2 t2 v3 q3 t3) := F3
  clear F3
  have M3 := M2.trans N3
  have HD3 : Hid (D3 f n (v1 : Int) (v2 : Int) (v3 : Int) q3 t3) := d3_of E1.out E2.out E3.out
  clear N3 B2 M1 M2 E1 E2 E3
  go_wp2_with fail
  have bnx := below_new w3 (.cells #[.int .i64 (v1 : Int), .int .i64 (v2 : Int), .int .i64 (v3 : Int), .slice none 0 0, .slice none 0 0] 45)
  have X3 := XB.new w3 (v1 : Int) (v2 : Int) (v3 : Int) (.slice none 0 0) (.slice none 0 0) 45
  have M4 := M3.trans (Mid.of_below bnx)
  have B4 := B3.keep bnx
  have s3 := M3.size
  have hXs : w3.heap.size < (w3.alloc (.cells #[.int .i64 (v1 : Int), .int .i64 (v2 : Int), .int .i64 (v3 : Int), .slice none 0 0, .slice none 0 0] 45)).heap.size := by simp
  clear bnx B3 M3
  generalize w3.alloc (.cells #[.int .i64 (v1 : Int), .int .i64 (v2 : Int), .int .i64 (v3 : Int), .slice none 0 0, .slice none 0 0] 45) = w4 at *
  generalize w3.heap.size = X at *
  have hXR : X ≠ R := by omega
  have hb4 : bb < w4.heap.size := by have := M4.size; omega
  refine (number_s f R bb bo n cap q3 t3 w4 B4 (hrw.out w4 M4) hb4 hn hq3).mono ?_
  rintro e w5 ⟨N, q4, t4, rfl, hN, hq4, B5, N5, E4⟩
  have M5 := M4.trans N5
  have X5 := X3.mid N5 hXR
  have s5 := N5.size
  have HD4 : Hid (D4 f n (v1 : Int) (v2 : Int) (v3 : Int) N q4 t4) := d4_of HD3.out E4
  clear N5 B4 M4 E4 HD3 X3
  have hb5 : bb < w5.heap.size := by have := M5.size; omega
  have Z5 := Z1.mid M5 (show w.heap.size ≠ R by have := HR.out; omega)
  have bw5 : Below w.heap.size w w5 := bw0.trans (M5.below (by have := HR.out; omega) (by have := bw0.size; omega))
  have r5 := hrw.out w5 M5
  clear Z1 bw0 r0 hrw M0 M5
  obtain ⟨C, hC⟩ : ∃ C, w5.heap.size = C := ⟨_, rfl⟩
  have HC : Hid (w5.heap.size = C) := hC
  clear hC
  have hXC : X < C := by have := HC.out; omega
  have hRC : R < C := by have := HC.out; omega
  have hbn : Hid (∀ b off, some (⟨bb, bo, none⟩ : Addr) = some ⟨b, off, none⟩ → b < C ∧ b ≠ R ∧ b ≠ X) := fun b off e => by injection e with e; injection e with e1 _ _; have := HC.out; have := HR.out; omega
  go_upto_block 0 with fail
  go_cut [6] from 21 to 44 (fun s6 wx => ∃ (L : List Int) (m : Nat) (vo : Option Addr) (vc q t : Nat) (tj : Bool), Hid (L.length = m) ∧ m ≤ 30 ∧ XB wx X (v1 : Int) (v2 : Int) (v3 : Int) (.slice vo m vc) (.slice none 0 0) ∧ OwnI wx C (.slice vo m vc) L ∧ q ≤ n ∧ BR wx R (some ⟨bb, bo, none⟩) n cap q tj ∧ K2 C R X w5 wx ∧ Hid (D5 f n (v1 : Int) (v2 : Int) (v3 : Int) L q tj))
  case first =>
    go_wp2_with fail
    go_loopw [6] (fun i wr => ∃ (k : Nat) (L : List Int) (m : Nat) (vo : Option Addr) (vc q : Nat) (tj : Bool), i = .int .i64 (k : Int) ∧ Hid (k + L.length = N) ∧ k ≤ 2000000000 ∧ Hid (L.length = m) ∧ m ≤ 30 ∧ XB wr X (v1 : Int) (v2 : Int) (v3 : Int) (.slice vo m vc) (.slice none 0 0) ∧ OwnI wr C (.slice vo m vc) L ∧ q ≤ n ∧ BR wr R (some ⟨bb, bo, none⟩) n cap q tj ∧ K2 C R X w5 wr ∧ Hid (L5 f n (v1 : Int) (v2 : Int) (v3 : Int) N q4 L q tj)) (fun i _ => (intOf i).toNat)
    case atStart => exact ⟨N, [], 0, none, 0, q4, t4, rfl, rfl, hN, rfl, by omega, X5, ownI_nil _ _, hq4, B5, K2.refl _ _ _ _, l5_of HD4.out⟩
    case round =>
      obtain ⟨k, L, m, vo, vc, q, tj, rfl, HK, hk, HL, hm, Xj, Oj, hq, Bj, Kj, HD⟩ := hrel
      obtain ⟨_, b0, b1, b2, bz⟩ := id Bj
      obtain ⟨⟨_, x0, x1, x2, x3, x4⟩, xz⟩ := id Xj
      by_cases hk0 : k = 0
      · have HE : Hid (D5 f n (v1 : Int) (v2 : Int) (v3 : Int) L q tj) := d5_of HD.out HK.out (.inl hk0)
        clear HD HK
        subst hk0
        go_wp2
        go_meet
        case rel => exact ⟨L, m, vo, vc, q, 0, tj, HL, hm, Xj, Oj, hq, Bj, Kj, HE⟩
      obtain ⟨k', rfl⟩ : ∃ k', k = k' + 1 := ⟨k - 1, by omega⟩
      cases tj
      rotate_left
      · have HE : Hid (D5 f n (v1 : Int) (v2 : Int) (v3 : Int) L q true) := d5_of HD.out HK.out (.inr (.inl rfl))
        clear HD HK
        go_wp2
        go_meet
        case rel => exact ⟨L, m, vo, vc, q, 0, true, HL, hm, Xj, Oj, hq, Bj, Kj, HE⟩
      by_cases h30 : m < 30
      rotate_left
      · have HE : Hid (D5 f n (v1 : Int) (v2 : Int) (v3 : Int) L q false) := d5_of HD.out HK.out (.inr (.inr (by have := HL.out; omega)))
        clear HD HK
        go_wp2
        go_meet
        case rel => exact ⟨L, m, vo, vc, q, 0, false, HL, hm, Xj, Oj, hq, Bj, Kj, HE⟩
      have bd := (Below.refl wr.heap.size wr).drew
      have hcall := number_s f R bb bo n cap q false wr.drew (Bj.keep bd) ((Kj.row r5 hbn.out).keep bd) (by have := Kj.size; show bb < wr.heap.size; omega) hn hq
      have Xd := Xj.keep bd
      have xd3 := Xd.ex.c3
      have Od := Oj.keep bd
      have Kd : K2 C R X w5 wr.drew := Kj.trans (K2.of_below (bd.mono (by have := Kj.size; have := HC.out; omega)))
      have sz : Hid (C ≤ wr.drew.heap.size) := by have := Kj.size; have := HC.out; show C ≤ wr.heap.size; omega
      clear Xj Oj Kj bd
      go_wp2
      go_region_law (first | (refine step_num (by rfl) 40 (by rfl) (.pointer (some ⟨R, 0, none⟩)) (by simp [Act.eval, Act.put]) f R bb bo n cap q false hcall ?_; intro u q1 t1 y1 hu hq1 B1 M1 F1; have X1 := Xd.mid M1 hXR; have O1 := Od.mid M1 hRC; have g3 := X1.ex.c3; have hPR := pushI_run y1 C vo vc L (u : Int) (by have := HL.out; subst this; exact O1) (by omega) (by have := HL.out; omega) (by have := M1.size; have := sz.out; omega); rw [HL.out] at hPR; obtain ⟨so, sc, y2, hrun, O2, G2⟩ := hPR; have bny := below_new y1 (.cells #[.int .i64 (u : Int)] 3); have hnX : (Value.slice vo m vc).ownBlock ≠ some X := (fun e => by have := (O1.own.lt X e).1; omega); have hnR : (Value.slice vo m vc).ownBlock ≠ some R := (fun e => by have := (O1.own.lt R e).1; omega); have X2 := (X1.keep bny).same G2.size (G2.block X (Nat.lt_of_lt_of_le X1.ex.lt bny.size) (fun e => hnX e.symm)); have B2 := (B1.keep bny).grown G2.size (G2.block R (Nat.lt_of_lt_of_le B1.lt bny.size) (fun e => hnR e.symm)); have K2' : Hid (K2 C R X w5 y2) := ((Kd.trans (K2.of_mid M1 sz.out)).trans (K2.of_below (bny.mono (by have := M1.size; have := sz.out; omega)))).trans (K2.of_grown G2 (fun c e => (O1.own.lt c e).1) (by have := M1.size; have := sz.out; have := bny.size; omega)); have HS : Hid (L5 f n (v1 : Int) (v2 : Int) (v3 : Int) N q4 (L ++ [(u : Int)]) q1 t1) := l5_step HD.out (by have := HK.out; omega) F1; have g6 := (X1.keep bny).ex.c3; have g4 := X2.ex.c3; have g5 := X2.fz 3; clear F1 X1 O1 B1 M1 G2 bny hnX hnR hcall) | (refine step_append_run (by rfl) (.tmp 39) (.tmp 42) 36 (by rfl) (.slice vo m vc) (.slice (some ⟨y1.heap.size, 0, none⟩) 1 1) (.slice so (m + 1) sc) (by simp [Act.eval, Act.put]) (by simp [Act.eval, Act.put]) y2 hrun ?_) | fail)
      all_goals
        have X3 := X2.set3 (.slice so (m + 1) sc)
        have B3 := B2.set_other (D := X) (j := 3) (.slice so (m + 1) sc) (Ne.symm hXR)
        have O3 := O2.others (Others.setCell y2 X 3 (.slice so (m + 1) sc)) hXC
        have K3 := K2'.out.trans (K2.set y2 3 (.slice so (m + 1) sc))
        clear hrun X2 B2 O2 K2' xd3 x0 x1 x2 x3 x4 xz b0 b1 b2 bz g3 g4 g5 g6 Xd Od Kd Bj
        go_wp2
        go_roundw
        case rel => exact ⟨k', L ++ [(u : Int)], m + 1, so, sc, q1, t1, by go_num, by have := HK.out; simp [Hid]; omega, by omega, by have := HL.out; simp [Hid]; omega, by omega, X3, O3, hq1, B3, K3, HS⟩
        case measure => simp [intOf]
  case rest =>
    obtain ⟨D, md, da, dc, q5, _, t5, HLD, hmd, X6, O6, hq5, B6, K6, HD5⟩ := hcut
    generalize wc = w6 at *
    have r6 := K6.row r5 hbn.out
    have s6 := K6.size
    have Z6 := Z5.same K6.size (K6.block w.heap.size (by have := HR.out; omega) (by have := HR.out; omega) (by have := HR.out; omega))
    have bw6 : Below w.heap.size w w6 := bw5.trans ⟨K6.os, K6.tape, K6.output, K6.size, fun c hc => K6.block c (by have := HR.out; omega) (by have := HR.out; omega) (by have := HR.out; omega)⟩
    clear r5 Z5 bw5 K6 X5 B5 HD4
    go_wp2_with fail
    refine (number_s f R bb bo n cap q5 t5 w6 B6 r6 (by omega) hn hq5).mono ?_
    rintro e w7 ⟨M, q6, t6, rfl, hM, hq6, B7, N7, F7⟩
    have HD6 : Hid (D6 f n (v1 : Int) (v2 : Int) (v3 : Int) D M q6 t6) := d6_of HD5.out F7
    have X7 := X6.mid N7 hXR
    have O7 := O6.mid N7 hRC
    have Z7 := Z6.mid N7 (show w.heap.size ≠ R by have := HR.out; omega)
    have bw7 : Below w.heap.size w w7 := bw6.trans (N7.below (by have := HR.out; omega) (by have := bw6.size; omega))
    have r7 := N7.row r6 (fun b off e _ => by injection e with e; injection e with e1 _ _; have := HR.out; omega)
    have s7 := N7.size
    clear N7 F7 X6 O6 B6 Z6 bw6 HD5 r6
    obtain ⟨C2, hC2⟩ : ∃ C2, w7.heap.size = C2 := ⟨_, rfl⟩
    have HC2 : Hid (w7.heap.size = C2) := hC2
    clear hC2
    have hXC2 : X < C2 := by have := HC2.out; have := HC.out; omega
    have hRC2 : R < C2 := by have := HC2.out; have := HC.out; omega
    have hbn2 : Hid (∀ b off, some (⟨bb, bo, none⟩ : Addr) = some ⟨b, off, none⟩ → b < C2 ∧ b ≠ R ∧ b ≠ X) := fun b off e => by have := hbn.out b off e; have := HC2.out; have := HC.out; omega
    clear hbn
    go_upto_block 2 with fail
    go_cut [7, 8] from 47 to 88 (fun s7 s8 wx => ∃ (A : List Adm) (m : Nat) (vo : Option Addr) (vc q : Nat) (tj : Bool), Hid (A.length = m) ∧ m ≤ 30 ∧ XB wx X (v1 : Int) (v2 : Int) (v3 : Int) (.slice da md dc) (.slice vo m vc) ∧ OwnD wx C2 (.slice vo m vc) A ∧ q ≤ n ∧ BR wx R (some ⟨bb, bo, none⟩) n cap q tj ∧ K2 C2 R X w7 wx ∧ Hid (D7 f n (v1 : Int) (v2 : Int) (v3 : Int) D A q tj))
    case first =>
      go_wp2_with fail
      go_loopw [7, 8] (fun i x wr => ∃ (k : Nat) (A : List Adm) (m : Nat) (vo : Option Addr) (vc q : Nat) (tj : Bool), i = .int .i64 (k : Int) ∧ Hid (k + A.length = M) ∧ k ≤ 2000000000 ∧ Hid (A.length = m) ∧ m ≤ 30 ∧ XB wr X (v1 : Int) (v2 : Int) (v3 : Int) (.slice da md dc) (.slice vo m vc) ∧ OwnD wr C2 (.slice vo m vc) A ∧ q ≤ n ∧ BR wr R (some ⟨bb, bo, none⟩) n cap q tj ∧ K2 C2 R X w7 wr ∧ Hid (L7 f n (v1 : Int) (v2 : Int) (v3 : Int) D M q6 A q tj)) (fun i _ _ => (intOf i).toNat)
      case atStart => exact ⟨M, [], 0, none, 0, q6, t6, rfl, rfl, hM, rfl, by omega, X7, ownD_nil _ _, hq6, B7, K2.refl _ _ _ _, l7_of HD6.out⟩
      case round =>
        obtain ⟨k, A, m, vo, vc, q, tj, rfl, HK, hk, HL, hm, Xj, Oj, hq, Bj, Kj, HD⟩ := hrel
        obtain ⟨_, b0, b1, b2, bz⟩ := id Bj
        obtain ⟨⟨_, x0, x1, x2, x3, x4⟩, xz⟩ := id Xj
        by_cases hk0 : k = 0
        · have HE : Hid (D7 f n (v1 : Int) (v2 : Int) (v3 : Int) D A q tj) := d7_of HD.out HK.out (.inl hk0)
          clear HD HK
          subst hk0
          go_wp2
          go_meet
          case rel => exact ⟨A, m, vo, vc, q, tj, HL, hm, Xj, Oj, hq, Bj, Kj, HE⟩
        obtain ⟨k', rfl⟩ : ∃ k', k = k' + 1 := ⟨k - 1, by omega⟩
        cases tj
        rotate_left
        · have HE : Hid (D7 f n (v1 : Int) (v2 : Int) (v3 : Int) D A q true) := d7_of HD.out HK.out (.inr (.inl rfl))
          clear HD HK
          go_wp2
          go_meet
          case rel => exact ⟨A, m, vo, vc, q, true, HL, hm, Xj, Oj, hq, Bj, Kj, HE⟩
        by_cases h30 : m < 30
        rotate_left
        · have HE : Hid (D7 f n (v1 : Int) (v2 : Int) (v3 : Int) D A q false) := d7_of HD.out HK.out (.inr (.inr (by have := HL.out; omega)))
          clear HD HK
          go_wp2
          go_meet
          case rel => exact ⟨A, m, vo, vc, q, false, HL, hm, Xj, Oj, hq, Bj, Kj, HE⟩
        have rj := Kj.row r7 hbn2.out
        have hbj : bb < wr.heap.size := by have := Kj.size; omega
        have hbw : Hid (∀ b off, some (⟨bb, bo, none⟩ : Addr) = some ⟨b, off, none⟩ → b < wr.heap.size ∧ b ≠ R) := fun b off e => by have := hbn2.out b off e; have := Kj.size; have := HC2.out; omega
        have szj : Hid (C2 ≤ wr.heap.size) := by have := Kj.size; have := HC2.out; show C2 ≤ wr.heap.size; omega
        have hbR : bb ≠ R := (hbw.out bb bo rfl).2
        go_wp2_with fail
        refine (number_s f R bb bo n cap q false wr Bj rj hbj hn hq).mono ?_
        rintro e y1 ⟨a1, p1, s1, rfl, ha1, hp1, C1, N1, G1⟩
        have E1 : Hid (NumD f n q false a1 p1 s1) := G1
        have Q1 : KB wr.heap.size R wr y1 := KB.of_mid N1 (Nat.le_refl _)
        clear G1 N1 b0 b1 b2 bz x0 x1 x2 x3 x4 xz
        go_wp2_with fail
        have bna := below_new y1 (.cells #[.int .i64 (a1 : Int), .int .i64 0, .string ⟨#[]⟩, .string ⟨#[]⟩, .int .i64 0] 93)
        have Da := DY.new y1 ⟨(a1 : Int), ⟨0, ⟨#[]⟩, ⟨#[]⟩, 0⟩⟩ 93
        have Qa := Q1.trans (KB.of_below (bna.mono Q1.size))
        have Ca := C1.keep bna
        have hPw : Hid (wr.heap.size ≤ y1.heap.size) := Q1.size
        have hPR : y1.heap.size ≠ R := by have := szj.out; have := hPw.out; omega
        clear bna C1 Q1
        simp only at Da
        generalize y1.alloc (.cells #[.int .i64 (a1 : Int), .int .i64 0, .string ⟨#[]⟩, .string ⟨#[]⟩, .int .i64 0] 93) = ya at *
        generalize y1.heap.size = P at *
        refine (number_s f R bb bo n cap p1 s1 ya Ca (Qa.row rj hbw.out) (by have := Qa.size; omega) hn hp1).mono ?_
        rintro e y2 ⟨a2, p2, s2, rfl, ha2, hp2, C2a, N2, G2⟩
        have E2 : Hid (NumD f n p1 s1 a2 p2 s2) := G2
        have Q2 := (Qa.trans (KB.of_mid N2 Qa.size)).trans (KB.set_new y2 P 1 (.int .i64 (a2 : Int)) hPw.out)
        have D2 := Da.mid N2 hPR
        have c1 : y2.cell? ⟨P, 1, none⟩ = _ := D2.at'.c1
        have z1 := D2.fz 1
        have D2b := D2.file (a2 : Int)
        have C2b := C2a.set_other (D := P) (j := 1) (.int .i64 (a2 : Int)) (Ne.symm hPR)
        clear G2 N2 Ca Qa Da D2 C2a
        go_wp2_with fail
        clear c1 z1
        generalize y2.setCell ⟨P, 1, none⟩ (.int .i64 (a2 : Int)) = yb at *
        refine (number_s f R bb bo n cap p2 s2 yb C2b (Q2.row rj hbw.out) (by have := Q2.size; omega) hn hp2).mono ?_
        rintro e y3 ⟨a3, p3, s3, rfl, ha3, hp3, C3a, N3, G3⟩
        have E3 : Hid (NumD f n p2 s2 a3 p3 s3) := G3
        have Q3 := (Q2.trans (KB.of_mid N3 Q2.size)).trans (KB.set_new y3 P 4 (.int .i64 (a3 : Int)) hPw.out)
        have D3a := D2b.mid N3 hPR
        have c1 : y3.cell? ⟨P, 4, none⟩ = _ := D3a.at'.c4
        have z1 := D3a.fz 4
        have D3b := D3a.many (a3 : Int)
        have C3b := C3a.set_other (D := P) (j := 4) (.int .i64 (a3 : Int)) (Ne.symm hPR)
        clear G3 N3 C2b Q2 D2b D3a C3a
        go_wp2_with fail
        clear c1 z1
        generalize y3.setCell ⟨P, 4, none⟩ (.int .i64 (a3 : Int)) = yc at *
        refine (text_s f R bb bo n cap p3 s3 yc C3b (Q3.row rj hbw.out) (by have := Q3.size; omega) hbR hn hcap hp3).mono ?_
        rintro e y4 ⟨x4, p4, s4, rfl, hx4, hp4, C4a, N4, G4⟩
        have E4 : Hid (TexD f n p3 s3 x4 p4 s4) := G4
        have Q4 := (Q3.trans (KB.of_mid N4 Q3.size)).trans (KB.set_new y4 P 2 (.string x4) hPw.out)
        have D4a := D3b.mid N4 hPR
        have c1 : y4.cell? ⟨P, 2, none⟩ = _ := D4a.at'.c2
        have z1 := D4a.fz 2
        have D4b := D4a.least x4
        have C4b := C4a.set_other (D := P) (j := 2) (.string x4) (Ne.symm hPR)
        clear G4 N4 C3b Q3 D3b D4a C4a
        go_wp2_with fail
        clear c1 z1
        generalize y4.setCell ⟨P, 2, none⟩ (.string x4) = yd at *
        refine (text_s f R bb bo n cap p4 s4 yd C4b (Q4.row rj hbw.out) (by have := Q4.size; omega) hbR hn hcap hp4).mono ?_
        rintro e y5 ⟨x5, p5, s5, rfl, hx5, hp5, C5a, N5, G5⟩
        have E5 : Hid (TexD f n p4 s4 x5 p5 s5) := G5
        have Q5a := Q4.trans (KB.of_mid N5 Q4.size)
        have Q5 := Q5a.trans (KB.set_new y5 P 3 (.string x5) hPw.out)
        have D5a := D4b.mid N5 hPR
        have D5b := D5a.most x5
        have C5b := C5a.set_other (D := P) (j := 3) (.string x5) (Ne.symm hPR)
        have HS : Hid (L7 f n (v1 : Int) (v2 : Int) (v3 : Int) D M q6 (A ++ [⟨(a1 : Int), ⟨(a2 : Int), x4, x5, (a3 : Int)⟩⟩]) p5 s5) := l7_step hn HD.out (by have := HK.out; omega) (sAdd_steps E1.out E2.out E3.out E4.out E5.out)
        have X5a := Xj.same Q5.size (Q5.block X Xj.ex.lt hXR)
        have O5a := Oj.kb Q5 hRC2
        have hyb : DB ⟨(a1 : Int), ⟨(a2 : Int), x4, x5, (a3 : Int)⟩⟩ := ⟨⟨by show _ ≤ (a1 : Int); omega, by show (a1 : Int) ≤ _; omega⟩, ⟨by show _ ≤ (a2 : Int); omega, by show (a2 : Int) ≤ _; omega⟩, ⟨by show _ ≤ (a3 : Int); omega, by show (a3 : Int) ≤ _; omega⟩, by show x4.size ≤ _; omega, by show x5.size ≤ _; omega⟩
        have s9 : Hid (C2 ≤ (y5.setCell ⟨P, 3, none⟩ (.string x5)).heap.size) := Nat.le_trans szj.out Q5.size
        have K9 : Hid (K2 C2 R X w7 (y5.setCell ⟨P, 3, none⟩ (.string x5))) := Kj.trans (K2.of_kb Q5 szj.out)
        have e8 : Hid ((A ++ [(⟨(a1 : Int), ⟨(a2 : Int), x4, x5, (a3 : Int)⟩⟩ : Adm)]).length = m + 1) := by have := HL.out; simp [Hid]; omega
        have bn9 := below_new (y5.setCell ⟨P, 3, none⟩ (.string x5)) (.cells #[.int .i64 (a1 : Int), .int .i64 (a2 : Int), .string x4, .string x5, .int .i64 (a3 : Int)] 93)
        have hnX : (Value.slice vo m vc).ownBlock ≠ some X := fun e => by have := (O5a.own.lt X e).1; omega
        have hnR : (Value.slice vo m vc).ownBlock ≠ some R := fun e => by have := (O5a.own.lt R e).1; omega
        have hnB : Hid (∀ c, (Value.slice vo m vc).ownBlock = some c → C2 ≤ c) := fun c e => (O5a.own.lt c e).1
        have hAl : A.length ≤ 1048576 := by have := HL.out; omega
        have c3 : y5.cell? ⟨P, 3, none⟩ = _ := D5a.at'.c3
        have z3 := D5a.fz 3
        obtain ⟨_, d0, d1, d2, d3, d4⟩ := D5b.at'
        simp only [Nat.zero_add] at d0 d1 d2 d3 d4
        have x4c := X5a.ex.c4
        clear G5 N5 C4b Q4 D4b D5a C5a Q5a Q5 E1 E2 E3 E4 E5 HD D5b hPw Oj Xj Bj Kj
        go_upto_region 15 with fail
        clear c3 z3
        generalize y5.setCell ⟨P, 3, none⟩ (.string x5) = yf at *
        go_wp2_with (at_builtin; refine wpList_pushD rfl (.tmp 84) (.tmp 86) rfl C2 _ _ A ⟨(a1 : Int), ⟨(a2 : Int), x4, x5, (a3 : Int)⟩⟩ rfl O5a hyb rfl rfl hAl s9.out ?_; intro v8 w8 hO8 hg8; have hf : ∃ so sc, v8 = .slice so (m + 1) sc := (by obtain ⟨so, sc, e, _⟩ := hO8.form; exact ⟨so, sc, by rw [e, e8.out]⟩); obtain ⟨so, sc, rfl⟩ := hf; have X8 := (X5a.keep bn9).same hg8.size (hg8.block X (Nat.lt_of_lt_of_le X5a.ex.lt bn9.size) (fun e => hnX e.symm)); have B8 := (C5b.keep bn9).grown hg8.size (hg8.block R (Nat.lt_of_lt_of_le C5b.lt bn9.size) (fun e => hnR e.symm)); have K8 : Hid (K2 C2 R X w7 w8) := (K9.out.trans (K2.of_below (bn9.mono s9.out))).trans (K2.of_grown hg8 hnB.out (Nat.le_trans s9.out bn9.size)); have g4 := X8.ex.c4; have g5 := X8.fz 4; clear hg8 bn9)
        have X9 := X8.set4 (.slice so (m + 1) sc)
        have B9 := B8.set_other (D := X) (j := 4) (.slice so (m + 1) sc) (Ne.symm hXR)
        have O9 := hO8.others (Others.setCell w8 X 4 (.slice so (m + 1) sc)) hXC2
        have K9b := K8.out.trans (K2.set w8 4 (.slice so (m + 1) sc))
        go_roundw
        case rel => exact ⟨k', _, m + 1, so, sc, p5, s5, by go_num, by have := HK.out; simp [Hid]; omega, by omega, e8, by omega, X9, O9, hp5, B9, K9b, HS⟩
        case measure => simp [intOf]
    case rest =>
      obtain ⟨A, ma, aa, ca, q7, t7, HLA, hma, X8, O8, hq7, B8, K8, HD7⟩ := hcut
      generalize wc = w8 at *
      have OD8 := O7.k2 K8 hRC hXC (by have := HC2.out; omega)
      have hdb : Hid (∀ g, (Value.slice da md dc).ownBlock = some g → g < C2) := fun g hg => by have := (O7.own.lt g hg).2; have := HC2.out; omega
      have Z8 := Z7.same K8.size (K8.block w.heap.size (by have := HR.out; omega) (by have := HR.out; omega) (by have := HR.out; omega))
      have bw8 : Below w.heap.size w w8 := bw7.trans ⟨K8.os, K8.tape, K8.output, K8.size, fun c hc => K8.block c (by have := HR.out; omega) (by have := HR.out; omega) (by have := HR.out; omega)⟩
      have hC12 : Hid (C ≤ C2) := by have := HC.out; have := HC2.out; show C ≤ C2; omega
      have hwC : Hid (w.heap.size < C) := by have := HR.out; show w.heap.size < C; omega
      clear O7 Z7 bw7 K8 X7 B7 HD6 r7 hbn2 HC HC2 hs1 hXs s3 s5 s6 s7 hb0 hb1 hb2 hb4 hb5
      obtain rfl : D.length = md := HLD.out
      obtain rfl : A.length = ma := HLA.out
      have irow : IRow w8 da D.length (fi D) := by
        obtain ⟨da', cd', e, _, h⟩ := OD8.form
        injection e with e1 _ _
        have hh : da' = da := e1.symm
        subst hh
        exact h
      have drow := O8.row
      have hea := fun (W : World) (h1 : OwnI W C (.slice da D.length dc) D) (h2 : OwnD W C2 (.slice aa A.length ca) A) => ea_of (w1 := w) (vd := .bool true) (va := .bool true) h1 h2 hC12.out hdb.out
      have hAb : Hid (∀ i, i < A.length → DB (dL A i)) := fun i hi => O8.bd _ (dL_mem hi)
      obtain ⟨lb, b0, b1, b2, fz⟩ := id B8
      obtain ⟨⟨lz, z0, z1, z2, z3, z4⟩, zf⟩ := id Z8
      have f0 := zf 0
      have f1 := zf 1
      have f2 := zf 2
      have f3 := zf 3
      have f4 := zf 4
      cases t7
      rotate_left
      · have HN : Hid (NoR f n) := d7_bad HD7.out
        clear HD7 hea drow irow OD8 O8 hAb X8
        go_wp2
        refine bodyPost_ret (v := .tuple #[.agg #[.int .i64 0, .int .i64 0, .int .i64 0, .slice none 0 0, .slice none 0 0], .bool false]) (by simp [results, Try.results30, go_sem, z0, z1, z2, z3, z4]) rfl (.inr ⟨HN.out, rfl, ?_⟩)
        repeat' refine Below.setCell ?_ (by first | (simp; done) | (simp; omega)) _
        exact bw8
      by_cases hqn : q7 < n
      · have HN : Hid (NoR f n) := d7_short HD7.out (by omega)
        clear HD7 hea drow irow OD8 O8 hAb X8
        go_wp2
        refine bodyPost_ret (v := .tuple #[.agg #[.int .i64 0, .int .i64 0, .int .i64 0, .slice none 0 0, .slice none 0 0], .bool false]) (by simp [results, Try.results30, go_sem, z0, z1, z2, z3, z4]) rfl (.inr ⟨HN.out, rfl, ?_⟩)
        repeat' refine Below.setCell ?_ (by first | (simp; done) | (simp; omega)) _
        exact bw8
      obtain rfl : q7 = n := by omega
      have hgood := l9Edit_any (v1 : Int) (v2 : Int) (v3 : Int) da D.length dc (fi D) aa A.length ca (dL A) w8 irow drow (by omega) (by omega)
      obtain ⟨⟨lx, x0, x1, x2, x3, x4⟩, xf⟩ := id X8
      go_wp2_with fail
      refine hgood.mono ?_
      rintro e w9 ⟨b9, rfl, g9, hb9⟩
      have Z9 := Z8.keep hb9
      have X9 := X8.keep hb9
      have bw9 := bw8.trans (hb9.mono bw8.size)
      have OD9 := OD8.keep hb9
      have OA9 := O8.keep hb9
      clear hgood irow drow OD8 O8 x0 x1 x2 x3 x4 xf z0 z1 z2 z3 z4 zf b0 b1 b2 fz f0 f1 f2 f3 f4 B8 X8 Z8 hb9
      obtain ⟨⟨lz, z0, z1, z2, z3, z4⟩, zf⟩ := id Z9
      obtain ⟨⟨lx, x0, x1, x2, x3, x4⟩, xf⟩ := id X9
      have f0 := zf 0
      have f1 := zf 1
      have f2 := zf 2
      have f3 := zf 3
      have f4 := zf 4
      cases b9
      · have HN : Hid (NoR f q7) := d7_not HD7.out (fun h => by have := g9.2 h; cases this)
        clear HD7 hea g9 hAb OD9 OA9
        go_wp2
        refine bodyPost_ret (v := .tuple #[.agg #[.int .i64 0, .int .i64 0, .int .i64 0, .slice none 0 0, .slice none 0 0], .bool false]) (by simp [results, Try.results30, go_sem, z0, z1, z2, z3, z4]) rfl (.inr ⟨HN.out, rfl, ?_⟩)
        repeat' refine Below.setCell ?_ (by first | (simp; done) | (simp; omega)) _
        exact bw9
      · have HRk : Hid (Rok f q7 ⟨(v1 : Int), (v2 : Int), (v3 : Int), D, A⟩) := d7_good HD7.out (g9.1 rfl)
        clear HD7 g9
        go_wp2
        refine bodyPost_ret (v := .tuple #[.agg #[.int .i64 (v1 : Int), .int .i64 (v2 : Int), .int .i64 (v3 : Int), .slice da D.length dc, .slice aa A.length ca], .bool true]) (by simp [results, Try.results30, go_sem, z0, z1, z2, z3, z4]) rfl (.inl ⟨⟨(v1 : Int), (v2 : Int), (v3 : Int), D, A⟩, HRk.out, da, dc, aa, ca, rfl, ?_, hAb.out, ?_⟩)
        · have hV2 : ∀ W, w9.heap.size = W.heap.size → (∀ c, w.heap.size + 1 ≤ c → W.heap[c]? = w9.heap[c]?) → EA W w.heap.size W.heap.size da D.length (fi D) aa A.length (dL A) := fun W hs hc => by
            have e1 := hea w9 OD9 OA9
            have e2 := e1.same (w' := W) (by omega) (fun c h1 _ => hc c (by have := hwC.out; omega))
            exact e2.mono (by have := hwC.out; omega) (by omega) (Nat.le_refl _)
          refine hV2 _ (by simp) fun c hc => ?_
          repeat' refine (Below.heap_setCell _ _ _ _ (by first | omega | (dsimp only; omega))).trans ?_
          rfl
        · repeat' refine Below.setCell ?_ (by first | (simp; done) | (simp; omega)) _
          exact bw9
end Go.Proofs.Ytdcmclbbecnihaa
