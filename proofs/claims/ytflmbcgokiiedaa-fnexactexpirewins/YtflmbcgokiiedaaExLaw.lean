/- The law of ExpireWins, walked (made by exlaw.py). -/
import Derived.Test.YtflmbcgokiiedaaExA
import Derived.Deep.RegionHeld3
namespace Go.Proofs.Ytflmbcgokiiedaa
open Go.RowKit
set_option linter.unusedSimpArgs false
set_option linter.unusedVariables false

set_option maxRecDepth 100000 in
set_option maxHeartbeats 16000000 in
theorem expireWins_law (z h mk : Int) (ao : Option Addr) (n cap : Nat) (X : Nat → Wn) (w : World) (hr : WiRow w ao n X) (hb4 : (-9223372036854775808 ≤ z ∧ z ≤ 9223372036854775807) ∧ (-9223372036854775808 ≤ h ∧ h ≤ 9223372036854775807) ∧ (-9223372036854775808 ≤ mk ∧ mk ≤ 9223372036854775807)) (hnx : n ≤ 9223372036854775807) :
    Calls Try.prog 4 #[.agg #[.int .i64 z, .int .i64 h, .int .i64 mk, .slice ao n cap]] w fun e w' => e = .returned (.bool true) ∧ Below w.heap.size w w' := by
  have hB := below_new w (.cells #[.int .i64 z, .int .i64 h, .int .i64 mk, .slice ao n cap] 24)
  have A0 := BdAt.new w z h mk (.slice ao n cap) 24
  have hr0 := hr.keep hB
  clear hb4
  go_enter Try.func4, Try.ntmps4
  go_wp2_with fail
  refine (szBoard_any z h mk ao n cap X 1048576 _ hr0 (by omega) hnx).mono ?_
  rintro e w1 ⟨v, rfl, hv1, hv2, hv3, q1⟩
  have bw1 : Below w.heap.size w w1 := hB.trans (q1.mono (by simp))
  have A1 := A0.keep q1
  clear q1 A0 hB hr0
  by_cases hv : v < 0
  · clear hv3
    go_wp2
    go_ret
    exact ⟨rfl, bw1⟩
  obtain ⟨hn, hz⟩ := hv3 (by omega)
  clear hv3 hnx
  have hbd := hr.bd
  have hfb := hr.fb
  obtain ⟨z', h', mk', n', X', m', T', c, hO, hS, hI⟩ := ex_out z h mk n X hn hbd hfb hz
  have hnn := hO.n1
  have hnm := hO.n2
  have HS : Hid (∀ (ao : Option Addr) (cap : Nat) (w : World), WiRow w ao n X → Calls Try.prog 16 #[.agg #[.int .i64 z, .int .i64 h, .int .i64 mk, .slice ao n cap]] w fun e w' => EAns z' h' mk' n' X' m' T' c w e w') := hS
  have HI : Hid (∀ (ao : Option Addr) (cap : Nat) (w : World), WiRow w ao n X → Calls Try.prog 17 #[.agg #[.int .i64 z, .int .i64 h, .int .i64 mk, .slice ao n cap]] w fun e w' => EAns z' h' mk' n' X' m' T' c w e w') := hI
  clear hS hI
  have hcc : (c != c) = false := by simp
  have sA := A1.lt
  obtain ⟨_, a0, a1, a2, a3⟩ := id A1
  go_wp2_with fail
  refine (toBoard_any z h mk ao n cap X _ (hr.keep bw1) hn hz).mono ?_
  rintro e w2 ⟨g2, G0, G1, rfl, hg2, ho2, q2⟩
  have A2 := A1.keep q2
  have bw2 := bw1.trans (q2.mono bw1.size)
  clear A1 bw1
  have s2 := q2.size
  clear q2
  clear a0 a1 a2 a3
  go_wp2_with fail
  refine (HS.out _ n _ (ho2.row hbd)).mono ?_
  clear HS
  rintro e w3 ⟨vw, tw, QL, QN, rfl, L3, N3, _, _, _, q3⟩
  obtain ⟨wa, wc, rfl⟩ := L3.form
  obtain ⟨ta, tc, rfl⟩ := N3.form
  have uL : Hid (∀ c, QL c → c < w3.heap.size) := L3.1
  have uN : Hid (∀ c, QN c → c < w3.heap.size) := N3.1
  have A3 := A2.keep q3
  have bw3 := bw2.trans (q3.mono bw2.size)
  clear A2 bw2
  have s3 := q3.size
  clear q3
  clear ho2
  have bn4 := below_new w3 (.cells #[.int .i64 z', .int .i64 h', .int .i64 mk', .slice wa n' wc] 28)
  have M4 := BdAt.new w3 z' h' mk' (.slice wa n' wc) 28
  have t4 : (w3.alloc (.cells #[.int .i64 z', .int .i64 h', .int .i64 mk', .slice wa n' wc] 28)).heap.size = w3.heap.size + 1 := by simp
  have A4 := A3.keep bn4
  have L4 := L3.keep bn4
  have N4 := N3.keep bn4
  have bw4 := bw3.trans (bn4.mono bw3.size)
  clear A3 L3 N3 bw3
  have s4 := bn4.size
  clear bn4
  obtain ⟨_, a0, a1, a2, a3⟩ := id A4
  go_wp2_with fail
  generalize w3.alloc (.cells #[.int .i64 z', .int .i64 h', .int .i64 mk', .slice wa n' wc] 28) = w4 at *
  refine (toBoard_any z h mk ao n cap X _ (hr.keep bw4) hn hz).mono ?_
  rintro e w5 ⟨g5, F0, F1, rfl, hg5, G5, q5⟩
  have O5 := ba_own G5
  have g5lt := G5.lt
  have A5 := A4.keep q5
  have L5 := L4.keep q5
  have N5 := N4.keep q5
  have M5 := M4.keep q5
  have bw5 := bw4.trans (q5.mono bw4.size)
  clear A4 L4 N4 M4 bw4
  have s5 := q5.size
  clear q5
  obtain ⟨e5, he5⟩ : ∃ e, e = w5.heap.size := ⟨_, rfl⟩
  rw [← he5] at O5
  clear a0 a1 a2 a3
  have bn6 := below_new w5 (.cells #[.int .i64 z, .int .i64 h, .int .i64 mk, .slice (some ⟨g5, 0, none⟩) n n] 28)
  have X6 := BdAt.new w5 z h mk (.slice (some ⟨g5, 0, none⟩) n n) 28
  have t6 : (w5.alloc (.cells #[.int .i64 z, .int .i64 h, .int .i64 mk, .slice (some ⟨g5, 0, none⟩) n n] 28)).heap.size = w5.heap.size + 1 := by simp
  have A6 := A5.keep bn6
  have L6 := L5.keep bn6
  have N6 := N5.keep bn6
  have M6 := M5.keep bn6
  have G6 := G5.keep bn6
  have O6 := O5.keep bn6
  have bw6 := bw5.trans (bn6.mono bw5.size)
  clear A5 L5 N5 M5 G5 O5 bw5
  have s6 := bn6.size
  clear bn6
  obtain ⟨_, x0, x1, x2, x3⟩ := id X6
  go_wp2_with fail
  generalize w5.alloc (.cells #[.int .i64 z, .int .i64 h, .int .i64 mk, .slice (some ⟨g5, 0, none⟩) n n] 28) = w6 at *
  refine (HI.out _ n _ (G6.row hbd)).mono ?_
  rintro e w7 ⟨vg, tg, QU, QV, rfl, U7, V7, lU, lV, dj, q7⟩
  obtain ⟨ga, gc, rfl⟩ := U7.form
  obtain ⟨ua, uc, rfl⟩ := V7.form
  have uU : Hid (∀ c, QU c → c < w7.heap.size) := U7.1
  have uV : Hid (∀ c, QV c → c < w7.heap.size) := V7.1
  have LU : Hid (∀ c, QU c → w6.heap.size ≤ c) := lU
  have LV : Hid (∀ c, QV c → w6.heap.size ≤ c) := lV
  have DJ : Hid (∀ c, QU c → ¬ QV c) := dj
  clear lU lV dj
  have A7 := A6.keep q7
  have L7 := L6.keep q7
  have N7 := N6.keep q7
  have M7 := M6.keep q7
  have G7 := G6.keep q7
  have O7 := O6.keep q7
  have X7 := X6.keep q7
  have bw7 := bw6.trans (q7.mono bw6.size)
  clear A6 L6 N6 M6 G6 O6 X6 bw6
  have s7 := q7.size
  clear q7
  clear x0 x1 x2 x3
  have bn8 := below_new w7 (.cells #[.int .i64 z', .int .i64 h', .int .i64 mk', .slice ga n' gc] 28)
  have Z8 := BdAt.new w7 z' h' mk' (.slice ga n' gc) 28
  have t8 : (w7.alloc (.cells #[.int .i64 z', .int .i64 h', .int .i64 mk', .slice ga n' gc] 28)).heap.size = w7.heap.size + 1 := by simp
  have A8 := A7.keep bn8
  have L8 := L7.keep bn8
  have N8 := N7.keep bn8
  have M8 := M7.keep bn8
  have G8 := G7.keep bn8
  have O8 := O7.keep bn8
  have X8 := X7.keep bn8
  have U8 := U7.keep bn8
  have V8 := V7.keep bn8
  have bw8 := bw7.trans (bn8.mono bw7.size)
  clear A7 L7 N7 M7 G7 O7 X7 U7 V7 bw7
  have s8 := bn8.size
  clear bn8
  obtain ⟨_, g0, g1, g2, g3⟩ := id Z8
  obtain ⟨_, m0, m1, m2, m3⟩ := id M8
  go_wp2_with fail
  generalize w7.alloc (.cells #[.int .i64 z', .int .i64 h', .int .i64 mk', .slice ga n' gc] 28) = w8 at *
  refine (eqBoard_same z' h' mk' ga wa n' gc wc X' _ (U8.row hO.b1 hO.f1) (L8.row hO.b1 hO.f1) hnn hO.z1).mono ?_
  rintro e w9 ⟨rfl, q9⟩
  have A9 := A8.keep q9
  have L9 := L8.keep q9
  have N9 := N8.keep q9
  have M9 := M8.keep q9
  have G9 := G8.keep q9
  have O9 := O8.keep q9
  have X9 := X8.keep q9
  have U9 := U8.keep q9
  have V9 := V8.keep q9
  have Z9 := Z8.keep q9
  have bw9 := bw8.trans (q9.mono bw8.size)
  clear A8 L8 N8 M8 G8 O8 X8 U8 V8 Z8 bw8
  have s9 := q9.size
  clear q9
  clear g0 g1 g2 g3 m0 m1 m2 m3
  go_wp2_with fail
  refine (eqKeyS_same ua ta m' uc tc T' _ V9.row N9.row hnm hO.z2).mono ?_
  rintro e w10 ⟨rfl, q10⟩
  have A10 := A9.keep q10
  have L10 := L9.keep q10
  have N10 := N9.keep q10
  have M10 := M9.keep q10
  have G10 := G9.keep q10
  have O10 := O9.keep q10
  have X10 := X9.keep q10
  have U10 := U9.keep q10
  have V10 := V9.keep q10
  have Z10 := Z9.keep q10
  have bw10 := bw9.trans (q10.mono bw9.size)
  clear A9 L9 N9 M9 G9 O9 X9 U9 V9 Z9 bw9
  have s10 := q10.size
  clear q10
  obtain ⟨_, a0, a1, a2, a3⟩ := id A10
  obtain ⟨_, x0, x1, x2, x3⟩ := id X10
  have rd := (hr.keep bw10).keep (Below.refl _ w10).drew
  go_wp2
  go_region_held3 (fun w' => w'.cell? ⟨w.heap.size, 0, none⟩ = some (.int .i64 z) ∧ w'.cell? ⟨w.heap.size, 1, none⟩ = some (.int .i64 h) ∧ w'.cell? ⟨w.heap.size, 2, none⟩ = some (.int .i64 mk) ∧ w'.cell? ⟨w.heap.size, 3, none⟩ = some (.slice ao n cap) ∧ w'.cell? ⟨w5.heap.size, 0, none⟩ = some (.int .i64 z) ∧ w'.cell? ⟨w5.heap.size, 1, none⟩ = some (.int .i64 h) ∧ w'.cell? ⟨w5.heap.size, 2, none⟩ = some (.int .i64 mk) ∧ w'.cell? ⟨w5.heap.size, 3, none⟩ = some (.slice (some ⟨g5, 0, none⟩) n n)) (go_keep) (first | (go_at_call 8; refine (toBoard_any z h mk ao n cap X _ rd hn hz).mono ?_; rintro e w11 ⟨g11, J0, J1, rfl, _, J11, q11⟩; have q11' := (Below.refl _ w10).drew.trans q11; have A11 := A10.keep q11'; have L11 := L10.keep q11'; have N11 := N10.keep q11'; have M11 := M10.keep q11'; have G11 := G10.keep q11'; have O11 := O10.keep q11'; have X11 := X10.keep q11'; have U11 := U10.keep q11'; have V11 := V10.keep q11'; have Z11 := Z10.keep q11'; have bw11 := bw10.trans (q11'.mono bw10.size); have s11 := q11'.size; obtain ⟨_, p0, p1, p2, p3⟩ := id A11; obtain ⟨_, y0, y1, y2, y3⟩ := id X11; clear q11 q11') | (go_at_call 10; refine (eqBoard_same z h mk _ _ n n n X _ (G11.row hbd) (J11.row hbd) hn hz).mono ?_; rintro e w12 ⟨rfl, q12⟩; have A12 := A11.keep q12; have L12 := L11.keep q12; have N12 := N11.keep q12; have M12 := M11.keep q12; have G12 := G11.keep q12; have O12 := O11.keep q12; have X12 := X11.keep q12; have U12 := U11.keep q12; have V12 := V11.keep q12; have Z12 := Z11.keep q12; have bw12 := bw11.trans (q12.mono bw11.size); have s12 := q12.size; obtain ⟨_, pp0, pp1, pp2, pp3⟩ := id A12; obtain ⟨_, yy0, yy1, yy2, yy3⟩ := id X12; clear q12))
  clear a0 a1 a2 a3 x0 x1 x2 x3 p0 p1 p2 p3 y0 y1 y2 y3 pp0 pp1 pp2 pp3 yy0 yy1 yy2 yy3 J11 rd A10 A11 L10 L11 N10 N11 M10 M11 G10 G11 O10 O11 X10 X11 U10 U11 V10 V11 Z10 Z11 bw10 bw11
  obtain ⟨_, x0, x1, x2, x3⟩ := id X12
  go_wp2_with fail
  refine (markBoard_any z h mk _ g5 e5 n 1 X _ O12 (by omega) (by omega) hz hn).mono ?_
  rintro e w13 ⟨rfl, _, R13⟩
  have hpos : decide (((kOWi X 1 n : Nat) : Int) < 0) = false := decide_eq_false (by omega)
  generalize ((kOWi X 1 n : Nat) : Int) = kk at *
  have A13 := A12.rngE R13 (by omega)
  have L13 := L12.rng R13 (fun c hc => .inl (by have := uL.out c hc; omega))
  have N13 := N12.rng R13 (fun c hc => .inl (by have := uN.out c hc; omega))
  have M13 := M12.rngE R13 (by omega)
  have U13 := U12.rng R13 (fun c hc => .inr (by have := LU.out c hc; omega))
  have V13 := V12.rng R13 (fun c hc => .inr (by have := LV.out c hc; omega))
  have Z13 := Z12.rngE R13 (by omega)
  have bw13 : Below w.heap.size w w13 := bw12.trans (R13.below (by omega) bw12.size)
  have s13 := R13.size
  clear A12 L12 N12 M12 G12 O12 X12 U12 V12 Z12 bw12
  clear R13
  clear x0 x1 x2 x3
  obtain ⟨_, g0, g1, g2, g3⟩ := id Z13
  obtain ⟨_, m0, m1, m2, m3⟩ := id M13
  go_wp2_with fail
  refine (eqBoard_same z' h' mk' ga wa n' gc wc X' _ (U13.row hO.b1 hO.f1) (L13.row hO.b1 hO.f1) hnn hO.z1).mono ?_
  rintro e w14 ⟨rfl, q14⟩
  have A14 := A13.keep q14
  have L14 := L13.keep q14
  have N14 := N13.keep q14
  have M14 := M13.keep q14
  have U14 := U13.keep q14
  have V14 := V13.keep q14
  have Z14 := Z13.keep q14
  have bw14 := bw13.trans (q14.mono bw13.size)
  clear A13 L13 N13 M13 U13 V13 Z13 bw13
  have s14 := q14.size
  clear q14
  clear g0 g1 g2 g3 m0 m1 m2 m3
  go_wp2_with fail
  refine (eqKeyS_same ua ta m' uc tc T' _ V14.row N14.row hnm hO.z2).mono ?_
  rintro e w15 ⟨rfl, q15⟩
  have A15 := A14.keep q15
  have L15 := L14.keep q15
  have N15 := N14.keep q15
  have M15 := M14.keep q15
  have U15 := U14.keep q15
  have V15 := V14.keep q15
  have Z15 := Z14.keep q15
  have bw15 := bw14.trans (q15.mono bw14.size)
  clear A14 L14 N14 M14 U14 V14 Z14 bw14
  have s15 := q15.size
  clear q15
  obtain ⟨_, g0, g1, g2, g3⟩ := id Z15
  go_wp2_with fail
  refine (markBoardP z' h' mk' _ QU n' 1 X' _ U15 (by omega) (by omega) hO.z1 hnn).mono ?_
  rintro e w16 ⟨rfl, K16, R16⟩
  have A16 := A15.frm R16 (fun hc => by have := uU.out _ hc; have := LU.out _ hc; omega)
  have L16 := L15.frm R16 (fun c hc h9 => by have := uL.out c hc; have := LU.out c h9; omega)
  have N16 := N15.frm R16 (fun c hc h9 => by have := uN.out c hc; have := LU.out c h9; omega)
  have M16 := M15.frm R16 (fun hc => by have := uU.out _ hc; have := LU.out _ hc; omega)
  have V16 := V15.frm R16 (fun c hc h9 => DJ.out c h9 hc)
  have Z16 := Z15.frm R16 (fun hc => by have := uU.out _ hc; have := LU.out _ hc; omega)
  have bw16 : Below w.heap.size w w16 := bw15.trans (R16.below (fun c hc => by have := LU.out c hc; omega) bw15.size)
  have s16 := R16.size
  clear A15 L15 N15 M15 U15 V15 Z15 bw15
  clear R16
  clear g0 g1 g2 g3
  have hheld := fun W hh => heldBoardP z' h' mk' (.slice ga n' gc) QU n' 1 X' W hh (by omega) (by omega) hO.z1 hnn
  obtain ⟨k1, hk1⟩ : ∃ k, kOWi X' 1 n' = k := ⟨_, rfl⟩
  rw [hk1] at hheld ⊢
  have hkb : 1 ≤ k1 ∧ k1 ≤ 4398046511104 := by have e1 := kOWi_ge X' 1 n'; have e2 := kOWi_le X' 1 n' hO.z1; omega
  clear hk1
  have hkd : decide ((k1 : Int) < 0) = false := decide_eq_false (by omega)
  go_wp2_with fail
  refine (markKP _ QV m' k1 T' _ V16 hkb.1 hkb.2 hO.z2 hnm).mono ?_
  rintro e w17 ⟨rfl, P17, R17⟩
  have A17 := A16.frm R17 (fun hc => by have := uV.out _ hc; have := LV.out _ hc; omega)
  have L17 := L16.frm R17 (fun c hc h9 => by have := uL.out c hc; have := LV.out c h9; omega)
  have N17 := N16.frm R17 (fun c hc h9 => by have := uN.out c hc; have := LV.out c h9; omega)
  have M17 := M16.frm R17 (fun hc => by have := uV.out _ hc; have := LV.out _ hc; omega)
  have Z17 := Z16.frm R17 (fun hc => by have := uV.out _ hc; have := LV.out _ hc; omega)
  have K17 := K16.frm R17 (fun c hc h9 => DJ.out c hc h9)
  have bw17 : Below w.heap.size w w17 := bw16.trans (R17.below (fun c hc => by have := LV.out c hc; omega) bw16.size)
  have s17 := R17.size
  clear A16 L16 N16 M16 V16 Z16 K16 bw16
  clear R17
  have hheldT := fun W hh => heldKP (.slice ua m' uc) QV m' k1 T' W hh hkb.1 hkb.2 hO.z2 hnm
  obtain ⟨k2, hk2⟩ : ∃ k, ((kOKe T' k1 m' : Nat) : Int) = k := ⟨_, rfl⟩
  rw [hk2] at hheldT ⊢
  have hk2d : decide (k2 < 0) = false := decide_eq_false (by omega)
  clear hk2
  obtain ⟨_, g0, g1, g2, g3⟩ := id Z17
  go_wp2_with fail
  refine (hheld _ K17).mono ?_
  rintro e w18 ⟨rfl, q18⟩
  have A18 := A17.keep q18
  have L18 := L17.keep q18
  have N18 := N17.keep q18
  have M18 := M17.keep q18
  have Z18 := Z17.keep q18
  have K18 := K17.keep q18
  have P18 := P17.keep q18
  have bw18 := bw17.trans (q18.mono bw17.size)
  clear A17 L17 N17 M17 Z17 K17 P17 bw17
  have s18 := q18.size
  clear q18
  clear g0 g1 g2 g3
  go_wp2_with fail
  refine (hheldT _ P18).mono ?_
  rintro e w19 ⟨rfl, q19⟩
  have A19 := A18.keep q19
  have L19 := L18.keep q19
  have N19 := N18.keep q19
  have M19 := M18.keep q19
  have Z19 := Z18.keep q19
  have K19 := K18.keep q19
  have P19 := P18.keep q19
  have bw19 := bw18.trans (q19.mono bw18.size)
  clear A18 L18 N18 M18 Z18 K18 P18 bw18
  have s19 := q19.size
  clear q19
  obtain ⟨_, a0, a1, a2, a3⟩ := id A19
  go_wp2_with fail
  refine (toBoard_any z h mk ao n cap X _ (hr.keep bw19) hn hz).mono ?_
  rintro e w20 ⟨g20, J0, J1, rfl, _, ho20, q20⟩
  have A20 := A19.keep q20
  have L20 := L19.keep q20
  have N20 := N19.keep q20
  have M20 := M19.keep q20
  have Z20 := Z19.keep q20
  have K20 := K19.keep q20
  have P20 := P19.keep q20
  have bw20 := bw19.trans (q20.mono bw19.size)
  clear A19 L19 N19 M19 Z19 K19 P19 bw19
  have s20 := q20.size
  clear q20
  clear a0 a1 a2 a3
  go_wp2_with fail
  refine (HI.out _ n _ (ho20.row hbd)).mono ?_
  rintro e w21 ⟨vh, th, QH, QI, rfl, U21, V21, _, _, _, q21⟩
  obtain ⟨pa, pc, rfl⟩ := U21.form
  obtain ⟨qa, qc, rfl⟩ := V21.form
  clear HI ho20
  have A21 := A20.keep q21
  have L21 := L20.keep q21
  have N21 := N20.keep q21
  have M21 := M20.keep q21
  have Z21 := Z20.keep q21
  have K21 := K20.keep q21
  have P21 := P20.keep q21
  have bw21 := bw20.trans (q21.mono bw20.size)
  clear A20 L20 N20 M20 Z20 K20 P20 bw20
  have s21 := q21.size
  clear q21
  have bn22 := below_new w21 (.cells #[.int .i64 z', .int .i64 h', .int .i64 mk', .slice pa n' pc] 28)
  have H22 := BdAt.new w21 z' h' mk' (.slice pa n' pc) 28
  have t22 : (w21.alloc (.cells #[.int .i64 z', .int .i64 h', .int .i64 mk', .slice pa n' pc] 28)).heap.size = w21.heap.size + 1 := by simp
  have A22 := A21.keep bn22
  have L22 := L21.keep bn22
  have N22 := N21.keep bn22
  have M22 := M21.keep bn22
  have Z22 := Z21.keep bn22
  have K22 := K21.keep bn22
  have P22 := P21.keep bn22
  have U22 := U21.keep bn22
  have V22 := V21.keep bn22
  have bw22 := bw21.trans (bn22.mono bw21.size)
  clear A21 L21 N21 M21 Z21 K21 P21 U21 V21 bw21
  have s22 := bn22.size
  clear bn22
  obtain ⟨_, g0, g1, g2, g3⟩ := id H22
  obtain ⟨_, m0, m1, m2, m3⟩ := id M22
  go_wp2_with fail
  generalize w21.alloc (.cells #[.int .i64 z', .int .i64 h', .int .i64 mk', .slice pa n' pc] 28) = w22 at *
  refine (eqBoard_same z' h' mk' pa wa n' pc wc X' _ (U22.row hO.b1 hO.f1) (L22.row hO.b1 hO.f1) hnn hO.z1).mono ?_
  rintro e w23 ⟨rfl, q23⟩
  have A23 := A22.keep q23
  have L23 := L22.keep q23
  have N23 := N22.keep q23
  have M23 := M22.keep q23
  have Z23 := Z22.keep q23
  have K23 := K22.keep q23
  have P23 := P22.keep q23
  have U23 := U22.keep q23
  have V23 := V22.keep q23
  have H23 := H22.keep q23
  have bw23 := bw22.trans (q23.mono bw22.size)
  clear A22 L22 N22 M22 Z22 K22 P22 U22 V22 H22 bw22
  have s23 := q23.size
  clear q23
  clear g0 g1 g2 g3 m0 m1 m2 m3
  go_wp2_with fail
  refine (eqKeyS_same qa ta m' qc tc T' _ V23.row N23.row hnm hO.z2).mono ?_
  rintro e w24 ⟨rfl, q24⟩
  have A24 := A23.keep q24
  have L24 := L23.keep q24
  have N24 := N23.keep q24
  have M24 := M23.keep q24
  have Z24 := Z23.keep q24
  have K24 := K23.keep q24
  have P24 := P23.keep q24
  have U24 := U23.keep q24
  have V24 := V23.keep q24
  have H24 := H23.keep q24
  have bw24 := bw23.trans (q24.mono bw23.size)
  clear A23 L23 N23 M23 Z23 K23 P23 U23 V23 H23 bw23
  have s24 := q24.size
  clear q24
  obtain ⟨_, g0, g1, g2, g3⟩ := id Z24
  go_wp2_with fail
  refine (hheld _ K24).mono ?_
  rintro e w25 ⟨rfl, q25⟩
  have A25 := A24.keep q25
  have L25 := L24.keep q25
  have N25 := N24.keep q25
  have M25 := M24.keep q25
  have Z25 := Z24.keep q25
  have K25 := K24.keep q25
  have P25 := P24.keep q25
  have U25 := U24.keep q25
  have V25 := V24.keep q25
  have H25 := H24.keep q25
  have bw25 := bw24.trans (q25.mono bw24.size)
  clear A24 L24 N24 M24 Z24 K24 P24 U24 V24 H24 bw24
  have s25 := q25.size
  clear q25
  clear g0 g1 g2 g3
  go_wp2_with fail
  refine (hheldT _ P25).mono ?_
  rintro e w26 ⟨rfl, q26⟩
  have bw26 := bw25.trans (q26.mono bw25.size)
  clear q26 hheld hheldT
  go_wp2
  go_ret
  exact ⟨rfl, bw26⟩
end Go.Proofs.Ytflmbcgokiiedaa
