/- The law of ReplayEdits, walked (made by relaw.py). -/
import Derived.Test.YtofdhgffnkhdfaaRs
import Derived.Deep.RegionHeld3
namespace Go.Proofs.Ytofdhgffnkhdfaa
open Go.RowKit
set_option linter.unusedSimpArgs false
set_option linter.unusedVariables false

theorem VMk.midR {w w' : World} {lo hi lo' hi' N : Nat} {ao : Option Addr} {LA : Nat → List Met} (h : VMk w lo hi ao N LA) (hm : Mid lo' hi' w w') (hd : hi ≤ lo' ∨ hi' ≤ lo) : VMk w' lo hi ao N LA := VA.midR h hm hd
set_option maxRecDepth 100000 in
set_option maxHeartbeats 16000000 in
theorem replayEdits_law (ao : Option Addr) (n cap : Nat) (E : Nat → Edt) (w : World) (hr : EdRow false w ao n E) (hnx : n ≤ 9223372036854775807) :
    Calls Try.prog 3 #[.slice ao n cap] w fun e w' => e = .returned (.bool true) ∧ Below w.heap.size w w' := by
  go_enter Try.func3, Try.ntmps3
  go_wp2_with fail
  refine (szEditS_any ao n cap E _ hr hnx).mono ?_
  rintro e w1 ⟨v, rfl, hv1, hv2, hv3, bw1⟩
  by_cases hv : v < 0
  · clear hv3
    go_wp2
    go_ret
    exact ⟨rfl, bw1⟩
  have hnt := hv3 (by omega)
  have hn : n ≤ 1048576 := by omega
  have hz := edSize_of hnt
  clear hv3 hnx
  have hbd := hr.bd
  have hdb : ∀ i, i < n → ∀ j, j < (E i).A.length → DB (dL (E i).A j) := fun i hi j hj => by
    obtain ⟨b, off, _, _, hc⟩ := hr.lies.resolve_left (by omega)
    obtain ⟨_, _, _, _, _, _, hd, _⟩ := hc i hi
    exact hd.bd j hj
  have HDB : Hid (∀ i, i < n → ∀ j, j < (E i).A.length → DB (dL (E i).A j)) := hdb
  obtain ⟨nx, lg, sq, N, LA, k, ok, hO, hS, hI⟩ := re_out n E hn hz
  have HO : Hid (Avs nx lg sq N LA ok) := hO
  have HS : Hid (∀ (ao : Option Addr) (cap : Nat) (w : World), EdRow true w ao n E → Calls Try.prog 5 #[.slice ao n cap] w fun e w' => RvO nx lg sq N LA k ok w e w') := hS
  have HI : Hid (∀ (ao : Option Addr) (cap : Nat) (w : World), EdRow false w ao n E → Calls Try.prog 7 #[.slice ao n cap] w fun e w' => RvO nx lg sq N LA k ok w e w') := hI
  clear hS hI hdb hO
  have hcc : (k != k) = false := by simp
  have hok : (ok != ok) = false := by simp
  have s1 := bw1.size
  go_wp2_with fail
  refine (toEditS_any ao n cap E _ (hr.keep bw1) hn hz).mono ?_
  rintro e w2 ⟨G0, G1, G2, rfl, ho2, q2⟩
  have bw2 := bw1.trans (q2.mono bw1.size)
  clear bw1
  have s2 := q2.size
  clear q2
  go_wp2_with fail
  refine (HS.out _ n _ (ho2.row hbd HDB.out true)).mono ?_
  clear HS ho2
  rintro e w3 ⟨wa, wc, rfl, L3, q3⟩
  obtain ⟨e2, he2⟩ : ∃ e, e = w2.heap.size := ⟨_, rfl⟩
  obtain ⟨e3, he3⟩ : ∃ e, e = w3.heap.size := ⟨_, rfl⟩
  rw [← he2, ← he3] at L3
  have le2 : w2.heap.size ≤ e2 ∧ e2 ≤ w2.heap.size := by omega
  have le3 : w3.heap.size ≤ e3 ∧ e3 ≤ w3.heap.size := by omega
  clear he2 he3
  have bw3 := bw2.trans (q3.mono bw2.size)
  clear bw2
  have s3 := q3.size
  clear q3
  have bn4 := below_new w3 (.cells #[.int .i64 nx, .int .i64 lg, .int .i64 sq, .slice wa N wc] 26)
  have M4 := VX.new w3 nx lg sq wa N wc 26
  have t4 : (w3.alloc (.cells #[.int .i64 nx, .int .i64 lg, .int .i64 sq, .slice wa N wc] 26)).heap.size = w3.heap.size + 1 := by simp
  have L4 := L3.keep bn4
  have bw4 := bw3.trans (bn4.mono bw3.size)
  clear L3 bw3
  have s4 := bn4.size
  clear bn4
  go_wp2_with fail
  generalize w3.alloc (.cells #[.int .i64 nx, .int .i64 lg, .int .i64 sq, .slice wa N wc] 26) = w4 at *
  refine (toEditS_any ao n cap E _ (hr.keep bw4) hn hz).mono ?_
  rintro e w5 ⟨F0, F1, F2, rfl, G5, q5⟩
  have g5h := G5.top
  have g5l := G5.lt
  have L5 := L4.keep q5
  have M5 := M4.keep q5
  have bw5 := bw4.trans (q5.mono bw4.size)
  clear L4 M4 bw4
  have s5 := q5.size
  clear q5
  obtain ⟨e4, he4⟩ : ∃ e, e = w4.heap.size := ⟨_, rfl⟩
  obtain ⟨e5, he5⟩ : ∃ e, e = w5.heap.size := ⟨_, rfl⟩
  rw [← he4] at G5 g5l ⊢
  have le4 : w4.heap.size ≤ e4 ∧ e4 ≤ w4.heap.size := by omega
  clear he4
  go_wp2_with fail
  refine (HI.out _ n _ (G5.row hbd HDB.out false)).mono ?_
  rintro e w7 ⟨ga, gc, rfl, U7, q7⟩
  obtain ⟨e7, he7⟩ : ∃ e, e = w7.heap.size := ⟨_, rfl⟩
  rw [← he5, ← he7] at U7
  have le5 : w5.heap.size ≤ e5 ∧ e5 ≤ w5.heap.size := by omega
  have le7 : w7.heap.size ≤ e7 ∧ e7 ≤ w7.heap.size := by omega
  clear he5 he7
  have L7 := L5.keep q7
  have M7 := M5.keep q7
  have G7 := G5.keep q7
  have bw7 := bw5.trans (q7.mono bw5.size)
  clear L5 M5 G5 bw5
  have s7 := q7.size
  clear q7
  have bn8 := below_new w7 (.cells #[.int .i64 nx, .int .i64 lg, .int .i64 sq, .slice ga N gc] 26)
  have Z8 := VX.new w7 nx lg sq ga N gc 26
  have t8 : (w7.alloc (.cells #[.int .i64 nx, .int .i64 lg, .int .i64 sq, .slice ga N gc] 26)).heap.size = w7.heap.size + 1 := by simp
  have L8 := L7.keep bn8
  have M8 := M7.keep bn8
  have G8 := G7.keep bn8
  have U8 := U7.keep bn8
  have bw8 := bw7.trans (bn8.mono bw7.size)
  clear L7 M7 G7 U7 bw7
  have s8 := bn8.size
  clear bn8
  obtain ⟨_, g0, g1, g2, g3⟩ := id Z8
  obtain ⟨_, m0, m1, m2, m3⟩ := id M8
  go_wp2_with fail
  generalize w7.alloc (.cells #[.int .i64 nx, .int .i64 lg, .int .i64 sq, .slice ga N gc] 26) = w8 at *
  refine (eqVerV HO.out ga wa gc wc _ _ _ _ w8 U8 L8).mono ?_
  rintro e w9 ⟨rfl, q9⟩
  have L9 := L8.keep q9
  have M9 := M8.keep q9
  have G9 := G8.keep q9
  have U9 := U8.keep q9
  have Z9 := Z8.keep q9
  have bw9 := bw8.trans (q9.mono bw8.size)
  clear L8 M8 G8 U8 Z8 bw8
  have s9 := q9.size
  clear q9
  clear g0 g1 g2 g3 m0 m1 m2 m3
  go_wp2_with fail
  refine (toEditS_any ao n cap E _ (hr.keep bw9) hn hz).mono ?_
  rintro e w11 ⟨J0, J1, J2, rfl, J11, q11⟩
  have L11 := L9.keep q11
  have M11 := M9.keep q11
  have G11 := G9.keep q11
  have U11 := U9.keep q11
  have Z11 := Z9.keep q11
  have bw11 := bw9.trans (q11.mono bw9.size)
  clear L9 M9 G9 U9 Z9 bw9
  have s11 := q11.size
  clear q11
  go_wp2_with fail
  refine (eqEditS_same _ _ n n n E _ (G11.row hbd HDB.out false) (J11.row hbd HDB.out false) hn hz).mono ?_
  rintro e w12 ⟨rfl, q12⟩
  clear J11
  have L12 := L11.keep q12
  have M12 := M11.keep q12
  have G12 := G11.keep q12
  have U12 := U11.keep q12
  have Z12 := Z11.keep q12
  have bw12 := bw11.trans (q12.mono bw11.size)
  clear L11 M11 G11 U11 Z11 bw11
  have s12 := q12.size
  clear q12
  go_wp2_with fail
  refine (markEditS_any e4 n n 1 e5 E F0 F1 F2 _ G12 (by omega) (by omega) hnt (by omega) (by omega)).mono ?_
  rintro e w13 ⟨rfl, R13'⟩
  have R13 := R13'.midR
  clear R13'
  have hpos : decide (((kOE E 1 n : Nat) : Int) < 0) = false := decide_eq_false (by omega)
  generalize ((kOE E 1 n : Nat) : Int) = kk at *
  have L13 := L12.midR R13 (by omega)
  have M13 := M12.midR R13 (by omega)
  have U13 := U12.midR R13 (by omega)
  have Z13 := Z12.midR R13 (by omega)
  have bw13 : Below w.heap.size w w13 := bw12.trans (R13.below (C := w.heap.size) (by omega) (by omega))
  have s13 := R13.size
  clear L12 M12 G12 U12 Z12 bw12
  clear R13
  obtain ⟨_, g0, g1, g2, g3⟩ := id Z13
  obtain ⟨_, m0, m1, m2, m3⟩ := id M13
  go_wp2_with fail
  refine (eqVerV HO.out ga wa gc wc _ _ _ _ w13 U13 L13).mono ?_
  rintro e w14 ⟨rfl, q14⟩
  have L14 := L13.keep q14
  have M14 := M13.keep q14
  have U14 := U13.keep q14
  have Z14 := Z13.keep q14
  have bw14 := bw13.trans (q14.mono bw13.size)
  clear L13 M13 U13 Z13 bw13
  have s14 := q14.size
  clear q14
  clear g0 g1 g2 g3 m0 m1 m2 m3
  obtain ⟨_, g0, g1, g2, g3⟩ := id Z14
  go_wp2_with fail
  refine (markVerV HO.out ga gc _ _ w14 U14).mono ?_
  rintro e w15 ⟨rfl, K15, R15⟩
  have L15 := L14.midR R15 (by omega)
  have M15 := M14.midR R15 (by omega)
  have Z15 := Z14.midR R15 (by omega)
  have bw15 : Below w.heap.size w w15 := bw14.trans (R15.below (C := w.heap.size) (by omega) (by omega))
  have s15 := R15.size
  clear L14 M14 U14 Z14 bw14
  clear R15
  clear g0 g1 g2 g3
  have hhd := fun (W : World) (h : VMk W e5 e7 ga N LA) => heldVerV HO.out ga gc _ _ W h
  have hmp : ¬ ((1 + 4 * sumM (fun i => (LA i).length) N : Nat) : Int) < 0 := by omega
  generalize ((1 + 4 * sumM (fun i => (LA i).length) N : Nat) : Int) = mm at hmp hhd ⊢
  have hmd : decide (mm < 0) = false := decide_eq_false hmp
  obtain ⟨_, g0, g1, g2, g3⟩ := id Z15
  go_wp2_with fail
  refine (hhd _ K15).mono ?_
  rintro e w16 ⟨rfl, q16⟩
  have L16 := L15.keep q16
  have M16 := M15.keep q16
  have Z16 := Z15.keep q16
  have K16 := K15.keep q16
  have bw16 := bw15.trans (q16.mono bw15.size)
  clear L15 M15 Z15 K15 bw15
  have s16 := q16.size
  clear q16
  clear g0 g1 g2 g3
  go_wp2_with fail
  refine (toEditS_any ao n cap E _ (hr.keep bw16) hn hz).mono ?_
  rintro e w17 ⟨J0, J1, J2, rfl, ho17, q17⟩
  have L17 := L16.keep q17
  have M17 := M16.keep q17
  have Z17 := Z16.keep q17
  have K17 := K16.keep q17
  have bw17 := bw16.trans (q17.mono bw16.size)
  clear L16 M16 Z16 K16 bw16
  have s17 := q17.size
  clear q17
  go_wp2_with fail
  refine (HI.out _ n _ (ho17.row hbd HDB.out false)).mono ?_
  rintro e w18 ⟨pa, pc, rfl, U18, q18⟩
  clear HI ho17
  have L18 := L17.keep q18
  have M18 := M17.keep q18
  have Z18 := Z17.keep q18
  have K18 := K17.keep q18
  have bw18 := bw17.trans (q18.mono bw17.size)
  clear L17 M17 Z17 K17 bw17
  have s18 := q18.size
  clear q18
  have bn19 := below_new w18 (.cells #[.int .i64 nx, .int .i64 lg, .int .i64 sq, .slice pa N pc] 26)
  have H19 := VX.new w18 nx lg sq pa N pc 26
  have t19 : (w18.alloc (.cells #[.int .i64 nx, .int .i64 lg, .int .i64 sq, .slice pa N pc] 26)).heap.size = w18.heap.size + 1 := by simp
  have L19 := L18.keep bn19
  have M19 := M18.keep bn19
  have Z19 := Z18.keep bn19
  have K19 := K18.keep bn19
  have U19 := U18.keep bn19
  have bw19 := bw18.trans (bn19.mono bw18.size)
  clear L18 M18 Z18 K18 U18 bw18
  have s19 := bn19.size
  clear bn19
  obtain ⟨_, g0, g1, g2, g3⟩ := id H19
  obtain ⟨_, m0, m1, m2, m3⟩ := id M19
  go_wp2_with fail
  generalize w18.alloc (.cells #[.int .i64 nx, .int .i64 lg, .int .i64 sq, .slice pa N pc] 26) = w19 at *
  refine (eqVerV HO.out pa wa pc wc _ _ _ _ w19 U19 L19).mono ?_
  rintro e w20 ⟨rfl, q20⟩
  have L20 := L19.keep q20
  have M20 := M19.keep q20
  have Z20 := Z19.keep q20
  have K20 := K19.keep q20
  have U20 := U19.keep q20
  have H20 := H19.keep q20
  have bw20 := bw19.trans (q20.mono bw19.size)
  clear L19 M19 Z19 K19 U19 H19 bw19
  have s20 := q20.size
  clear q20
  clear g0 g1 g2 g3 m0 m1 m2 m3
  obtain ⟨_, g0, g1, g2, g3⟩ := id Z20
  go_wp2_with fail
  refine (hhd _ K20).mono ?_
  rintro e w21 ⟨rfl, q21⟩
  have bw21 := bw20.trans (q21.mono bw20.size)
  clear q21 hhd
  go_wp2
  go_ret
  exact ⟨rfl, bw21⟩
end Go.Proofs.Ytofdhgffnkhdfaa
