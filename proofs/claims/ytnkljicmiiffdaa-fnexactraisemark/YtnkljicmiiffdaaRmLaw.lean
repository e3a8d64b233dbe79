/- The law of RaiseMark, walked. -/
import Derived.Test.YtnkljicmiiffdaaRm
import Derived.Deep.RegionHeld3
namespace Go.Proofs.Ytnkljicmiiffdaa
open Go.RowKit
set_option linter.unusedSimpArgs false
set_option linter.unusedVariables false

theorem BdAt.rng {w w' : World} {b lo hi : Nat} {z h mk : Int} {sv : Value} (H : BdAt w b z h mk sv) (hr : Rng lo hi w w') (hb : b < lo ∨ hi ≤ b) : BdAt w' b z h mk sv :=
  have k : ∀ j, w'.cell? ⟨b, j, none⟩ = w.cell? ⟨b, j, none⟩ := fun j => World.cell?_of_block (w := w) (a := ⟨b, j, none⟩) (hr.block b H.lt hb)
  ⟨Nat.lt_of_lt_of_le H.lt hr.size, (k _).trans H.c0, (k _).trans H.c1, (k _).trans H.c2, (k _).trans H.c3⟩
theorem BA.rng {w w' : World} {base top lo hi n : Nat} {v : Value} {X : Nat → Wn} (h : BA w base top v n X) (hr : Rng lo hi w w') (hd : top ≤ lo ∨ hi ≤ base) : BA w' base top v n X :=
  h.same hr.size (fun c h1 h2 => hr.block c (by have := h.1; omega) (by omega))

/-- What RaiseMark answers, in both texts. -/
theorem rm_out (z h mk t : Int) (n : Nat) (X : Nat → Wn) : ∃ (z' h' mk' : Int) (n' : Nat) (c : Int), n' ≤ n ∧
    (∀ (ao : Option Addr) (cap : Nat) (w : World), WiRow w ao n X → n ≤ 1048576 → WiSize n X → Calls Try.prog 17 #[.agg #[.int .i64 z, .int .i64 h, .int .i64 mk, .slice ao n cap], .int .i64 t] w fun e w' => BAns z' h' mk' n' X c w e w') ∧
    (∀ (ao : Option Addr) (cap : Nat) (w : World), WiRow w ao n X → n ≤ 1048576 → WiSize n X → Calls Try.prog 18 #[.agg #[.int .i64 z, .int .i64 h, .int .i64 mk, .slice ao n cap], .int .i64 t] w fun e w' => BAns z' h' mk' n' X c w e w') := by
  by_cases hG : GBd z h mk n X
  · by_cases hk : RmOk mk t
    · exact ⟨z, h, t, n, 0, Nat.le_refl _, fun ao cap w hr hn hz => (raiseMark_spec_good z h mk t ao n cap X w hr hn hz hG).mono (fun _ _ hh => hh.1 hk), fun ao cap w hr hn hz => (raiseMark_impl_good z h mk t ao n cap X w hr hn hz hG).mono (fun _ _ hh => hh.1 hk)⟩
    · exact ⟨z, h, mk, n, 1, Nat.le_refl _, fun ao cap w hr hn hz => (raiseMark_spec_good z h mk t ao n cap X w hr hn hz hG).mono (fun _ _ hh => hh.2 hk), fun ao cap w hr hn hz => (raiseMark_impl_good z h mk t ao n cap X w hr hn hz hG).mono (fun _ _ hh => hh.2 hk)⟩
  · exact ⟨0, 0, 0, 0, 1, Nat.zero_le _, fun ao cap w hr hn hz => raiseMark_spec_bad z h mk t ao n cap X w hr hn hz hG, fun ao cap w hr hn hz => raiseMark_impl_bad z h mk t ao n cap X w hr hn hz hG⟩

set_option maxRecDepth 100000 in
set_option maxHeartbeats 16000000 in
theorem raiseMark_law (z h mk : Int) (ao : Option Addr) (n cap : Nat) (X : Nat → Wn) (t : Int) (w : World) (hr : WiRow w ao n X) (hb4 : (-9223372036854775808 ≤ z ∧ z ≤ 9223372036854775807) ∧ (-9223372036854775808 ≤ h ∧ h ≤ 9223372036854775807) ∧ (-9223372036854775808 ≤ mk ∧ mk ≤ 9223372036854775807)) (hnx : n ≤ 9223372036854775807) (ht : -9223372036854775808 ≤ t ∧ t ≤ 9223372036854775807) :
    Calls Try.prog 5 #[.agg #[.int .i64 z, .int .i64 h, .int .i64 mk, .slice ao n cap], .int .i64 t] w fun e w' => e = .returned (.bool true) ∧ Below w.heap.size w w' := by
  obtain ⟨z', h', mk', n', c, hn', hS, hI⟩ := rm_out z h mk t n X
  have hB := below_new w (.cells #[.int .i64 z, .int .i64 h, .int .i64 mk, .slice ao n cap] 27)
  have A := BdAt.new w z h mk (.slice ao n cap) 27
  have hr0 := hr.keep hB
  clear hb4 ht
  go_enter Try.func5, Try.ntmps5
  go_wp2_with fail
  refine (szBoard_any z h mk ao n cap X 1048576 _ hr0 (by omega) hnx).mono ?_
  rintro e w1 ⟨v, rfl, hv1, hv2, hv3, q1⟩
  have bw1 : Below w.heap.size w w1 := hB.trans (q1.mono (by simp))
  have A1 := A.keep q1
  clear q1 A hB hr0
  by_cases hv : v < 0
  · clear hv3 hS hI
    go_wp2
    go_ret
    exact ⟨rfl, bw1⟩
  obtain ⟨hn, hz⟩ := hv3 (by omega)
  clear hv3 hnx
  have hbd := hr.bd
  have hfb := hr.fb
  have hbd' : ∀ i, i < n' → WiB (X i) := fun i hi => hbd i (by omega)
  have hfb' : FBw n' X := fun i hi => hfb i (by omega)
  have hz' : WiSize n' X := fun i hi => hz i (by omega)
  have hnn : n' ≤ 1048576 := by omega
  have sA := A1.lt
  obtain ⟨_, a0, a1, a2, a3⟩ := id A1
  go_wp2_with fail
  refine (toBoard_any z h mk ao n cap X _ (hr.keep bw1) hn hz).mono ?_
  rintro e w2 ⟨g2, G0, G1, rfl, hg2, ho2, q2⟩
  have A2 := A1.keep q2
  have bw2 : Below w.heap.size w w2 := bw1.trans (q2.mono bw1.size)
  have s2 := q2.size
  clear q2 A1 a0 a1 a2 a3
  go_wp2_with fail
  refine (hS _ n _ (ho2.row hbd) hn hz).mono ?_
  clear hS
  rintro e w3 ⟨vw, rfl, BW, q3⟩
  obtain ⟨wa, wc, rfl⟩ := BW.form
  have hB3 := below_new w3 (.cells #[.int .i64 z', .int .i64 h', .int .i64 mk', .slice wa n' wc] 32)
  have M := BdAt.new w3 z' h' mk' (.slice wa n' wc) 32
  have A3 := (A2.keep q3).keep hB3
  have BW3 := BW.keep hB3
  have s3 := q3.size
  have bw3' : Below w.heap.size w w3 := bw2.trans (q3.mono bw2.size)
  have bw3 := bw3'.trans (hB3.mono bw3'.size)
  obtain ⟨_, a0, a1, a2, a3⟩ := id A3
  clear q3 A2 ho2 BW hB3 bw3' bw2 bw1
  go_wp2_with fail
  obtain ⟨W3, hW3⟩ : ∃ W3, W3 = w3.alloc (.cells #[.int .i64 z', .int .i64 h', .int .i64 mk', .slice wa n' wc] 32) := ⟨_, rfl⟩
  have sW3 : W3.heap.size = w3.heap.size + 1 := by rw [hW3]; simp
  rw [← hW3] at M A3 BW3 bw3 ⊢
  clear hW3
  refine (toBoard_any z h mk ao n cap X _ (hr.keep bw3) hn hz).mono ?_
  rintro e w4 ⟨g4, L0, L1, rfl, hg4, ho4, q4⟩
  have hB4 := below_new w4 (.cells #[.int .i64 z, .int .i64 h, .int .i64 mk, .slice (some ⟨g4, 0, none⟩) n n] 32)
  have Xb := BdAt.new w4 z h mk (.slice (some ⟨g4, 0, none⟩) n n) 32
  have BX := (ba_own ho4).keep hB4
  have A4 := (A3.keep q4).keep hB4
  have M4 := (M.keep q4).keep hB4
  have BW4 := (BW3.keep q4).keep hB4
  have s4 := q4.size
  have g4lt := ho4.lt
  have bw4' : Below w.heap.size w w4 := bw3.trans (q4.mono bw3.size)
  have bw4 := bw4'.trans (hB4.mono bw4'.size)
  have hoX := ho4.keep hB4
  obtain ⟨_, x0, x1, x2, x3⟩ := id Xb
  clear q4 A3 M BW3 hB4 bw4' bw3 ho4 a0 a1 a2 a3
  go_wp2_with fail
  obtain ⟨W4, hW4⟩ : ∃ W4, W4 = w4.alloc (.cells #[.int .i64 z, .int .i64 h, .int .i64 mk, .slice (some ⟨g4, 0, none⟩) n n] 32) := ⟨_, rfl⟩
  have sW4 : W4.heap.size = w4.heap.size + 1 := by rw [hW4]; simp
  rw [← hW4] at Xb BX A4 M4 BW4 bw4 hoX ⊢
  clear hW4
  refine (hI _ n _ (hoX.row hbd) hn hz).mono ?_
  rintro e w5 ⟨vg, rfl, BG, q5⟩
  obtain ⟨ga, gc, rfl⟩ := BG.form
  have hB5 := below_new w5 (.cells #[.int .i64 z', .int .i64 h', .int .i64 mk', .slice ga n' gc] 32)
  have Gb := BdAt.new w5 z' h' mk' (.slice ga n' gc) 32
  have A5 := (A4.keep q5).keep hB5
  have M5 := (M4.keep q5).keep hB5
  have X5 := (Xb.keep q5).keep hB5
  have BW5 := (BW4.keep q5).keep hB5
  have BX5 := (BX.keep q5).keep hB5
  have BG5 := BG.keep hB5
  have hoX5 := (hoX.keep q5).keep hB5
  have s5 := q5.size
  have bw5' : Below w.heap.size w w5 := bw4.trans (q5.mono bw4.size)
  have bw5 := bw5'.trans (hB5.mono bw5'.size)
  obtain ⟨_, g0, g1, g2', g3⟩ := id Gb
  obtain ⟨_, m0, m1, m2, m3⟩ := id M5
  clear q5 A4 M4 Xb BW4 BX BG hB5 bw5' bw4 hoX x0 x1 x2 x3
  go_wp2_with fail
  obtain ⟨W5, hW5⟩ : ∃ W5, W5 = w5.alloc (.cells #[.int .i64 z', .int .i64 h', .int .i64 mk', .slice ga n' gc] 32) := ⟨_, rfl⟩
  have sW5 : W5.heap.size = w5.heap.size + 1 := by rw [hW5]; simp
  rw [← hW5] at Gb A5 M5 X5 BW5 BX5 BG5 bw5 hoX5 ⊢
  clear hW5
  refine (eqBoard_same z' h' mk' ga wa n' gc wc X _ (BG5.row hbd' hfb').2 (BW5.row hbd' hfb').2 hnn hz').mono ?_
  rintro e w6 ⟨rfl, q6⟩
  have A6 := A5.keep q6
  have M6 := M5.keep q6
  have X6 := X5.keep q6
  have G6 := Gb.keep q6
  have BW6 := BW5.keep q6
  have BX6 := BX5.keep q6
  have BG6 := BG5.keep q6
  have hoX6 := hoX5.keep q6
  have bw6 : Below w.heap.size w w6 := bw5.trans (q6.mono bw5.size)
  have s6 := q6.size
  clear q6 A5 M5 X5 Gb BW5 BX5 BG5 hoX5 bw5 g0 g1 g2' g3 m0 m1 m2 m3
  obtain ⟨_, a0, a1, a2, a3⟩ := id A6
  obtain ⟨_, x0, x1, x2, x3⟩ := id X6
  have rd := (hr.keep bw6).keep (Below.refl _ w6).drew
  go_wp2
  go_region_held3 (fun w' => w'.cell? ⟨w.heap.size, 0, none⟩ = some (.int .i64 z) ∧ w'.cell? ⟨w.heap.size, 1, none⟩ = some (.int .i64 h) ∧ w'.cell? ⟨w.heap.size, 2, none⟩ = some (.int .i64 mk) ∧ w'.cell? ⟨w.heap.size, 3, none⟩ = some (.slice ao n cap) ∧ w'.cell? ⟨w4.heap.size, 0, none⟩ = some (.int .i64 z) ∧ w'.cell? ⟨w4.heap.size, 1, none⟩ = some (.int .i64 h) ∧ w'.cell? ⟨w4.heap.size, 2, none⟩ = some (.int .i64 mk) ∧ w'.cell? ⟨w4.heap.size, 3, none⟩ = some (.slice (some ⟨g4, 0, none⟩) n n)) (go_keep) (first | (go_at_call 14; refine (toBoard_any z h mk ao n cap X _ rd hn hz).mono ?_; rintro e w7 ⟨g7, N0, N1, rfl, hg7, ho7, q7⟩; have q7' := (Below.refl _ w6).drew.trans q7; have A7 := A6.keep q7'; have M7 := M6.keep q7'; have X7 := X6.keep q7'; have G7 := G6.keep q7'; have BW7 := BW6.keep q7'; have BX7 := BX6.keep q7'; have BG7 := BG6.keep q7'; have hoX7 := hoX6.keep q7'; have s7 := q7'.size; have bw7 := bw6.trans (q7'.mono bw6.size); obtain ⟨_, p0, p1, p2, p3⟩ := id A7; obtain ⟨_, y0, y1, y2, y3⟩ := id X7; clear q7 q7') | (go_at_call 16; refine (eqBoard_same z h mk _ _ n n n X _ (hoX7.row hbd) (ho7.row hbd) hn hz).mono ?_; rintro e w8 ⟨rfl, q8⟩; have A8 := A7.keep q8; have M8 := M7.keep q8; have X8 := X7.keep q8; have G8 := G7.keep q8; have BW8 := BW7.keep q8; have BX8 := BX7.keep q8; have BG8 := BG7.keep q8; have s8 := q8.size; have bw8 := bw7.trans (q8.mono bw7.size); obtain ⟨_, pp0, pp1, pp2, pp3⟩ := id A8; obtain ⟨_, yy0, yy1, yy2, yy3⟩ := id X8; clear q8))
  clear A6 M6 X6 G6 BW6 BX6 BG6 hoX6 bw6 A7 M7 X7 G7 BW7 BX7 BG7 hoX7 bw7 a0 a1 a2 a3 x0 x1 x2 x3 p0 p1 p2 p3 y0 y1 y2 y3 pp0 pp1 pp2 pp3 ho7 rd
  go_wp2_with fail
  refine (markBoard_any z h mk _ g4 w4.heap.size n 1 X _ BX8 (by omega) (by omega) hz hn).mono ?_
  rintro e w9 ⟨rfl, _, R9⟩
  have A9 := A8.rng R9 (by omega)
  have M9 := M8.rng R9 (by omega)
  have G9 := G8.rng R9 (by omega)
  have BW9 := BW8.rng R9 (by omega)
  have BG9 := BG8.rng R9 (by omega)
  have bw9 : Below w.heap.size w w9 := bw8.trans (R9.below (by omega) bw8.size)
  have s9 := R9.size
  have hpos : decide (((kOWi X 1 n : Nat) : Int) < 0) = false := decide_eq_false (by omega)
  generalize ((kOWi X 1 n : Nat) : Int) = kk at *
  clear A8 M8 X8 G8 BW8 BX8 BG8 bw8 R9 yy0 yy1 yy2 yy3
  obtain ⟨_, g0, g1, g2', g3⟩ := id G9
  obtain ⟨_, m0, m1, m2, m3⟩ := id M9
  go_wp2_with fail
  refine (eqBoard_same z' h' mk' ga wa n' gc wc X _ (BG9.row hbd' hfb').2 (BW9.row hbd' hfb').2 hnn hz').mono ?_
  rintro e w10 ⟨rfl, q10⟩
  have A10 := A9.keep q10
  have M10 := M9.keep q10
  have G10 := G9.keep q10
  have BW10 := BW9.keep q10
  have BG10 := BG9.keep q10
  have bw10 : Below w.heap.size w w10 := bw9.trans (q10.mono bw9.size)
  have s10 := q10.size
  clear q10 A9 M9 G9 BW9 BG9 bw9 g0 g1 g2' g3 m0 m1 m2 m3
  obtain ⟨_, g0, g1, g2', g3⟩ := id G10
  go_wp2_with fail
  refine (markBoard_any z' h' mk' _ W4.heap.size w5.heap.size n' 1 X _ BG10 (by omega) (by omega) hz' hnn).mono ?_
  rintro e w11 ⟨rfl, hH, R11⟩
  have HH : Hid (MHeld 0 1 n' (.slice ga n' gc) X w11) := hH
  have A11 := A10.rng R11 (by omega)
  have M11 := M10.rng R11 (by omega)
  have G11 := G10.rng R11 (by omega)
  have BW11 := BW10.rng R11 (by omega)
  have bw11 : Below w.heap.size w w11 := bw10.trans (R11.below (by omega) bw10.size)
  have s11 := R11.size
  have hheld := fun W hW => heldBoard_yes z' h' mk' (.slice ga n' gc) n' 1 X w11 W ⟨_, _, rfl⟩ HH.out hW
  have hqd : decide (((kOWi X 1 n' : Nat) : Int) < 0) = false := decide_eq_false (by omega)
  generalize ((kOWi X 1 n' : Nat) : Int) = qq at *
  clear A10 M10 G10 BW10 BG10 bw10 R11 hH HH g0 g1 g2' g3
  obtain ⟨_, g0, g1, g2', g3⟩ := id G11
  go_wp2_with fail
  refine (hheld _ (Below.refl _ _)).mono ?_
  rintro e w12 ⟨rfl, q12⟩
  have A12 := A11.keep q12
  have M12 := M11.keep q12
  have G12 := G11.keep q12
  have BW12 := BW11.keep q12
  have bw12 : Below w.heap.size w w12 := bw11.trans (q12.mono bw11.size)
  have f12 := q12
  clear q12 A11 M11 G11 BW11 bw11 g0 g1 g2' g3
  obtain ⟨_, a0, a1, a2, a3⟩ := id A12
  go_wp2_with fail
  refine (toBoard_any z h mk ao n cap X _ (hr.keep bw12) hn hz).mono ?_
  rintro e w13 ⟨g13, J0, J1, rfl, hg13, ho13, q13⟩
  have M13 := M12.keep q13
  have G13 := G12.keep q13
  have BW13 := BW12.keep q13
  have bw13 : Below w.heap.size w w13 := bw12.trans (q13.mono bw12.size)
  have f13 := f12.trans (q13.mono f12.size)
  clear q13 A12 M12 G12 BW12 bw12 f12 a0 a1 a2 a3
  go_wp2_with fail
  refine (hI _ n _ (ho13.row hbd) hn hz).mono ?_
  rintro e w14 ⟨vh, rfl, BH, q14⟩
  obtain ⟨pa, pc, rfl⟩ := BH.form
  have hB14 := below_new w14 (.cells #[.int .i64 z', .int .i64 h', .int .i64 mk', .slice pa n' pc] 32)
  have Hb := BdAt.new w14 z' h' mk' (.slice pa n' pc) 32
  have M14 := (M13.keep q14).keep hB14
  have G14 := (G13.keep q14).keep hB14
  have BW14 := (BW13.keep q14).keep hB14
  have BH14 := BH.keep hB14
  have bw14' : Below w.heap.size w w14 := bw13.trans (q14.mono bw13.size)
  have bw14 := bw14'.trans (hB14.mono bw14'.size)
  have f14' := f13.trans (q14.mono f13.size)
  have f14 := f14'.trans (hB14.mono f14'.size)
  clear q14 M13 G13 BW13 BH bw13 f13 f14' bw14' hB14 ho13 hI
  obtain ⟨_, p0, p1, p2, p3⟩ := id Hb
  obtain ⟨_, m0, m1, m2, m3⟩ := id M14
  go_wp2_with fail
  obtain ⟨W14, hW14⟩ : ∃ W14, W14 = w14.alloc (.cells #[.int .i64 z', .int .i64 h', .int .i64 mk', .slice pa n' pc] 32) := ⟨_, rfl⟩
  rw [← hW14] at Hb M14 G14 BW14 BH14 bw14 f14 ⊢
  clear hW14
  refine (eqBoard_same z' h' mk' pa wa n' pc wc X _ (BH14.row hbd' hfb').2 (BW14.row hbd' hfb').2 hnn hz').mono ?_
  rintro e w15 ⟨rfl, q15⟩
  have G15 := G14.keep q15
  have bw15 : Below w.heap.size w w15 := bw14.trans (q15.mono bw14.size)
  have f15 := f14.trans (q15.mono f14.size)
  clear q15 M14 G14 BW14 BH14 bw14 f14 Hb p0 p1 p2 p3 m0 m1 m2 m3
  obtain ⟨_, g0, g1, g2', g3⟩ := id G15
  go_wp2_with fail
  refine (hheld _ f15).mono ?_
  rintro e w16 ⟨rfl, q16⟩
  have bw16 : Below w.heap.size w w16 := bw15.trans (q16.mono bw15.size)
  clear q16 hheld
  go_wp2
  go_ret
  exact ⟨rfl, bw16⟩
end Go.Proofs.Ytnkljicmiiffdaa
