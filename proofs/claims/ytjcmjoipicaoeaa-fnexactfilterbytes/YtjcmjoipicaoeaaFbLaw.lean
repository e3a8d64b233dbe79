/- The law of FilterBytes, walked. -/
import Derived.Test.YtjcmjoipicaoeaaCp
import Derived.Deep.RegionHeld3
namespace Go.Proofs.Ytjcmjoipicaoeaa
open Go.RowKit
set_option linter.unusedSimpArgs false
set_option linter.unusedVariables false

theorem markFilter_any (y : Int) (g n cap : Nat) (f : Nat → Int) (w : World) (ho : Own w g 0 n f) (hn : n ≤ 1048576) :
    Calls Try.prog 23 #[.agg #[.int .i64 y, .slice (some ⟨g, 0, none⟩) n cap], .int .i64 1] w fun e w' => e = .returned (.int .i64 ((1 + n : Nat) : Int)) ∧ Mid g (g + 1) w w' := by
  have hB := fun o => below_new w o
  go_enter Try.func23, Try.ntmps23
  go_wp2_with fail
  refine (markByteS_any g 0 n cap f 1 _ (ho.keep (hB _)) hn (by omega)).mono ?_
  rintro e w1 ⟨rfl, _, X1⟩
  have M1 := (Mid.of_below (B := g) (U := g + 1) (hB _)).trans (Mid.of_others X1 (Nat.le_refl _) (Nat.lt_succ_self _))
  go_wp2
  go_ret
  exact ⟨rfl, M1⟩

/-- L, ok: what FilterBytes answers. -/
def IsB (y : Int) (n : Nat) (f : Nat → Int) (L : List Int) (ok : Bool) : Prop :=
  (GoodF y n ∧ L = fbL y f n ∧ ok = true) ∨ (¬ GoodF y n ∧ L = [] ∧ ok = false)
theorem isB_ex (y : Int) (n : Nat) (f : Nat → Int) : ∃ L ok, IsB y n f L ok ∧ L.length ≤ 1048576 := by
  by_cases h : GoodF y n
  · have := fbL_len y f n
    obtain ⟨_, _, h2⟩ := id h
    exact ⟨_, true, .inl ⟨h, rfl, rfl⟩, by omega⟩
  · exact ⟨[], false, .inr ⟨h, rfl, rfl⟩, Nat.zero_le _⟩
theorem bo_is {y : Int} {n : Nat} {f : Nat → Int} {L : List Int} {ok : Bool} {w w' : World} {e : Ending} (h : FBO y n f w e w') (hI : IsB y n f L ok) :
    ∃ ao c, e = .returned (.tuple #[.slice ao L.length c, .bool ok]) ∧ BV w' w.heap.size w'.heap.size ao L ∧ Below w.heap.size w w' := by
  rcases hI with ⟨hg, rfl, rfl⟩ | ⟨hg, rfl, rfl⟩
  · exact h.1 hg
  · exact h.2 hg

set_option maxHeartbeats 4000000 in
theorem filterBytes_law (y : Int) (ao : Option Addr) (n cap : Nat) (f : Nat → Int) (w : World) (hr : Row w ao n f) (hnx : n ≤ 9223372036854775807) :
    Calls Try.prog 7 #[.agg #[.int .i64 y, .slice ao n cap]] w fun e w' => e = .returned (.bool true) ∧ Below w.heap.size w w' := by
  have hB := below_new w (.cells #[.int .i64 y, .slice ao n cap] 28)
  have A0 := FAt.new w y (.slice ao n cap) 28
  obtain ⟨L, ok, hI, hLm⟩ := isB_ex y n f
  have HI : Hid (IsB y n f L ok) := hI
  have hok : (ok != ok) = false := by simp
  clear hI
  go_enter Try.func7, Try.ntmps7
  go_wp2_with fail
  refine (szFilter_any y ao n cap _ hnx).mono ?_
  rintro e w1 ⟨v, rfl, hv1, hv2, hv3, hb1⟩
  have A1 := A0.keep hb1
  have bw1 : Below w.heap.size w w1 := hB.trans (hb1.mono (by simp))
  clear hb1 hB A0
  by_cases hv : v < 0
  · clear hv3
    go_wp2
    go_ret
    exact ⟨rfl, bw1⟩
  · have hn := hv3 (by omega)
    clear hv3 hnx
    obtain ⟨la, a0, a1⟩ := A1
    go_wp2_with fail
    refine (toFilter_any y ao n cap f _ (hr.keep bw1) hn).mono ?_
    rintro e w2 ⟨g2, rfl, hg2, ho2, hb2⟩
    have A2 := FAt.keep ⟨la, a0, a1⟩ hb2
    have bw2 : Below w.heap.size w w2 := bw1.trans (hb2.mono bw1.size)
    clear hb2 bw1 la a0 a1
    go_wp2_with fail
    refine (filterBytes_spec y _ n n f _ ho2.row hn).mono ?_
    intro e w3 hout
    obtain ⟨ao3, c3, rfl, V3, q3⟩ := bo_is hout HI.out
    clear hout
    obtain ⟨la, a0, a1⟩ := A2.keep q3
    have bw3 : Below w.heap.size w w3 := bw2.trans (q3.mono bw2.size)
    have s23 := bw2.size
    have la3 := la
    clear q3 A2 bw2 ho2
    go_wp2_with fail
    refine (toFilter_any y ao n cap f _ (hr.keep bw3) hn).mono ?_
    rintro e w4 ⟨g4, rfl, hg4, ho4, hb4⟩
    have hB4 := below_new w4 (.cells #[.int .i64 y, .slice (some ⟨g4, 0, none⟩) n n] 31)
    have A4 := (FAt.keep ⟨la, a0, a1⟩ hb4).keep hB4
    have X4 := FAt.new w4 y (.slice (some ⟨g4, 0, none⟩) n n) 31
    have W4 := (V3.keep hb4).keep hB4
    have hg4' := ho4.lt
    have o4 := ho4.keep hB4
    have bw4 := (bw3.trans (hb4.mono bw3.size)).trans (hB4.mono (by have := bw3.size; have := hb4.size; omega))
    have s3 := bw3.size
    clear hb4 hB4 bw3 la a0 a1 ho4 V3
    obtain ⟨lx, x0, x1⟩ := id X4
    go_wp2_with fail
    refine (filterBytes_impl y _ n n f _ o4.row hn).mono ?_
    intro e w5 hout
    obtain ⟨ao5, c5, rfl, V5, q5⟩ := bo_is hout HI.out
    clear hout
    have A5 := A4.keep q5
    have X5 := X4.keep q5
    have o5 := o4.keep q5
    have W5 := W4.keep q5
    have bw5 : Below w.heap.size w w5 := bw4.trans (q5.mono bw4.size)
    have s5 := q5.size
    simp only [World.size_alloc] at s5 V5
    clear q5 A4 X4 o4 bw4 lx x0 x1 W4
    go_wp2_with fail
    refine (eqBV _ _ c5 c3 _ _ _ _ L _ V5 W5 hLm).mono ?_
    rintro e w6 ⟨rfl, q6⟩
    have A6 := A5.keep q6
    have X6 := X5.keep q6
    have o6 := o5.keep q6
    have W6 := W5.keep q6
    have V6 := V5.keep q6
    have bw6 : Below w.heap.size w w6 := bw5.trans (q6.mono bw5.size)
    have s6 := q6.size
    clear q6 A5 X5 o5 W5 V5 bw5
    obtain ⟨la, a0, a1⟩ := id A6
    obtain ⟨lx, x0, x1⟩ := id X6
    have szw := bw6.size
    have hrd := (hr.keep bw6).keep (Below.refl _ _).drew
    go_wp2
    go_region_held3 (fun w' => w'.cell? ⟨w4.heap.size, 0, none⟩ = some (.int .i64 y) ∧ w'.cell? ⟨w4.heap.size, 1, none⟩ = some (.slice (some ⟨g4, 0, none⟩) n n) ∧ w'.cell? ⟨w.heap.size, 0, none⟩ = some (.int .i64 y) ∧ w'.cell? ⟨w.heap.size, 1, none⟩ = some (.slice ao n cap)) (go_keep) (first | (go_at_call 14; refine (toFilter_any y ao n cap f _ hrd hn).mono ?_; rintro e w7 ⟨g7, rfl, hg7, ho7, hb7⟩; have hb7' := (Below.refl _ w6).drew.trans hb7; have A7 := A6.keep hb7'; have X7 := X6.keep hb7'; obtain ⟨la7, p0, p1⟩ := id A7; obtain ⟨lx7, r0, r1⟩ := id X7; have o7 := o6.keep hb7'; have W7 := W6.keep hb7'; have V7 := V6.keep hb7'; have bw7 : Below w.heap.size w w7 := bw6.trans (hb7'.mono szw); have szw7 := bw7.size; have s7 := hb7'.size; clear hb7 hb7') | (go_at_call 16; refine (eqFilter_same y _ _ n n n f _ o7.row ho7.row hn).mono ?_; rintro e w8 ⟨rfl, hb8⟩; have A8 := A7.keep hb8; have X8 := X7.keep hb8; obtain ⟨la8, pp0, pp1⟩ := id A8; obtain ⟨lx8, rr0, rr1⟩ := id X8; have o8 := o7.keep hb8; have W8 := W7.keep hb8; have V8 := V7.keep hb8; have bw8 : Below w.heap.size w w8 := bw7.trans (hb8.mono szw7); have s8 := hb8.size; clear hb8))
    clear A6 X6 o6 W6 V6 A7 X7 o7 W7 V7 hrd bw6 bw7
    go_wp2_with fail
    refine (markFilter_any y g4 n n f _ o8 hn).mono ?_
    rintro e w9 ⟨rfl, M9⟩
    have A9 := A8.mid M9 (by omega)
    have W9 := W8.mid M9 (by omega)
    have V9 := V8.mid M9 (by omega)
    have bw9 := bw8.trans (M9.below (C := w.heap.size) (by omega) (by omega))
    have s9 := M9.size
    clear M9 A8 W8 V8 bw8 X8 o8
    go_wp2_with fail
    refine (eqBV _ _ c5 c3 _ _ _ _ L _ V9 W9 hLm).mono ?_
    rintro e w10 ⟨rfl, q10⟩
    have A10 := A9.keep q10
    have W10 := W9.keep q10
    have V10 := V9.keep q10
    have bw10 := bw9.trans (q10.mono bw9.size)
    have s10 := q10.size
    clear q10 A9 W9 V9 bw9
    go_wp2_with fail
    refine (markBV _ c5 _ _ L _ V10 hLm).mono ?_
    rintro e w11 ⟨rfl, G11, M11⟩
    have A11 := A10.mid M11 (by omega)
    have W11 := W10.mid M11 (by omega)
    have bw11 := bw10.trans (M11.below (C := w.heap.size) (by omega) (by omega))
    have s11 := M11.size
    clear M11 A10 W10 V10 bw10
    go_wp2_with fail
    refine (held_one _ L.length c5 _ G11 hLm).mono ?_
    rintro e w12 ⟨rfl, q12⟩
    have A12 := A11.keep q12
    have W12 := W11.keep q12
    have G12 := G11.keep q12
    have bw12 := bw11.trans (q12.mono bw11.size)
    clear q12 A11 W11 G11 bw11
    obtain ⟨la', b0, b1⟩ := id A12
    go_wp2_with fail
    refine (toFilter_any y ao n cap f _ (hr.keep bw12) hn).mono ?_
    rintro e w13 ⟨g13, rfl, hg13, ho13, q13⟩
    have W13 := W12.keep q13
    have G13 := G12.keep q13
    have bw13 := bw12.trans (q13.mono bw12.size)
    clear q13 W12 G12 bw12 b0 b1 la' A12
    go_wp2_with fail
    refine (filterBytes_impl y _ n n f _ ho13.row hn).mono ?_
    intro e w14 hout
    obtain ⟨ao14, c14, rfl, V14, q14⟩ := bo_is hout HI.out
    clear hout
    have W14 := W13.keep q14
    have G14 := G13.keep q14
    have bw14 := bw13.trans (q14.mono bw13.size)
    clear q14 W13 G13 bw13 ho13
    go_wp2_with fail
    refine (eqBV _ _ c14 c3 _ _ _ _ L _ V14 W14 hLm).mono ?_
    rintro e w15 ⟨rfl, q15⟩
    have G15 := G14.keep q15
    have bw15 := bw14.trans (q15.mono bw14.size)
    clear q15 W14 V14 G14 bw14
    go_wp2_with fail
    refine (held_one _ L.length c5 _ G15 hLm).mono ?_
    rintro e w16 ⟨rfl, q16⟩
    have bw16 := bw15.trans (q16.mono bw15.size)
    go_wp2
    go_ret
    exact ⟨rfl, bw16⟩
end Go.Proofs.Ytjcmjoipicaoeaa
