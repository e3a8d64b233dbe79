/- The law of AggBytes, walked. -/
import Derived.Test.YtbaiihokdpojdaaBytI
import Derived.Test.YtbaiihokdpojdaaBV
import Derived.Test.YtbaiihokdpojdaaEq
import Derived.Deep.RegionHeld3
namespace Go.Proofs.Ytbaiihokdpojdaa
open Go.RowKit
set_option linter.unusedSimpArgs false
set_option linter.unusedVariables false

/-- L, ok: what AggBytes answers. -/
def IsB (c s lo hi : Int) (n : Nat) (f : Nat → Int) (fu : Bool) (L : List Int) (ok : Bool) : Prop :=
  (GoodA c s lo hi n f fu ∧ L = bl fu (nm c s lo hi f) 12 ∧ ok = true) ∨ (¬ GoodA c s lo hi n f fu ∧ L = [] ∧ ok = false)
theorem isB_ex (c s lo hi : Int) (n : Nat) (f : Nat → Int) (fu : Bool) : ∃ L ok, IsB c s lo hi n f fu L ok ∧ L.length ≤ 1048576 := by
  by_cases h : GoodA c s lo hi n f fu
  · have := bl_len fu (nm c s lo hi f) 12
    exact ⟨_, true, .inl ⟨h, rfl, rfl⟩, by omega⟩
  · exact ⟨[], false, .inr ⟨h, rfl, rfl⟩, Nat.zero_le _⟩
theorem bo_is {c s lo hi : Int} {n : Nat} {f : Nat → Int} {fu : Bool} {L : List Int} {ok : Bool} {w w' : World} {e : Ending} (h : BO c s lo hi n f fu w e w') (hI : IsB c s lo hi n f fu L ok) :
    ∃ ao c, e = .returned (.tuple #[.slice ao L.length c, .bool ok]) ∧ BV w' w.heap.size w'.heap.size ao L ∧ Below w.heap.size w w' := by
  obtain ⟨hb, h⟩ := h
  rcases hI with ⟨hg, rfl, rfl⟩ | ⟨hg, rfl, rfl⟩
  · rcases h with ⟨_, v, rfl, ho⟩ | ⟨hn, _⟩
    · obtain ⟨ao, c, rfl, hv⟩ := bv_of ho
      exact ⟨ao, c, rfl, hv, hb⟩
    · exact absurd hg hn
  · rcases h with ⟨h1, _⟩ | ⟨_, rfl⟩
    · exact absurd h1 hg
    · exact ⟨none, 0, rfl, bv_nil _ _ _ (Nat.le_refl _), hb⟩

set_option maxHeartbeats 4000000 in
theorem aggBytes_law (c s lo hi : Int) (ao : Option Addr) (n cap : Nat) (f : Nat → Int) (fu : Bool) (w : World) (hr : IRow w ao n f) (hc : -9223372036854775808 ≤ c ∧ c ≤ 9223372036854775807) (hs : -9223372036854775808 ≤ s ∧ s ≤ 9223372036854775807) (hnx : n ≤ 9223372036854775807) :
    Calls Try.prog 4 #[.agg #[.int .i64 c, .int .i64 s, .int .i64 lo, .int .i64 hi, .slice ao n cap, .bool fu]] w fun e w' => e = .returned (.bool true) ∧ Below w.heap.size w w' := by
  have hB := below_new w (.cells #[.int .i64 c, .int .i64 s, .int .i64 lo, .int .i64 hi, .slice ao n cap, .bool fu] 24)
  have A0 := AAt.new w c s lo hi (.slice ao n cap) fu 24
  obtain ⟨L, ok, hI, hLm⟩ := isB_ex c s lo hi n f fu
  have HI : Hid (IsB c s lo hi n f fu L ok) := hI
  have hok : (ok != ok) = false := by simp
  clear hI
  go_enter Try.func4, Try.ntmps4
  go_wp2_with fail
  refine (szAgg_any c s lo hi ao n cap fu _ hnx).mono ?_
  rintro e w1 ⟨v, rfl, hv1, hv2, hv3, hb1⟩
  have A1 := A0.keep hb1
  have bw1 : Below w.heap.size w w1 := hB.trans (hb1.mono (by simp))
  clear hb1 hB A0
  by_cases hv : v < 0
  · clear hv3
    go_wp2
    go_ret
    exact ⟨rfl, bw1⟩
  · have hn := hv3 (by omega)
    clear hv3 hnx
    obtain ⟨la, a0, a1, a2, a3, a4, a5⟩ := A1
    go_wp2_with fail
    refine (toAgg_any c s lo hi ao n cap f fu _ (hr.keep bw1) hn).mono ?_
    rintro e w2 ⟨g2, rfl, hg2, ho2, hb2⟩
    have A2 := AAt.keep ⟨la, a0, a1, a2, a3, a4, a5⟩ hb2
    have bw2 : Below w.heap.size w w2 := bw1.trans (hb2.mono bw1.size)
    clear hb2 bw1 la a0 a1 a2 a3 a4 a5
    go_wp2_with fail
    refine (aggBytes_spec c s lo hi _ n n f fu _ ho2.row hn hs).mono ?_
    intro e w3 hout
    obtain ⟨ao3, c3, rfl, V3, q3⟩ := bo_is hout HI.out
    clear hout
    obtain ⟨la, a0, a1, a2, a3, a4, a5⟩ := A2.keep q3
    have bw3 : Below w.heap.size w w3 := bw2.trans (q3.mono bw2.size)
    have s23 := bw2.size
    have la3 := la
    clear q3 A2 bw2 ho2
    go_wp2_with fail
    refine (toAgg_any c s lo hi ao n cap f fu _ (hr.keep bw3) hn).mono ?_
    rintro e w4 ⟨g4, rfl, hg4, ho4, hb4⟩
    have hB4 := below_new w4 (.cells #[.int .i64 c, .int .i64 s, .int .i64 lo, .int .i64 hi, .slice (some ⟨g4, 0, none⟩) n n, .bool fu] 27)
    have A4 := (AAt.keep ⟨la, a0, a1, a2, a3, a4, a5⟩ hb4).keep hB4
    have X4 := AAt.new w4 c s lo hi (.slice (some ⟨g4, 0, none⟩) n n) fu 27
    have W4 := (V3.keep hb4).keep hB4
    have hg4' := ho4.lt
    have o4 := ho4.keep hB4
    have bw4 := (bw3.trans (hb4.mono bw3.size)).trans (hB4.mono (by have := bw3.size; have := hb4.size; omega))
    have s3 := bw3.size
    clear hb4 hB4 bw3 la a0 a1 a2 a3 a4 a5 ho4 V3
    obtain ⟨lx, x0, x1, x2, x3, x4, x5⟩ := id X4
    go_wp2_with fail
    refine (aggBytes_impl c s lo hi _ n n f fu _ o4.row hn hs).mono ?_
    intro e w5 hout
    obtain ⟨ao5, c5, rfl, V5, q5⟩ := bo_is hout HI.out
    clear hout
    have A5 := A4.keep q5
    have X5 := X4.keep q5
    have o5 := o4.keep q5
    have W5 := W4.keep q5
    have bw5 : Below w.heap.size w w5 := bw4.trans (q5.mono bw4.size)
    have s5 := q5.size
    simp only [World.size_alloc] at s5 V5
    clear q5 A4 X4 o4 bw4 lx x0 x1 x2 x3 x4 x5 W4
    go_wp2_with fail
    refine (eqBV _ _ c5 c3 _ _ _ _ L _ V5 W5 hLm).mono ?_
    rintro e w6 ⟨rfl, q6⟩
    have A6 := A5.keep q6
    have X6 := X5.keep q6
    have o6 := o5.keep q6
    have W6 := W5.keep q6
    have V6 := V5.keep q6
    have bw6 : Below w.heap.size w w6 := bw5.trans (q6.mono bw5.size)
    have s6 := q6.size
    clear q6 A5 X5 o5 W5 V5 bw5
    obtain ⟨la, a0, a1, a2, a3, a4, a5⟩ := id A6
    obtain ⟨lx, x0, x1, x2, x3, x4, x5⟩ := id X6
    have szw := bw6.size
    have hrd := (hr.keep bw6).keep (Below.refl _ _).drew
    go_wp2
    go_region_held3 (fun w' => w'.cell? ⟨w4.heap.size, 0, none⟩ = some (.int .i64 c) ∧ w'.cell? ⟨w4.heap.size, 1, none⟩ = some (.int .i64 s) ∧ w'.cell? ⟨w4.heap.size, 2, none⟩ = some (.int .i64 lo) ∧ w'.cell? ⟨w4.heap.size, 3, none⟩ = some (.int .i64 hi) ∧ w'.cell? ⟨w4.heap.size, 4, none⟩ = some (.slice (some ⟨g4, 0, none⟩) n n) ∧ w'.cell? ⟨w4.heap.size, 5, none⟩ = some (.bool fu) ∧ w'.cell? ⟨w.heap.size, 0, none⟩ = some (.int .i64 c) ∧ w'.cell? ⟨w.heap.size, 1, none⟩ = some (.int .i64 s) ∧ w'.cell? ⟨w.heap.size, 2, none⟩ = some (.int .i64 lo) ∧ w'.cell? ⟨w.heap.size, 3, none⟩ = some (.int .i64 hi) ∧ w'.cell? ⟨w.heap.size, 4, none⟩ = some (.slice ao n cap) ∧ w'.cell? ⟨w.heap.size, 5, none⟩ = some (.bool fu)) (go_keep) (first | (go_at_call 9; refine (toAgg_any c s lo hi ao n cap f fu _ hrd hn).mono ?_; rintro e w7 ⟨g7, rfl, hg7, ho7, hb7⟩; have hb7' := (Below.refl _ w6).drew.trans hb7; have A7 := A6.keep hb7'; have X7 := X6.keep hb7'; obtain ⟨la7, p0, p1, p2, p3, p4, p5⟩ := id A7; obtain ⟨lx7, r0, r1, r2, r3, r4, r5⟩ := id X7; have o7 := o6.keep hb7'; have W7 := W6.keep hb7'; have V7 := V6.keep hb7'; have bw7 : Below w.heap.size w w7 := bw6.trans (hb7'.mono szw); have szw7 := bw7.size; have s7 := hb7'.size; clear hb7 hb7') | (go_at_call 11; refine (eqAgg_same c s lo hi _ _ n n n f fu _ o7.row ho7.row hn).mono ?_; rintro e w8 ⟨rfl, hb8⟩; have A8 := A7.keep hb8; have X8 := X7.keep hb8; obtain ⟨la8, pp0, pp1, pp2, pp3, pp4, pp5⟩ := id A8; obtain ⟨lx8, rr0, rr1, rr2, rr3, rr4, rr5⟩ := id X8; have o8 := o7.keep hb8; have W8 := W7.keep hb8; have V8 := V7.keep hb8; have bw8 : Below w.heap.size w w8 := bw7.trans (hb8.mono szw7); have s8 := hb8.size; clear hb8))
    clear A6 X6 o6 W6 V6 A7 X7 o7 W7 V7 hrd bw6 bw7
    go_wp2_with fail
    refine (markAgg_any c s lo hi g4 n n f fu _ o8 hn).mono ?_
    rintro e w9 ⟨rfl, M9⟩
    have A9 := M9.aat A8 (by omega)
    have W9 := W8.mid M9 (by omega)
    have V9 := V8.mid M9 (by omega)
    have bw9 := bw8.trans (M9.below (C := w.heap.size) (by omega) (by omega))
    have s9 := M9.size
    clear M9 A8 W8 V8 bw8 X8 o8
    go_wp2_with fail
    refine (eqBV _ _ c5 c3 _ _ _ _ L _ V9 W9 hLm).mono ?_
    rintro e w10 ⟨rfl, q10⟩
    have A10 := A9.keep q10
    have W10 := W9.keep q10
    have V10 := V9.keep q10
    have bw10 := bw9.trans (q10.mono bw9.size)
    have s10 := q10.size
    clear q10 A9 W9 V9 bw9
    go_wp2_with fail
    refine (markBV _ c5 _ _ L _ V10 hLm).mono ?_
    rintro e w11 ⟨rfl, G11, M11⟩
    have A11 := M11.aat A10 (by omega)
    have W11 := W10.mid M11 (by omega)
    have bw11 := bw10.trans (M11.below (C := w.heap.size) (by omega) (by omega))
    have s11 := M11.size
    clear M11 A10 W10 V10 bw10
    go_wp2_with fail
    refine (held_one _ L.length c5 _ G11 hLm).mono ?_
    rintro e w12 ⟨rfl, q12⟩
    have A12 := A11.keep q12
    have W12 := W11.keep q12
    have G12 := G11.keep q12
    have bw12 := bw11.trans (q12.mono bw11.size)
    clear q12 A11 W11 G11 bw11
    obtain ⟨la', b0, b1, b2, b3, b4, b5⟩ := id A12
    go_wp2_with fail
    refine (toAgg_any c s lo hi ao n cap f fu _ (hr.keep bw12) hn).mono ?_
    rintro e w13 ⟨g13, rfl, hg13, ho13, q13⟩
    have W13 := W12.keep q13
    have G13 := G12.keep q13
    have bw13 := bw12.trans (q13.mono bw12.size)
    clear q13 W12 G12 bw12 b0 b1 b2 b3 b4 b5 la' A12
    go_wp2_with fail
    refine (aggBytes_impl c s lo hi _ n n f fu _ ho13.row hn hs).mono ?_
    intro e w14 hout
    obtain ⟨ao14, c14, rfl, V14, q14⟩ := bo_is hout HI.out
    clear hout
    have W14 := W13.keep q14
    have G14 := G13.keep q14
    have bw14 := bw13.trans (q14.mono bw13.size)
    clear q14 W13 G13 bw13 ho13
    go_wp2_with fail
    refine (eqBV _ _ c14 c3 _ _ _ _ L _ V14 W14 hLm).mono ?_
    rintro e w15 ⟨rfl, q15⟩
    have G15 := G14.keep q15
    have bw15 := bw14.trans (q15.mono bw14.size)
    clear q15 W14 V14 G14 bw14
    go_wp2_with fail
    refine (held_one _ L.length c5 _ G15 hLm).mono ?_
    rintro e w16 ⟨rfl, q16⟩
    have bw16 := bw15.trans (q16.mono bw15.size)
    go_wp2
    go_ret
    exact ⟨rfl, bw16⟩
end Go.Proofs.Ytbaiihokdpojdaa
