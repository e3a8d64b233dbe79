/- The law of AggText, walked. -/
import Derived.Test.YtpddodjecbcmlaaDoorAt
import Derived.Test.YtpddodjecbcmlaaDoorEq
import Derived.Deep.RegionHeld3
namespace Go.Proofs.YtpddodjecbcmlaaDoor
open Go.RowKit
set_option linter.unusedSimpArgs false
set_option linter.unusedVariables false

theorem same_text {c s lo hi : Int} {n : Nat} {f : Nat → Int} {fu a b : Bool} {x y : ByteArray} (h : a = true ↔ GoodA c s lo hi n f fu) (k : b = true ↔ GoodA c s lo hi n f fu) (hx : x = if a = true then agT c s lo hi fu else ⟨#[]⟩) (hy : y = if b = true then agT c s lo hi fu else ⟨#[]⟩) : a = b ∧ x = y := by
  have e : a = b := by cases a <;> cases b <;> simp_all
  subst e
  exact ⟨rfl, by rw [hx, hy]⟩

set_option maxHeartbeats 2000000 in
theorem aggText_law (c s lo hi : Int) (ao : Option Addr) (n cap : Nat) (f : Nat → Int) (fu : Bool) (w : World) (hr : IRow w ao n f) (hc : -9223372036854775808 ≤ c ∧ c ≤ 9223372036854775807) (hs : -9223372036854775808 ≤ s ∧ s ≤ 9223372036854775807) (hnx : n ≤ 9223372036854775807) (ht : TabP w) :
    Calls Tryd.prog 5 #[.agg #[.int .i64 c, .int .i64 s, .int .i64 lo, .int .i64 hi, .slice ao n cap, .bool fu]] w fun e w' => e = .returned (.bool true) ∧ Below w.heap.size w w' := by
  have hB := below_new w (.cells #[.int .i64 c, .int .i64 s, .int .i64 lo, .int .i64 hi, .slice ao n cap, .bool fu] 41)
  have A0 := AAt.new w c s lo hi (.slice ao n cap) fu 41
  go_enter Tryd.func5, Tryd.ntmps5
  go_wp2_with fail
  refine (szAgg_any c s lo hi ao n cap fu _ hnx).mono ?_
  rintro e w1 ⟨v, rfl, hv1, hv2, hv3, hb1⟩
  have A1 := A0.keep hb1
  have bw1 : Below w.heap.size w w1 := hB.trans (hb1.mono (by simp))
  clear hb1 hB A0
  by_cases hv : v < 0
  · clear hv3
    go_wp2
    go_ret
    exact ⟨rfl, bw1⟩
  · have hn := hv3 (by omega)
    clear hv3 hnx
    obtain ⟨la, a0, a1, a2, a3, a4, a5⟩ := A1
    go_wp2_with fail
    refine (toAgg_any c s lo hi ao n cap f fu _ (hr.keep bw1) hn).mono ?_
    rintro e w2 ⟨g2, rfl, hg2, ho2, hb2⟩
    have A2 := AAt.keep ⟨la, a0, a1, a2, a3, a4, a5⟩ hb2
    have bw2 : Below w.heap.size w w2 := bw1.trans (hb2.mono bw1.size)
    clear hb2 bw1 la a0 a1 a2 a3 a4 a5
    go_wp2_with fail
    refine (aggText_spec c s lo hi _ n n f fu _ ho2.row hn hs).mono ?_
    rintro e w3 ⟨m3, b3, rfl, hb3, hm3, q3⟩
    have H3 : Hid (b3 = true ↔ GoodA c s lo hi n f fu) := hb3
    have M3 : Hid (m3 = if b3 = true then agT c s lo hi fu else ⟨#[]⟩) := hm3
    obtain ⟨la, a0, a1, a2, a3, a4, a5⟩ := A2.keep q3
    have bw3 : Below w.heap.size w w3 := bw2.trans (q3.mono bw2.size)
    clear q3 A2 bw2 ho2 hb3 hm3
    go_wp2_with fail
    refine (toAgg_any c s lo hi ao n cap f fu _ (hr.keep bw3) hn).mono ?_
    rintro e w4 ⟨g4, rfl, hg4, ho4, hb4⟩
    have hB4 := below_new w4 (.cells #[.int .i64 c, .int .i64 s, .int .i64 lo, .int .i64 hi, .slice (some ⟨g4, 0, none⟩) n n, .bool fu] 44)
    have A4 := (AAt.keep ⟨la, a0, a1, a2, a3, a4, a5⟩ hb4).keep hB4
    have X4 := AAt.new w4 c s lo hi (.slice (some ⟨g4, 0, none⟩) n n) fu 44
    have o4 := ho4.keep hB4
    have bw4 := (bw3.trans (hb4.mono bw3.size)).trans (hB4.mono (by have := bw3.size; have := hb4.size; omega))
    clear hb4 hB4 bw3 la a0 a1 a2 a3 a4 a5 ho4
    obtain ⟨lx, x0, x1, x2, x3, x4, x5⟩ := id X4
    go_wp2_with fail
    refine (aggText_impl c s lo hi _ n n f fu _ o4.row hn hs (ht.keep bw4)).mono ?_
    rintro e w5 ⟨m5, b5, rfl, hb5, hm5, q5⟩
    obtain ⟨rfl, rfl⟩ := same_text H3.out hb5 M3.out hm5
    have A5 := A4.keep q5
    have X5 := X4.keep q5
    have o5 := o4.keep q5
    have bw5 : Below w.heap.size w w5 := bw4.trans (q5.mono bw4.size)
    clear q5 A4 X4 o4 bw4 lx x0 x1 x2 x3 x4 x5 hb5 hm5 H3 M3
    obtain ⟨la, a0, a1, a2, a3, a4, a5⟩ := id A5
    obtain ⟨lx, x0, x1, x2, x3, x4, x5⟩ := id X5
    have szw := bw5.size
    have hrd := (hr.keep bw5).keep (Below.refl _ _).drew
    cases b3
    all_goals
      go_wp2
      go_region_held3 (fun w' => w'.cell? ⟨w4.heap.size, 0, none⟩ = some (.int .i64 c) ∧ w'.cell? ⟨w4.heap.size, 1, none⟩ = some (.int .i64 s) ∧ w'.cell? ⟨w4.heap.size, 2, none⟩ = some (.int .i64 lo) ∧ w'.cell? ⟨w4.heap.size, 3, none⟩ = some (.int .i64 hi) ∧ w'.cell? ⟨w4.heap.size, 4, none⟩ = some (.slice (some ⟨g4, 0, none⟩) n n) ∧ w'.cell? ⟨w4.heap.size, 5, none⟩ = some (.bool fu) ∧ w'.cell? ⟨w.heap.size, 0, none⟩ = some (.int .i64 c) ∧ w'.cell? ⟨w.heap.size, 1, none⟩ = some (.int .i64 s) ∧ w'.cell? ⟨w.heap.size, 2, none⟩ = some (.int .i64 lo) ∧ w'.cell? ⟨w.heap.size, 3, none⟩ = some (.int .i64 hi) ∧ w'.cell? ⟨w.heap.size, 4, none⟩ = some (.slice ao n cap) ∧ w'.cell? ⟨w.heap.size, 5, none⟩ = some (.bool fu)) (go_keep) (first | (go_at_call 15; refine (toAgg_any c s lo hi ao n cap f fu _ hrd hn).mono ?_; rintro e w6 ⟨g6, rfl, hg6, ho6, hb6⟩; have hb6' := (Below.refl _ w5).drew.trans hb6; obtain ⟨la6, p0, p1, p2, p3, p4, p5⟩ := A5.keep hb6'; obtain ⟨lx6, r0, r1, r2, r3, r4, r5⟩ := X5.keep hb6'; have o6 := o5.keep hb6'; have bw6 : Below w.heap.size w w6 := bw5.trans (hb6'.mono szw); have szw6 := bw6.size; clear hb6 hb6') | (go_at_call 17; refine (eqAgg_same c s lo hi _ _ n n n f fu _ o6.row ho6.row hn).mono ?_; rintro e w7 ⟨rfl, hb7⟩; obtain ⟨la7, pp0, pp1, pp2, pp3, pp4, pp5⟩ := AAt.keep ⟨la6, p0, p1, p2, p3, p4, p5⟩ hb7; obtain ⟨lx7, rr0, rr1, rr2, rr3, rr4, rr5⟩ := AAt.keep ⟨lx6, r0, r1, r2, r3, r4, r5⟩ hb7; have bw7 : Below w.heap.size w w7 := bw6.trans (hb7.mono szw6); clear hb7))
      go_wp2
      go_ret
      exact ⟨rfl, bw7⟩
end Go.Proofs.YtpddodjecbcmlaaDoor
