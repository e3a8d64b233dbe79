/- The law of GoodBoard, walked. -/
import Derived.Test.YtnkljicmiiffdaaGc
import Derived.Test.YtnkljicmiiffdaaBd
import Derived.Deep.RegionHeld3
namespace Go.Proofs.Ytnkljicmiiffdaa
open Go.RowKit
set_option linter.unusedSimpArgs false
set_option linter.unusedVariables false

theorem same_ans {p : Prop} {b c : Bool} (h : b = true ↔ p) (k : c = true ↔ p) : b = c := by
  cases b <;> cases c <;> simp_all

set_option maxHeartbeats 4000000 in
theorem goodBoard_law (z h mk : Int) (ao : Option Addr) (n cap : Nat) (X : Nat → Wn) (w : World) (hr : WiRow w ao n X) (hb4 : (-9223372036854775808 ≤ z ∧ z ≤ 9223372036854775807) ∧ (-9223372036854775808 ≤ h ∧ h ≤ 9223372036854775807) ∧ (-9223372036854775808 ≤ mk ∧ mk ≤ 9223372036854775807)) (hnx : n ≤ 9223372036854775807) :
    Calls Try.prog 4 #[.agg #[.int .i64 z, .int .i64 h, .int .i64 mk, .slice ao n cap]] w fun e w' => e = .returned (.bool true) ∧ Below w.heap.size w w' := by
  have hB := below_new w (.cells #[.int .i64 z, .int .i64 h, .int .i64 mk, .slice ao n cap] 27)
  have A := BdAt.new w z h mk (.slice ao n cap) 27
  have hr0 := hr.keep hB
  clear hb4
  go_enter Try.func4, Try.ntmps4
  go_wp2_with fail
  refine (szBoard_any z h mk ao n cap X 1048576 _ hr0 (by omega) hnx).mono ?_
  rintro e w1 ⟨v, rfl, hv1, hv2, hv3, q1⟩
  have bw1 : Below w.heap.size w w1 := hB.trans (q1.mono (by simp))
  have A1 := A.keep q1
  clear q1 A hB hr0
  by_cases hv : v < 0
  · clear hv3
    go_wp2
    go_ret
    exact ⟨rfl, bw1⟩
  obtain ⟨hn, hz⟩ := hv3 (by omega)
  clear hv3 hnx
  obtain ⟨_, a0, a1, a2, a3⟩ := id A1
  go_wp2_with fail
  refine (toBoard_any z h mk ao n cap X _ (hr.keep bw1) hn hz).mono ?_
  rintro e w2 ⟨g2, G0, G1, rfl, hg2, ho2, q2⟩
  have A2 := A1.keep q2
  have bw2 : Below w.heap.size w w2 := bw1.trans (q2.mono bw1.size)
  clear q2 A1 a0 a1 a2 a3
  go_wp2_with fail
  refine (goodBoard_spec z h mk _ n n X _ (ho2.row hr.bd) hn hz).mono ?_
  rintro e w3 ⟨b3, rfl, hb3, q3⟩
  have H3 : Hid (b3 = true ↔ GBd z h mk n X) := hb3
  have A3 := A2.keep q3
  have bw3 : Below w.heap.size w w3 := bw2.trans (q3.mono bw2.size)
  clear q3 bw2 bw1 ho2 hb3 A2
  obtain ⟨_, a0, a1, a2, a3⟩ := id A3
  go_wp2_with fail
  refine (toBoard_any z h mk ao n cap X _ (hr.keep bw3) hn hz).mono ?_
  rintro e w4 ⟨g4, K0, K1, rfl, hg4, ho4, q4⟩
  have hB4 := below_new w4 (.cells #[.int .i64 z, .int .i64 h, .int .i64 mk, .slice (some ⟨g4, 0, none⟩) n n] 32)
  have X4 := BdAt.new w4 z h mk (.slice (some ⟨g4, 0, none⟩) n n) 32
  have A4 := (A3.keep q4).keep hB4
  have o4 := ho4.keep hB4
  have bw4 : Below w.heap.size w w4 := bw3.trans (q4.mono bw3.size)
  have bw4' := bw4.trans (hB4.mono bw4.size)
  clear q4 A3 a0 a1 a2 a3 ho4 hB4 bw3
  obtain ⟨_, x0, x1, x2, x3⟩ := id X4
  go_wp2_with fail
  refine (goodBoard_impl z h mk _ n n X _ (o4.row hr.bd) hn hz).mono ?_
  rintro e w5 ⟨b5, rfl, hb5, q5⟩
  obtain rfl := same_ans H3.out hb5
  have A5 := A4.keep q5
  have X5 := X4.keep q5
  have o5 := o4.keep q5
  have bw5 : Below w.heap.size w w5 := bw4'.trans (q5.mono bw4'.size)
  clear q5 bw4 bw4' o4 hb5 H3 X4 A4 x0 x1 x2 x3
  obtain ⟨_, a0, a1, a2, a3⟩ := id A5
  obtain ⟨_, x0, x1, x2, x3⟩ := id X5
  have rd := (hr.keep bw5).keep (Below.refl _ w5).drew
  have od := o5.keep (Below.refl _ w5).drew
  cases b3
  all_goals
    go_wp2
    go_region_held3 (fun w' => w'.cell? ⟨w.heap.size, 0, none⟩ = some (.int .i64 z) ∧ w'.cell? ⟨w.heap.size, 1, none⟩ = some (.int .i64 h) ∧ w'.cell? ⟨w.heap.size, 2, none⟩ = some (.int .i64 mk) ∧ w'.cell? ⟨w.heap.size, 3, none⟩ = some (.slice ao n cap) ∧ w'.cell? ⟨w4.heap.size, 0, none⟩ = some (.int .i64 z) ∧ w'.cell? ⟨w4.heap.size, 1, none⟩ = some (.int .i64 h) ∧ w'.cell? ⟨w4.heap.size, 2, none⟩ = some (.int .i64 mk) ∧ w'.cell? ⟨w4.heap.size, 3, none⟩ = some (.slice (some ⟨g4, 0, none⟩) n n)) (go_keep) (first | (go_at_call 14; refine (toBoard_any z h mk ao n cap X _ rd hn hz).mono ?_; rintro e w6 ⟨g6, L0, L1, rfl, hg6, ho6, q6⟩; have q6' := (Below.refl _ w5).drew.trans q6; obtain ⟨lp, p0, p1, p2, p3⟩ := A5.keep q6'; obtain ⟨lx, t0, t1, t2, t3⟩ := X5.keep q6'; have o6 := o5.keep q6'; have bw6 := bw5.trans (q6'.mono bw5.size); clear q6 q6') | (go_at_call 16; refine (eqBoard_same z h mk _ _ n n n X _ (o6.row hr.bd) (ho6.row hr.bd) hn hz).mono ?_; rintro e w7 ⟨rfl, q7⟩; obtain ⟨_, pp0, pp1, pp2, pp3⟩ := BdAt.keep ⟨lp, p0, p1, p2, p3⟩ q7; obtain ⟨_, tt0, tt1, tt2, tt3⟩ := BdAt.keep ⟨lx, t0, t1, t2, t3⟩ q7; have bw7 := bw6.trans (q7.mono bw6.size); clear q7))
    go_wp2
    go_ret
    exact ⟨rfl, bw7⟩
end Go.Proofs.Ytnkljicmiiffdaa
