/- The law of PutFixed, walked. -/
import Derived.Test.YtddppcfkjhhmhaaPutFixed
import Derived.Test.YtddppcfkjhhmhaaMarks
namespace Go.Proofs.Ytddppcfkjhhmhaa
open Go.RowKit
set_option linter.unusedSimpArgs false
set_option linter.unusedVariables false

set_option maxHeartbeats 400000 in
theorem putFixed_law_yes (n : Int) (m : Nat) (w : World) (hn : 0 ≤ n ∧ n ≤ 9223372036854775807) (hm1 : 1 ≤ m) (hm : m ≤ 8) (h : n / 2 ^ (8 * m) = 0) :
    Calls Try.prog 5 #[.int .i64 n, .int .i64 m] w fun e w' => e = .returned (.bool true) ∧ Below w.heap.size w w' := by
  have H : Hid (n / 2 ^ (8 * m) = 0) := h
  clear h
  go_enter Try.func5, Try.ntmps5
  go_wp2_with fail
  refine (putFixed_spec_yes n m _ hn hm1 hm H.out).mono ?_
  rintro e w1 ⟨g1, o1, c1, rfl, hg1, ho1, hb1⟩
  go_wp2_with fail
  refine (putFixed_impl_yes n m _ hn hm1 hm H.out).mono ?_
  rintro e w2 ⟨g2, o2, c2, rfl, hg2, ho2, hb2⟩
  have ho1' := ho1.keep hb2
  have hne : g1 ≠ g2 := by have := ho1.lt; omega
  go_wp2_with fail
  refine (eqByteS_same _ _ m c2 c1 _ _ ho2.row ho1'.row (by omega)).mono ?_
  rintro e w3 ⟨rfl, hb3⟩
  go_wp2_with fail
  refine (mark_one g2 o2 m c2 _ _ (ho2.keep hb3) (by omega)).mono ?_
  rintro e w4 ⟨rfl, ho4, hx4⟩
  have ho1'' := hx4.row (ho1'.keep hb3) hne
  go_wp2_with fail
  refine (held_one _ m c2 _ ho4.row (by omega)).mono ?_
  rintro e w5 ⟨rfl, hb5⟩
  go_wp2_with fail
  refine (putFixed_impl_yes n m _ hn hm1 hm H.out).mono ?_
  rintro e w6 ⟨g6, o6, c6, rfl, hg6, ho6, hb6⟩
  go_wp2_with fail
  refine (eqByteS_same _ _ m c6 c1 _ _ ho6.row ((ho1''.keep hb5).keep hb6).row (by omega)).mono ?_
  rintro e w7 ⟨rfl, hb7⟩
  go_wp2_with fail
  refine (held_one _ m c2 _ (((ho4.keep hb5).keep hb6).keep hb7).row (by omega)).mono ?_
  rintro e w8 ⟨rfl, hb8⟩
  go_wp2
  go_ret
  have s1 := hb1.size
  have s2 := hb2.size
  have s3 := hb3.size
  have s4 := hx4.size
  have s5 := hb5.size
  have s6 := hb6.size
  have s7 := hb7.size
  have b4 : Below w.heap.size w3 w4 := hx4.below (by omega)
  exact ⟨rfl, ((((((hb1.trans (hb2.mono (by omega))).trans (hb3.mono (by omega))).trans b4).trans (hb5.mono (by omega))).trans (hb6.mono (by omega))).trans (hb7.mono (by omega))).trans (hb8.mono (by omega))⟩

set_option maxHeartbeats 400000 in
theorem putFixed_law_no (n a : Int) (w : World) (hn : -9223372036854775808 ≤ n ∧ n ≤ 9223372036854775807) (ha : -9223372036854775808 ≤ a ∧ a ≤ 9223372036854775807) (h : ¬ PFGood n a) :
    Calls Try.prog 5 #[.int .i64 n, .int .i64 a] w fun e w' => e = .returned (.bool true) ∧ Below w.heap.size w w' := by
  have H : Hid (¬ PFGood n a) := h
  clear h
  go_enter Try.func5, Try.ntmps5
  go_wp2_with fail
  refine (putFixed_spec_no n a _ hn ha H.out).mono ?_
  rintro e w1 ⟨rfl, rfl⟩
  go_wp2_with fail
  refine (putFixed_impl_no n a _ hn ha H.out).mono ?_
  rintro e w2 ⟨rfl, rfl⟩
  go_wp2_with fail
  refine (eq_none _ _ _ _ _).mono ?_
  rintro e w3 ⟨rfl, hb3⟩
  go_wp2_with fail
  refine (mark_none _ _ _).mono ?_
  rintro e w4 ⟨rfl, rfl⟩
  go_wp2_with fail
  refine (held_none _ _ _).mono ?_
  rintro e w5 ⟨rfl, hb5⟩
  go_wp2_with fail
  refine (putFixed_impl_no n a _ hn ha H.out).mono ?_
  rintro e w6 ⟨rfl, rfl⟩
  go_wp2_with fail
  refine (eq_none _ _ _ _ _).mono ?_
  rintro e w7 ⟨rfl, hb7⟩
  go_wp2_with fail
  refine (held_none _ _ _).mono ?_
  rintro e w8 ⟨rfl, hb8⟩
  go_wp2
  go_ret
  have s3 := hb3.size
  have s5 := hb5.size
  have s7 := hb7.size
  exact ⟨rfl, ((hb3.trans (hb5.mono (by omega))).trans (hb7.mono (by omega))).trans (hb8.mono (by omega))⟩

theorem putFixed_law (n a : Int) (w : World) (hn : -9223372036854775808 ≤ n ∧ n ≤ 9223372036854775807) (ha : -9223372036854775808 ≤ a ∧ a ≤ 9223372036854775807) :
    Calls Try.prog 5 #[.int .i64 n, .int .i64 a] w fun e w' => e = .returned (.bool true) ∧ Below w.heap.size w w' := by
  by_cases h : PFGood n a
  · obtain ⟨h0, h1, h2, h3⟩ := h
    obtain ⟨m, rfl⟩ := Int.eq_ofNat_of_zero_le (show 0 ≤ a by omega)
    exact putFixed_law_yes n m w ⟨h0, hn.2⟩ (by omega) (by omega) (by simpa using h3)
  · exact putFixed_law_no n a w hn ha h

end Go.Proofs.Ytddppcfkjhhmhaa
