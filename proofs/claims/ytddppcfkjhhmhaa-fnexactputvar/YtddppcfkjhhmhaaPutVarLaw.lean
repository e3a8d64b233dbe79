/- The law of PutVar, walked. -/
import Derived.Test.YtddppcfkjhhmhaaPutVar
import Derived.Test.YtddppcfkjhhmhaaMarks
namespace Go.Proofs.Ytddppcfkjhhmhaa
open Go.RowKit
set_option linter.unusedSimpArgs false
set_option linter.unusedVariables false

set_option maxHeartbeats 400000 in
theorem putVar_law (n : Int) (w : World) (hn : 0 ≤ n ∧ n ≤ 18446744073709551615) :
    Calls Try.prog 3 #[.int .u64 n] w fun e w' => e = .returned (.bool true) ∧ Below w.heap.size w w' := by
  go_enter Try.func3, Try.ntmps3
  go_wp2_with fail
  refine (putVar_spec n _ hn).mono ?_
  rintro e w1 ⟨k, g1, c1, hP, rfl, hg1, ho1, hb1⟩
  have hk := hP.1
  go_wp2_with fail
  refine (putVar_impl n _ hn).mono ?_
  rintro e w2 ⟨k', g2, c2, hP', rfl, hg2, ho2, hb2⟩
  obtain rfl := hP'.one hP
  have ho1' := ho1.keep hb2
  have hne : g1 ≠ g2 := by have := ho1.lt; omega
  go_wp2_with fail
  refine (eqByteS_same _ _ (k' + 1) c2 c1 _ _ ho2.row ho1'.row (by omega)).mono ?_
  rintro e w3 ⟨rfl, hb3⟩
  go_wp2_with fail
  refine (mark_one g2 0 (k' + 1) c2 _ _ (ho2.keep hb3) (by omega)).mono ?_
  rintro e w4 ⟨rfl, ho4, hx4⟩
  have ho1'' := hx4.row (ho1'.keep hb3) hne
  go_wp2_with fail
  refine (held_one _ (k' + 1) c2 _ ho4.row (by omega)).mono ?_
  rintro e w5 ⟨rfl, hb5⟩
  go_wp2_with fail
  refine (putVar_impl n _ hn).mono ?_
  rintro e w6 ⟨k'', g6, c6, hP6, rfl, hg6, ho6, hb6⟩
  obtain rfl := hP6.one hP'
  go_wp2_with fail
  refine (eqByteS_same _ _ (k'' + 1) c6 c1 _ _ ho6.row ((ho1''.keep hb5).keep hb6).row (by omega)).mono ?_
  rintro e w7 ⟨rfl, hb7⟩
  go_wp2_with fail
  refine (held_one _ (k'' + 1) c2 _ (((ho4.keep hb5).keep hb6).keep hb7).row (by omega)).mono ?_
  rintro e w8 ⟨rfl, hb8⟩
  go_wp2
  go_ret
  have s1 := hb1.size
  have s2 := hb2.size
  have s3 := hb3.size
  have s4 := hx4.size
  have s5 := hb5.size
  have s6 := hb6.size
  have s7 := hb7.size
  have b4 : Below w.heap.size w3 w4 := hx4.below (by omega)
  exact ⟨rfl, ((((((hb1.trans (hb2.mono (by omega))).trans (hb3.mono (by omega))).trans b4).trans (hb5.mono (by omega))).trans (hb6.mono (by omega))).trans (hb7.mono (by omega))).trans (hb8.mono (by omega))⟩

end Go.Proofs.Ytddppcfkjhhmhaa
