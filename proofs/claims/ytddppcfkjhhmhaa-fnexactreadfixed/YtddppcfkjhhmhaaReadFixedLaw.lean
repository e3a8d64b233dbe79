/- The law of ReadFixed, walked. -/
import Derived.Test.YtddppcfkjhhmhaaReadFixed
namespace Go.Proofs.Ytddppcfkjhhmhaa
open Go.RowKit
set_option linter.unusedSimpArgs false
set_option linter.unusedVariables false

set_option maxHeartbeats 400000 in
theorem readFixed_law (ao : Option Addr) (n cap : Nat) (f : Nat → Int) (a m : Int) (w : World) (hr : Row w ao n f) (hmx : n ≤ maxLen) (ha : -9223372036854775808 ≤ a ∧ a ≤ 9223372036854775807) (hm : -9223372036854775808 ≤ m ∧ m ≤ 9223372036854775807) :
    Calls Try.prog 6 #[.slice ao n cap, .int .i64 a, .int .i64 m] w fun e w' => e = .returned (.bool true) ∧ Below w.heap.size w w' := by
  unfold maxLen at hmx
  by_cases hn : n ≤ 1048576
  · have hng : ¬ (1048576 : Int) < (n : Int) := by omega
    generalize hT : rdFix f n a m = T
    have HT : Hid (rdFix f n a m = T) := hT
    clear hT
    obtain ⟨t0, t1⟩ := T
    go_enter Try.func6, Try.ntmps6
    go_wp2_with fail
    refine (toByteS_any ao n cap f _ hr hn).mono ?_
    rintro e w1 ⟨rfl, ho1, hb1⟩
    go_wp2_with fail
    refine (readFixed_spec _ n n f a m _ ho1.row hn (Nat.le_refl _) ha hm).mono ?_
    rintro e w2 ⟨rfl, hb2⟩
    rw [HT.out]
    have hr2 := (hr.keep hb1).keep hb2
    go_wp2_with fail
    refine (toByteS_any ao n cap f _ hr2 hn).mono ?_
    rintro e w3 ⟨rfl, ho3, hb3⟩
    go_wp2_with fail
    refine (readFixed_impl _ n n f a m _ ho3.row hn (Nat.le_refl _) ha hm).mono ?_
    rintro e w4 ⟨rfl, hb4⟩
    rw [HT.out]
    have hr4 := (hr2.keep hb3).keep hb4
    have ho4 := ho3.keep hb4
    go_wp2_with fail
    refine (toByteS_any ao n cap f _ hr4 hn).mono ?_
    rintro e w5 ⟨rfl, ho5, hb5⟩
    have ho4' := ho4.keep hb5
    go_wp2_with fail
    refine (eqByteS_same _ _ n n n f _ ho4'.row ho5.row hn).mono ?_
    rintro e w6 ⟨rfl, hb6⟩
    go_wp2
    go_ret
    have s1 := hb1.size
    have s2 := hb2.size
    have s3 := hb3.size
    have s4 := hb4.size
    have s5 := hb5.size
    exact ⟨rfl, ((((hb1.trans (hb2.mono (by omega))).trans (hb3.mono (by omega))).trans (hb4.mono (by omega))).trans (hb5.mono (by omega))).trans (hb6.mono (by omega))⟩
  · have hng : (1048576 : Int) < (n : Int) := by omega
    go_enter Try.func6, Try.ntmps6
    go_wp2
    go_ret
    exact ⟨rfl, Below.refl _ _⟩
end Go.Proofs.Ytddppcfkjhhmhaa
