/- The law of GoodEntries, walked. -/
import Derived.Test.YtijondokppainaaGoS
import Derived.Test.YtijondokppainaaGe
import Derived.Test.YtijondokppainaaRw
import Derived.Deep.RegionHeld3
import Derived.Test.YtijondokppainaaEnS
namespace Go.Proofs.Ytijondokppainaa
open Go.RowKit
set_option linter.unusedSimpArgs false
set_option linter.unusedVariables false

theorem same_ans {p : Prop} {b c : Bool} (h : b = true ↔ p) (k : c = true ↔ p) : b = c := by
  cases b <;> cases c <;> simp_all

set_option maxHeartbeats 4000000 in
theorem goodEntries_law (ao : Option Addr) (n cap : Nat) (X : Nat → Ent) (w : World) (hr : ERow w ao n X) (hnx : n ≤ 9223372036854775807) :
    Calls Try.prog 3 #[.slice ao n cap] w fun e w' => e = .returned (.bool true) ∧ Below w.heap.size w w' := by
  go_enter Try.func3, Try.ntmps3
  go_wp2_with fail
  refine (szEntryS_any ao n cap X 1048576 _ hr (by omega) hnx).mono ?_
  rintro e w1 ⟨v, rfl, hv1, hv2, hv3, bw1⟩
  by_cases hv : v < 0
  · clear hv3
    go_wp2
    go_ret
    exact ⟨rfl, bw1⟩
  · obtain ⟨hn, hz⟩ := hv3 (by omega)
    clear hv3 hnx
    go_wp2_with fail
    refine (toEntryS_any ao n cap X _ (hr.keep bw1) hn hz).mono ?_
    rintro e w2 ⟨G2, rfl, ho2, hb2⟩
    have bw2 : Below w.heap.size w w2 := bw1.trans (hb2.mono bw1.size)
    clear hb2
    go_wp2_with fail
    refine (goodEntries_spec _ n n X _ (ho2.row hr.bd) hn hz).mono ?_
    rintro e w3 ⟨b3, rfl, hb3, q3⟩
    have H3 : Hid (b3 = true ↔ GoodL X n) := hb3
    have bw3 : Below w.heap.size w w3 := bw2.trans (q3.mono bw2.size)
    clear q3 bw2 bw1 ho2 hb3
    go_wp2_with fail
    refine (toEntryS_any ao n cap X _ (hr.keep bw3) hn hz).mono ?_
    rintro e w4 ⟨G4, rfl, ho4, hb4⟩
    have bw4 : Below w.heap.size w w4 := bw3.trans (hb4.mono bw3.size)
    clear hb4
    go_wp2_with fail
    refine (goodEntries_impl _ n n X _ (ho4.row hr.bd) hn hz).mono ?_
    rintro e w5 ⟨b5, rfl, hb5, q5⟩
    obtain rfl := same_ans H3.out hb5
    have o5 := ho4.keep q5
    have bw5 : Below w.heap.size w w5 := bw4.trans (q5.mono bw4.size)
    clear q5 bw4 bw3 ho4 hb5 H3
    cases b3
    all_goals
      go_wp2_with fail
      refine (toEntryS_any ao n cap X _ (hr.keep bw5) hn hz).mono ?_
      rintro e w6 ⟨G6, rfl, ho6, hb6⟩
      have bw6 : Below w.heap.size w w6 := bw5.trans (hb6.mono bw5.size)
      have o6 := o5.keep hb6
      clear hb6
      go_wp2_with fail
      refine (eqEntryS_same _ _ n n n X _ (o6.row hr.bd) (ho6.row hr.bd) hn hz).mono ?_
      rintro e w7 ⟨rfl, hb7⟩
      have bw7 : Below w.heap.size w w7 := bw6.trans (hb7.mono bw6.size)
      clear hb7
      go_wp2
      go_ret
      exact ⟨rfl, bw7⟩
end Go.Proofs.Ytijondokppainaa
