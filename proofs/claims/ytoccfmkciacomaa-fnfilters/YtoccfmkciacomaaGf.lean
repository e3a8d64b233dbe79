/- Good filters. -/
import Derived.Test.YtoccfmkciacomaaFt
import Derived.Deep.RegionHeld3
namespace Go.Proofs.Ytoccfmkciacomaa
open Go.RowKit
set_option linter.unusedSimpArgs false
set_option linter.unusedVariables false

/-- A filter is good. -/
def GoodF (y : Int) (n : Nat) : Prop := (1 ≤ y ∧ y ≤ 8) ∧ 1 ≤ n ∧ n ≤ 200

set_option maxHeartbeats 1600000 in
theorem goodFilter_impl (y : Int) (ao : Option Addr) (n cap : Nat) (w : World) (hn : n ≤ 1048576) :
    Calls Try.prog 19 #[.agg #[.int .i64 y, .slice ao n cap]] w fun e w' => Ans (GoodF y n) w e w' := by
  have hB := fun o => below_new w o
  have key : ∀ b : Bool, (b = true ↔ GoodF y n) → Calls Try.prog 19 #[.agg #[.int .i64 y, .slice ao n cap]] w (fun e w' => e = .returned (.bool b) ∧ Below w.heap.size w w') → Calls Try.prog 19 #[.agg #[.int .i64 y, .slice ao n cap]] w fun e w' => Ans (GoodF y n) w e w' := by
    intro b hb hc
    refine hc.mono ?_
    rintro e w1 ⟨rfl, h⟩
    exact Ans.mk b hb h
  by_cases h1 : 1 ≤ y
  · by_cases h2 : y ≤ 8
    · by_cases h3 : 1 ≤ (n : Int)
      · by_cases h4 : (n : Int) ≤ 200
        · refine key true (by simp [GoodF]; omega) ?_
          go_enter Try.func19, Try.ntmps19
          go_wp2
          go_ret
          exact ⟨rfl, hB _⟩
        · refine key false (by simp [GoodF]; omega) ?_
          have d4 : decide ((n : Int) ≤ 200) = false := by simpa using h4
          go_enter Try.func19, Try.ntmps19
          go_wp2
          go_ret
          exact ⟨rfl, hB _⟩
      · refine key false (by simp [GoodF]; omega) ?_
        have d3 : decide (1 ≤ (n : Int)) = false := by simpa using h3
        go_enter Try.func19, Try.ntmps19
        go_wp2
        go_ret
        exact ⟨rfl, hB _⟩
    · refine key false (by simp [GoodF]; omega) ?_
      have d2 : decide (y ≤ 8) = false := by simpa using h2
      go_enter Try.func19, Try.ntmps19
      go_wp2
      go_ret
      exact ⟨rfl, hB _⟩
  · refine key false (by simp [GoodF]; omega) ?_
    have d1 : decide (1 ≤ y) = false := by simpa using h1
    go_enter Try.func19, Try.ntmps19
    go_wp2
    go_ret
    exact ⟨rfl, hB _⟩
end Go.Proofs.Ytoccfmkciacomaa
