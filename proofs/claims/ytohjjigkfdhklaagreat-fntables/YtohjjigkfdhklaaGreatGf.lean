/- Filters: where they lie, measured, copied, compared. / Good filters. -/
import Derived.Test.YtohjjigkfdhklaaGreatBV
import Derived.Test.YtohjjigkfdhklaaGreatIL
import Derived.Deep.RegionHeld3
namespace Go.Proofs.YtohjjigkfdhklaaGreat
set_option maxRecDepth 100000
open Go.RowKit
set_option linter.unusedSimpArgs false
set_option linter.unusedVariables false

/-- A filter in block b. -/
structure FAt (w : World) (b : Nat) (y : Int) (v : Value) : Prop where
  lt : b < w.heap.size
  c0 : w.cell? ⟨b, 0, none⟩ = some (.int .i64 y)
  c1 : w.cell? ⟨b, 1, none⟩ = some v
section
variable {w w' : World} {b : Nat} {y : Int} {v : Value}
theorem FAt.keep (h : FAt w b y v) (hb : Below w.heap.size w w') : FAt w' b y v :=
  ⟨Nat.lt_of_lt_of_le h.lt hb.size, (hb.cell (p := ⟨b, 0, none⟩) h.lt).trans h.c0, (hb.cell (p := ⟨b, 1, none⟩) h.lt).trans h.c1⟩
theorem FAt.mid {B U : Nat} (h : FAt w b y v) (hw : Mid B U w w') (hne : b < B ∨ U ≤ b) : FAt w' b y v :=
  ⟨Nat.lt_of_lt_of_le h.lt hw.size, (hw.cell h.lt hne).trans h.c0, (hw.cell h.lt hne).trans h.c1⟩
end
theorem FAt.new (w : World) (y : Int) (v : Value) (T : Nat) : FAt (w.alloc (.cells #[.int .i64 y, v] T)) w.heap.size y v := by
  refine ⟨by simp, ?_, ?_⟩ <;> simp [go_sem]

end Go.Proofs.YtohjjigkfdhklaaGreat
namespace Go.Proofs.YtohjjigkfdhklaaGreat
set_option maxRecDepth 100000
open Go.RowKit
set_option linter.unusedSimpArgs false
set_option linter.unusedVariables false

/-- A filter is good. -/
def GoodF (y : Int) (n : Nat) : Prop := (1 ≤ y ∧ y ≤ 8) ∧ 1 ≤ n ∧ n ≤ 200

set_option maxHeartbeats 800000 in
theorem goodFilter_spec (y : Int) (ao : Option Addr) (n cap : Nat) (w : World) (hn : n ≤ 1048576) :
    Calls Tryz.prog 99 #[.agg #[.int .i64 y, .slice ao n cap]] w fun e w' => Ans (GoodF y n) w e w' := by
  have hB := fun o => below_new w o
  by_cases h : 1 ≤ y ∧ y ≤ 8
  · by_cases h2 : 1 ≤ (n : Int) ∧ (n : Int) ≤ 200
    · go_enter Tryz.func99, Tryz.ntmps99
      go_wp2_with fail
      refine (l1In_yes y 1 8 _ h.1 h.2).mono ?_
      rintro e w1 ⟨rfl, rfl⟩
      go_wp2_with fail
      refine (l1In_yes n 1 200 _ h2.1 h2.2).mono ?_
      rintro e w1 ⟨rfl, rfl⟩
      go_wp2
      exact bodyPost_ret (v := .bool true) (by simp [results, Tryz.results99, go_sem]) rfl (Ans.mk _ (by simp [GoodF]; omega) (hB _))
    · have H2 : Hid (¬ (1 ≤ (n : Int) ∧ (n : Int) ≤ 200)) := h2
      clear h2
      go_enter Tryz.func99, Tryz.ntmps99
      go_wp2_with fail
      refine (l1In_yes y 1 8 _ h.1 h.2).mono ?_
      rintro e w1 ⟨rfl, rfl⟩
      go_wp2_with fail
      refine (l1In_no n 1 200 _ H2.out).mono ?_
      rintro e w1 ⟨rfl, rfl⟩
      go_wp2
      exact bodyPost_ret (v := .bool false) (by simp [results, Tryz.results99, go_sem]) rfl (Ans.mk _ (by have := H2.out; simp [GoodF]; omega) (hB _))
  · have H : Hid (¬ (1 ≤ y ∧ y ≤ 8)) := h
    clear h
    go_enter Tryz.func99, Tryz.ntmps99
    go_wp2_with fail
    refine (l1In_no y 1 8 _ H.out).mono ?_
    rintro e w1 ⟨rfl, rfl⟩
    go_wp2
    exact bodyPost_ret (v := .bool false) (by simp [results, Tryz.results99, go_sem]) rfl (Ans.mk _ (by have := H.out; simp [GoodF]; omega) (hB _))

set_option maxHeartbeats 1600000 in
theorem goodFilter_impl (y : Int) (ao : Option Addr) (n cap : Nat) (w : World) (hn : n ≤ 1048576) :
    Calls Tryz.prog 113 #[.agg #[.int .i64 y, .slice ao n cap]] w fun e w' => Ans (GoodF y n) w e w' := by
  have hB := fun o => below_new w o
  have key : ∀ b : Bool, (b = true ↔ GoodF y n) → Calls Tryz.prog 113 #[.agg #[.int .i64 y, .slice ao n cap]] w (fun e w' => e = .returned (.bool b) ∧ Below w.heap.size w w') → Calls Tryz.prog 113 #[.agg #[.int .i64 y, .slice ao n cap]] w fun e w' => Ans (GoodF y n) w e w' := by
    intro b hb hc
    refine hc.mono ?_
    rintro e w1 ⟨rfl, h⟩
    exact Ans.mk b hb h
  by_cases h1 : 1 ≤ y
  · by_cases h2 : y ≤ 8
    · by_cases h3 : 1 ≤ (n : Int)
      · by_cases h4 : (n : Int) ≤ 200
        · refine key true (by simp [GoodF]; omega) ?_
          go_enter Tryz.func113, Tryz.ntmps113
          go_wp2
          go_ret
          exact ⟨rfl, hB _⟩
        · refine key false (by simp [GoodF]; omega) ?_
          have d4 : decide ((n : Int) ≤ 200) = false := by simpa using h4
          go_enter Tryz.func113, Tryz.ntmps113
          go_wp2
          go_ret
          exact ⟨rfl, hB _⟩
      · refine key false (by simp [GoodF]; omega) ?_
        have d3 : decide (1 ≤ (n : Int)) = false := by simpa using h3
        go_enter Tryz.func113, Tryz.ntmps113
        go_wp2
        go_ret
        exact ⟨rfl, hB _⟩
    · refine key false (by simp [GoodF]; omega) ?_
      have d2 : decide (y ≤ 8) = false := by simpa using h2
      go_enter Tryz.func113, Tryz.ntmps113
      go_wp2
      go_ret
      exact ⟨rfl, hB _⟩
  · refine key false (by simp [GoodF]; omega) ?_
    have d1 : decide (1 ≤ y) = false := by simpa using h1
    go_enter Tryz.func113, Tryz.ntmps113
    go_wp2
    go_ret
    exact ⟨rfl, hB _⟩
end Go.Proofs.YtohjjigkfdhklaaGreat
