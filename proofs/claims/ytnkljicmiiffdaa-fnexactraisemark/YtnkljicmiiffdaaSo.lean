/- Times, sizes, and the start of a window: both texts, and the law of StartOf, walked. -/
import Derived.Test.YtnkljicmiiffdaaVal
namespace Go.Proofs.Ytnkljicmiiffdaa
open Go.RowKit
set_option linter.unusedSimpArgs false
set_option linter.unusedVariables false

def isTm (t : Int) : Bool := btw 0 t 1000000000
def isSz (z : Int) : Bool := btw 1 z 100000

theorem isTime_any (v : Int) (w : World) :
    Calls Try.prog 46 #[.int .i64 v] w fun e w' => e = .returned (.bool (isTm v)) ∧ w' = w := by
  by_cases h1 : 0 ≤ v
  · by_cases h2 : v ≤ 1000000000
    · have h : isTm v = true := by simp [isTm, btw, h1, h2]
      go_enter Try.func46, Try.ntmps46
      go_wp2
      go_ret
      exact ⟨by simp_all, rfl⟩
    · have h : isTm v = false := by simp [isTm, btw, h2]
      go_enter Try.func46, Try.ntmps46
      go_wp2
      go_ret
      exact ⟨by simp_all, rfl⟩
  · have h : isTm v = false := by simp [isTm, btw, h1]
    have h3 : decide (0 ≤ v) = false := by simpa using h1
    go_enter Try.func46, Try.ntmps46
    go_wp2
    go_ret
    exact ⟨by simp_all, rfl⟩

theorem isSize_any (v : Int) (w : World) :
    Calls Try.prog 47 #[.int .i64 v] w fun e w' => e = .returned (.bool (isSz v)) ∧ w' = w := by
  by_cases h1 : 1 ≤ v
  · by_cases h2 : v ≤ 100000
    · have h : isSz v = true := by simp [isSz, btw, h1, h2]
      go_enter Try.func47, Try.ntmps47
      go_wp2
      go_ret
      exact ⟨by simp_all, rfl⟩
    · have h : isSz v = false := by simp [isSz, btw, h2]
      go_enter Try.func47, Try.ntmps47
      go_wp2
      go_ret
      exact ⟨by simp_all, rfl⟩
  · have h : isSz v = false := by simp [isSz, btw, h1]
    have h3 : decide (1 ≤ v) = false := by simpa using h1
    go_enter Try.func47, Try.ntmps47
    go_wp2
    go_ret
    exact ⟨by simp_all, rfl⟩

theorem l11Time_any (v : Int) (w : World) :
    Calls Try.prog 44 #[.int .i64 v] w fun e w' => e = .returned (.bool (isTm v)) ∧ w' = w := by
  go_enter Try.func44, Try.ntmps44
  go_wp2_with fail
  refine (l1In_any v 0 1000000000 _).mono ?_
  rintro e w1 ⟨rfl, rfl⟩
  go_wp2
  go_ret
  exact ⟨rfl, rfl⟩

theorem modOf_any (a b : Int) (ha : 0 ≤ a) (hb : 0 < b) (hb2 : b ≤ 100000) (w : World) :
    Calls Try.prog 48 #[.int .i64 a, .int .i64 b] w fun e w' => e = .returned (.int .i64 ((a % b))) ∧ w' = w := by
  have h1 := Int.emod_lt_of_pos a hb
  have h2 := Int.emod_nonneg a (show b ≠ 0 by omega)
  have hb0 : ¬ b = 0 := by omega
  have hw : IntKind.i64.wrap ((a % b)) = (a % b) := by rw [IntKind.wrap_i64] <;> omega
  have h : ¬ (a % b) < 0 := by omega
  go_enter Try.func48, Try.ntmps48
  go_wp2
  exact bodyPost_ret (v := .int .i64 ((a % b))) (by simp [results, Try.results48, go_sem, hw]) rfl ⟨rfl, rfl⟩

/-- What StartOf answers. -/
def SoA (t z : Int) : Ending := if isTm t = true ∧ isSz z = true then .returned (.tuple #[.int .i64 (t - t % z), .bool true]) else .returned (.tuple #[.int .i64 0, .bool false])

theorem l1In_is (n lo hi : Int) (B : Bool) (h : Hid (btw lo n hi = B)) (w : World) :
    Calls Try.prog 45 #[.int .i64 n, .int .i64 lo, .int .i64 hi] w fun e w' => e = .returned (.bool B) ∧ w' = w := by
  have := l1In_any n lo hi w
  rw [h.out] at this
  exact this

theorem startOf_impl (t z : Int) (w : World) :
    Calls Try.prog 11 #[.int .i64 t, .int .i64 z] w fun e w' => e = SoA t z ∧ w' = w := by
  generalize hS : SoA t z = S
  have HS : Hid (SoA t z = S) := hS
  clear hS
  generalize h1 : isTm t = b1
  have H1 : Hid (isTm t = b1) := h1
  clear h1
  go_enter Try.func11, Try.ntmps11
  go_wp2_with fail
  refine (isTime_any t _).mono ?_
  rintro e w1 ⟨rfl, rfl⟩
  rw [H1.out]
  cases b1
  · have E : Hid (S = .returned (.tuple #[.int .i64 0, .bool false])) := by unfold Hid; rw [← HS.out]; unfold SoA; rw [if_neg (by rw [H1.out]; simp)]
    go_wp2
    exact bodyPost_ret (v := .tuple #[.int .i64 0, .bool false]) (by simp [results, Try.results11, go_sem]) rfl ⟨E.out.symm, rfl⟩
  · generalize h2 : isSz z = b2
    have H2 : Hid (isSz z = b2) := h2
    clear h2
    go_wp2_with fail
    refine (isSize_any z _).mono ?_
    rintro e w2 ⟨rfl, rfl⟩
    rw [H2.out]
    cases b2
    · have E : Hid (S = .returned (.tuple #[.int .i64 0, .bool false])) := by unfold Hid; rw [← HS.out]; unfold SoA; rw [if_neg (by rw [H2.out]; simp)]
      go_wp2
      exact bodyPost_ret (v := .tuple #[.int .i64 0, .bool false]) (by simp [results, Try.results11, go_sem]) rfl ⟨E.out.symm, rfl⟩
    · have E : Hid (S = .returned (.tuple #[.int .i64 (t - t % z), .bool true])) := by unfold Hid; rw [← HS.out]; unfold SoA; rw [if_pos ⟨H1.out, H2.out⟩]
      have a1 := H1.out
      have a2 := H2.out
      simp [isTm, isSz, btw] at a1 a2
      have m1 := Int.emod_lt_of_pos t (show 0 < z by omega)
      have m2 := Int.emod_nonneg t (show z ≠ 0 by omega)
      have hw : IntKind.i64.wrap (t - t % z) = t - t % z := by rw [IntKind.wrap_i64] <;> omega
      go_wp2_with fail
      refine (modOf_any t z (by omega) (by omega) (by omega) _).mono ?_
      rintro e w3 ⟨rfl, rfl⟩
      go_wp2
      exact bodyPost_ret (v := .tuple #[.int .i64 (t - t % z), .bool true]) (by simp [results, Try.results11, go_sem]) rfl ⟨E.out.symm, rfl⟩

theorem startOf_spec (t z : Int) (w : World) :
    Calls Try.prog 10 #[.int .i64 t, .int .i64 z] w fun e w' => e = SoA t z ∧ w' = w := by
  generalize hS : SoA t z = S
  have HS : Hid (SoA t z = S) := hS
  clear hS
  generalize h1 : isTm t = b1
  have H1 : Hid (isTm t = b1) := h1
  clear h1
  go_enter Try.func10, Try.ntmps10
  go_wp2_with fail
  refine (l11Time_any t _).mono ?_
  rintro e w1 ⟨rfl, rfl⟩
  rw [H1.out]
  cases b1
  · have E : Hid (S = .returned (.tuple #[.int .i64 0, .bool false])) := by unfold Hid; rw [← HS.out]; unfold SoA; rw [if_neg (by rw [H1.out]; simp)]
    go_wp2
    exact bodyPost_ret (v := .tuple #[.int .i64 0, .bool false]) (by simp [results, Try.results10, go_sem]) rfl ⟨E.out.symm, rfl⟩
  · generalize h2 : isSz z = b2
    have H2 : Hid (isSz z = b2) := h2
    clear h2
    go_wp2_with fail
    refine (l1In_is z 1 100000 b2 H2 _).mono ?_
    rintro e w2 ⟨rfl, rfl⟩
    cases b2
    · have E : Hid (S = .returned (.tuple #[.int .i64 0, .bool false])) := by unfold Hid; rw [← HS.out]; unfold SoA; rw [if_neg (by rw [H2.out]; simp)]
      go_wp2
      exact bodyPost_ret (v := .tuple #[.int .i64 0, .bool false]) (by simp [results, Try.results10, go_sem]) rfl ⟨E.out.symm, rfl⟩
    · have E : Hid (S = .returned (.tuple #[.int .i64 (t - t % z), .bool true])) := by unfold Hid; rw [← HS.out]; unfold SoA; rw [if_pos ⟨H1.out, H2.out⟩]
      have a1 := H1.out
      have a2 := H2.out
      simp [isTm, isSz, btw] at a1 a2
      have m1 := Int.emod_lt_of_pos t (show 0 < z by omega)
      have m2 := Int.emod_nonneg t (show z ≠ 0 by omega)
      have hb0 : ¬ z = 0 := by omega
      have hw0 : IntKind.i64.wrap (t % z) = t % z := by rw [IntKind.wrap_i64] <;> omega
      have hw : IntKind.i64.wrap (t - t % z) = t - t % z := by rw [IntKind.wrap_i64] <;> omega
      go_wp2
      exact bodyPost_ret (v := .tuple #[.int .i64 (t - t % z), .bool true]) (by simp [results, Try.results10, go_sem]) rfl ⟨E.out.symm, rfl⟩

theorem startOf_law (t z : Int) (w : World) (ht : -9223372036854775808 ≤ t ∧ t ≤ 9223372036854775807) (hz : -9223372036854775808 ≤ z ∧ z ≤ 9223372036854775807) :
    Calls Try.prog 3 #[.int .i64 t, .int .i64 z] w fun e w' => e = .returned (.bool true) ∧ Below w.heap.size w w' := by
  have hS : ∃ (a : Int) (b : Bool), SoA t z = .returned (.tuple #[.int .i64 a, .bool b]) := by
    unfold SoA
    split
    · exact ⟨_, _, rfl⟩
    · exact ⟨_, _, rfl⟩
  obtain ⟨a, b, hS⟩ := hS
  have HS : Hid (SoA t z = .returned (.tuple #[.int .i64 a, .bool b])) := hS
  clear hS
  go_enter Try.func3, Try.ntmps3
  go_wp2_with fail
  refine (startOf_spec t z _).mono ?_
  rintro e w1 ⟨rfl, rfl⟩
  rw [HS.out]
  go_wp2_with fail
  refine (startOf_impl t z _).mono ?_
  rintro e w2 ⟨rfl, rfl⟩
  rw [HS.out]
  cases b
  all_goals
    go_wp2
    go_ret
    exact ⟨rfl, Below.refl _ _⟩
end Go.Proofs.Ytnkljicmiiffdaa
