/- The bucket of a value in the program, and the law. -/
import Derived.Test.YtbaiihokdpojdaaBk
namespace Go.Proofs.Ytbaiihokdpojdaa
open Go.RowKit
set_option linter.unusedSimpArgs false
set_option linter.unusedVariables false

theorem bucket_impl_no (v : Int) (w : World) (hv : isV v = false) :
    Calls Try.prog 19 #[.int .i64 v] w fun e w' => e = .returned (.int .i64 (-1)) ∧ w' = w := by
  go_enter Try.func19, Try.ntmps19
  go_wp2_with fail
  refine (isValue_any v _).mono ?_
  rintro e w1 ⟨rfl, rfl⟩
  go_wp2
  go_ret
  exact ⟨rfl, rfl⟩
theorem bucket_spec_no (v : Int) (w : World) (hv : isV v = false) :
    Calls Try.prog 18 #[.int .i64 v] w fun e w' => e = .returned (.int .i64 (-1)) ∧ w' = w := by
  go_enter Try.func18, Try.ntmps18
  go_wp2_with fail
  refine (l4Value_any v _).mono ?_
  rintro e w1 ⟨rfl, rfl⟩
  go_wp2
  go_ret
  exact ⟨rfl, rfl⟩
theorem bucket_spec_yes (v : Int) (w : World) (hv : isV v = true) :
    Calls Try.prog 18 #[.int .i64 v] w fun e w' => e = .returned (.int .i64 (bk v)) ∧ w' = w := by
  go_enter Try.func18, Try.ntmps18
  go_wp2_with fail
  refine (l4Value_any v _).mono ?_
  rintro e w1 ⟨rfl, rfl⟩
  go_wp2_with fail
  refine (l4Bucket_any v _ hv).mono ?_
  rintro e w1 ⟨rfl, rfl⟩
  go_wp2
  go_ret
  exact ⟨rfl, rfl⟩

set_option maxHeartbeats 800000 in
theorem bucket_impl_a (v : Int) (w : World) (hv : isV v = true)  (h0 : 99999 < v) :
    Calls Try.prog 19 #[.int .i64 v] w fun e w' => e = .returned (.int .i64 7) ∧ w' = w := by
  go_enter Try.func19, Try.ntmps19
  go_wp2_with fail
  refine (isValue_any v _).mono ?_
  rintro e w1 ⟨rfl, rfl⟩
  go_wp2
  go_ret
  exact ⟨rfl, rfl⟩

set_option maxHeartbeats 800000 in
theorem bucket_impl_b (v : Int) (w : World) (hv : isV v = true) (h0 : ¬ 99999 < v) (h1 : 9999 < v) :
    Calls Try.prog 19 #[.int .i64 v] w fun e w' => e = .returned (.int .i64 6) ∧ w' = w := by
  go_enter Try.func19, Try.ntmps19
  go_wp2_with fail
  refine (isValue_any v _).mono ?_
  rintro e w1 ⟨rfl, rfl⟩
  go_wp2
  go_ret
  exact ⟨rfl, rfl⟩

set_option maxHeartbeats 800000 in
theorem bucket_impl_c (v : Int) (w : World) (hv : isV v = true) (h0 : ¬ 99999 < v) (h1 : ¬ 9999 < v) (h2 : 999 < v) :
    Calls Try.prog 19 #[.int .i64 v] w fun e w' => e = .returned (.int .i64 5) ∧ w' = w := by
  go_enter Try.func19, Try.ntmps19
  go_wp2_with fail
  refine (isValue_any v _).mono ?_
  rintro e w1 ⟨rfl, rfl⟩
  go_wp2
  go_ret
  exact ⟨rfl, rfl⟩

set_option maxHeartbeats 800000 in
theorem bucket_impl_d (v : Int) (w : World) (hv : isV v = true) (h0 : ¬ 99999 < v) (h1 : ¬ 9999 < v) (h2 : ¬ 999 < v) (h3 : 99 < v) :
    Calls Try.prog 19 #[.int .i64 v] w fun e w' => e = .returned (.int .i64 4) ∧ w' = w := by
  go_enter Try.func19, Try.ntmps19
  go_wp2_with fail
  refine (isValue_any v _).mono ?_
  rintro e w1 ⟨rfl, rfl⟩
  go_wp2
  go_ret
  exact ⟨rfl, rfl⟩

set_option maxHeartbeats 800000 in
theorem bucket_impl_e (v : Int) (w : World) (hv : isV v = true) (h0 : ¬ 99999 < v) (h1 : ¬ 9999 < v) (h2 : ¬ 999 < v) (h3 : ¬ 99 < v) (h4 : 9 < v) :
    Calls Try.prog 19 #[.int .i64 v] w fun e w' => e = .returned (.int .i64 3) ∧ w' = w := by
  go_enter Try.func19, Try.ntmps19
  go_wp2_with fail
  refine (isValue_any v _).mono ?_
  rintro e w1 ⟨rfl, rfl⟩
  go_wp2
  go_ret
  exact ⟨rfl, rfl⟩

set_option maxHeartbeats 800000 in
theorem bucket_impl_f (v : Int) (w : World) (hv : isV v = true) (h0 : ¬ 99999 < v) (h1 : ¬ 9999 < v) (h2 : ¬ 999 < v) (h3 : ¬ 99 < v) (h4 : ¬ 9 < v) (h5 : 0 < v) :
    Calls Try.prog 19 #[.int .i64 v] w fun e w' => e = .returned (.int .i64 2) ∧ w' = w := by
  go_enter Try.func19, Try.ntmps19
  go_wp2_with fail
  refine (isValue_any v _).mono ?_
  rintro e w1 ⟨rfl, rfl⟩
  go_wp2
  go_ret
  exact ⟨rfl, rfl⟩

set_option maxHeartbeats 800000 in
theorem bucket_impl_g (v : Int) (w : World) (hv : isV v = true) (h0 : ¬ 99999 < v) (h1 : ¬ 9999 < v) (h2 : ¬ 999 < v) (h3 : ¬ 99 < v) (h4 : ¬ 9 < v) (h5 : ¬ 0 < v) (h6 : v = 0) :
    Calls Try.prog 19 #[.int .i64 v] w fun e w' => e = .returned (.int .i64 1) ∧ w' = w := by
  subst h6
  go_enter Try.func19, Try.ntmps19
  go_wp2_with fail
  refine (isValue_any 0 _).mono ?_
  rintro e w1 ⟨rfl, rfl⟩
  go_wp2
  go_ret
  exact ⟨rfl, rfl⟩

set_option maxHeartbeats 800000 in
theorem bucket_impl_h (v : Int) (w : World) (hv : isV v = true) (h0 : ¬ 99999 < v) (h1 : ¬ 9999 < v) (h2 : ¬ 999 < v) (h3 : ¬ 99 < v) (h4 : ¬ 9 < v) (h5 : ¬ 0 < v) (h6 : v < 0) :
    Calls Try.prog 19 #[.int .i64 v] w fun e w' => e = .returned (.int .i64 0) ∧ w' = w := by
  go_enter Try.func19, Try.ntmps19
  go_wp2_with fail
  refine (isValue_any v _).mono ?_
  rintro e w1 ⟨rfl, rfl⟩
  go_wp2
  go_ret
  exact ⟨rfl, rfl⟩

theorem bucket_impl_yes (v : Int) (w : World) (hv : isV v = true) :
    Calls Try.prog 19 #[.int .i64 v] w fun e w' => e = .returned (.int .i64 (bk v)) ∧ w' = w := by
  by_cases h0 : 99999 < v
  · have e : bk v = 7 := by (simp only [bk]; repeat' split) <;> omega
    rw [e]; exact bucket_impl_a v w hv h0
  by_cases h1 : 9999 < v
  · have e : bk v = 6 := by (simp only [bk]; repeat' split) <;> omega
    rw [e]; exact bucket_impl_b v w hv h0 h1
  by_cases h2 : 999 < v
  · have e : bk v = 5 := by (simp only [bk]; repeat' split) <;> omega
    rw [e]; exact bucket_impl_c v w hv h0 h1 h2
  by_cases h3 : 99 < v
  · have e : bk v = 4 := by (simp only [bk]; repeat' split) <;> omega
    rw [e]; exact bucket_impl_d v w hv h0 h1 h2 h3
  by_cases h4 : 9 < v
  · have e : bk v = 3 := by (simp only [bk]; repeat' split) <;> omega
    rw [e]; exact bucket_impl_e v w hv h0 h1 h2 h3 h4
  by_cases h5 : 0 < v
  · have e : bk v = 2 := by (simp only [bk]; repeat' split) <;> omega
    rw [e]; exact bucket_impl_f v w hv h0 h1 h2 h3 h4 h5
  by_cases h6 : v = 0
  · have e : bk v = 1 := by (simp only [bk]; repeat' split) <;> omega
    rw [e]; exact bucket_impl_g v w hv h0 h1 h2 h3 h4 h5 h6
  · have e : bk v = 0 := by (simp only [bk]; repeat' split) <;> omega
    rw [e]; exact bucket_impl_h v w hv h0 h1 h2 h3 h4 h5 (by omega)

theorem bucketOf_law (v : Int) (w : World) (hv : -9223372036854775808 ≤ v ∧ v ≤ 9223372036854775807) :
    Calls Try.prog 5 #[.int .i64 v] w fun e w' => e = .returned (.bool true) ∧ Below w.heap.size w w' := by
  by_cases h : isV v = true
  · go_enter Try.func5, Try.ntmps5
    go_wp2_with fail
    refine (bucket_spec_yes v _ h).mono ?_
    rintro e w1 ⟨rfl, rfl⟩
    go_wp2_with fail
    refine (bucket_impl_yes v _ h).mono ?_
    rintro e w1 ⟨rfl, rfl⟩
    go_wp2
    go_ret
    exact ⟨rfl, Below.refl _ _⟩
  · have h' : isV v = false := by simpa using h
    go_enter Try.func5, Try.ntmps5
    go_wp2_with fail
    refine (bucket_spec_no v _ h').mono ?_
    rintro e w1 ⟨rfl, rfl⟩
    go_wp2_with fail
    refine (bucket_impl_no v _ h').mono ?_
    rintro e w1 ⟨rfl, rfl⟩
    go_wp2
    go_ret
    exact ⟨rfl, Below.refl _ _⟩
end Go.Proofs.Ytbaiihokdpojdaa
