/- The bucket of a value, in the program and in the model. -/
import Derived.Test.YtbaiihokdpojdaaVal
namespace Go.Proofs.Ytbaiihokdpojdaa
open Go.RowKit
set_option linter.unusedSimpArgs false
set_option linter.unusedVariables false

/-- The bucket of a value. -/
def bk (v : Int) : Int :=
  if v < 0 then 0 else if v < 1 then 1 else if v < 10 then 2 else if v < 100 then 3 else if v < 1000 then 4 else if v < 10000 then 5 else if v < 100000 then 6 else 7
def bkAll (v : Int) : Int := if isV v then bk v else -1

def tenTo : Nat → Int
  | 0 => 1
  | k + 1 => tenTo k * 10
theorem tenTo_bd (k : Nat) (h : k ≤ 6) : 1 ≤ tenTo k ∧ tenTo k ≤ 1000000 := by
  have : k = 0 ∨ k = 1 ∨ k = 2 ∨ k = 3 ∨ k = 4 ∨ k = 5 ∨ k = 6 := by omega
  rcases this with rfl | rfl | rfl | rfl | rfl | rfl | rfl <;> simp [tenTo]

set_option maxHeartbeats 800000 in
theorem l4Bucket_any (v : Int) (w : World) (hv : isV v = true) :
    Calls Try.prog 35 #[.int .i64 v] w fun e w' => e = .returned (.int .i64 (bk v)) ∧ w' = w := by
  have hb : -1000000000 ≤ v ∧ v ≤ 1000000000 := by simpa [isV, btw] using hv
  by_cases h0 : v < 0
  · go_enter Try.func35, Try.ntmps35
    go_wp2
    go_ret
    exact ⟨by simp [bk, h0], rfl⟩
  · go_enter Try.func35, Try.ntmps35
    go_wp2
    go_loopw [3, 4] (fun q t wr => ∃ k : Nat, k ≤ 6 ∧ q = .int .i64 ((k + 1 : Nat) : Int) ∧ t = .int .i64 (tenTo k) ∧ (∀ j, j < k → tenTo j ≤ v) ∧ wr = w) (fun q _ _ => 7 - (intOf q).toNat)
    case atStart => exact ⟨0, by omega, rfl, rfl, by omega, rfl⟩
    case round =>
      obtain ⟨k, hk, rfl, rfl, hle, rfl⟩ := hrel
      have ht := tenTo_bd k hk
      have hfin : ¬ (k < 6 ∧ tenTo k ≤ v) → bk v = ((k + 1 : Nat) : Int) := by
        intro hn
        have hc : k = 0 ∨ k = 1 ∨ k = 2 ∨ k = 3 ∨ k = 4 ∨ k = 5 ∨ k = 6 := by omega
        rcases hc with rfl | rfl | rfl | rfl | rfl | rfl | rfl
        · simp [tenTo] at hn; simp only [bk]; repeat' split
          all_goals omega
        · have := hle 0 (by omega); simp [tenTo] at hn this; simp only [bk]; repeat' split
          all_goals omega
        · have := hle 1 (by omega); simp [tenTo] at hn this; simp only [bk]; repeat' split
          all_goals omega
        · have := hle 2 (by omega); simp [tenTo] at hn this; simp only [bk]; repeat' split
          all_goals omega
        · have := hle 3 (by omega); simp [tenTo] at hn this; simp only [bk]; repeat' split
          all_goals omega
        · have := hle 4 (by omega); simp [tenTo] at hn this; simp only [bk]; repeat' split
          all_goals omega
        · have := hle 5 (by omega); simp [tenTo] at this; simp only [bk]; repeat' split
          all_goals omega
      by_cases h6 : k < 6
      · by_cases hlt : tenTo k ≤ v
        · clear hfin
          go_wp2
          go_roundw
          case rel =>
            refine ⟨k + 1, by omega, by go_num, by go_num, fun j hj => ?_, trivial⟩
            rcases Nat.lt_succ_iff_lt_or_eq.1 hj with h | rfl
            · exact hle j h
            · exact hlt
          case measure => simp [intOf]; omega
        · have e := hfin (by omega)
          clear hfin
          go_wp2
          go_ret
          exact ⟨rfl, rfl⟩
      · have e := hfin (by omega)
        clear hfin
        go_wp2
        go_ret
        exact ⟨rfl, rfl⟩
end Go.Proofs.Ytbaiihokdpojdaa
