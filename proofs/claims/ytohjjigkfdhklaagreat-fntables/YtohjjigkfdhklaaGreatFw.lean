/- How many ways and bytes a filter has. -/
import Derived.Test.YtohjjigkfdhklaaGreatBase
namespace Go.Proofs.YtohjjigkfdhklaaGreat
set_option maxRecDepth 100000
open Go.RowKit
set_option linter.unusedSimpArgs false
set_option linter.unusedVariables false

def fwI (p : Int) : Int := if p * 69 / 100 < 1 then 1 else if 8 < p * 69 / 100 then 8 else p * 69 / 100
def fbQ (q : Int) : Int := if q < 64 then 8 else if 200 < (q + 7) / 8 then 200 else (q + 7) / 8
def fbI (n : Nat) (p : Int) : Int := fbQ ((n : Int) * p)
theorem fwI_bd {p : Int} : 1 ≤ fwI p ∧ fwI p ≤ 8 := by unfold fwI; repeat' split <;> omega
theorem fbQ_bd {q : Int} : 1 ≤ fbQ q ∧ fbQ q ≤ 200 := by unfold fbQ; repeat' split <;> omega
theorem fbI_bd {n : Nat} {p : Int} : 1 ≤ fbI n p ∧ fbI n p ≤ 200 := fbQ_bd

theorem filterWays_any (p : Int) (w : World) (h : 1 ≤ p ∧ p ≤ 20) :
    Calls Tryz.prog 48 #[.int .i64 p] w fun e w' => e = .returned (.int .i64 (fwI p)) ∧ w' = w := by
  unfold fwI
  by_cases a : p * 69 / 100 < 1
  · rw [if_pos a]
    go_enter Tryz.func48, Tryz.ntmps48
    go_wp2
    go_ret
    exact ⟨rfl, rfl⟩
  · rw [if_neg a]
    by_cases b : 8 < p * 69 / 100
    · rw [if_pos b]
      go_enter Tryz.func48, Tryz.ntmps48
      go_wp2
      go_ret
      exact ⟨rfl, rfl⟩
    · rw [if_neg b]
      go_enter Tryz.func48, Tryz.ntmps48
      go_wp2
      go_ret
      exact ⟨rfl, rfl⟩
theorem mul_bd {n : Nat} {p : Int} (hn : n ≤ 100) (h : 1 ≤ p ∧ p ≤ 20) : 0 ≤ (n : Int) * p ∧ (n : Int) * p ≤ 2000 := by
  refine ⟨Int.mul_nonneg (by omega) (by omega), ?_⟩
  have h1 : (n : Int) * p ≤ 100 * p := Int.mul_le_mul_of_nonneg_right (by omega) (by omega)
  omega
theorem filterBytes_n (n : Nat) (p : Int) (w : World) (hn : n ≤ 100) (h : 1 ≤ p ∧ p ≤ 20) :
    Calls Tryz.prog 49 #[.int .i64 n, .int .i64 p] w fun e w' => e = .returned (.int .i64 (fbI n p)) ∧ w' = w := by
  have hb := mul_bd hn h
  unfold fbI
  obtain ⟨q, hq⟩ : ∃ q, (n : Int) * p = q := ⟨_, rfl⟩
  have hw : IntKind.i64.wrap ((n : Int) * p) = q := by rw [hq] at hb ⊢; rw [IntKind.wrap_i64] <;> omega
  rw [hq] at hb ⊢
  clear hq
  unfold fbQ
  by_cases a : q < 64
  · rw [if_pos a]
    go_enter Tryz.func49, Tryz.ntmps49
    go_wp2
    go_ret
    exact ⟨rfl, rfl⟩
  · rw [if_neg a]
    by_cases b : 200 < (q + 7) / 8
    · rw [if_pos b]
      go_enter Tryz.func49, Tryz.ntmps49
      go_wp2
      go_ret
      exact ⟨rfl, rfl⟩
    · rw [if_neg b]
      go_enter Tryz.func49, Tryz.ntmps49
      go_wp2
      go_ret
      exact ⟨rfl, rfl⟩
end Go.Proofs.YtohjjigkfdhklaaGreat
