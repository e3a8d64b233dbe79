/- A log, or its beginning, is read: the records that lie wholly in it. -/
import Derived.Test.YtimlggomjjkhlaaLgF
import Derived.Test.YtimlggomjjkhlaaRd4
namespace Go.Proofs.Ytimlggomjjkhlaa
open Go.RowKit
set_option linter.unusedSimpArgs false
set_option linter.unusedVariables false

theorem logL_pre (Rs : Nat → List Int) (i m : Nat) : ∃ Z, logL Rs (i + m) = logL Rs i ++ Z := by
  induction m with
  | zero => exact ⟨[], by simp⟩
  | succ m ih =>
    obtain ⟨Z, hZ⟩ := ih
    exact ⟨Z ++ allL (logL Rs (i + m)).length (Rs (i + m)), by rw [← Nat.add_assoc, logL_succ, ← List.append_assoc, ← hZ]⟩
theorem recs_next (Rs : Nat → List Int) (i : Nat) : recs (i + 1) Rs = recs i Rs ++ [Rs i] := by simp [recs, List.range_succ]

theorem log_step (Rs : Nat → List Int) (i m k : Nat) :
    ((logL Rs (i + 1)).length ≤ k → ∀ r, Fin ((logL Rs (i + 1 + m)).take k) (logL Rs (i + 1)).length [] false (recs (i + 1) Rs) (logL Rs (i + 1)).length r → Fin ((logL Rs (i + 1 + m)).take k) (logL Rs i).length [] false (recs i Rs) (logL Rs i).length r) ∧
    (k < (logL Rs (i + 1)).length → Fin ((logL Rs (i + 1 + m)).take k) (logL Rs i).length [] false (recs i Rs) (logL Rs i).length (recs i Rs, (logL Rs i).length)) := by
  obtain ⟨Z, hZ⟩ := logL_pre Rs (i + 1) m
  obtain ⟨h1, h2⟩ := all_read (logL Rs i) (Rs i) Z k (recs i Rs) (logL Rs i).length
  have hl : (logL Rs (i + 1)).length = (logL Rs i).length + (allL (logL Rs i).length (Rs i)).length := by rw [logL_succ, List.length_append]
  rw [hZ, hl, logL_succ, recs_next]
  exact ⟨h1, h2⟩

theorem log_go (Rs : Nat → List Int) (k : Nat) : ∀ (m i : Nat), (logL Rs i).length ≤ k → k ≤ (logL Rs (i + m)).length →
    ∃ j, j ≤ i + m ∧ (logL Rs j).length ≤ k ∧ (k = (logL Rs (i + m)).length → j = i + m) ∧ Fin ((logL Rs (i + m)).take k) (logL Rs i).length [] false (recs i Rs) (logL Rs i).length (recs j Rs, (logL Rs j).length) := by
  intro m
  induction m with
  | zero =>
    intro i h1 h2
    exact ⟨i, Nat.le_refl _, h1, fun _ => rfl, fin_end (by rw [List.length_take]; simp at h2 ⊢; omega)⟩
  | succ m ih =>
    intro i h1 h2
    obtain ⟨s1, s2⟩ := log_step Rs i m k
    rw [show i + (m + 1) = i + 1 + m by omega] at h2 ⊢
    by_cases hk : (logL Rs (i + 1)).length ≤ k
    · obtain ⟨j, j1, j2, j3, j4⟩ := ih (i + 1) hk h2
      exact ⟨j, j1, j2, j3, s1 hk _ j4⟩
    · refine ⟨i, by omega, h1, fun e => ?_, s2 (by omega)⟩
      obtain ⟨Z, hZ⟩ := logL_pre Rs (i + 1) m
      have : (logL Rs (i + 1)).length ≤ (logL Rs (i + 1 + m)).length := by rw [hZ, List.length_append]; omega
      omega

theorem log_read (Rs : Nat → List Int) (n k : Nat) (hk : k ≤ (logL Rs n).length) :
    ∃ j, j ≤ n ∧ (logL Rs j).length ≤ k ∧ (k = (logL Rs n).length → j = n) ∧ Fin ((logL Rs n).take k) 0 [] false [] 0 (recs j Rs, (logL Rs j).length) := by
  have := log_go Rs k n 0 (by simp [logL]) (by rw [Nat.zero_add]; exact hk)
  rw [Nat.zero_add] at this
  simpa [logL, recs] using this
end Go.Proofs.Ytimlggomjjkhlaa
