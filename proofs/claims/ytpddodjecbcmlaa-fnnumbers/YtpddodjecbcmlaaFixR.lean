/- A number comes back from PutFixed's bytes. -/
import Derived.Test.YtpddodjecbcmlaaPutFixed
import Derived.Test.YtpddodjecbcmlaaReadFixed
namespace Go.Proofs.Ytpddodjecbcmlaa
open Go.RowKit

theorem num_back {n : Int} {m q : Nat} {f : Nat → Int} (h : n / 2 ^ (8 * m) = 0) (hf : ∀ i, i < m → f (q + i) = pf n m i) : ∀ k, k ≤ m → num f q k = n / 2 ^ (8 * (m - k)) := by
  intro k
  induction k with
  | zero => intro _; simp [num, h]
  | succ k ih =>
    intro hk
    rw [num, ih (by omega), hf k (by omega), pf]
    have e : n / 2 ^ (8 * (m - k)) = n / 2 ^ (8 * (m - (k + 1))) / 256 := by
      rw [Int.ediv_ediv_of_nonneg (Int.pow_nonneg (by omega)), show (2 : Int) ^ (8 * (m - (k + 1))) * 256 = 2 ^ (8 * (m - k)) from by
        rw [show (256 : Int) = 2 ^ 8 from by decide, ← Int.pow_add]
        congr 1
        omega]
    rw [e, show m - 1 - k = m - (k + 1) by omega]
    omega
theorem num_all {n : Int} {m q : Nat} {f : Nat → Int} (h : n / 2 ^ (8 * m) = 0) (hf : ∀ i, i < m → f (q + i) = pf n m i) : num f q m = n := by
  have := num_back h hf m (Nat.le_refl _)
  simpa using this
end Go.Proofs.Ytpddodjecbcmlaa
