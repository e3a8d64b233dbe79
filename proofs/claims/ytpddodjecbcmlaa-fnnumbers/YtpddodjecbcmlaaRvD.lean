/- Numbers of varying length: what ReadVar reads. -/
import Derived.Test.YtpddodjecbcmlaaBase
import Derived.OpenShut
namespace Go.Proofs.Ytpddodjecbcmlaa
open Go.RowKit
set_option linter.unusedSimpArgs false
set_option linter.unusedVariables false

def rvStep (acc x : Int) (k : Nat) : Int := bits .or .u64 acc (IntKind.u64.wrap (IntKind.u64.wrap (bits .and .u8 x 127) * 2 ^ (7 * k)))
/-- What is read from round k on; (0, 0) where there is no number. -/
def rv (f : Nat → Int) (n q : Nat) : Nat → Nat → Int → Int × Int
  | 0, _, _ => (0, 0)
  | t + 1, k, acc =>
    if q + k < n then
      (if k = 9 ∧ 1 < f (q + k) then (0, 0)
       else if f (q + k) < 128 then (if 0 < k ∧ f (q + k) = 0 then (0, 0) else (rvStep acc (f (q + k)) k, (q : Int) + k + 1))
       else rv f n q t (k + 1) (rvStep acc (f (q + k)) k))
    else (0, 0)
def rvAll (f : Nat → Int) (n q : Nat) : Int × Int := rv f n q 10 0 0

theorem rv_end (f : Nat → Int) (n q : Nat) (k : Nat) (acc : Int) (h : ¬ k < 10) : rv f n q (10 - k) k acc = (0, 0) := by
  rw [show 10 - k = 0 from by omega]; rfl
theorem rv_out (f : Nat → Int) (n q : Nat) (k : Nat) (acc : Int) (h : k < 10) (h1 : ¬ q + k < n) : rv f n q (10 - k) k acc = (0, 0) := by
  rw [show 10 - k = (9 - k) + 1 from by omega]; simp [rv, h1]
theorem rv_high (f : Nat → Int) (n q : Nat) (k : Nat) (acc : Int) (h : k < 10) (h2 : k = 9 ∧ 1 < f (q + k)) : rv f n q (10 - k) k acc = (0, 0) := by
  rw [show 10 - k = (9 - k) + 1 from by omega]; unfold rv; split
  · simp [h2]
  · rfl
theorem rv_nought (f : Nat → Int) (n q : Nat) (k : Nat) (acc : Int) (h : k < 10) (h3 : 0 < k ∧ f (q + k) = 0) : rv f n q (10 - k) k acc = (0, 0) := by
  rw [show 10 - k = (9 - k) + 1 from by omega]; unfold rv; split
  · simp [h3]
  · rfl
theorem rv_last (f : Nat → Int) (n q : Nat) (k : Nat) (acc : Int) (h : k < 10) (h1 : q + k < n) (h2 : ¬ (k = 9 ∧ 1 < f (q + k))) (h3 : f (q + k) < 128) (h4 : ¬ (0 < k ∧ f (q + k) = 0)) :
    rv f n q (10 - k) k acc = (rvStep acc (f (q + k)) k, (q : Int) + k + 1) := by
  rw [show 10 - k = (9 - k) + 1 from by omega]; unfold rv; rw [if_pos h1, if_neg h2, if_pos h3, if_neg h4]
theorem rv_more (f : Nat → Int) (n q : Nat) (k : Nat) (acc : Int) (h : k < 10) (h1 : q + k < n) (h2 : ¬ (k = 9 ∧ 1 < f (q + k))) (h3 : ¬ f (q + k) < 128) :
    rv f n q (10 - k) k acc = rv f n q (10 - (k + 1)) (k + 1) (rvStep acc (f (q + k)) k) := by
  rw [show 10 - k = (10 - (k + 1)) + 1 from by omega]; conv => lhs; unfold rv
  rw [if_pos h1, if_neg h2, if_neg h3]

end Go.Proofs.Ytpddodjecbcmlaa
