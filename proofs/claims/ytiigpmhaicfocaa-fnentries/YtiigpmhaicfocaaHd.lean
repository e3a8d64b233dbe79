/- markEntryS. / heldEntryS. -/
import Derived.Test.YtiigpmhaicfocaaCe
import Derived.Deep.RegionHeld3
namespace Go.Proofs.Ytiigpmhaicfocaa
open Go.RowKit
set_option linter.unusedSimpArgs false
set_option linter.unusedVariables false

theorem CE.congr {w : World} {b n : Nat} {X X' : Nat → Ent} {L : Nat → Option Addr} {C : Nat → Nat} (h : CE w b n X L C) (e : ∀ i, i < n → X i = X' i) : CE w b n X' L C :=
  ⟨h.lt, fun i hi => by rw [← e i hi]; exact h.ent i hi, h.free, fun i hi => by rw [← e i hi]; exact h.hist i hi, fun i j hi hj hij => by rw [← e i hi, ← e j hj]; exact h.dis i j hi hj hij⟩
/-- The next mark behind the first i entries. -/
def kOf (X : Nat → Ent) (k0 : Nat) : Nat → Nat
  | 0 => k0
  | i + 1 => kOf X k0 i + 8 + (X i).n
theorem kOf_mono (X : Nat → Ent) (k0 : Nat) : ∀ {i j : Nat}, i ≤ j → kOf X k0 i ≤ kOf X k0 j
  | i, 0, h => by rw [show i = 0 by omega]; exact Nat.le_refl _
  | i, j + 1, h => by
    by_cases e : i = j + 1
    · rw [e]; exact Nat.le_refl _
    · have := kOf_mono X k0 (show i ≤ j by omega)
      show _ ≤ kOf X k0 j + 8 + (X j).n
      omega
theorem kOf_ge (X : Nat → Ent) (k0 i : Nat) : k0 ≤ kOf X k0 i := kOf_mono X k0 (Nat.zero_le i)

end Go.Proofs.Ytiigpmhaicfocaa
namespace Go.Proofs.Ytiigpmhaicfocaa
open Go.RowKit
set_option linter.unusedSimpArgs false
set_option linter.unusedVariables false

end Go.Proofs.Ytiigpmhaicfocaa
