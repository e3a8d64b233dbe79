/- The law of LastTold. -/
import Derived.Test.YtjdijikmdlklkaaZn
namespace Go.Proofs.Ytjdijikmdlklkaa
open Go.RowKit
set_option linter.unusedSimpArgs false
set_option linter.unusedVariables false

theorem lmSaid_of (n : Nat) (X : Nat → Wn) (hn : n ≤ 1048576) (hz : ToSize n X) (hbd : ∀ i, i < n → TlB (X i)) : LmSaid n X := by
  refine ⟨fun hno b G0 G1 w ho => ?_, fun h200 hg b G0 G1 w ho => ?_⟩
  · by_cases c : 200 < n
    · exact lastTold_specMany b n n w c hn
    · obtain ⟨i, hi, hk⟩ := hno.resolve_left c
      refine (lastTold_spec b n X G0 G1 w ho (by omega) hz hbd).mono ?_
      rintro e w' (⟨_, h⟩ | ⟨h, _⟩)
      · exact h
      · have := h i hi
        rw [hk] at this
        cases this
  · refine (lastTold_spec b n X G0 G1 w ho h200 hz hbd).mono ?_
    rintro e w' (⟨⟨i, hi, hk⟩, _⟩ | ⟨_, h⟩)
    · rw [hg i hi] at hk
      cases hk
    · exact h
theorem lastTold_law (ao : Option Addr) (n cap : Nat) (X : Nat → Wn) (w : World) (hr : ToRow w ao n X) (hnx : n ≤ 9223372036854775807) :
    Calls Try.prog 3 #[.slice ao n cap] w fun e w' => e = .returned (.bool true) ∧ Below w.heap.size w w' :=
  lastTold_walk ao n cap X w hr hnx fun hn hz hf hbd => ltBoth_of n X hn hz hf hbd (lmSaid_of n X hn hz hbd)
end Go.Proofs.Ytjdijikmdlklkaa
