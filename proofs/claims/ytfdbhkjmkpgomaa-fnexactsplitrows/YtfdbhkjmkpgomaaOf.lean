/- EntriesOf, in the model. -/
import Derived.Test.YtfdbhkjmkpgomaaLo
import Derived.Test.YtfdbhkjmkpgomaaGoS
namespace Go.Proofs.Ytfdbhkjmkpgomaa
open Go.RowKit
set_option linter.unusedSimpArgs false
set_option linter.unusedVariables false

theorem fX_all {X : Nat → Ent} {key : ByteArray} {P : Ent → Prop} : ∀ {k : Nat}, (∀ i, i < k → P (X i)) → ∀ i, i < (fX X key k).length → P (eL (fX X key k) i)
  | 0, _, i, hi => by simp [fX] at hi
  | k + 1, h, i, hi => by
    have ih := fX_all (X := X) (key := key) (P := P) (k := k) (fun i hi => h i (by omega))
    unfold fX at hi ⊢
    split at hi
    · rename_i hq
      rw [if_pos hq]
      rw [List.length_append, List.length_singleton] at hi
      rw [← eL_push _ _ i hi]
      split
      · exact h k (by omega)
      · exact ih i (by omega)
    · rename_i hq
      rw [if_neg hq]
      exact ih i hi

end Go.Proofs.Ytfdbhkjmkpgomaa
