/- What a method of the model leaves. -/
import Derived.Test.YtgedpjabjoodjaaDoorSyncS
namespace Go.Proofs.YtgedpjabjoodjaaDoor
open Go.RowKit
set_option linter.unusedSimpArgs false
set_option linter.unusedVariables false

/-- A method of the model leaves m files behind the box fb, from base on, and a code. -/
def LOut (Q c : Int) (m : Nat) (Fo : Nat → Fil) (fb base : Nat) (w : World) (e : Ending) (w' : World) : Prop :=
  ∃ p' c', e = .returned (.int .i64 c) ∧ QAt w' fb Q (.slice p' m c') ∧ FLow w' base p' m Fo ∧ w.heap.size ≤ w'.heap.size ∧ Below fb w w' ∧ ∀ k, k < base → k ≠ fb → k < w.heap.size → w'.heap[k]? = w.heap[k]?
end Go.Proofs.YtgedpjabjoodjaaDoor
