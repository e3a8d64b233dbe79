/- EntriesOf, in the program. -/
import Derived.Test.YtfdbhkjmkpgomaaAd
import Derived.Test.YtfdbhkjmkpgomaaGoI
namespace Go.Proofs.Ytfdbhkjmkpgomaa
open Go.RowKit
set_option linter.unusedSimpArgs false
set_option linter.unusedVariables false

def dE : Ent := ⟨.empty, 0, 0, 0, 0, 0, 0, 0, fun _ => 0, false⟩
def eL (E : List Ent) (i : Nat) : Ent := E.getD i dE
theorem eL_push (E : List Ent) (x : Ent) : ∀ i, i < E.length + 1 → (if i = E.length then x else eL E i) = eL (E ++ [x]) i := by
  intro i hi
  unfold eL
  by_cases h : i = E.length
  · subst h; simp
  · rw [if_neg h]
    simp [List.getD, List.getElem?_append_left (show i < E.length from by omega)]
/-- Those of a key among the first k. -/
def fX (X : Nat → Ent) (key : ByteArray) : Nat → List Ent
  | 0 => []
  | k + 1 => if ((X k).key.toList == key.toList) = true then fX X key k ++ [X k] else fX X key k
theorem fX_len (X : Nat → Ent) (key : ByteArray) : ∀ k, (fX X key k).length ≤ k
  | 0 => by simp [fX]
  | k + 1 => by
    have := fX_len X key k
    unfold fX
    split
    · simp; omega
    · omega
/-- An answer of entries of the call's own. -/
def EoA (E : List Ent) (c : Bool) (w : World) (e : Ending) (w' : World) : Prop :=
  ∃ v V, e = .returned (.tuple #[v, .bool c]) ∧ OutE w' w.heap.size v E.length (eL E) V ∧ Below w.heap.size w w'
/-- What EntriesOf leaves. -/
def EoO (good : Prop) (E : List Ent) (w : World) (e : Ending) (w' : World) : Prop := (¬ good ∧ EoA [] false w e w') ∨ (good ∧ EoA E true w e w')

end Go.Proofs.Ytfdbhkjmkpgomaa
