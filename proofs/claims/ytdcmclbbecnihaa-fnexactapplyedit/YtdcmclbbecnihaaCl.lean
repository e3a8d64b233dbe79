/- A region that draws its order, whose operations only read and whose callees leave what there was as it was: one walk serves every order. -/
import Derived.Test.YtdcmclbbecnihaaFl
import Derived.BigQuiet
namespace Go.Proofs.Ytdcmclbbecnihaa
open Go.RowKit
set_option linter.unusedVariables false

/-- The worlds that differ from W in what is new alone, as a family. -/
theorem class_of (W : World) : ∃ (Idx : Type) (_ : Nonempty Idx) (F : Idx → World), (∀ n, Below W.heap.size W (F n)) ∧ (∀ n w', Below (F n).heap.size (F n) w' → ∃ m, w' = F m) ∧ ∃ n, { W with drawn := W.drawn + 1 } = F n :=
  ⟨{ w : World // Below W.heap.size W w }, ⟨⟨W, Below.refl _ _⟩⟩, fun n => n.1, fun n => n.2, fun n w' h => ⟨⟨w', n.2.trans (h.mono n.2.size)⟩, rfl⟩, ⟨⟨_, (Below.refl _ W).drew⟩, rfl⟩⟩

theorem region_class {P : Program} {Idx : Type} (F : Idx → World) {id : Nat} {Q : Exit → Act → World → Prop} {a : Act} {w : World} {l : List Oper} (hC : ∃ n, { w with drawn := w.drawn + 1 } = F n) (hm : P.follows .mixedOrders = true) (hB : Region.lexB .any l.toArray = true)
    (h : wpQuiet P l.toArray (fun w' => ∃ n, w' = F n) (fun a' => ∀ w', (∃ n, w' = F n) → Q .normal a' w') l a) : (Code.region id l.toArray true).wp P Q a w :=
  wp_region_quiet (C := fun w' => ∃ n, w' = F n) hm hB hC (by simpa using h)
end Go.Proofs.Ytdcmclbbecnihaa
