/- Bytes that lie at an address. -/
import Derived.Test.YtgedpjabjoodjaaDoorBase
namespace Go.Proofs.YtgedpjabjoodjaaDoor
open Go.RowKit
set_option linter.unusedVariables false

/-- m bytes lie at ad. -/
def BA (w : World) (ad : Addr) (m : Nat) (h : Nat → Int) : Prop := ad.block < w.heap.size ∧ ad.spot = none ∧ ∀ i, i < m → w.cell? (ad.add i) = some (.int .u8 (h i))
theorem BA.keep {w w' : World} {ad : Addr} {m : Nat} {h : Nat → Int} (hA : BA w ad m h) (hb : Below w.heap.size w w') : BA w' ad m h := by
  obtain ⟨h1, h2, h3⟩ := hA
  refine ⟨Nat.lt_of_lt_of_le h1 hb.size, h2, fun i hi => ?_⟩
  have e : (ad.add i).block = ad.block := by unfold Addr.add; split <;> rfl
  exact (World.cell?_of_block (w := w) (a := ad.add i) (hb.block _ (by rw [e]; exact h1))).trans (h3 i hi)
theorem BA.own {w : World} {g n : Nat} {f : Nat → Int} (h : Own w g 0 n f) : BA w ⟨g, 0, none⟩ n f := by
  refine ⟨h.lt, rfl, fun i hi => ?_⟩
  have := h.cell i hi
  by_cases e : i = 0
  · subst e; simpa [Addr.add] using this
  · simpa [Addr.add, e] using this
end Go.Proofs.YtgedpjabjoodjaaDoor
