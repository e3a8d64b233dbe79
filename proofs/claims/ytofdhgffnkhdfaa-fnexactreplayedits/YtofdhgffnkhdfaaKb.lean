/- Worlds that differ in what is new and in one block. -/
import Derived.Test.YtofdhgffnkhdfaaBV
namespace Go.Proofs.Ytofdhgffnkhdfaa
open Go.RowKit
set_option linter.unusedSimpArgs false
set_option linter.unusedVariables false

/-- All blocks below base but B are as they were. -/
structure KB (base B : Nat) (w w' : World) : Prop where
  os : w'.os = w.os
  tape : w'.tape = w.tape
  output : w'.output = w.output
  size : w.heap.size ≤ w'.heap.size
  block : ∀ c, c < base → c ≠ B → w'.heap[c]? = w.heap[c]?
section
variable {base B : Nat} {u w w' : World}
theorem KB.refl (base B : Nat) (w : World) : KB base B w w := ⟨rfl, rfl, rfl, Nat.le_refl _, fun _ _ _ => rfl⟩
theorem KB.trans (h : KB base B u w) (k : KB base B w w') : KB base B u w' := ⟨k.os.trans h.os, k.tape.trans h.tape, k.output.trans h.output, Nat.le_trans h.size k.size, fun c hc hne => (k.block c hc hne).trans (h.block c hc hne)⟩
theorem KB.of_mid (h : Mid B (B + 1) w w') (hb : base ≤ w.heap.size) : KB base B w w' := ⟨h.os, h.tape, h.output, h.size, fun c hc hne => h.block c (by omega) (by omega)⟩
theorem KB.of_below (h : Below base w w') : KB base B w w' := ⟨h.os, h.tape, h.output, h.size, fun c hc _ => h.block c hc⟩
theorem KB.of_grown {v : Value} (h : w.grownBy w' v.ownBlock) (hv : ∀ c, v.ownBlock = some c → base ≤ c) (hb : base ≤ w.heap.size) : KB base B w w' := ⟨h.os, h.tape, h.output, h.size, fun c hc _ => h.block c (by omega) (fun e => by have := hv c e.symm; omega)⟩
theorem KB.row (h : KB base B w w') {ao : Option Addr} {n : Nat} {f : Nat → Int} (hr : Row w ao n f) (hne : ∀ b off, ao = some ⟨b, off, none⟩ → b < base ∧ b ≠ B) : Row w' ao n f := by
  refine ⟨hr.bd, ?_⟩
  rcases hr.lies with h0 | ⟨b, off, e, hlt, hc⟩
  · exact .inl h0
  · have := hne b off e
    exact .inr ⟨b, off, e, Nat.lt_of_lt_of_le hlt h.size, fun i hi => (World.cell?_of_block (w := w) (a := ⟨b, off + i, none⟩) (h.block b this.1 this.2)).trans (hc i hi)⟩
end
end Go.Proofs.Ytofdhgffnkhdfaa
