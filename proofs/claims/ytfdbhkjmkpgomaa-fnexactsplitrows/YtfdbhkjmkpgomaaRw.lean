/- Rows of entries. -/
import Derived.Test.YtfdbhkjmkpgomaaEn
namespace Go.Proofs.Ytfdbhkjmkpgomaa
open Go.RowKit
set_option linter.unusedSimpArgs false
set_option linter.unusedVariables false

/-- What its type says of an entry. -/
structure EB (x : Ent) : Prop where
  seq : -9223372036854775808 ≤ x.seq ∧ x.seq ≤ 9223372036854775807
  s : -9223372036854775808 ≤ x.s ∧ x.s ≤ 9223372036854775807
  key : x.key.size ≤ 9223372036854775807
  n : x.n ≤ 9223372036854775807

/-- n entries lie at ao. -/
structure ERow (w : World) (ao : Option Addr) (n : Nat) (X : Nat → Ent) : Prop where
  bd : ∀ i, i < n → EB (X i)
  lies : n = 0 ∨ ∃ b off, ao = some ⟨b, off, none⟩ ∧ b < w.heap.size ∧ ∀ i, i < n → ∃ da dc, EAt w b (off + i * 9) (X i) da dc ∧ IRow w da (X i).n (X i).f
theorem ERow.keep {w w' : World} {ao : Option Addr} {n : Nat} {X : Nat → Ent} (h : ERow w ao n X) (hb : Below w.heap.size w w') : ERow w' ao n X :=
  ⟨h.bd, h.lies.elim .inl fun ⟨b, off, e, hlt, hc⟩ => .inr ⟨b, off, e, Nat.lt_of_lt_of_le hlt hb.size, fun i hi => by obtain ⟨da, dc, h1, h2⟩ := hc i hi; exact ⟨da, dc, h1.keep hb, h2.keep hb⟩⟩⟩
end Go.Proofs.Ytfdbhkjmkpgomaa
