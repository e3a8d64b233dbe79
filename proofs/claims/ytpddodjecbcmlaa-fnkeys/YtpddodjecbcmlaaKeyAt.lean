/- A key in memory. -/
import Derived.Test.YtpddodjecbcmlaaSzKey
namespace Go.Proofs.Ytpddodjecbcmlaa
open Go.RowKit
set_option linter.unusedSimpArgs false
set_option linter.unusedVariables false

/-- A key lies in block b. -/
structure KAt (w : World) (b : Nat) (m : ByteArray) (sv : Value) (st : Int) : Prop where
  lt : b < w.heap.size
  c0 : w.cell? ⟨b, 0, none⟩ = some (.string m)
  c1 : w.cell? ⟨b, 1, none⟩ = some sv
  c2 : w.cell? ⟨b, 2, none⟩ = some (.int .i64 st)
theorem KAt.keep {w w' : World} {b : Nat} {m : ByteArray} {sv : Value} {st : Int} (h : KAt w b m sv st) (hb : Below w.heap.size w w') : KAt w' b m sv st :=
  ⟨Nat.lt_of_lt_of_le h.lt hb.size, (hb.cell (p := ⟨b, 0, none⟩) h.lt).trans h.c0, (hb.cell (p := ⟨b, 1, none⟩) h.lt).trans h.c1, (hb.cell (p := ⟨b, 2, none⟩) h.lt).trans h.c2⟩
theorem KAt.new (w : World) (m : ByteArray) (sv : Value) (st : Int) (T : Nat) : KAt (w.alloc (.cells #[.string m, sv, .int .i64 st] T)) w.heap.size m sv st :=
  ⟨by simp, by simp [go_sem], by simp [go_sem], by simp [go_sem]⟩

end Go.Proofs.Ytpddodjecbcmlaa
