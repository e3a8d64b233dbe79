/- Windows: where they lie, measured, copied, compared. -/
import Derived.Test.YtpddodjecbcmlaaEq
import Derived.Test.YtpddodjecbcmlaaSzKey
namespace Go.Proofs.Ytpddodjecbcmlaa
open Go.RowKit
set_option linter.unusedSimpArgs false
set_option linter.unusedVariables false

/-- What a window holds. -/
structure Wn where
  m : ByteArray
  tn : Nat
  nm : Nat → ByteArray
  vl : Nat → ByteArray
  st : Int
  c : Int
  s : Int
  lo : Int
  hi : Int
  n : Nat
  f : Nat → Int
  fu : Bool
  ver : Int
  di : Bool

/-- A window in the eleven cells from off on. -/
structure WiAt (w : World) (b off : Nat) (x : Wn) (a0 a1 : Option Addr) (k0 k1 : Nat) : Prop where
  lt : b < w.heap.size
  c0 : w.cell? ⟨b, off, none⟩ = some (.string x.m)
  c1 : w.cell? ⟨b, off + 1, none⟩ = some (.slice a0 x.tn k0)
  c2 : w.cell? ⟨b, off + 2, none⟩ = some (.int .i64 x.st)
  c3 : w.cell? ⟨b, off + 3, none⟩ = some (.int .i64 x.c)
  c4 : w.cell? ⟨b, off + 4, none⟩ = some (.int .i64 x.s)
  c5 : w.cell? ⟨b, off + 5, none⟩ = some (.int .i64 x.lo)
  c6 : w.cell? ⟨b, off + 6, none⟩ = some (.int .i64 x.hi)
  c7 : w.cell? ⟨b, off + 7, none⟩ = some (.slice a1 x.n k1)
  c8 : w.cell? ⟨b, off + 8, none⟩ = some (.bool x.fu)
  c9 : w.cell? ⟨b, off + 9, none⟩ = some (.int .i64 x.ver)
  c10 : w.cell? ⟨b, off + 10, none⟩ = some (.bool x.di)
section
variable {w w' : World} {b off k0 k1 : Nat} {x : Wn} {a0 a1 : Option Addr}
theorem WiAt.move (h : WiAt w b off x a0 a1 k0 k1) (lt : b < w'.heap.size) (k : ∀ j, w'.cell? ⟨b, j, none⟩ = w.cell? ⟨b, j, none⟩) : WiAt w' b off x a0 a1 k0 k1 :=
  ⟨lt, (k _).trans h.c0, (k _).trans h.c1, (k _).trans h.c2, (k _).trans h.c3, (k _).trans h.c4, (k _).trans h.c5, (k _).trans h.c6, (k _).trans h.c7, (k _).trans h.c8, (k _).trans h.c9, (k _).trans h.c10⟩
theorem WiAt.keep (h : WiAt w b off x a0 a1 k0 k1) (hb : Below w.heap.size w w') : WiAt w' b off x a0 a1 k0 k1 :=
  h.move (Nat.lt_of_lt_of_le h.lt hb.size) fun j => hb.cell (p := ⟨b, j, none⟩) h.lt
theorem WiAt.others {d : Nat} (h : WiAt w b off x a0 a1 k0 k1) (ho : Others d w w') (hne : b ≠ d) : WiAt w' b off x a0 a1 k0 k1 :=
  h.move (by rw [ho.size]; exact h.lt) fun j => World.cell?_of_block (w := w) (a := ⟨b, j, none⟩) (ho.block b hne)
end
theorem WiAt.new (w : World) (x : Wn) (a0 a1 : Option Addr) (k0 k1 : Nat) (T : Nat) : WiAt (w.alloc (.cells #[.string x.m, .slice a0 x.tn k0, .int .i64 x.st, .int .i64 x.c, .int .i64 x.s, .int .i64 x.lo, .int .i64 x.hi, .slice a1 x.n k1, .bool x.fu, .int .i64 x.ver, .bool x.di] T)) w.heap.size 0 x a0 a1 k0 k1 := by
  refine ⟨by simp, ?_, ?_, ?_, ?_, ?_, ?_, ?_, ?_, ?_, ?_, ?_⟩ <;> simp [go_sem]

/-- What its type says of a window. -/
structure WiB (x : Wn) : Prop where
  st : -9223372036854775808 ≤ x.st ∧ x.st ≤ 9223372036854775807
  c : -9223372036854775808 ≤ x.c ∧ x.c ≤ 9223372036854775807
  s : -9223372036854775808 ≤ x.s ∧ x.s ≤ 9223372036854775807
  ver : -9223372036854775808 ≤ x.ver ∧ x.ver ≤ 9223372036854775807
  m : x.m.size ≤ 9223372036854775807
  tn : x.tn ≤ 9223372036854775807
  ts : TSize x.tn x.nm x.vl 9223372036854775807
  n : x.n ≤ 9223372036854775807
/-- A window that is no greater than what is measured. -/
structure WiS (x : Wn) : Prop where
  m : x.m.size ≤ 1048576
  tn : x.tn ≤ 1048576
  ts : TSize x.tn x.nm x.vl 1048576
  n : x.n ≤ 1048576

end Go.Proofs.Ytpddodjecbcmlaa
