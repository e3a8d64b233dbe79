/- Aggs: where they lie, copied and compared. / Aggs compared by the laws. / Entries: where they lie, measured, copied, compared. -/
import Derived.Test.YtmeckcaekkangaaGreatVal
namespace Go.Proofs.YtmeckcaekkangaaGreat
set_option maxRecDepth 100000
open Go.RowKit
set_option linter.unusedSimpArgs false
set_option linter.unusedVariables false

/-- An agg in block b. -/
structure AAt (w : World) (b : Nat) (c s lo hi : Int) (hv : Value) (fu : Bool) : Prop where
  lt : b < w.heap.size
  c0 : w.cell? ⟨b, 0, none⟩ = some (.int .i64 c)
  c1 : w.cell? ⟨b, 1, none⟩ = some (.int .i64 s)
  c2 : w.cell? ⟨b, 2, none⟩ = some (.int .i64 lo)
  c3 : w.cell? ⟨b, 3, none⟩ = some (.int .i64 hi)
  c4 : w.cell? ⟨b, 4, none⟩ = some hv
  c5 : w.cell? ⟨b, 5, none⟩ = some (.bool fu)
section
variable {w w' : World} {b : Nat} {c s lo hi : Int} {hv : Value} {fu : Bool}
theorem AAt.keep (h : AAt w b c s lo hi hv fu) (hb : Below w.heap.size w w') : AAt w' b c s lo hi hv fu :=
  ⟨Nat.lt_of_lt_of_le h.lt hb.size, (hb.cell (p := ⟨b, 0, none⟩) h.lt).trans h.c0, (hb.cell (p := ⟨b, 1, none⟩) h.lt).trans h.c1, (hb.cell (p := ⟨b, 2, none⟩) h.lt).trans h.c2, (hb.cell (p := ⟨b, 3, none⟩) h.lt).trans h.c3, (hb.cell (p := ⟨b, 4, none⟩) h.lt).trans h.c4, (hb.cell (p := ⟨b, 5, none⟩) h.lt).trans h.c5⟩
theorem AAt.others {d : Nat} (h : AAt w b c s lo hi hv fu) (ho : Others d w w') (hne : b ≠ d) : AAt w' b c s lo hi hv fu :=
  have k : ∀ j, w'.cell? ⟨b, j, none⟩ = w.cell? ⟨b, j, none⟩ := fun j => World.cell?_of_block (w := w) (a := ⟨b, j, none⟩) (ho.block b hne)
  ⟨by rw [ho.size]; exact h.lt, (k _).trans h.c0, (k _).trans h.c1, (k _).trans h.c2, (k _).trans h.c3, (k _).trans h.c4, (k _).trans h.c5⟩
end
theorem AAt.new (w : World) (c s lo hi : Int) (hv : Value) (fu : Bool) (T : Nat) : AAt (w.alloc (.cells #[.int .i64 c, .int .i64 s, .int .i64 lo, .int .i64 hi, hv, .bool fu] T)) w.heap.size c s lo hi hv fu := by
  refine ⟨by simp, ?_, ?_, ?_, ?_, ?_, ?_⟩ <;> simp [go_sem]
theorem below_new (w : World) (o : Obj) : Below w.heap.size w (w.alloc o) := (Below.refl _ _).alloc (Nat.le_refl _) _

theorem Others.irow {b : Nat} {w w' : World} (h : Others b w w') {c off n : Nat} {f : Nat → Int} (hr : IOwn w c off n f) (hne : c ≠ b) : IOwn w' c off n f :=
  ⟨hr.bd, by rw [h.size]; exact hr.lt, fun i hi => (World.cell?_of_block (w := w) (a := ⟨c, off + i, none⟩) (h.block c hne)).trans (hr.cell i hi),
    fun i hi => (World.frozen?_of_block (w := w) (a := ⟨c, off + i, none⟩) (h.block c hne)).trans (hr.free i hi)⟩

theorem new3 (w : World) (A B C : Array Value) (T U V : Nat) {w1 : World}
    (hb : Below (((w.alloc (.cells A T)).alloc (.cells B U)).alloc (.cells C V)).heap.size (((w.alloc (.cells A T)).alloc (.cells B U)).alloc (.cells C V)) w1) :
    (∀ j, w1.cell? ⟨w.heap.size, j, none⟩ = A[j]?) ∧ (∀ j, w1.cell? ⟨w.heap.size + 1, j, none⟩ = B[j]?) ∧ (∀ j, w1.cell? ⟨w.heap.size + 1 + 1, j, none⟩ = C[j]?) ∧
    (∀ j, w1.frozen? ⟨w.heap.size + 1, j, none⟩ = false) ∧ (∀ j, w1.frozen? ⟨w.heap.size + 1 + 1, j, none⟩ = false) ∧ w.heap.size + 3 ≤ w1.heap.size := by
  have hs := hb.size
  simp at hs
  have c : ∀ b j, b < w.heap.size + 3 → w1.cell? ⟨b, j, none⟩ = _ := fun b j h => hb.cell (p := ⟨b, j, none⟩) (by simp; omega)
  have d : ∀ b j, b < w.heap.size + 3 → w1.frozen? ⟨b, j, none⟩ = _ := fun b j h => hb.frozen (p := ⟨b, j, none⟩) (by simp; omega)
  refine ⟨fun j => (c _ _ (by omega)).trans ?_, fun j => (c _ _ (by omega)).trans ?_, fun j => (c _ _ (by omega)).trans ?_, fun j => (d _ _ (by omega)).trans ?_, fun j => (d _ _ (by omega)).trans ?_, by omega⟩
  all_goals simp [go_sem]

end Go.Proofs.YtmeckcaekkangaaGreat
namespace Go.Proofs.YtmeckcaekkangaaGreat
set_option maxRecDepth 100000
open Go.RowKit
set_option linter.unusedSimpArgs false
set_option linter.unusedVariables false

end Go.Proofs.YtmeckcaekkangaaGreat
namespace Go.Proofs.YtmeckcaekkangaaGreat
set_option maxRecDepth 100000
open Go.RowKit
set_option linter.unusedSimpArgs false
set_option linter.unusedVariables false

/-- What an entry holds. -/
structure Ent where
  key : ByteArray
  seq : Int
  kind : Int
  c : Int
  s : Int
  lo : Int
  hi : Int
  n : Nat
  f : Nat → Int
  fu : Bool

/-- An entry in the nine cells from off on. -/
structure EAt (w : World) (b off : Nat) (x : Ent) (ao : Option Addr) (cap : Nat) : Prop where
  lt : b < w.heap.size
  c0 : w.cell? ⟨b, off, none⟩ = some (.string x.key)
  c1 : w.cell? ⟨b, off + 1, none⟩ = some (.int .i64 x.seq)
  c2 : w.cell? ⟨b, off + 2, none⟩ = some (.int .i64 x.kind)
  c3 : w.cell? ⟨b, off + 3, none⟩ = some (.int .i64 x.c)
  c4 : w.cell? ⟨b, off + 4, none⟩ = some (.int .i64 x.s)
  c5 : w.cell? ⟨b, off + 5, none⟩ = some (.int .i64 x.lo)
  c6 : w.cell? ⟨b, off + 6, none⟩ = some (.int .i64 x.hi)
  c7 : w.cell? ⟨b, off + 7, none⟩ = some (.slice ao x.n cap)
  c8 : w.cell? ⟨b, off + 8, none⟩ = some (.bool x.fu)
section
variable {w w' : World} {b off cap : Nat} {x : Ent} {ao : Option Addr}
theorem EAt.move (h : EAt w b off x ao cap) (lt : b < w'.heap.size) (k : ∀ j, w'.cell? ⟨b, j, none⟩ = w.cell? ⟨b, j, none⟩) : EAt w' b off x ao cap :=
  ⟨lt, (k _).trans h.c0, (k _).trans h.c1, (k _).trans h.c2, (k _).trans h.c3, (k _).trans h.c4, (k _).trans h.c5, (k _).trans h.c6, (k _).trans h.c7, (k _).trans h.c8⟩
theorem EAt.keep (h : EAt w b off x ao cap) (hb : Below w.heap.size w w') : EAt w' b off x ao cap :=
  h.move (Nat.lt_of_lt_of_le h.lt hb.size) fun j => hb.cell (p := ⟨b, j, none⟩) h.lt
theorem EAt.others {d : Nat} (h : EAt w b off x ao cap) (ho : Others d w w') (hne : b ≠ d) : EAt w' b off x ao cap :=
  h.move (by rw [ho.size]; exact h.lt) fun j => World.cell?_of_block (w := w) (a := ⟨b, j, none⟩) (ho.block b hne)
end
theorem EAt.new (w : World) (x : Ent) (ao : Option Addr) (cap : Nat) (T : Nat) : EAt (w.alloc (.cells #[.string x.key, .int .i64 x.seq, .int .i64 x.kind, .int .i64 x.c, .int .i64 x.s, .int .i64 x.lo, .int .i64 x.hi, .slice ao x.n cap, .bool x.fu] T)) w.heap.size 0 x ao cap := by
  refine ⟨by simp, ?_, ?_, ?_, ?_, ?_, ?_, ?_, ?_, ?_⟩ <;> simp [go_sem]

theorem EAt.z {w : World} {b cap : Nat} {x : Ent} {ao : Option Addr} (h : EAt w b 0 x ao cap) : b < w.heap.size ∧ w.cell? ⟨b, 0, none⟩ = some (.string x.key) ∧ w.cell? ⟨b, 1, none⟩ = some (.int .i64 x.seq) ∧ w.cell? ⟨b, 2, none⟩ = some (.int .i64 x.kind) ∧ w.cell? ⟨b, 3, none⟩ = some (.int .i64 x.c) ∧ w.cell? ⟨b, 4, none⟩ = some (.int .i64 x.s) ∧ w.cell? ⟨b, 5, none⟩ = some (.int .i64 x.lo) ∧ w.cell? ⟨b, 6, none⟩ = some (.int .i64 x.hi) ∧ w.cell? ⟨b, 7, none⟩ = some (.slice ao x.n cap) ∧ w.cell? ⟨b, 8, none⟩ = some (.bool x.fu) :=
  ⟨h.lt, h.c0, h.c1, h.c2, h.c3, h.c4, h.c5, h.c6, h.c7, h.c8⟩

/-- What a measure leaves. -/
def SzOut (left : Int) (P : Prop) (w : World) (e : Ending) (w' : World) : Prop :=
  ∃ v : Int, e = .returned (.int .i64 v) ∧ -1 ≤ v ∧ v ≤ left ∧ (0 ≤ v → P) ∧ Below w.heap.size w w'

end Go.Proofs.YtmeckcaekkangaaGreat
