/- Ints: rows of them, copied, compared, marked. -/
import Derived.Test.YtoccfmkciacomaaBase
namespace Go.Proofs.Ytoccfmkciacomaa
open Go.RowKit
set_option linter.unusedSimpArgs false
set_option linter.unusedVariables false

theorem Try.infoInt : (Try.prog.info? 3).map (fun i => (i.zero, i.size, i.bytes)) = some (some (.int .i64 0), 1, 8) := by kernel_rfl

/-- n ints f 0, f 1, .. lie at ao. -/
structure IRow (w : World) (ao : Option Addr) (n : Nat) (f : Nat → Int) : Prop where
  bd : ∀ i, -9223372036854775808 ≤ f i ∧ f i ≤ 9223372036854775807
  lies : n = 0 ∨ ∃ b off, ao = some ⟨b, off, none⟩ ∧ b < w.heap.size ∧ ∀ i, i < n → w.cell? ⟨b, off + i, none⟩ = some (.int .i64 (f i))

theorem IRow.keep {w w' : World} {ao : Option Addr} {n : Nat} {f : Nat → Int} (h : IRow w ao n f) (hb : Below w.heap.size w w') : IRow w' ao n f :=
  ⟨h.bd, h.lies.elim .inl fun ⟨b, off, e, hlt, hc⟩ => .inr ⟨b, off, e, Nat.lt_of_lt_of_le hlt hb.size, fun i hi => (hb.cell (p := ⟨b, off + i, none⟩) hlt).trans (hc i hi)⟩⟩

/-- n ints that may be written lie in block b from off on. -/
structure IOwn (w : World) (b off n : Nat) (f : Nat → Int) : Prop where
  bd : ∀ i, -9223372036854775808 ≤ f i ∧ f i ≤ 9223372036854775807
  lt : b < w.heap.size
  cell : ∀ i, i < n → w.cell? ⟨b, off + i, none⟩ = some (.int .i64 (f i))
  free : ∀ i, i < n → w.frozen? ⟨b, off + i, none⟩ = false

theorem IOwn.row {w : World} {b off n : Nat} {f : Nat → Int} (h : IOwn w b off n f) : IRow w (some ⟨b, off, none⟩) n f :=
  ⟨h.bd, .inr ⟨b, off, rfl, h.lt, h.cell⟩⟩

theorem IOwn.keep {w w' : World} {b off n : Nat} {f : Nat → Int} (h : IOwn w b off n f) (hb : Below w.heap.size w w') : IOwn w' b off n f :=
  ⟨h.bd, Nat.lt_of_lt_of_le h.lt hb.size, fun i hi => (hb.cell (p := ⟨b, off + i, none⟩) h.lt).trans (h.cell i hi), fun i hi => (hb.frozen (p := ⟨b, off + i, none⟩) h.lt).trans (h.free i hi)⟩

theorem IOwn.store {w : World} {b off n : Nat} {f : Nat → Int} (h : IOwn w b off n f) (k : Nat) (hk : k < n) (x : Int) (hx : -9223372036854775808 ≤ x ∧ x ≤ 9223372036854775807) :
    IOwn (w.setCell ⟨b, off + k, none⟩ (.int .i64 x)) b off n (fun i => if i = k then x else f i) := by
  refine ⟨fun i => ?_, by simpa using h.lt, fun i hi => ?_, fun i hi => by simpa using h.free i hi⟩
  · by_cases e : i = k <;> simp [e, hx, h.bd i]
  · by_cases e : i = k
    · subst e; simp [World.cell?_setCell_same _ _ _ (h.cell i hi)]
    · rw [World.cell?_setCell_other _ _ _ _ (by intro hh; injection hh with _ h2 _; omega), h.cell i hi]; simp [e]

theorem IOwn.congr {w : World} {b off n : Nat} {f g : Nat → Int} (h : IOwn w b off n f) (hb : ∀ i, -9223372036854775808 ≤ g i ∧ g i ≤ 9223372036854775807) (e : ∀ i, i < n → f i = g i) : IOwn w b off n g :=
  ⟨hb, h.lt, fun i hi => by rw [h.cell i hi, e i hi], h.free⟩

theorem iown_of_made {w : World} {base g n : Nat} (h : w.ownsRow base 3 1 (.slice (some ⟨g, 0, none⟩) n n) n (madeCells (Value.int .i64 0).cells (n * 1)).toList) (hlt : g < w.heap.size) : IOwn w g 0 n (fun _ => 0) := by
  refine ⟨fun _ => by omega, hlt, fun i hi => ?_, fun i _ => by simpa using h.frozenAt i⟩
  have := h.cellAt i (by omega)
  rw [Nat.zero_add, this]
  simp only [Value.cells, toList_madeCells_one]
  rw [List.getElem?_replicate]
  simp [hi]

end Go.Proofs.Ytoccfmkciacomaa
