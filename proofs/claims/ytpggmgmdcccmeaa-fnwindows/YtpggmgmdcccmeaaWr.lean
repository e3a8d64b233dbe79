/- Rows of bytes and what a walk leaves of the memory. / Ints: rows of them, copied, compared, marked. / l1In says whether a number lies between two. / Values and counts: between their limits. / Aggs: where they lie, copied and compared. / Aggs compared by the laws. / Names: letters, one to twelve. / Tags in memory: copied, compared. / Tags and keys copied by the laws. / The laws' own measure of a key, and two keys compared. / Windows: where they lie, measured, copied, compared. / Rows of windows: measured, copied, compared. -/
import Derived.Test.YtpggmgmdcccmeaaProg
import Derived.WalkKit
import Derived.WalkSpells
import Derived.WalkLawsBesides
import Derived.Deep.QuietTactic
import Derived.BigQuiet
import Derived.Deep.RegionWith
import Derived.Laws.IdiomCopy
import Derived.Deep.RegionHeld3
namespace Go.Proofs.Ytpggmgmdcccmeaa
open Go.RowKit

/-- A fact that no tactic looks into. -/
def Hid (p : Prop) : Prop := p
theorem Hid.out {p : Prop} (h : Hid p) : p := h

/-- n bytes f 0, f 1, .. lie at ao. -/
structure Row (w : World) (ao : Option Addr) (n : Nat) (f : Nat → Int) : Prop where
  bd : ∀ i, 0 ≤ f i ∧ f i ≤ 255
  lies : n = 0 ∨ ∃ b off, ao = some ⟨b, off, none⟩ ∧ b < w.heap.size ∧ ∀ i, i < n → w.cell? ⟨b, off + i, none⟩ = some (.int .u8 (f i))

theorem Row.keep {w w' : World} {ao : Option Addr} {n : Nat} {f : Nat → Int} (h : Row w ao n f) (hb : Below w.heap.size w w') : Row w' ao n f :=
  ⟨h.bd, h.lies.elim .inl fun ⟨b, off, e, hlt, hc⟩ => .inr ⟨b, off, e, Nat.lt_of_lt_of_le hlt hb.size, fun i hi => (hb.cell (p := ⟨b, off + i, none⟩) hlt).trans (hc i hi)⟩⟩

/-- n bytes that may be written lie in block b from off on. -/
structure Own (w : World) (b off n : Nat) (f : Nat → Int) : Prop where
  bd : ∀ i, 0 ≤ f i ∧ f i ≤ 255
  lt : b < w.heap.size
  cell : ∀ i, i < n → w.cell? ⟨b, off + i, none⟩ = some (.int .u8 (f i))
  free : ∀ i, i < n → w.frozen? ⟨b, off + i, none⟩ = false

theorem Own.row {w : World} {b off n : Nat} {f : Nat → Int} (h : Own w b off n f) : Row w (some ⟨b, off, none⟩) n f :=
  ⟨h.bd, .inr ⟨b, off, rfl, h.lt, h.cell⟩⟩

theorem Own.keep {w w' : World} {b off n : Nat} {f : Nat → Int} (h : Own w b off n f) (hb : Below w.heap.size w w') : Own w' b off n f :=
  ⟨h.bd, Nat.lt_of_lt_of_le h.lt hb.size, fun i hi => (hb.cell (p := ⟨b, off + i, none⟩) h.lt).trans (h.cell i hi), fun i hi => (hb.frozen (p := ⟨b, off + i, none⟩) h.lt).trans (h.free i hi)⟩

theorem Own.store {w : World} {b off n : Nat} {f : Nat → Int} (h : Own w b off n f) (k : Nat) (hk : k < n) (x : Int) (hx : 0 ≤ x ∧ x ≤ 255) :
    Own (w.setCell ⟨b, off + k, none⟩ (.int .u8 x)) b off n (fun i => if i = k then x else f i) := by
  refine ⟨fun i => ?_, by simpa using h.lt, fun i hi => ?_, fun i hi => by simpa using h.free i hi⟩
  · by_cases e : i = k <;> simp [e, hx, h.bd i]
  · by_cases e : i = k
    · subst e; simp [World.cell?_setCell_same _ _ _ (h.cell i hi)]
    · rw [World.cell?_setCell_other _ _ _ _ (by intro hh; injection hh with _ h2 _; omega), h.cell i hi]; simp [e]

theorem Own.congr {w : World} {b off n : Nat} {f g : Nat → Int} (h : Own w b off n f) (hb : ∀ i, 0 ≤ g i ∧ g i ≤ 255) (e : ∀ i, i < n → f i = g i) : Own w b off n g :=
  ⟨hb, h.lt, fun i hi => by rw [h.cell i hi, e i hi], h.free⟩

/-- All blocks but b are as they were. -/
structure Others (b : Nat) (w w' : World) : Prop where
  os : w'.os = w.os
  tape : w'.tape = w.tape
  output : w'.output = w.output
  size : w'.heap.size = w.heap.size
  block : ∀ k, k ≠ b → w'.heap[k]? = w.heap[k]?

theorem Others.refl (b : Nat) (w : World) : Others b w w := ⟨rfl, rfl, rfl, rfl, fun _ _ => rfl⟩
theorem Others.trans {b : Nat} {u v w : World} (h : Others b u v) (k : Others b v w) : Others b u w :=
  ⟨k.os.trans h.os, k.tape.trans h.tape, k.output.trans h.output, k.size.trans h.size, fun i hi => (k.block i hi).trans (h.block i hi)⟩
theorem Others.setCell (w : World) (b off : Nat) (x : Value) : Others b w (w.setCell ⟨b, off, none⟩ x) :=
  ⟨rfl, rfl, rfl, by simp, fun k hk => Below.heap_setCell _ _ _ _ hk⟩
theorem Others.below {b B : Nat} {w w' : World} (h : Others b w w') (hB : B ≤ b) : Below B w w' :=
  ⟨h.os, h.tape, h.output, by rw [h.size]; exact Nat.le_refl _, fun k hk => h.block k (by omega)⟩
theorem Others.row {b : Nat} {w w' : World} (h : Others b w w') {c off n : Nat} {f : Nat → Int} (hr : Own w c off n f) (hne : c ≠ b) : Own w' c off n f :=
  ⟨hr.bd, by rw [h.size]; exact hr.lt, fun i hi => (World.cell?_of_block (w := w) (a := ⟨c, off + i, none⟩) (h.block c hne)).trans (hr.cell i hi),
    fun i hi => (World.frozen?_of_block (w := w) (a := ⟨c, off + i, none⟩) (h.block c hne)).trans (hr.free i hi)⟩

theorem below_drewN {B : Nat} {a w : World} (h : Below B a w) (n : Nat) : Below B a (w.drewN n) := ⟨h.os, h.tape, h.output, h.size, h.block⟩

end Go.Proofs.Ytpggmgmdcccmeaa
namespace Go.Proofs.Ytpggmgmdcccmeaa
open Go.RowKit
set_option linter.unusedSimpArgs false
set_option linter.unusedVariables false

theorem Try.infoInt : (Try.prog.info? 3).map (fun i => (i.zero, i.size, i.bytes)) = some (some (.int .i64 0), 1, 8) := by kernel_rfl

/-- n ints f 0, f 1, .. lie at ao. -/
structure IRow (w : World) (ao : Option Addr) (n : Nat) (f : Nat → Int) : Prop where
  bd : ∀ i, -9223372036854775808 ≤ f i ∧ f i ≤ 9223372036854775807
  lies : n = 0 ∨ ∃ b off, ao = some ⟨b, off, none⟩ ∧ b < w.heap.size ∧ ∀ i, i < n → w.cell? ⟨b, off + i, none⟩ = some (.int .i64 (f i))

theorem IRow.keep {w w' : World} {ao : Option Addr} {n : Nat} {f : Nat → Int} (h : IRow w ao n f) (hb : Below w.heap.size w w') : IRow w' ao n f :=
  ⟨h.bd, h.lies.elim .inl fun ⟨b, off, e, hlt, hc⟩ => .inr ⟨b, off, e, Nat.lt_of_lt_of_le hlt hb.size, fun i hi => (hb.cell (p := ⟨b, off + i, none⟩) hlt).trans (hc i hi)⟩⟩

/-- n ints that may be written lie in block b from off on. -/
structure IOwn (w : World) (b off n : Nat) (f : Nat → Int) : Prop where
  bd : ∀ i, -9223372036854775808 ≤ f i ∧ f i ≤ 9223372036854775807
  lt : b < w.heap.size
  cell : ∀ i, i < n → w.cell? ⟨b, off + i, none⟩ = some (.int .i64 (f i))
  free : ∀ i, i < n → w.frozen? ⟨b, off + i, none⟩ = false

theorem IOwn.row {w : World} {b off n : Nat} {f : Nat → Int} (h : IOwn w b off n f) : IRow w (some ⟨b, off, none⟩) n f :=
  ⟨h.bd, .inr ⟨b, off, rfl, h.lt, h.cell⟩⟩

theorem IOwn.keep {w w' : World} {b off n : Nat} {f : Nat → Int} (h : IOwn w b off n f) (hb : Below w.heap.size w w') : IOwn w' b off n f :=
  ⟨h.bd, Nat.lt_of_lt_of_le h.lt hb.size, fun i hi => (hb.cell (p := ⟨b, off + i, none⟩) h.lt).trans (h.cell i hi), fun i hi => (hb.frozen (p := ⟨b, off + i, none⟩) h.lt).trans (h.free i hi)⟩

theorem IOwn.store {w : World} {b off n : Nat} {f : Nat → Int} (h : IOwn w b off n f) (k : Nat) (hk : k < n) (x : Int) (hx : -9223372036854775808 ≤ x ∧ x ≤ 9223372036854775807) :
    IOwn (w.setCell ⟨b, off + k, none⟩ (.int .i64 x)) b off n (fun i => if i = k then x else f i) := by
  refine ⟨fun i => ?_, by simpa using h.lt, fun i hi => ?_, fun i hi => by simpa using h.free i hi⟩
  · by_cases e : i = k <;> simp [e, hx, h.bd i]
  · by_cases e : i = k
    · subst e; simp [World.cell?_setCell_same _ _ _ (h.cell i hi)]
    · rw [World.cell?_setCell_other _ _ _ _ (by intro hh; injection hh with _ h2 _; omega), h.cell i hi]; simp [e]

theorem IOwn.congr {w : World} {b off n : Nat} {f g : Nat → Int} (h : IOwn w b off n f) (hb : ∀ i, -9223372036854775808 ≤ g i ∧ g i ≤ 9223372036854775807) (e : ∀ i, i < n → f i = g i) : IOwn w b off n g :=
  ⟨hb, h.lt, fun i hi => by rw [h.cell i hi, e i hi], h.free⟩

theorem iown_of_made {w : World} {base g n : Nat} (h : w.ownsRow base 3 1 (.slice (some ⟨g, 0, none⟩) n n) n (madeCells (Value.int .i64 0).cells (n * 1)).toList) (hlt : g < w.heap.size) : IOwn w g 0 n (fun _ => 0) := by
  refine ⟨fun _ => by omega, hlt, fun i hi => ?_, fun i _ => by simpa using h.frozenAt i⟩
  have := h.cellAt i (by omega)
  rw [Nat.zero_add, this]
  simp only [Value.cells, toList_madeCells_one]
  rw [List.getElem?_replicate]
  simp [hi]

end Go.Proofs.Ytpggmgmdcccmeaa
namespace Go.Proofs.Ytpggmgmdcccmeaa
open Go.RowKit

theorem l1In_yes (n lo hi : Int) (w : World) (h1 : lo ≤ n) (h2 : n ≤ hi) :
    Calls Try.prog 48 #[.int .i64 n, .int .i64 lo, .int .i64 hi] w fun e w' => e = .returned (.bool true) ∧ w' = w := by
  go_enter Try.func48, Try.ntmps48
  go_wp2
  go_ret
  exact ⟨rfl, rfl⟩
theorem l1In_no (n lo hi : Int) (w : World) (h : ¬ (lo ≤ n ∧ n ≤ hi)) :
    Calls Try.prog 48 #[.int .i64 n, .int .i64 lo, .int .i64 hi] w fun e w' => e = .returned (.bool false) ∧ w' = w := by
  by_cases h1 : lo ≤ n
  · have h2 : ¬ n ≤ hi := fun h2 => h ⟨h1, h2⟩
    clear h
    go_enter Try.func48, Try.ntmps48
    go_wp2
    go_ret
    exact ⟨rfl, rfl⟩
  · have h2 : decide (lo ≤ n) = false := by simpa using h1
    clear h
    go_enter Try.func48, Try.ntmps48
    go_wp2
    go_ret
    exact ⟨rfl, rfl⟩

end Go.Proofs.Ytpggmgmdcccmeaa
namespace Go.Proofs.Ytpggmgmdcccmeaa
open Go.RowKit
set_option linter.unusedSimpArgs false
set_option linter.unusedVariables false

/-- Between two numbers. -/
def btw (lo n hi : Int) : Bool := decide (lo ≤ n ∧ n ≤ hi)
theorem l1In_any (n lo hi : Int) (w : World) :
    Calls Try.prog 48 #[.int .i64 n, .int .i64 lo, .int .i64 hi] w fun e w' => e = .returned (.bool (btw lo n hi)) ∧ w' = w := by
  by_cases h : lo ≤ n ∧ n ≤ hi
  · simpa [btw, h] using l1In_yes n lo hi w h.1 h.2
  · simpa [btw, h] using l1In_no n lo hi w h

/-- A value. -/
def isV (v : Int) : Bool := btw (-1000000000) v 1000000000
/-- A count. -/
def isC (v : Int) : Bool := btw 0 v 1000000000

theorem l4Value_any (v : Int) (w : World) :
    Calls Try.prog 33 #[.int .i64 v] w fun e w' => e = .returned (.bool (isV v)) ∧ w' = w := by
  go_enter Try.func33, Try.ntmps33
  go_wp2_with fail
  refine (l1In_any v (-1000000000) 1000000000 _).mono ?_
  rintro e w1 ⟨rfl, rfl⟩
  go_wp2
  go_ret
  exact ⟨rfl, rfl⟩

theorem isValue_any (v : Int) (w : World) :
    Calls Try.prog 74 #[.int .i64 v] w fun e w' => e = .returned (.bool (isV v)) ∧ w' = w := by
  by_cases h1 : -1000000000 ≤ v
  · by_cases h2 : v ≤ 1000000000
    · have h : isV v = true := by simp [isV, btw, h1, h2]
      go_enter Try.func74, Try.ntmps74
      go_wp2
      go_ret
      exact ⟨by simp_all, rfl⟩
    · have h : isV v = false := by simp [isV, btw, h2]
      go_enter Try.func74, Try.ntmps74
      go_wp2
      go_ret
      exact ⟨by simp_all, rfl⟩
  · have h : isV v = false := by simp [isV, btw, h1]
    have h3 : decide (-1000000000 ≤ v) = false := by simpa using h1
    go_enter Try.func74, Try.ntmps74
    go_wp2
    go_ret
    exact ⟨by simp_all, rfl⟩

theorem isCount_any (v : Int) (w : World) :
    Calls Try.prog 93 #[.int .i64 v] w fun e w' => e = .returned (.bool (isC v)) ∧ w' = w := by
  by_cases h1 : 0 ≤ v
  · by_cases h2 : v ≤ 1000000000
    · have h : isC v = true := by simp [isC, btw, h1, h2]
      go_enter Try.func93, Try.ntmps93
      go_wp2
      go_ret
      exact ⟨by simp_all, rfl⟩
    · have h : isC v = false := by simp [isC, btw, h2]
      go_enter Try.func93, Try.ntmps93
      go_wp2
      go_ret
      exact ⟨by simp_all, rfl⟩
  · have h : isC v = false := by simp [isC, btw, h1]
    have h3 : decide (0 ≤ v) = false := by simpa using h1
    go_enter Try.func93, Try.ntmps93
    go_wp2
    go_ret
    exact ⟨by simp_all, rfl⟩
end Go.Proofs.Ytpggmgmdcccmeaa
namespace Go.Proofs.Ytpggmgmdcccmeaa
open Go.RowKit
set_option linter.unusedSimpArgs false
set_option linter.unusedVariables false

/-- An agg in block b. -/
structure AAt (w : World) (b : Nat) (c s lo hi : Int) (hv : Value) (fu : Bool) : Prop where
  lt : b < w.heap.size
  c0 : w.cell? ⟨b, 0, none⟩ = some (.int .i64 c)
  c1 : w.cell? ⟨b, 1, none⟩ = some (.int .i64 s)
  c2 : w.cell? ⟨b, 2, none⟩ = some (.int .i64 lo)
  c3 : w.cell? ⟨b, 3, none⟩ = some (.int .i64 hi)
  c4 : w.cell? ⟨b, 4, none⟩ = some hv
  c5 : w.cell? ⟨b, 5, none⟩ = some (.bool fu)
section
variable {w w' : World} {b : Nat} {c s lo hi : Int} {hv : Value} {fu : Bool}
theorem AAt.keep (h : AAt w b c s lo hi hv fu) (hb : Below w.heap.size w w') : AAt w' b c s lo hi hv fu :=
  ⟨Nat.lt_of_lt_of_le h.lt hb.size, (hb.cell (p := ⟨b, 0, none⟩) h.lt).trans h.c0, (hb.cell (p := ⟨b, 1, none⟩) h.lt).trans h.c1, (hb.cell (p := ⟨b, 2, none⟩) h.lt).trans h.c2, (hb.cell (p := ⟨b, 3, none⟩) h.lt).trans h.c3, (hb.cell (p := ⟨b, 4, none⟩) h.lt).trans h.c4, (hb.cell (p := ⟨b, 5, none⟩) h.lt).trans h.c5⟩
theorem AAt.others {d : Nat} (h : AAt w b c s lo hi hv fu) (ho : Others d w w') (hne : b ≠ d) : AAt w' b c s lo hi hv fu :=
  have k : ∀ j, w'.cell? ⟨b, j, none⟩ = w.cell? ⟨b, j, none⟩ := fun j => World.cell?_of_block (w := w) (a := ⟨b, j, none⟩) (ho.block b hne)
  ⟨by rw [ho.size]; exact h.lt, (k _).trans h.c0, (k _).trans h.c1, (k _).trans h.c2, (k _).trans h.c3, (k _).trans h.c4, (k _).trans h.c5⟩
end
theorem AAt.new (w : World) (c s lo hi : Int) (hv : Value) (fu : Bool) (T : Nat) : AAt (w.alloc (.cells #[.int .i64 c, .int .i64 s, .int .i64 lo, .int .i64 hi, hv, .bool fu] T)) w.heap.size c s lo hi hv fu := by
  refine ⟨by simp, ?_, ?_, ?_, ?_, ?_, ?_⟩ <;> simp [go_sem]
theorem below_new (w : World) (o : Obj) : Below w.heap.size w (w.alloc o) := (Below.refl _ _).alloc (Nat.le_refl _) _

theorem Others.irow {b : Nat} {w w' : World} (h : Others b w w') {c off n : Nat} {f : Nat → Int} (hr : IOwn w c off n f) (hne : c ≠ b) : IOwn w' c off n f :=
  ⟨hr.bd, by rw [h.size]; exact hr.lt, fun i hi => (World.cell?_of_block (w := w) (a := ⟨c, off + i, none⟩) (h.block c hne)).trans (hr.cell i hi),
    fun i hi => (World.frozen?_of_block (w := w) (a := ⟨c, off + i, none⟩) (h.block c hne)).trans (hr.free i hi)⟩

theorem new3 (w : World) (A B C : Array Value) (T U V : Nat) {w1 : World}
    (hb : Below (((w.alloc (.cells A T)).alloc (.cells B U)).alloc (.cells C V)).heap.size (((w.alloc (.cells A T)).alloc (.cells B U)).alloc (.cells C V)) w1) :
    (∀ j, w1.cell? ⟨w.heap.size, j, none⟩ = A[j]?) ∧ (∀ j, w1.cell? ⟨w.heap.size + 1, j, none⟩ = B[j]?) ∧ (∀ j, w1.cell? ⟨w.heap.size + 1 + 1, j, none⟩ = C[j]?) ∧
    (∀ j, w1.frozen? ⟨w.heap.size + 1, j, none⟩ = false) ∧ (∀ j, w1.frozen? ⟨w.heap.size + 1 + 1, j, none⟩ = false) ∧ w.heap.size + 3 ≤ w1.heap.size := by
  have hs := hb.size
  simp at hs
  have c : ∀ b j, b < w.heap.size + 3 → w1.cell? ⟨b, j, none⟩ = _ := fun b j h => hb.cell (p := ⟨b, j, none⟩) (by simp; omega)
  have d : ∀ b j, b < w.heap.size + 3 → w1.frozen? ⟨b, j, none⟩ = _ := fun b j h => hb.frozen (p := ⟨b, j, none⟩) (by simp; omega)
  refine ⟨fun j => (c _ _ (by omega)).trans ?_, fun j => (c _ _ (by omega)).trans ?_, fun j => (c _ _ (by omega)).trans ?_, fun j => (d _ _ (by omega)).trans ?_, fun j => (d _ _ (by omega)).trans ?_, by omega⟩
  all_goals simp [go_sem]

end Go.Proofs.Ytpggmgmdcccmeaa
namespace Go.Proofs.Ytpggmgmdcccmeaa
open Go.RowKit
set_option linter.unusedSimpArgs false
set_option linter.unusedVariables false

end Go.Proofs.Ytpggmgmdcccmeaa
namespace Go.Proofs.Ytpggmgmdcccmeaa
open Go.RowKit
set_option linter.unusedSimpArgs false
set_option linter.unusedVariables false

def IsLet (c : Int) : Prop := (97 ≤ c ∧ c ≤ 122) ∨ (65 ≤ c ∧ c ≤ 90)

theorem isLetter_yes (c : Int) (w : World) (h : IsLet c) : Calls Try.prog 79 #[.int .u8 c] w fun e w' => e = .returned (.bool true) ∧ w' = w := by
  rcases h with ⟨h1, h2⟩ | ⟨h1, h2⟩
  · go_enter Try.func79, Try.ntmps79
    go_wp2
    go_ret
    exact ⟨rfl, rfl⟩
  · have hd : decide (97 ≤ c) = false := by simp; omega
    go_enter Try.func79, Try.ntmps79
    go_wp2
    go_ret
    exact ⟨rfl, rfl⟩
theorem isLetter_no (c : Int) (w : World) (h : ¬ IsLet c) : Calls Try.prog 79 #[.int .u8 c] w fun e w' => e = .returned (.bool false) ∧ w' = w := by
  unfold IsLet at h
  have h0 : (97 ≤ c ∧ decide (c ≤ 122) = false) ∨ (decide (97 ≤ c) = false ∧ 65 ≤ c ∧ decide (c ≤ 90) = false) ∨ (decide (97 ≤ c) = false ∧ decide (65 ≤ c) = false) := by
    simp; omega
  clear h
  rcases h0 with ⟨h1, h2⟩ | ⟨h1, h2, h3⟩ | ⟨h1, h2⟩
  · have h3 : 65 ≤ c := by omega
    have h4 : decide (c ≤ 90) = false := by simp; omega
    go_enter Try.func79, Try.ntmps79
    go_wp2
    go_ret
    exact ⟨rfl, rfl⟩
  · go_enter Try.func79, Try.ntmps79
    go_wp2
    go_ret
    exact ⟨rfl, rfl⟩
  · go_enter Try.func79, Try.ntmps79
    go_wp2
    go_ret
    exact ⟨rfl, rfl⟩

/-- Whether a text is a name. -/
def nmB (s : ByteArray) : Bool := decide (1 ≤ s.size) && decide (s.size ≤ 12) && s.data.toList.all fun c => decide ((97 ≤ (c.toNat : Int) ∧ (c.toNat : Int) ≤ 122) ∨ (65 ≤ (c.toNat : Int) ∧ (c.toNat : Int) ≤ 90))
theorem nmB_yes {s : ByteArray} (h1 : 1 ≤ s.size) (h2 : s.size ≤ 12) (h : ∀ j (hj : j < s.size), IsLet (s[j].toNat : Int)) : nmB s = true := by
  simp only [nmB, h1, h2, decide_true, Bool.and_self, Bool.true_and, List.all_eq_true]
  intro c hc
  obtain ⟨j, hj, rfl⟩ := List.getElem_of_mem hc
  have := h j (by simpa using hj)
  unfold IsLet at this
  simp only [decide_eq_true_eq, Array.getElem_toList]
  exact this
theorem nmB_short {s : ByteArray} (h : ¬ 1 ≤ s.size) : nmB s = false := by simp [nmB, h]
theorem nmB_long {s : ByteArray} (h : ¬ s.size ≤ 12) : nmB s = false := by simp [nmB, h]
theorem nmB_no {s : ByteArray} (j : Nat) (hj : j < s.size) (h : ¬ IsLet (s[j].toNat : Int)) : nmB s = false := by
  have hm : s[j] ∈ s.data.toList := by
    rw [show s[j] = s.data.toList[j]'(by simpa using hj) from by simp; rfl]
    exact List.getElem_mem _
  cases hb : nmB s with
  | false => rfl
  | true =>
    simp only [nmB, Bool.and_eq_true, List.all_eq_true] at hb
    have := of_decide_eq_true (hb.2 _ hm)
    exact absurd this h
theorem nmB_size {s : ByteArray} (h : nmB s = true) : 1 ≤ s.size ∧ s.size ≤ 12 := by
  simp only [nmB, Bool.and_eq_true, decide_eq_true_eq] at h
  exact ⟨h.1.1, h.1.2⟩

set_option maxHeartbeats 400000 in
theorem isName_any (s : ByteArray) (w : World) (hs : s.size ≤ 1048576) : Calls Try.prog 63 #[.string s] w fun e w' => e = .returned (.bool (nmB s)) ∧ w' = w := by
  generalize hB : nmB s = B
  have HB : Hid (nmB s = B) := hB
  clear hB
  by_cases h1 : 1 ≤ s.size
  · have hd1 : decide ((s.size : Int) < 1) = false := by simp; omega
    by_cases h2 : s.size ≤ 12
    · have hd2 : decide ((12 : Int) < (s.size : Int)) = false := by simp; omega
      go_enter Try.func63, Try.ntmps63
      go_wp2
      go_loopw [14] (fun i wr => ∃ k : Nat, k ≤ s.size ∧ i = .int .i64 k ∧ Hid (∀ j (hj : j < s.size), j < k → IsLet (s[j].toNat : Int)) ∧ wr = w) (fun i _ => s.size - (intOf i).toNat)
      case atStart => exact ⟨0, by omega, rfl, fun j _ h => by omega, rfl⟩
      case round =>
        obtain ⟨k, hk, rfl, HL, rfl⟩ := hrel
        by_cases hlt : k < s.size
        · by_cases hL : IsLet (s[k].toNat : Int)
          · have HL' : Hid (∀ j (hj : j < s.size), j < k + 1 → IsLet (s[j].toNat : Int)) := fun j hj h => by
              rcases Nat.lt_succ_iff_lt_or_eq.1 h with h | h
              · exact HL.out j hj h
              · subst h; exact hL
            go_wp2_with fail
            refine (isLetter_yes _ _ hL).mono ?_
            rintro e w' ⟨rfl, rfl⟩
            go_wp2
            go_roundw
            case rel => exact ⟨k + 1, by omega, by go_num, HL', trivial⟩
            case measure => simp [intOf]; omega
          · have HF : Hid (B = false) := by unfold Hid; rw [← HB.out, nmB_no k hlt hL]
            go_wp2_with fail
            refine (isLetter_no _ _ hL).mono ?_
            rintro e w' ⟨rfl, rfl⟩
            go_wp2
            go_ret
            rw [HF.out]
            exact ⟨rfl, rfl⟩
        · have HT : Hid (B = true) := by unfold Hid; rw [← HB.out, nmB_yes h1 h2 (fun j hj => HL.out j hj (by omega))]
          go_wp2
          go_ret
          rw [HT.out]
          exact ⟨rfl, rfl⟩
    · have HF : Hid (B = false) := by unfold Hid; rw [← HB.out, nmB_long h2]
      have h2' : (12 : Int) < (s.size : Int) := by omega
      go_enter Try.func63, Try.ntmps63
      go_wp2
      go_ret
      rw [HF.out]
      exact ⟨rfl, rfl⟩
  · have HF : Hid (B = false) := by unfold Hid; rw [← HB.out, nmB_short h1]
    have h1' : (s.size : Int) < 1 := by omega
    go_enter Try.func63, Try.ntmps63
    go_wp2
    go_ret
    rw [HF.out]
    exact ⟨rfl, rfl⟩

set_option maxHeartbeats 1000000 in
theorem l1Name_any (s : ByteArray) (w : World) (hs : s.size ≤ 1048576) : Calls Try.prog 51 #[.string s] w fun e w' => e = .returned (.bool (nmB s)) ∧ w' = w := by
  generalize hB : nmB s = B
  have HB : Hid (nmB s = B) := hB
  clear hB
  by_cases h12 : (1 : Int) ≤ (s.size : Int) ∧ (s.size : Int) ≤ 12
  · have h1 : 1 ≤ s.size := by omega
    have h2 : s.size ≤ 12 := by omega
    go_enter Try.func51, Try.ntmps51
    go_wp2_with fail
    refine (l1In_yes _ _ _ _ h12.1 h12.2).mono ?_
    rintro e w' ⟨rfl, rfl⟩
    go_wp2
    go_loopw [3] (fun i wr => ∃ k : Nat, k ≤ s.size ∧ i = .int .i64 k ∧ Hid (∀ j (hj : j < s.size), j < k → IsLet (s[j].toNat : Int)) ∧ wr = w') (fun i _ => s.size - (intOf i).toNat)
    case atStart => exact ⟨0, by omega, rfl, fun j _ h => by omega, rfl⟩
    case round =>
      obtain ⟨k, hk, rfl, HL, rfl⟩ := hrel
      by_cases hlt : k < s.size
      · by_cases hL : IsLet (s[k].toNat : Int)
        · have HL' : Hid (∀ j (hj : j < s.size), j < k + 1 → IsLet (s[j].toNat : Int)) := fun j hj h => by
            rcases Nat.lt_succ_iff_lt_or_eq.1 h with h | h
            · exact HL.out j hj h
            · subst h; exact hL
          have h0 : (97 ≤ (s[k].toNat : Int) ∧ (s[k].toNat : Int) ≤ 122) ∨ (decide (97 ≤ (s[k].toNat : Int)) = false ∧ 65 ≤ (s[k].toNat : Int) ∧ (s[k].toNat : Int) ≤ 90) := by
            unfold IsLet at hL; simp; omega
          clear hL
          rcases h0 with ⟨h3, h4⟩ | ⟨h3, h4, h5⟩
          all_goals
            go_wp2
            go_roundw
            case rel => exact ⟨k + 1, by omega, by go_num, HL', trivial⟩
            case measure => simp [intOf]; omega
        · have HF : Hid (B = false) := by unfold Hid; rw [← HB.out, nmB_no k hlt hL]
          unfold IsLet at hL
          have h0 : (97 ≤ (s[k].toNat : Int) ∧ decide ((s[k].toNat : Int) ≤ 122) = false ∧ 65 ≤ (s[k].toNat : Int) ∧ decide ((s[k].toNat : Int) ≤ 90) = false) ∨ (decide (97 ≤ (s[k].toNat : Int)) = false ∧ 65 ≤ (s[k].toNat : Int) ∧ decide ((s[k].toNat : Int) ≤ 90) = false) ∨ (decide (97 ≤ (s[k].toNat : Int)) = false ∧ decide (65 ≤ (s[k].toNat : Int)) = false) := by
            simp; omega
          clear hL
          rcases h0 with ⟨h3, h4, h5, h6⟩ | ⟨h3, h4, h5⟩ | ⟨h3, h4⟩
          all_goals
            go_wp2
            go_ret
            rw [HF.out]
            exact ⟨rfl, rfl⟩
      · have HT : Hid (B = true) := by unfold Hid; rw [← HB.out, nmB_yes h1 h2 (fun j hj => HL.out j hj (by omega))]
        go_wp2
        go_ret
        rw [HT.out]
        exact ⟨rfl, rfl⟩
  · have HF : Hid (B = false) := by
      unfold Hid; rw [← HB.out]
      by_cases h1 : 1 ≤ s.size
      · exact nmB_long (by omega)
      · exact nmB_short h1
    go_enter Try.func51, Try.ntmps51
    go_wp2_with fail
    refine (l1In_no _ _ _ _ h12).mono ?_
    rintro e w' ⟨rfl, rfl⟩
    go_wp2
    go_ret
    rw [HF.out]
    exact ⟨rfl, rfl⟩
end Go.Proofs.Ytpggmgmdcccmeaa
namespace Go.Proofs.Ytpggmgmdcccmeaa
open Go.RowKit
set_option linter.unusedSimpArgs false
set_option linter.unusedVariables false

/-- n tags, their names and values, lie at ao. -/
structure TRow (w : World) (ao : Option Addr) (n : Nat) (nm vl : Nat → ByteArray) : Prop where
  lies : n = 0 ∨ ∃ b off, ao = some ⟨b, off, none⟩ ∧ b < w.heap.size ∧ ∀ i, i < n → w.cell? ⟨b, off + i * 2, none⟩ = some (.string (nm i)) ∧ w.cell? ⟨b, off + i * 2 + 1, none⟩ = some (.string (vl i))

theorem TRow.keep {w w' : World} {ao : Option Addr} {n : Nat} {nm vl : Nat → ByteArray} (h : TRow w ao n nm vl) (hb : Below w.heap.size w w') : TRow w' ao n nm vl :=
  ⟨h.lies.elim .inl fun ⟨b, off, e, hlt, hc⟩ => .inr ⟨b, off, e, Nat.lt_of_lt_of_le hlt hb.size, fun i hi => ⟨(hb.cell (p := ⟨b, off + i * 2, none⟩) hlt).trans (hc i hi).1, (hb.cell (p := ⟨b, off + i * 2 + 1, none⟩) hlt).trans (hc i hi).2⟩⟩⟩

end Go.Proofs.Ytpggmgmdcccmeaa
namespace Go.Proofs.Ytpggmgmdcccmeaa
open Go.RowKit
set_option linter.unusedSimpArgs false
set_option linter.unusedVariables false

theorem Try.info69 : (Try.prog.info? 92).map (fun i => (i.zero, i.size, i.bytes)) = some (some (.agg #[.string ByteArray.empty, .string ByteArray.empty]), 2, 32) := by kernel_rfl

/-- n tags of the call's own in block b, the first k of them laid. -/
structure TOwn (w : World) (b n k : Nat) (nm vl : Nat → ByteArray) : Prop where
  lt : b < w.heap.size
  cell : ∀ i, i < k → i < n → w.cell? ⟨b, i * 2, none⟩ = some (.string (nm i)) ∧ w.cell? ⟨b, i * 2 + 1, none⟩ = some (.string (vl i))
  there : ∀ j, j < n * 2 → ∃ v, w.cell? ⟨b, j, none⟩ = some v
  free : ∀ j, j < n * 2 → w.frozen? ⟨b, j, none⟩ = false

theorem TOwn.row {w : World} {b n : Nat} {nm vl : Nat → ByteArray} (h : TOwn w b n n nm vl) : TRow w (some ⟨b, 0, none⟩) n nm vl :=
  ⟨.inr ⟨b, 0, rfl, h.lt, fun i hi => by simpa using h.cell i hi hi⟩⟩
theorem TOwn.keep {w w' : World} {b n k : Nat} {nm vl : Nat → ByteArray} (h : TOwn w b n k nm vl) (hb : Below w.heap.size w w') : TOwn w' b n k nm vl :=
  ⟨Nat.lt_of_lt_of_le h.lt hb.size, fun i hk hi => ⟨(hb.cell (p := ⟨b, i * 2, none⟩) h.lt).trans (h.cell i hk hi).1, (hb.cell (p := ⟨b, i * 2 + 1, none⟩) h.lt).trans (h.cell i hk hi).2⟩,
    fun j hj => by obtain ⟨v, hv⟩ := h.there j hj; exact ⟨v, (hb.cell (p := ⟨b, j, none⟩) h.lt).trans hv⟩, fun j hj => (hb.frozen (p := ⟨b, j, none⟩) h.lt).trans (h.free j hj)⟩

theorem TOwn.store {w : World} {b n k : Nat} {nm vl : Nat → ByteArray} (h : TOwn w b n k nm vl) (hk : k < n) :
    TOwn ((w.setCell ⟨b, k * 2, none⟩ (.string (nm k))).setCell ⟨b, k * 2 + 1, none⟩ (.string (vl k))) b n (k + 1) nm vl := by
  obtain ⟨v1, hv1⟩ := h.there (k * 2) (by omega)
  obtain ⟨v2, hv2⟩ := h.there (k * 2 + 1) (by omega)
  have e1 : (w.setCell ⟨b, k * 2, none⟩ (.string (nm k))).cell? ⟨b, k * 2 + 1, none⟩ = some v2 := by
    rw [World.cell?_setCell_other _ _ _ _ (by intro hh; injection hh with _ h2 _; omega)]; exact hv2
  have other : ∀ j, j ≠ k * 2 → j ≠ k * 2 + 1 → ((w.setCell ⟨b, k * 2, none⟩ (.string (nm k))).setCell ⟨b, k * 2 + 1, none⟩ (.string (vl k))).cell? ⟨b, j, none⟩ = w.cell? ⟨b, j, none⟩ := fun j h1 h2 => by
    rw [World.cell?_setCell_other _ _ _ _ (by intro hh; injection hh with _ h3 _; omega), World.cell?_setCell_other _ _ _ _ (by intro hh; injection hh with _ h3 _; omega)]
  have at0 : ((w.setCell ⟨b, k * 2, none⟩ (.string (nm k))).setCell ⟨b, k * 2 + 1, none⟩ (.string (vl k))).cell? ⟨b, k * 2, none⟩ = some (.string (nm k)) := by
    rw [World.cell?_setCell_other _ _ _ _ (by intro hh; injection hh with _ h3 _; omega), World.cell?_setCell_same _ _ _ hv1]
  have at1 : ((w.setCell ⟨b, k * 2, none⟩ (.string (nm k))).setCell ⟨b, k * 2 + 1, none⟩ (.string (vl k))).cell? ⟨b, k * 2 + 1, none⟩ = some (.string (vl k)) :=
    World.cell?_setCell_same _ _ _ e1
  refine ⟨by simpa using h.lt, fun i hi hin => ?_, fun j hj => ?_, fun j hj => by simpa using h.free j hj⟩
  · by_cases e : i = k
    · subst e; exact ⟨at0, at1⟩
    · rw [other _ (by omega) (by omega), other _ (by omega) (by omega)]
      exact h.cell i (by omega) hin
  · by_cases e0 : j = k * 2
    · subst e0; exact ⟨_, at0⟩
    · by_cases e1 : j = k * 2 + 1
      · subst e1; exact ⟨_, at1⟩
      · rw [other _ e0 e1]; exact h.there j hj

/-- Three new blocks of three cells. -/
theorem three_new (w : World) (a0 a1 a2 b0 b1 b2 c0 c1 c2 : Value) (T U V : Nat) {w1 : World}
    (hb : Below (((w.alloc (.cells #[a0, a1, a2] T)).alloc (.cells #[b0, b1, b2] U)).alloc (.cells #[c0, c1, c2] V)).heap.size (((w.alloc (.cells #[a0, a1, a2] T)).alloc (.cells #[b0, b1, b2] U)).alloc (.cells #[c0, c1, c2] V)) w1) :
    (w1.cell? ⟨w.heap.size, 2, none⟩ = some a2) ∧
    (w1.cell? ⟨w.heap.size + 1, 0, none⟩ = some b0 ∧ w1.cell? ⟨w.heap.size + 1, 1, none⟩ = some b1 ∧ w1.cell? ⟨w.heap.size + 1, 2, none⟩ = some b2) ∧
    (w1.cell? ⟨w.heap.size + 1 + 1, 0, none⟩ = some c0 ∧ w1.cell? ⟨w.heap.size + 1 + 1, 1, none⟩ = some c1 ∧ w1.cell? ⟨w.heap.size + 1 + 1, 2, none⟩ = some c2) ∧
    (∀ j, w1.frozen? ⟨w.heap.size + 1, j, none⟩ = false) ∧ (∀ j, w1.frozen? ⟨w.heap.size + 1 + 1, j, none⟩ = false) ∧ w.heap.size + 3 ≤ w1.heap.size := by
  have hs := hb.size
  simp at hs
  have c : ∀ b j, b < w.heap.size + 3 → w1.cell? ⟨b, j, none⟩ = _ := fun b j h => hb.cell (p := ⟨b, j, none⟩) (by simp; omega)
  have d : ∀ b j, b < w.heap.size + 3 → w1.frozen? ⟨b, j, none⟩ = _ := fun b j h => hb.frozen (p := ⟨b, j, none⟩) (by simp; omega)
  refine ⟨(c _ _ (by omega)).trans ?_, ⟨(c _ _ (by omega)).trans ?_, (c _ _ (by omega)).trans ?_, (c _ _ (by omega)).trans ?_⟩, ⟨(c _ _ (by omega)).trans ?_, (c _ _ (by omega)).trans ?_, (c _ _ (by omega)).trans ?_⟩, fun j => (d _ _ (by omega)).trans ?_, fun j => (d _ _ (by omega)).trans ?_, by omega⟩
  all_goals simp [go_sem]

theorem TOwn.others {w w' : World} {b c n k : Nat} {nm vl : Nat → ByteArray} (h : TOwn w b n k nm vl) (ho : Others c w w') (hne : b ≠ c) : TOwn w' b n k nm vl :=
  have cl : ∀ j, w'.cell? ⟨b, j, none⟩ = w.cell? ⟨b, j, none⟩ := fun j => World.cell?_of_block (w := w) (a := ⟨b, j, none⟩) (ho.block b hne)
  have fz : ∀ j, w'.frozen? ⟨b, j, none⟩ = w.frozen? ⟨b, j, none⟩ := fun j => World.frozen?_of_block (w := w) (a := ⟨b, j, none⟩) (ho.block b hne)
  ⟨by rw [ho.size]; exact h.lt, fun i hk hi => by rw [cl, cl]; exact h.cell i hk hi, fun j hj => by rw [cl]; exact h.there j hj, fun j hj => by rw [fz]; exact h.free j hj⟩

end Go.Proofs.Ytpggmgmdcccmeaa
namespace Go.Proofs.Ytpggmgmdcccmeaa
open Go.RowKit
set_option linter.unusedSimpArgs false
set_option linter.unusedVariables false

/-- What szTag leaves. -/
def SzOut (left : Int) (P : Prop) (w : World) (e : Ending) (w' : World) : Prop :=
  ∃ v : Int, e = .returned (.int .i64 v) ∧ -1 ≤ v ∧ v ≤ left ∧ (0 ≤ v → P) ∧ Below w.heap.size w w'

def TSize (n : Nat) (nm vl : Nat → ByteArray) (B : Nat) : Prop := ∀ i, i < n → (nm i).size ≤ B ∧ (vl i).size ≤ B

end Go.Proofs.Ytpggmgmdcccmeaa
namespace Go.Proofs.Ytpggmgmdcccmeaa
open Go.RowKit
set_option linter.unusedSimpArgs false
set_option linter.unusedVariables false

/-- What a window holds. -/
structure Wn where
  m : ByteArray
  tn : Nat
  nm : Nat → ByteArray
  vl : Nat → ByteArray
  st : Int
  c : Int
  s : Int
  lo : Int
  hi : Int
  n : Nat
  f : Nat → Int
  fu : Bool
  ver : Int
  di : Bool

/-- A window in the eleven cells from off on. -/
structure WiAt (w : World) (b off : Nat) (x : Wn) (a0 a1 : Option Addr) (k0 k1 : Nat) : Prop where
  lt : b < w.heap.size
  c0 : w.cell? ⟨b, off, none⟩ = some (.string x.m)
  c1 : w.cell? ⟨b, off + 1, none⟩ = some (.slice a0 x.tn k0)
  c2 : w.cell? ⟨b, off + 2, none⟩ = some (.int .i64 x.st)
  c3 : w.cell? ⟨b, off + 3, none⟩ = some (.int .i64 x.c)
  c4 : w.cell? ⟨b, off + 4, none⟩ = some (.int .i64 x.s)
  c5 : w.cell? ⟨b, off + 5, none⟩ = some (.int .i64 x.lo)
  c6 : w.cell? ⟨b, off + 6, none⟩ = some (.int .i64 x.hi)
  c7 : w.cell? ⟨b, off + 7, none⟩ = some (.slice a1 x.n k1)
  c8 : w.cell? ⟨b, off + 8, none⟩ = some (.bool x.fu)
  c9 : w.cell? ⟨b, off + 9, none⟩ = some (.int .i64 x.ver)
  c10 : w.cell? ⟨b, off + 10, none⟩ = some (.bool x.di)
section
variable {w w' : World} {b off k0 k1 : Nat} {x : Wn} {a0 a1 : Option Addr}
theorem WiAt.move (h : WiAt w b off x a0 a1 k0 k1) (lt : b < w'.heap.size) (k : ∀ j, w'.cell? ⟨b, j, none⟩ = w.cell? ⟨b, j, none⟩) : WiAt w' b off x a0 a1 k0 k1 :=
  ⟨lt, (k _).trans h.c0, (k _).trans h.c1, (k _).trans h.c2, (k _).trans h.c3, (k _).trans h.c4, (k _).trans h.c5, (k _).trans h.c6, (k _).trans h.c7, (k _).trans h.c8, (k _).trans h.c9, (k _).trans h.c10⟩
theorem WiAt.keep (h : WiAt w b off x a0 a1 k0 k1) (hb : Below w.heap.size w w') : WiAt w' b off x a0 a1 k0 k1 :=
  h.move (Nat.lt_of_lt_of_le h.lt hb.size) fun j => hb.cell (p := ⟨b, j, none⟩) h.lt
theorem WiAt.others {d : Nat} (h : WiAt w b off x a0 a1 k0 k1) (ho : Others d w w') (hne : b ≠ d) : WiAt w' b off x a0 a1 k0 k1 :=
  h.move (by rw [ho.size]; exact h.lt) fun j => World.cell?_of_block (w := w) (a := ⟨b, j, none⟩) (ho.block b hne)
end
theorem WiAt.new (w : World) (x : Wn) (a0 a1 : Option Addr) (k0 k1 : Nat) (T : Nat) : WiAt (w.alloc (.cells #[.string x.m, .slice a0 x.tn k0, .int .i64 x.st, .int .i64 x.c, .int .i64 x.s, .int .i64 x.lo, .int .i64 x.hi, .slice a1 x.n k1, .bool x.fu, .int .i64 x.ver, .bool x.di] T)) w.heap.size 0 x a0 a1 k0 k1 := by
  refine ⟨by simp, ?_, ?_, ?_, ?_, ?_, ?_, ?_, ?_, ?_, ?_, ?_⟩ <;> simp [go_sem]

/-- What its type says of a window. -/
structure WiB (x : Wn) : Prop where
  st : -9223372036854775808 ≤ x.st ∧ x.st ≤ 9223372036854775807
  c : -9223372036854775808 ≤ x.c ∧ x.c ≤ 9223372036854775807
  s : -9223372036854775808 ≤ x.s ∧ x.s ≤ 9223372036854775807
  ver : -9223372036854775808 ≤ x.ver ∧ x.ver ≤ 9223372036854775807
  m : x.m.size ≤ 9223372036854775807
  tn : x.tn ≤ 9223372036854775807
  ts : TSize x.tn x.nm x.vl 9223372036854775807
  n : x.n ≤ 9223372036854775807
/-- A window that is no greater than what is measured. -/
structure WiS (x : Wn) : Prop where
  m : x.m.size ≤ 1048576
  tn : x.tn ≤ 1048576
  ts : TSize x.tn x.nm x.vl 1048576
  n : x.n ≤ 1048576

end Go.Proofs.Ytpggmgmdcccmeaa
namespace Go.Proofs.Ytpggmgmdcccmeaa
open Go.RowKit
set_option linter.unusedSimpArgs false
set_option linter.unusedVariables false

theorem Try.infoWi : (Try.prog.info? 39).map (fun i => (i.zero, i.size, i.bytes)) = some (some (.agg #[.string ByteArray.empty, .slice none 0 0, .int .i64 0, .int .i64 0, .int .i64 0, .int .i64 0, .int .i64 0, .slice none 0 0, .bool false, .int .i64 0, .bool false]), 11, 128) := by kernel_rfl

/-- n of them lie at ao. -/
structure WiRow (w : World) (ao : Option Addr) (n : Nat) (X : Nat → Wn) : Prop where
  bd : ∀ i, i < n → WiB (X i)
  lies : n = 0 ∨ ∃ b off, ao = some ⟨b, off, none⟩ ∧ b < w.heap.size ∧ ∀ i, i < n → ∃ a0 a1 c0 c1, WiAt w b (off + i * 11) (X i) a0 a1 c0 c1 ∧ TRow w a0 (X i).tn (X i).nm (X i).vl ∧ IRow w a1 (X i).n (X i).f
theorem WiRow.keep {w w' : World} {ao : Option Addr} {n : Nat} {X : Nat → Wn} (h : WiRow w ao n X) (hb : Below w.heap.size w w') : WiRow w' ao n X :=
  ⟨h.bd, h.lies.elim .inl fun ⟨b, off, e, hlt, hc⟩ => .inr ⟨b, off, e, Nat.lt_of_lt_of_le hlt hb.size, fun i hi => by obtain ⟨a0, a1, c0, c1, h1, r0, r1⟩ := hc i hi; exact ⟨a0, a1, c0, c1, h1.keep hb, r0.keep hb, r1.keep hb⟩⟩⟩

/-- Each is no greater than what is measured. -/
def WiSize (n : Nat) (X : Nat → Wn) : Prop := ∀ i, i < n → WiS (X i)

/-- n of the call's own in block b, the first k of them laid, their lists in blocks of their own. -/
structure WiOwn (w : World) (b n k : Nat) (X : Nat → Wn) (G0 G1 : Nat → Nat) : Prop where
  lt : b < w.heap.size
  ent : ∀ i, i < k → WiAt w b (i * 11) (X i) (some ⟨G0 i, 0, none⟩) (some ⟨G1 i, 0, none⟩) (X i).tn (X i).n
  data : ∀ i, i < k → b < G0 i ∧ TOwn w (G0 i) (X i).tn (X i).tn (X i).nm (X i).vl ∧ IOwn w (G1 i) 0 (X i).n (X i).f ∧ G0 i < G1 i
  mono : ∀ i j, i < j → j < k → G1 i < G0 j
  there : ∀ j, j < n * 11 → (w.cell? ⟨b, j, none⟩).isSome = true
  free : ∀ j, j < n * 11 → w.frozen? ⟨b, j, none⟩ = false
section
variable {w w' : World} {b n k : Nat} {X : Nat → Wn} {G0 G1 : Nat → Nat}
theorem WiOwn.row (h : WiOwn w b n n X G0 G1) (hbd : ∀ i, i < n → WiB (X i)) : WiRow w (some ⟨b, 0, none⟩) n X :=
  ⟨hbd, .inr ⟨b, 0, rfl, h.lt, fun i hi => ⟨_, _, _, _, by rw [Nat.zero_add]; exact h.ent i hi, (h.data i hi).2.1.row, (h.data i hi).2.2.1.row⟩⟩⟩
theorem WiOwn.keep (h : WiOwn w b n k X G0 G1) (hb : Below w.heap.size w w') : WiOwn w' b n k X G0 G1 :=
  ⟨Nat.lt_of_lt_of_le h.lt hb.size, fun i hi => (h.ent i hi).keep hb, fun i hi => by
      obtain ⟨h0, o0, o1, m0⟩ := h.data i hi
      exact ⟨h0, o0.keep hb, o1.keep hb, m0⟩, h.mono,
    fun j hj => by rw [hb.cell (p := ⟨b, j, none⟩) h.lt]; exact h.there j hj, fun j hj => (hb.frozen (p := ⟨b, j, none⟩) h.lt).trans (h.free j hj)⟩
end
theorem setCells_others (b : Nat) : ∀ (vs : List Value) (o : Nat) (w : World), Others b w (w.setCells b o vs)
  | [], _, _ => Others.refl _ _
  | v :: r, o, w => (Others.setCell w b o v).trans (setCells_others b r (o + 1) _)

set_option maxRecDepth 10000 in
set_option maxHeartbeats 800000 in
theorem WiOwn.store {w : World} {b n k : Nat} {X : Nat → Wn} {G0 G1 : Nat → Nat} (h : WiOwn w b n k X G0 G1) (hk : k < n) {g0 g1 : Nat} (ho0 : TOwn w g0 (X k).tn (X k).tn (X k).nm (X k).vl) (ho1 : IOwn w g1 0 (X k).n (X k).f) (hg : b < g0) (hg0 : g0 < g1) (hm : ∀ i, i < k → G1 i < g0) :
    WiOwn (w.setCells b (k * 11) [.string (X k).m, .slice (some ⟨g0, 0, none⟩) (X k).tn (X k).tn, .int .i64 (X k).st, .int .i64 (X k).c, .int .i64 (X k).s, .int .i64 (X k).lo, .int .i64 (X k).hi, .slice (some ⟨g1, 0, none⟩) (X k).n (X k).n, .bool (X k).fu, .int .i64 (X k).ver, .bool (X k).di]) b n (k + 1) X (fun i => if i = k then g0 else G0 i) (fun i => if i = k then g1 else G1 i) := by
  generalize hL : ([.string (X k).m, .slice (some ⟨g0, 0, none⟩) (X k).tn (X k).tn, .int .i64 (X k).st, .int .i64 (X k).c, .int .i64 (X k).s, .int .i64 (X k).lo, .int .i64 (X k).hi, .slice (some ⟨g1, 0, none⟩) (X k).n (X k).n, .bool (X k).fu, .int .i64 (X k).ver, .bool (X k).di] : List Value) = L
  have hlen : L.length = 11 := by rw [← hL]; rfl
  have hoth := setCells_others b L (k * 11) w
  have hin := World.cell?_setCells_in b L (k * 11) w (fun j hj => h.there _ (by omega))
  have hout : ∀ j, j < k * 11 ∨ k * 11 + 11 ≤ j → (w.setCells b (k * 11) L).cell? ⟨b, j, none⟩ = w.cell? ⟨b, j, none⟩ := fun j hj => World.cell?_setCells_out b L (k * 11) w ⟨b, j, none⟩ (fun _ _ => by simp only [hlen]; exact hj)
  have hlt : b < (w.setCells b (k * 11) L).heap.size := by rw [hoth.size]; exact h.lt
  refine ⟨hlt, fun i hi => ?_, fun i hi => ?_, fun i j hij hj => ?_, fun j hj => ?_, fun j hj => by rw [World.frozen?_setCells]; exact h.free j hj⟩
  · by_cases e : i = k
    · subst e
      simp only [if_true]
      subst hL
      exact ⟨hlt, hin 0 (by simp), hin 1 (by simp), hin 2 (by simp), hin 3 (by simp), hin 4 (by simp), hin 5 (by simp), hin 6 (by simp), hin 7 (by simp), hin 8 (by simp), hin 9 (by simp), hin 10 (by simp)⟩
    · simp only [e, if_false]
      have h0 := h.ent i (by omega)
      have c : ∀ q, q < 11 → (w.setCells b (k * 11) L).cell? ⟨b, i * 11 + q, none⟩ = w.cell? ⟨b, i * 11 + q, none⟩ := fun q hq => hout _ (by omega)
      exact ⟨hlt, (c 0 (by omega)).trans h0.c0, (c 1 (by omega)).trans h0.c1, (c 2 (by omega)).trans h0.c2, (c 3 (by omega)).trans h0.c3, (c 4 (by omega)).trans h0.c4, (c 5 (by omega)).trans h0.c5, (c 6 (by omega)).trans h0.c6, (c 7 (by omega)).trans h0.c7, (c 8 (by omega)).trans h0.c8, (c 9 (by omega)).trans h0.c9, (c 10 (by omega)).trans h0.c10⟩
  · by_cases e : i = k
    · subst e
      simp only [if_true]
      exact ⟨hg, ho0.others hoth (by omega), hoth.irow ho1 (by omega), hg0⟩
    · simp only [e, if_false]
      obtain ⟨h0, o0, o1, m0⟩ := h.data i (by omega)
      exact ⟨h0, o0.others hoth (by omega), hoth.irow o1 (by omega), m0⟩
  · by_cases e : j = k
    · subst e
      simp only [if_true, show ¬ i = j by omega, if_false]
      exact hm i hij
    · simp only [e, show ¬ i = k by omega, if_false]
      exact h.mono i j hij (by omega)
  · by_cases hj2 : j < k * 11 ∨ k * 11 + 11 ≤ j
    · rw [hout j hj2]; exact h.there j hj
    · obtain ⟨q, rfl⟩ : ∃ q, j = k * 11 + q := ⟨j - k * 11, by omega⟩
      rw [hin q (by omega)]
      rfl

end Go.Proofs.Ytpggmgmdcccmeaa
