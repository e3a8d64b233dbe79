/- Rows of texts: measured, copied, compared, marked; marks of ints. / What the measure of entries says of them all together. / Entries marked. / markEntryS. / heldEntryS. -/
import Derived.Test.YtmeckcaekkangaaGreatIL
import Derived.Laws.BytesArg
import Derived.Maps.AppendAt
import Derived.OwnWalk
import Derived.Deep.RegionHeld3
namespace Go.Proofs.YtmeckcaekkangaaGreat
set_option maxRecDepth 100000
open Go.RowKit
set_option linter.unusedSimpArgs false
set_option linter.unusedVariables false

def mtLoop : Nat → Int → ByteArray → ByteArray
  | 0, _, out => out
  | f + 1, k, out => if 0 < k then mtLoop f (k / 10) (strOfNums [48 + k % 10] ++ out) else out
/-- The mark of k. -/
def mt (k : Int) : ByteArray := (⟨#[109]⟩ : ByteArray) ++ mtLoop k.toNat k ⟨#[]⟩
theorem mtLoop_zero (f : Nat) (k : Int) (out : ByteArray) (h : ¬ 0 < k) : mtLoop f k out = out := by
  cases f with
  | zero => rfl
  | succ f => simp [mtLoop, h]
theorem mtLoop_fuel : ∀ (f g : Nat) (k : Int) (out : ByteArray), k.toNat ≤ f → k.toNat ≤ g → mtLoop f k out = mtLoop g k out
  | 0, g, k, out, h, _ => by rw [mtLoop_zero g k out (by omega)]; rfl
  | f + 1, 0, k, out, _, h => by rw [mtLoop_zero (f + 1) k out (by omega)]; rfl
  | f + 1, g + 1, k, out, h1, h2 => by
    simp only [mtLoop]
    split
    · exact mtLoop_fuel f g _ _ (by omega) (by omega)
    · rfl
theorem one_nums (z : Int) : (strOfNums [z]).size = 1 := rfl

theorem Tryz.infoStr : (Tryz.prog.info? 9).map (fun i => (i.zero, i.size, i.bytes)) = some (some (.string ByteArray.empty), 1, 16) := by kernel_rfl

theorem Others.grown {b : Nat} {w w' : World} (h : Others b w w') : w.grownBy w' (some b) := ⟨h.os, h.tape, h.output, by rw [h.size]; exact Nat.le_refl _, fun i _ hne => h.block i (fun e => hne (by rw [e]))⟩
theorem grown_ofB {w w' : World} (h : Below w.heap.size w w') (r : Option Nat) : w.grownBy w' r := ⟨h.os, h.tape, h.output, h.size, fun i hi _ => h.block i hi⟩
theorem below_grown {B b : Nat} {w w1 w' : World} (hb : Below B w w1) (hg : w1.grownBy w' (some b)) (h1 : B ≤ b) (h2 : B ≤ w1.heap.size) : Below B w w' := hb.grown hg h2 (fun k hk => by injection hk with hk; omega)
theorem OwnI.kept {w w' : World} {base : Nat} {v : Value} {L : List Int} {row : Option Nat} (h : OwnI w base v L) (hg : w.grownBy w' row) (hne : ∀ k, row = some k → v.ownBlock ≠ some k) : OwnI w' base v L := by
  refine ⟨h.bd, h.own.kept hg ?_⟩
  cases hr : v.ownBlock with
  | none => exact .inl rfl
  | some k => exact .inr fun e => hne k e.symm hr
theorem IOwn.grown {w w' : World} {c b off n : Nat} {f : Nat → Int} (h : IOwn w b off n f) (hg : w.grownBy w' (some c)) (hne : b ≠ c) : IOwn w' b off n f :=
  ⟨h.bd, Nat.lt_of_lt_of_le h.lt hg.size, fun i hi => hg.cell (h.cell i hi) (fun e => hne (Option.some.inj e)), fun i hi => (World.frozen?_of_block (w := w) (a := ⟨b, off + i, none⟩) (hg.block b h.lt (fun e => hne (Option.some.inj e)))).trans (h.free i hi)⟩

def mI (k0 : Nat) (i : Nat) : Int := ((k0 + i : Nat) : Int)
end Go.Proofs.YtmeckcaekkangaaGreat
namespace Go.Proofs.YtmeckcaekkangaaGreat
set_option maxRecDepth 100000
open Go.RowKit
set_option linter.unusedSimpArgs false
set_option linter.unusedVariables false

/-- What an exact measure leaves: d is taken away, or it says no. -/
def SzX (left : Int) (d : Int) (w : World) (e : Ending) (w' : World) : Prop :=
  ∃ v : Int, e = .returned (.int .i64 v) ∧ -1 ≤ v ∧ (0 ≤ v → v = left - d) ∧ Below w.heap.size w w'

/-- The letters and numbers of the first k together. -/
def tot (X : Nat → Ent) : Nat → Nat
  | 0 => 0
  | k + 1 => tot X k + ((X k).key.size + (X k).n)
theorem tot_size {X : Nat → Ent} {B : Nat} : ∀ {n : Nat}, tot X n ≤ B → ∀ i, i < n → (X i).key.size ≤ B ∧ (X i).n ≤ B
  | 0, _, i, hi => by omega
  | n + 1, h, i, hi => by
    unfold tot at h
    by_cases e : i = n
    · subst e; omega
    · exact tot_size (n := n) (by omega) i (by omega)

end Go.Proofs.YtmeckcaekkangaaGreat
namespace Go.Proofs.YtmeckcaekkangaaGreat
set_option maxRecDepth 100000
open Go.RowKit
set_option linter.unusedSimpArgs false
set_option linter.unusedVariables false

/-- An entry that bears the marks from k on. -/
def mkE (k : Int) (x : Ent) : Ent := ⟨mt k, k + 1, k + 2, k + 3, k + 4, k + 5, k + 6, x.n, fun i => if i < x.n then k + 7 + i else 0, (k + 7 + x.n) % 3 == 0⟩
/-- Entries in block b, their lists elsewhere, all apart and free to be written. -/
structure CE (w : World) (b n : Nat) (X : Nat → Ent) (L : Nat → Option Addr) (C : Nat → Nat) : Prop where
  lt : b < w.heap.size
  ent : ∀ i, i < n → EAt w b (i * 9) (X i) (L i) (C i)
  free : ∀ j, j < n * 9 → w.frozen? ⟨b, j, none⟩ = false
  hist : ∀ i, i < n → (X i).n = 0 ∨ ∃ g, L i = some ⟨g, 0, none⟩ ∧ g ≠ b ∧ IOwn w g 0 (X i).n (X i).f
  dis : ∀ i j, i < n → j < n → i ≠ j → 0 < (X i).n → 0 < (X j).n → ∀ g, L i = some ⟨g, 0, none⟩ → L j ≠ some ⟨g, 0, none⟩
/-- Only b and the lists have been written. -/
structure CO (b n : Nat) (X : Nat → Ent) (L : Nat → Option Addr) (w w' : World) : Prop where
  os : w'.os = w.os
  tape : w'.tape = w.tape
  output : w'.output = w.output
  size : w.heap.size ≤ w'.heap.size
  block : ∀ c, c < w.heap.size → c ≠ b → (∀ i, i < n → 0 < (X i).n → L i ≠ some ⟨c, 0, none⟩) → w'.heap[c]? = w.heap[c]?
theorem CO.refl (b n : Nat) (X : Nat → Ent) (L : Nat → Option Addr) (w : World) : CO b n X L w w := ⟨rfl, rfl, rfl, Nat.le_refl _, fun _ _ _ _ => rfl⟩
theorem CO.trans {b n : Nat} {X : Nat → Ent} {L : Nat → Option Addr} {u v w : World} (h : CO b n X L u v) (k : CO b n X L v w) : CO b n X L u w :=
  ⟨k.os.trans h.os, k.tape.trans h.tape, k.output.trans h.output, Nat.le_trans h.size k.size, fun c hc h1 h2 => (k.block c (Nat.lt_of_lt_of_le hc h.size) h1 h2).trans (h.block c hc h1 h2)⟩
theorem CO.of_below {b n : Nat} {X : Nat → Ent} {L : Nat → Option Addr} {w w' : World} (h : Below w.heap.size w w') : CO b n X L w w' := ⟨h.os, h.tape, h.output, h.size, fun c hc _ _ => h.block c hc⟩
theorem CO.of_others {b n : Nat} {X : Nat → Ent} {L : Nat → Option Addr} {w w' : World} (h : Others b w w') : CO b n X L w w' := ⟨h.os, h.tape, h.output, by rw [h.size]; exact Nat.le_refl _, fun c _ h1 _ => h.block c h1⟩
theorem CO.of_list {b n : Nat} {X : Nat → Ent} {L : Nat → Option Addr} {w w' : World} {g i : Nat} (h : Others g w w') (hi : i < n) (h0 : 0 < (X i).n) (hL : L i = some ⟨g, 0, none⟩) : CO b n X L w w' := ⟨h.os, h.tape, h.output, by rw [h.size]; exact Nat.le_refl _, fun c _ _ h2 => h.block c (fun e => h2 i hi h0 (by rw [e]; exact hL))⟩
theorem CE.keep {w w' : World} {b n : Nat} {X : Nat → Ent} {L : Nat → Option Addr} {C : Nat → Nat} (h : CE w b n X L C) (hb : Below w.heap.size w w') : CE w' b n X L C :=
  ⟨Nat.lt_of_lt_of_le h.lt hb.size, fun i hi => (h.ent i hi).keep hb, fun j hj => (hb.frozen (p := ⟨b, j, none⟩) h.lt).trans (h.free j hj),
    fun i hi => (h.hist i hi).elim .inl fun ⟨g, h1, h2, h3⟩ => .inr ⟨g, h1, h2, h3.keep hb⟩, h.dis⟩

/-- One entry's cells and list written over. -/
theorem CE.put {w w2 : World} {b n k : Nat} {X : Nat → Ent} {L : Nat → Option Addr} {C : Nat → Nat} {y : Ent} (h : CE w b n X L C) (hk : k < n) (hyn : y.n = (X k).n)
    (hsz : w.heap.size ≤ w2.heap.size) (he : EAt w2 b (k * 9) y (L k) (C k)) (hfz : ∀ j, w2.frozen? ⟨b, j, none⟩ = w.frozen? ⟨b, j, none⟩)
    (hcell : ∀ j, j < k * 9 ∨ k * 9 + 9 ≤ j → w2.cell? ⟨b, j, none⟩ = w.cell? ⟨b, j, none⟩)
    (hlist : y.n = 0 ∨ ∃ g, L k = some ⟨g, 0, none⟩ ∧ g ≠ b ∧ IOwn w2 g 0 y.n y.f)
    (hoth : ∀ i g, i < n → i ≠ k → 0 < (X i).n → L i = some ⟨g, 0, none⟩ → g ≠ b → w2.heap[g]? = w.heap[g]?) :
    CE w2 b n (fun i => if i = k then y else X i) L C := by
  have hlt : b < w2.heap.size := Nat.lt_of_lt_of_le h.lt hsz
  have hN : ∀ i, ((if i = k then y else X i) : Ent).n = (X i).n := fun i => by split <;> simp_all
  refine ⟨hlt, fun i hi => ?_, fun j hj => by rw [hfz]; exact h.free j hj, fun i hi => ?_, fun i j hi hj hij h1 h2 => by rw [hN] at h1 h2; exact h.dis i j hi hj hij h1 h2⟩
  · by_cases e : i = k
    · subst e; simp only [if_true]; exact he
    · simp only [e, if_false]
      have h0 := h.ent i hi
      have c : ∀ q, q < 9 → w2.cell? ⟨b, i * 9 + q, none⟩ = w.cell? ⟨b, i * 9 + q, none⟩ := fun q hq => hcell _ (by omega)
      exact ⟨hlt, (c 0 (by omega)).trans h0.c0, (c 1 (by omega)).trans h0.c1, (c 2 (by omega)).trans h0.c2, (c 3 (by omega)).trans h0.c3, (c 4 (by omega)).trans h0.c4, (c 5 (by omega)).trans h0.c5, (c 6 (by omega)).trans h0.c6, (c 7 (by omega)).trans h0.c7, (c 8 (by omega)).trans h0.c8⟩
  · by_cases e : i = k
    · subst e; simp only [if_true]; exact hlist
    · simp only [e, if_false]
      rcases h.hist i hi with h0 | ⟨g, h1, h2, h3⟩
      · exact .inl h0
      · by_cases hz : (X i).n = 0
        · exact .inl hz
        · have hb := hoth i g hi e (by omega) h1 h2
          exact .inr ⟨g, h1, h2, h3.bd, Nat.lt_of_lt_of_le h3.lt hsz, fun j hj => (World.cell?_of_block (w := w) (a := ⟨g, 0 + j, none⟩) hb).trans (h3.cell j hj), fun j hj => (World.frozen?_of_block (w := w) (a := ⟨g, 0 + j, none⟩) hb).trans (h3.free j hj)⟩
end Go.Proofs.YtmeckcaekkangaaGreat
namespace Go.Proofs.YtmeckcaekkangaaGreat
set_option maxRecDepth 100000
open Go.RowKit
set_option linter.unusedSimpArgs false
set_option linter.unusedVariables false

theorem CE.congr {w : World} {b n : Nat} {X X' : Nat → Ent} {L : Nat → Option Addr} {C : Nat → Nat} (h : CE w b n X L C) (e : ∀ i, i < n → X i = X' i) : CE w b n X' L C :=
  ⟨h.lt, fun i hi => by rw [← e i hi]; exact h.ent i hi, h.free, fun i hi => by rw [← e i hi]; exact h.hist i hi, fun i j hi hj hij => by rw [← e i hi, ← e j hj]; exact h.dis i j hi hj hij⟩
/-- The next mark behind the first i entries. -/
def kOf (X : Nat → Ent) (k0 : Nat) : Nat → Nat
  | 0 => k0
  | i + 1 => kOf X k0 i + 8 + (X i).n
theorem kOf_mono (X : Nat → Ent) (k0 : Nat) : ∀ {i j : Nat}, i ≤ j → kOf X k0 i ≤ kOf X k0 j
  | i, 0, h => by rw [show i = 0 by omega]; exact Nat.le_refl _
  | i, j + 1, h => by
    by_cases e : i = j + 1
    · rw [e]; exact Nat.le_refl _
    · have := kOf_mono X k0 (show i ≤ j by omega)
      show _ ≤ kOf X k0 j + 8 + (X j).n
      omega
theorem kOf_ge (X : Nat → Ent) (k0 i : Nat) : k0 ≤ kOf X k0 i := kOf_mono X k0 (Nat.zero_le i)

end Go.Proofs.YtmeckcaekkangaaGreat
namespace Go.Proofs.YtmeckcaekkangaaGreat
set_option maxRecDepth 100000
open Go.RowKit
set_option linter.unusedSimpArgs false
set_option linter.unusedVariables false

end Go.Proofs.YtmeckcaekkangaaGreat
