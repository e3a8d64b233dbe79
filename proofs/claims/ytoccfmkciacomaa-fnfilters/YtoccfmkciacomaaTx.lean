/- Rows of texts: measured, copied, compared, marked. -/
import Derived.Test.YtoccfmkciacomaaBase
import Derived.Laws.BytesArg
import Derived.Maps.AppendAt
import Derived.OwnWalk
namespace Go.Proofs.Ytoccfmkciacomaa
open Go.RowKit
set_option linter.unusedSimpArgs false
set_option linter.unusedVariables false

/-- n texts lie at ao. -/
structure TRow (w : World) (ao : Option Addr) (n : Nat) (K : Nat → ByteArray) : Prop where
  lies : n = 0 ∨ ∃ b off, ao = some ⟨b, off, none⟩ ∧ b < w.heap.size ∧ ∀ i, i < n → w.cell? ⟨b, off + i, none⟩ = some (.string (K i))
theorem TRow.keep {w w' : World} {ao : Option Addr} {n : Nat} {K : Nat → ByteArray} (h : TRow w ao n K) (hb : Below w.heap.size w w') : TRow w' ao n K :=
  ⟨h.lies.elim .inl fun ⟨b, off, e, hlt, hc⟩ => .inr ⟨b, off, e, Nat.lt_of_lt_of_le hlt hb.size, fun i hi => (hb.cell (p := ⟨b, off + i, none⟩) hlt).trans (hc i hi)⟩⟩

/-- Each text is short. -/
def TSz (K : Nat → ByteArray) (n : Nat) : Prop := n ≤ 1048576 ∧ ∀ i, i < n → (K i).size ≤ 1048576
def mtLoop : Nat → Int → ByteArray → ByteArray
  | 0, _, out => out
  | f + 1, k, out => if 0 < k then mtLoop f (k / 10) (strOfNums [48 + k % 10] ++ out) else out
/-- The mark of k. -/
def mt (k : Int) : ByteArray := (⟨#[109]⟩ : ByteArray) ++ mtLoop k.toNat k ⟨#[]⟩
theorem mtLoop_zero (f : Nat) (k : Int) (out : ByteArray) (h : ¬ 0 < k) : mtLoop f k out = out := by
  cases f with
  | zero => rfl
  | succ f => simp [mtLoop, h]
theorem mtLoop_fuel : ∀ (f g : Nat) (k : Int) (out : ByteArray), k.toNat ≤ f → k.toNat ≤ g → mtLoop f k out = mtLoop g k out
  | 0, g, k, out, h, _ => by rw [mtLoop_zero g k out (by omega)]; rfl
  | f + 1, 0, k, out, _, h => by rw [mtLoop_zero (f + 1) k out (by omega)]; rfl
  | f + 1, g + 1, k, out, h1, h2 => by
    simp only [mtLoop]
    split
    · exact mtLoop_fuel f g _ _ (by omega) (by omega)
    · rfl
theorem one_nums (z : Int) : (strOfNums [z]).size = 1 := rfl

theorem Try.infoStr : (Try.prog.info? 9).map (fun i => (i.zero, i.size, i.bytes)) = some (some (.string ByteArray.empty), 1, 16) := by kernel_rfl

theorem Others.grown {b : Nat} {w w' : World} (h : Others b w w') : w.grownBy w' (some b) := ⟨h.os, h.tape, h.output, by rw [h.size]; exact Nat.le_refl _, fun i _ hne => h.block i (fun e => hne (by rw [e]))⟩
theorem grown_of_below {w w' : World} (h : Below w.heap.size w w') (r : Option Nat) : w.grownBy w' r := ⟨h.os, h.tape, h.output, h.size, fun i hi _ => h.block i hi⟩
theorem below_grown {B b : Nat} {w w1 w' : World} (hb : Below B w w1) (hg : w1.grownBy w' (some b)) (h1 : B ≤ b) (h2 : B ≤ w1.heap.size) : Below B w w' := hb.grown hg h2 (fun k hk => by injection hk with hk; omega)
/-- n texts of the call's own in block b. -/
structure TOwn (w : World) (b n : Nat) (K : Nat → ByteArray) : Prop where
  lt : b < w.heap.size
  cell : ∀ i, i < n → w.cell? ⟨b, i, none⟩ = some (.string (K i))
  free : ∀ i, i < n → w.frozen? ⟨b, i, none⟩ = false
section
variable {w w' : World} {b n : Nat} {K : Nat → ByteArray}
theorem TOwn.row (h : TOwn w b n K) : TRow w (some ⟨b, 0, none⟩) n K := ⟨.inr ⟨b, 0, rfl, h.lt, fun i hi => by rw [Nat.zero_add]; exact h.cell i hi⟩⟩
theorem TOwn.keep (h : TOwn w b n K) (hb : Below w.heap.size w w') : TOwn w' b n K :=
  ⟨Nat.lt_of_lt_of_le h.lt hb.size, fun i hi => (hb.cell (p := ⟨b, i, none⟩) h.lt).trans (h.cell i hi), fun i hi => (hb.frozen (p := ⟨b, i, none⟩) h.lt).trans (h.free i hi)⟩
theorem TOwn.store (h : TOwn w b n K) (k : Nat) (hk : k < n) (s : ByteArray) : TOwn (w.setCell ⟨b, k, none⟩ (.string s)) b n (fun i => if i = k then s else K i) := by
  refine ⟨by simpa using h.lt, fun i hi => ?_, fun i hi => by simpa using h.free i hi⟩
  by_cases e : i = k
  · subst e; simp [World.cell?_setCell_same _ _ _ (h.cell i hi)]
  · rw [World.cell?_setCell_other _ _ _ _ (by intro hh; injection hh with _ h2 _; omega), h.cell i hi]; simp [e]
theorem TOwn.congr {K' : Nat → ByteArray} (h : TOwn w b n K) (e : ∀ i, i < n → K i = K' i) : TOwn w b n K' := ⟨h.lt, fun i hi => by rw [h.cell i hi, e i hi], h.free⟩
end

end Go.Proofs.Ytoccfmkciacomaa
