/- Rows of texts: measured, copied, compared, marked; marks of ints. / Good aggs, in the program. -/
import Derived.Test.YtagkhohglpjjlaaIL
import Derived.Laws.BytesArg
import Derived.Maps.AppendAt
import Derived.OwnWalk
namespace Go.Proofs.Ytagkhohglpjjlaa
open Go.RowKit
set_option linter.unusedSimpArgs false
set_option linter.unusedVariables false

def mtLoop : Nat → Int → ByteArray → ByteArray
  | 0, _, out => out
  | f + 1, k, out => if 0 < k then mtLoop f (k / 10) (strOfNums [48 + k % 10] ++ out) else out
/-- The mark of k. -/
def mt (k : Int) : ByteArray := (⟨#[109]⟩ : ByteArray) ++ mtLoop k.toNat k ⟨#[]⟩
theorem mtLoop_zero (f : Nat) (k : Int) (out : ByteArray) (h : ¬ 0 < k) : mtLoop f k out = out := by
  cases f with
  | zero => rfl
  | succ f => simp [mtLoop, h]
theorem mtLoop_fuel : ∀ (f g : Nat) (k : Int) (out : ByteArray), k.toNat ≤ f → k.toNat ≤ g → mtLoop f k out = mtLoop g k out
  | 0, g, k, out, h, _ => by rw [mtLoop_zero g k out (by omega)]; rfl
  | f + 1, 0, k, out, _, h => by rw [mtLoop_zero (f + 1) k out (by omega)]; rfl
  | f + 1, g + 1, k, out, h1, h2 => by
    simp only [mtLoop]
    split
    · exact mtLoop_fuel f g _ _ (by omega) (by omega)
    · rfl
theorem one_nums (z : Int) : (strOfNums [z]).size = 1 := rfl

theorem Try.infoStr : (Try.prog.info? 9).map (fun i => (i.zero, i.size, i.bytes)) = some (some (.string ByteArray.empty), 1, 16) := by kernel_rfl

theorem Others.grown {b : Nat} {w w' : World} (h : Others b w w') : w.grownBy w' (some b) := ⟨h.os, h.tape, h.output, by rw [h.size]; exact Nat.le_refl _, fun i _ hne => h.block i (fun e => hne (by rw [e]))⟩
theorem grown_ofB {w w' : World} (h : Below w.heap.size w w') (r : Option Nat) : w.grownBy w' r := ⟨h.os, h.tape, h.output, h.size, fun i hi _ => h.block i hi⟩
theorem below_grown {B b : Nat} {w w1 w' : World} (hb : Below B w w1) (hg : w1.grownBy w' (some b)) (h1 : B ≤ b) (h2 : B ≤ w1.heap.size) : Below B w w' := hb.grown hg h2 (fun k hk => by injection hk with hk; omega)
theorem OwnI.kept {w w' : World} {base : Nat} {v : Value} {L : List Int} {row : Option Nat} (h : OwnI w base v L) (hg : w.grownBy w' row) (hne : ∀ k, row = some k → v.ownBlock ≠ some k) : OwnI w' base v L := by
  refine ⟨h.bd, h.own.kept hg ?_⟩
  cases hr : v.ownBlock with
  | none => exact .inl rfl
  | some k => exact .inr fun e => hne k e.symm hr
theorem IOwn.grown {w w' : World} {c b off n : Nat} {f : Nat → Int} (h : IOwn w b off n f) (hg : w.grownBy w' (some c)) (hne : b ≠ c) : IOwn w' b off n f :=
  ⟨h.bd, Nat.lt_of_lt_of_le h.lt hg.size, fun i hi => hg.cell (h.cell i hi) (fun e => hne (Option.some.inj e)), fun i hi => (World.frozen?_of_block (w := w) (a := ⟨b, off + i, none⟩) (hg.block b h.lt (fun e => hne (Option.some.inj e)))).trans (h.free i hi)⟩

def mI (k0 : Nat) (i : Nat) : Int := ((k0 + i : Nat) : Int)
end Go.Proofs.Ytagkhohglpjjlaa
namespace Go.Proofs.Ytagkhohglpjjlaa
open Go.RowKit
set_option linter.unusedSimpArgs false
set_option linter.unusedVariables false

/-- The first k together. -/
def sumF (f : Nat → Int) : Nat → Int
  | 0 => 0
  | k + 1 => sumF f k + f k
theorem sumF_bd {f : Nat → Int} {k : Nat} (h : ∀ i, i < k → isC (f i) = true) : 0 ≤ sumF f k ∧ sumF f k ≤ 1000000000 * (k : Int) := by
  induction k with
  | zero => simp [sumF]
  | succ k ih =>
    have h1 := ih (fun i hi => h i (by omega))
    have h2 := h k (by omega)
    simp [isC, btw] at h2
    simp only [sumF]
    omega

/-- Good, in the document's words. -/
def GoodA (c s lo hi : Int) (n : Nat) (f : Nat → Int) (fu : Bool) : Prop :=
  isC c = true ∧ n = 8 ∧ (∀ i, i < 8 → isC (f i) = true) ∧ (fu = false → sumF f 8 = c ∧ -1000000000 * c ≤ s ∧ s ≤ 1000000000 * c) ∧ (fu = true → s = 0 ∧ 0 < c) ∧
    (c = 0 → lo = 0 ∧ hi = 0) ∧ (c ≠ 0 → isV lo = true ∧ isV hi = true ∧ lo ≤ hi)

/-- What a question leaves: an answer that says whether p. -/
def Ans (p : Prop) (w : World) (e : Ending) (w' : World) : Prop := ∃ b : Bool, e = .returned (.bool b) ∧ (b = true ↔ p) ∧ Below w.heap.size w w'
theorem Ans.mk {p : Prop} {w w' : World} (b : Bool) (h : b = true ↔ p) (hb : Below w.heap.size w w') : Ans p w (.returned (.bool b)) w' := ⟨b, rfl, h, hb⟩

end Go.Proofs.Ytagkhohglpjjlaa
