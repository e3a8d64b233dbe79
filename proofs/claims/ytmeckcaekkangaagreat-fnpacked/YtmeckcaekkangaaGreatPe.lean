/- Whether a Seq is there, in the program. / The place of an entry, in the program: the path over ways of which all are the lowest. / PutEntry, in the program. -/
import Derived.Test.YtmeckcaekkangaaGreatBef
import Derived.Laws.EntriesVeiled
import Derived.Test.YtmeckcaekkangaaGreatIL
import Derived.Deep.RegionHeld3
import Derived.Deep.RegionWith
import Derived.Test.YtmeckcaekkangaaGreatLo
import Derived.Test.YtmeckcaekkangaaGreatAm
import Derived.Test.YtmeckcaekkangaaGreatGe
namespace Go.Proofs.YtmeckcaekkangaaGreat
set_option maxRecDepth 100000
open Go.RowKit
set_option linter.unusedSimpArgs false
set_option linter.unusedVariables false

/-- A Seq is among those of the first n. -/
def HasS (X : Nat → Ent) (n : Nat) (s : Int) : Prop := ∃ i, i < n ∧ (X i).seq = s

end Go.Proofs.YtmeckcaekkangaaGreat
namespace Go.Proofs.YtmeckcaekkangaaGreat
set_option maxRecDepth 100000
open Go.RowKit
set_option linter.unusedSimpArgs false
set_option linter.unusedVariables false

def pcF (X : Nat → Ent) (n : Nat) (e : Ent) : Nat → Nat → Nat
  | 0, q => q
  | f + 1, q => if q < n ∧ cE (X q) e < 0 then pcF X n e f (q + 1) else q
/-- The first from q on that does not stand ahead of e. -/
def pc (X : Nat → Ent) (n : Nat) (e : Ent) (q : Nat) : Nat := pcF X n e (n - q) q
section
variable {X : Nat → Ent} {n : Nat} {e : Ent} {q : Nat}
theorem pc_end (h : n ≤ q) : pc X n e q = q := by unfold pc; rw [Nat.sub_eq_zero_of_le h]; rfl
theorem pc_stop (h : q < n) (h2 : ¬ cE (X q) e < 0) : pc X n e q = q := by
  unfold pc
  obtain ⟨f, hf⟩ : ∃ f, n - q = f + 1 := ⟨n - q - 1, by omega⟩
  rw [hf]
  simp [pcF, h2]
theorem pc_step (h : q < n) (h2 : cE (X q) e < 0) : pc X n e q = pc X n e (q + 1) := by
  unfold pc
  obtain ⟨f, hf⟩ : ∃ f, n - q = f + 1 := ⟨n - q - 1, by omega⟩
  rw [hf, show n - (q + 1) = f by omega]
  simp [pcF, h, h2]
theorem pcF_le (X : Nat → Ent) (n : Nat) (e : Ent) : ∀ f q, q ≤ n → q ≤ pcF X n e f q ∧ pcF X n e f q ≤ n
  | 0, q, h => ⟨Nat.le_refl _, h⟩
  | f + 1, q, h => by
    unfold pcF
    split
    · rename_i hc
      have := pcF_le X n e f (q + 1) (by omega)
      omega
    · omega
theorem pc_le (h : q ≤ n) : q ≤ pc X n e q ∧ pc X n e q ≤ n := pcF_le X n e _ q h
end

/-- The next on a way, all being the lowest. -/
def nxO (n : Nat) (y : Int) (q : Nat) : Nat := if 1 < y then n else q

/-- What the path leaves. -/
def PcO (P : Nat) (w : World) (e : Ending) (w' : World) : Prop := ∃ v, e = .returned (.tuple #[v, .int .i64 (P : Int)]) ∧ Below w.heap.size w w'

end Go.Proofs.YtmeckcaekkangaaGreat
namespace Go.Proofs.YtmeckcaekkangaaGreat
set_option maxRecDepth 100000
open Go.RowKit
set_option linter.unusedSimpArgs false
set_option linter.unusedVariables false

/-- Entries and one more at its place. -/
def pX (X : Nat → Ent) (x : Ent) (P : Nat) (i : Nat) : Ent := if i < P then X i else if i = P then x else X (i - 1)
def pE (X : Nat → Ent) (n : Nat) (x : Ent) (P : Nat) : List Ent := (List.range (n + 1)).map (pX X x P)
theorem pE_len (X : Nat → Ent) (n : Nat) (x : Ent) (P : Nat) : (pE X n x P).length = n + 1 := by simp [pE]
theorem pE_at (X : Nat → Ent) (n : Nat) (x : Ent) (P : Nat) {i : Nat} (hi : i < n + 1) : eL (pE X n x P) i = pX X x P i := by
  simp [eL, pE, List.getD, hi]
/-- What may be put in. -/
def GoodP (X : Nat → Ent) (n : Nat) (x : Ent) : Prop := n < 60 ∧ GoodL X n ∧ GoodE x ∧ ¬ HasS X n x.seq

theorem ERow.pre {w : World} {ao : Option Addr} {n m : Nat} {X : Nat → Ent} (h : ERow w ao n X) (hm : m ≤ n) : ERow w ao m X := by
  obtain ⟨hbd, hl⟩ := h
  refine ⟨fun i hi => hbd i (by omega), ?_⟩
  rcases hl with rfl | ⟨b, off, rfl, hlt, hc⟩
  · exact .inl (by omega)
  · exact .inr ⟨b, off, rfl, hlt, fun i hi => hc i (by omega)⟩

theorem ERow.post {w : World} {ao : Option Addr} {n m : Nat} {X : Nat → Ent} (h : ERow w ao n X) (hm : m ≤ n) : ERow w (ao.map fun a => a.add (m * 9)) (n - m) (fun i => X (m + i)) := by
  obtain ⟨hbd, hl⟩ := h
  refine ⟨fun i hi => hbd _ (by omega), ?_⟩
  rcases hl with rfl | ⟨b, off, rfl, hlt, hc⟩
  · exact .inl (by omega)
  · refine .inr ⟨b, off + m * 9, by simp [Addr.add], hlt, fun i hi => ?_⟩
    obtain ⟨da, dc, ea, ir⟩ := hc (m + i) (by omega)
    refine ⟨da, dc, ?_, ir⟩
    have e : off + m * 9 + i * 9 = off + (m + i) * 9 := by omega
    rw [e]; exact ea
theorem pX_cat {X Y : Nat → Ent} {x d : Ent} {n P : Nat} (hY : ∀ i, i < n - P → Y i = X (P + i)) (hP : P ≤ n) : ∀ i, i < n + 1 → catE (fun i => if i = P then x else catE (fun _ => d) 0 X i) (P + 1) Y i = eL (pE X n x P) i := by
  intro i hi
  rw [pE_at X n x P hi]
  unfold catE pX
  by_cases h1 : i < P
  · simp [h1, show i < P + 1 by omega, show i ≠ P by omega]
  · by_cases h2 : i = P
    · simp [h2]
    · have h3 : ¬ i < P + 1 := by omega
      simp only [h1, h2, h3, if_false]
      rw [hY _ (by omega)]
      congr 1
      omega

end Go.Proofs.YtmeckcaekkangaaGreat
