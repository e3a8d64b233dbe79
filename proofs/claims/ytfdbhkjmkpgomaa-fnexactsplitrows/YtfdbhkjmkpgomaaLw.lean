/- What a law holds: arguments copied and marked. -/
import Derived.Test.YtfdbhkjmkpgomaaAw
import Derived.Test.YtfdbhkjmkpgomaaGe
namespace Go.Proofs.Ytfdbhkjmkpgomaa
open Go.RowKit
set_option linter.unusedSimpArgs false
set_option linter.unusedVariables false

/-- Only blocks from lo on and below hi have been written. -/
structure Rng (lo hi : Nat) (w w' : World) : Prop where
  os : w'.os = w.os
  tape : w'.tape = w.tape
  output : w'.output = w.output
  size : w.heap.size ≤ w'.heap.size
  block : ∀ c, c < w.heap.size → (c < lo ∨ hi ≤ c) → w'.heap[c]? = w.heap[c]?
theorem Rng.refl (lo hi : Nat) (w : World) : Rng lo hi w w := ⟨rfl, rfl, rfl, Nat.le_refl _, fun _ _ _ => rfl⟩
theorem Rng.trans {lo hi : Nat} {u v w : World} (h : Rng lo hi u v) (k : Rng lo hi v w) : Rng lo hi u w :=
  ⟨k.os.trans h.os, k.tape.trans h.tape, k.output.trans h.output, Nat.le_trans h.size k.size, fun c hc hd => (k.block c (Nat.lt_of_lt_of_le hc h.size) hd).trans (h.block c hc hd)⟩
theorem Rng.below {lo hi B : Nat} {w w' : World} (h : Rng lo hi w w') (hB : B ≤ lo) (hs : B ≤ w.heap.size) : Below B w w' :=
  ⟨h.os, h.tape, h.output, h.size, fun c hc => h.block c (by omega) (.inl (by omega))⟩
theorem Rng.of_below {lo hi : Nat} {w w' : World} (h : Below w.heap.size w w') : Rng lo hi w w' := ⟨h.os, h.tape, h.output, h.size, fun c hc _ => h.block c hc⟩

/-- A copy of entries, all in blocks from lo on and below hi. -/
def LA (w : World) (lo hi n : Nat) (X : Nat → Ent) : Prop := ∃ G, EOwn w lo n n X G ∧ lo < hi ∧ hi ≤ w.heap.size ∧ ∀ i, i < n → G i < hi
section
variable {w w' : World} {lo hi n : Nat} {X : Nat → Ent}
theorem LA.row (h : LA w lo hi n X) (hbd : ∀ i, i < n → EB (X i)) : ERow w (some ⟨lo, 0, none⟩) n X := by obtain ⟨G, h, _⟩ := h; exact h.row hbd
theorem LA.keep (h : LA w lo hi n X) (hb : Below w.heap.size w w') : LA w' lo hi n X := by obtain ⟨G, h, h1, h2, h3⟩ := h; exact ⟨G, h.keep hb, h1, Nat.le_trans h2 hb.size, h3⟩
theorem LA.lt (h : LA w lo hi n X) : lo < hi ∧ hi ≤ w.heap.size := by obtain ⟨G, _, h1, h2, _⟩ := h; exact ⟨h1, h2⟩
theorem la_of {G : Nat → Nat} (h : EOwn w lo n n X G) : LA w lo w.heap.size n X := ⟨G, h, h.lt, Nat.le_refl _, fun i hi => (h.data i hi).2.lt⟩
end
theorem toLA (ao : Option Addr) (n cap : Nat) (X : Nat → Ent) (w : World) (hr : ERow w ao n X) (hn : n ≤ 1048576) (hz : ESize n X) :
    Calls Try.prog 18 #[.slice ao n cap] w fun e w' => e = .returned (.slice (some ⟨w.heap.size, 0, none⟩) n n) ∧ LA w' w.heap.size w'.heap.size n X ∧ Below w.heap.size w w' :=
  (toEntryS_any ao n cap X w hr hn hz).mono (by rintro e w' ⟨G, rfl, h, hb⟩; exact ⟨rfl, la_of h, hb⟩)
theorem markLA (lo hi n k0 : Nat) (X : Nat → Ent) (w : World) (h : LA w lo hi n X) (hk0 : 1 ≤ k0) (hz : ∀ i, i < n → (X i).n ≤ 1048576) (hn : n ≤ 1048576) (hbd : kOf X k0 n ≤ 16000000) :
    Calls Try.prog 14 #[.slice (some ⟨lo, 0, none⟩) n n, .int .i64 k0] w fun e w' => e = .returned (.int .i64 (kOf X k0 n : Int)) ∧ Rng lo hi w w' := by
  obtain ⟨G, h, h1, h2, h3⟩ := h
  refine (markEntryS_any lo n n k0 X _ _ w h.ce hk0 hz hn hbd).mono ?_
  rintro e w' ⟨rfl, _, hco⟩
  refine ⟨rfl, hco.os, hco.tape, hco.output, hco.size, fun c hc hd => hco.block c hc (by omega) (fun i hi _ e => ?_)⟩
  have g1 := (h.data i hi).1
  have g2 := h3 i hi
  injection e with e
  injection e with e _ _
  omega

/-- An entry that a law can hold. -/
structure SmE (x : Ent) : Prop where
  key : x.key.size ≤ 140
  n : x.n ≤ 8
  eb : EB x
  f : ∀ j, -9223372036854775808 ≤ x.f j ∧ x.f j ≤ 9223372036854775807
def SmL (E : List Ent) : Prop := ∀ x ∈ E, SmE x
section
variable {E : List Ent}
theorem SmL.at (h : SmL E) {i : Nat} (hi : i < E.length) : SmE (eL E i) := by
  have e : eL E i = E[i] := by simp [eL, hi]
  rw [e]; exact h _ (List.getElem_mem hi)
theorem SmL.eb (h : SmL E) : ∀ i, i < E.length → EB (eL E i) := fun i hi => (h.at hi).eb
theorem SmL.fb (h : SmL E) : FB E := fun i hi => (h.at hi).f
theorem SmL.sz (h : SmL E) : ESize E.length (eL E) := fun i hi => by have := h.at hi; exact ⟨by have := this.key; omega, by have := this.n; omega⟩
theorem kOf_sm {X : Nat → Ent} : ∀ {n : Nat}, (∀ i, i < n → (X i).n ≤ 8) → kOf X 1 n ≤ 1 + 16 * n
  | 0, _ => by simp [kOf]
  | n + 1, h => by
    have := kOf_sm (n := n) (fun i hi => h i (by omega))
    have := h n (by omega)
    unfold kOf
    omega
theorem SmL.k (h : SmL E) : kOf (eL E) 1 E.length ≤ 1 + 16 * E.length := kOf_sm (fun i hi => (h.at hi).n)
end
theorem ERow.fb {w : World} {ao : Option Addr} {n : Nat} {X : Nat → Ent} (h : ERow w ao n X) : ∀ i, i < n → ∀ j, -9223372036854775808 ≤ (X i).f j ∧ (X i).f j ≤ 9223372036854775807 := fun i hi => by
  obtain ⟨b, off, _, _, hc⟩ := h.lies.resolve_left (by omega)
  obtain ⟨da, dc, _, hr⟩ := hc i hi
  exact hr.bd
theorem GoodE.n8 {x : Ent} (h : GoodE x) : x.n ≤ 8 := by
  rcases h.2.2 with ⟨_, h⟩ | ⟨_, h⟩
  · have : x.n = 8 := h.2.1
    omega
  · have : x.n = 0 := h.2.2.2.2.1
    omega
theorem GoodE.sm {x : Ent} (h : GoodE x) (he : EB x) (hf : ∀ j, -9223372036854775808 ≤ x.f j ∧ x.f j ≤ 9223372036854775807) : SmE x :=
  ⟨by have := h.1; simp only [KeyOk] at this; omega, h.n8, he, hf⟩
end Go.Proofs.Ytfdbhkjmkpgomaa
