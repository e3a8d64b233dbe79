/- Answers of entries whose memory is their own: told by cells, kept, marked. / What a law holds: arguments copied and marked. -/
import Derived.Test.YtmeckcaekkangaaGreatEoLaw
import Derived.Test.YtmeckcaekkangaaGreatLo
import Derived.Test.YtmeckcaekkangaaGreatGe
namespace Go.Proofs.YtmeckcaekkangaaGreat
set_option maxRecDepth 100000
open Go.RowKit
set_option linter.unusedSimpArgs false
set_option linter.unusedVariables false

/-- v is a list of the entries E, all of whose memory lies in blocks from base on and below top, and may be written. -/
def CA (w : World) (base top : Nat) (v : Value) (E : List Ent) : Prop :=
  top ≤ w.heap.size ∧ ((E = [] ∧ ∃ lo lc, v = .slice lo 0 lc) ∨ ∃ g cap L C, v = .slice (some ⟨g, 0, none⟩) E.length cap ∧ E.length ≤ cap ∧ base ≤ g ∧ g < top ∧ CE w g E.length (eL E) L C ∧ ∀ i, i < E.length → 0 < (eL E i).n → ∀ c, L i = some ⟨c, 0, none⟩ → base ≤ c ∧ c < top)
/-- An answer and a word. -/
def AnE (E : List Ent) (c : Bool) (w : World) (e : Ending) (w' : World) : Prop :=
  ∃ v, e = .returned (.tuple #[v, .bool c]) ∧ CA w' w.heap.size w'.heap.size v E ∧ Below w.heap.size w w'
/-- An answer alone. -/
def AnS (E : List Ent) (w : World) (e : Ending) (w' : World) : Prop :=
  ∃ v, e = .returned v ∧ CA w' w.heap.size w'.heap.size v E ∧ Below w.heap.size w w'
/-- What the numbers of Hists are. -/
def FB (E : List Ent) : Prop := ∀ i, i < E.length → ∀ j, -9223372036854775808 ≤ (eL E i).f j ∧ (eL E i).f j ≤ 9223372036854775807
section
variable {w w' : World} {base base' top top' : Nat} {v : Value} {E : List Ent}
theorem ca_nil (w : World) (base : Nat) (lo : Option Addr) (lc : Nat) : CA w base w.heap.size (.slice lo 0 lc) [] := ⟨Nat.le_refl _, .inl ⟨rfl, lo, lc, rfl⟩⟩
theorem CA.form (h : CA w base top v E) : ∃ lo lc, v = .slice lo E.length lc := by
  rcases h.2 with ⟨rfl, lo, lc, e⟩ | ⟨g, cap, L, C, e, _⟩
  · exact ⟨lo, lc, e⟩
  · exact ⟨_, _, e⟩
theorem ce_same {b n : Nat} {X : Nat → Ent} {L : Nat → Option Addr} {C : Nat → Nat} (h : CE w b n X L C) (hs : w.heap.size ≤ w'.heap.size) (hb : w'.heap[b]? = w.heap[b]?) (hl : ∀ i, i < n → 0 < (X i).n → ∀ g, L i = some ⟨g, 0, none⟩ → w'.heap[g]? = w.heap[g]?) : CE w' b n X L C := by
  have k : ∀ j, w'.cell? ⟨b, j, none⟩ = w.cell? ⟨b, j, none⟩ := fun j => World.cell?_of_block (w := w) (a := ⟨b, j, none⟩) hb
  refine ⟨Nat.lt_of_lt_of_le h.lt hs, fun i hi => (h.ent i hi).move (Nat.lt_of_lt_of_le h.lt hs) k, fun j hj => (World.frozen?_of_block (w := w) (a := ⟨b, j, none⟩) hb).trans (h.free j hj), fun i hi => ?_, h.dis⟩
  rcases h.hist i hi with h0 | ⟨g, h1, h2, h3⟩
  · exact .inl h0
  · by_cases h0 : (X i).n = 0
    · exact .inl h0
    · have e := hl i hi (by omega) g h1
      exact .inr ⟨g, h1, h2, h3.bd, Nat.lt_of_lt_of_le h3.lt hs, fun j hj => (World.cell?_of_block (w := w) (a := ⟨g, 0 + j, none⟩) e).trans (h3.cell j hj), fun j hj => (World.frozen?_of_block (w := w) (a := ⟨g, 0 + j, none⟩) e).trans (h3.free j hj)⟩
theorem CA.same (h : CA w base top v E) (hs : w.heap.size ≤ w'.heap.size) (hb : ∀ c, base ≤ c → c < top → w'.heap[c]? = w.heap[c]?) : CA w' base top v E := by
  refine ⟨Nat.le_trans h.1 hs, ?_⟩
  rcases h.2 with h0 | ⟨g, cap, L, C, e, hcp, h1, h2, h3, h4⟩
  · exact .inl h0
  · exact .inr ⟨g, cap, L, C, e, hcp, h1, h2, ce_same h3 hs (hb g h1 h2) (fun i hi hp c hc => by have := h4 i hi hp c hc; exact hb c this.1 this.2), h4⟩
theorem CA.keep (h : CA w base top v E) (hb : Below w.heap.size w w') : CA w' base top v E :=
  h.same hb.size (fun c _ hc => hb.block c (Nat.lt_of_lt_of_le hc h.1))
theorem CA.mono (h : CA w base top v E) (hb : base' ≤ base) (ht : top ≤ top') (ht2 : top' ≤ w.heap.size) : CA w base' top' v E := by
  refine ⟨ht2, ?_⟩
  rcases h.2 with h0 | ⟨g, cap, L, C, e, hcp, h1, h2, h3, h4⟩
  · exact .inl h0
  · exact .inr ⟨g, cap, L, C, e, hcp, by omega, by omega, h3, fun i hi hp c hc => by have := h4 i hi hp c hc; omega⟩
theorem CA.erow {lo : Option Addr} {n lc : Nat} (h : CA w base top (.slice lo n lc) E) (hbd : ∀ i, i < E.length → EB (eL E i)) (hf : FB E) : n = E.length ∧ ERow w lo E.length (eL E) := by
  rcases h.2 with ⟨rfl, lo', lc', e⟩ | ⟨g, cap, L, C, e, hcp, h1, h2, h3, h4⟩
  · injection e with e1 e2 e3
    exact ⟨e2, hbd, .inl rfl⟩
  · injection e with e1 e2 e3
    subst e1 e2
    refine ⟨rfl, hbd, .inr ⟨g, 0, rfl, h3.lt, fun i hi => ⟨L i, C i, by rw [Nat.zero_add]; exact h3.ent i hi, ?_⟩⟩⟩
    rcases h3.hist i hi with h0 | ⟨q, h5, _, h6⟩
    · exact ⟨hf i hi, .inl h0⟩
    · rw [h5]; exact h6.row
theorem ca_of_outE {V : Nat → Value} (h : OutE w base v E.length (eL E) V) : CA w base w.heap.size v E := by
  refine ⟨Nat.le_refl _, ?_⟩
  by_cases h0 : E.length = 0
  · obtain ⟨lo, lc, e⟩ := ownsRow_form h.own
    exact .inl ⟨List.eq_nil_of_length_eq_zero h0, lo, lc, by rw [e, h0]⟩
  · obtain ⟨g, cap, L, C, e, hg, hce, hL⟩ := h.ce (by omega)
    have hcp : E.length ≤ cap := by
      rcases h.own.2 with ⟨_, h1⟩ | ⟨g', c', cur, e', _, _, h5, _⟩
      · omega
      · rw [e] at e'
        injection e' with _ _ e3
        omega
    refine .inr ⟨g, cap, L, C, e, hcp, hg, hce.lt, hce, fun i hi hp c hc => ⟨hL i hi hp c hc, ?_⟩⟩
    rcases hce.hist i hi with h0 | ⟨q, h1, _, h3⟩
    · omega
    · rw [hc] at h1
      injection h1 with h1
      injection h1 with h1 _ _
      rw [h1]; exact h3.lt
/-- An answer of one entry in a new box. -/
theorem ca_one {g : Nat} {x : Ent} {lo : Option Addr} {lc : Nat} (hb : base ≤ g) (he : EAt w g 0 x lo lc) (hf : ∀ j, j < 9 → w.frozen? ⟨g, j, none⟩ = false) (hh : x.n = 0 ∨ ∃ q, lo = some ⟨q, 0, none⟩ ∧ base ≤ q ∧ q ≠ g ∧ IOwn w q 0 x.n x.f) : CA w base w.heap.size (.slice (some ⟨g, 0, none⟩) 1 1) [x] := by
  refine ⟨Nat.le_refl _, .inr ⟨g, 1, fun _ => lo, fun _ => lc, rfl, Nat.le_refl _, hb, he.lt, ⟨he.lt, fun i hi => ?_, fun j hj => hf j (by simpa using hj), fun i hi => ?_, fun i j hi hj hij => ?_⟩, fun i hi hp c hc => ?_⟩⟩
  · obtain rfl : i = 0 := by simpa using hi
    exact he
  · obtain rfl : i = 0 := by simpa using hi
    rcases hh with h0 | ⟨q, h1, h2, h3, h4⟩
    · exact .inl h0
    · exact .inr ⟨q, h1, h3, h4⟩
  · simp at hi hj; omega
  · obtain rfl : i = 0 := by simpa using hi
    have hc' : lo = some ⟨c, 0, none⟩ := hc
    rcases hh with h0 | ⟨q, h1, h2, h3, h4⟩
    · have : (eL [x] 0).n = x.n := rfl
      omega
    · rw [hc'] at h1
      injection h1 with h1
      injection h1 with h1 _ _
      have := h4.lt
      omega
end

end Go.Proofs.YtmeckcaekkangaaGreat
namespace Go.Proofs.YtmeckcaekkangaaGreat
set_option maxRecDepth 100000
open Go.RowKit
set_option linter.unusedSimpArgs false
set_option linter.unusedVariables false

/-- Only blocks from lo on and below hi have been written. -/
structure Rng (lo hi : Nat) (w w' : World) : Prop where
  os : w'.os = w.os
  tape : w'.tape = w.tape
  output : w'.output = w.output
  size : w.heap.size ≤ w'.heap.size
  block : ∀ c, c < w.heap.size → (c < lo ∨ hi ≤ c) → w'.heap[c]? = w.heap[c]?
theorem Rng.refl (lo hi : Nat) (w : World) : Rng lo hi w w := ⟨rfl, rfl, rfl, Nat.le_refl _, fun _ _ _ => rfl⟩
theorem Rng.trans {lo hi : Nat} {u v w : World} (h : Rng lo hi u v) (k : Rng lo hi v w) : Rng lo hi u w :=
  ⟨k.os.trans h.os, k.tape.trans h.tape, k.output.trans h.output, Nat.le_trans h.size k.size, fun c hc hd => (k.block c (Nat.lt_of_lt_of_le hc h.size) hd).trans (h.block c hc hd)⟩
theorem Rng.below {lo hi B : Nat} {w w' : World} (h : Rng lo hi w w') (hB : B ≤ lo) (hs : B ≤ w.heap.size) : Below B w w' :=
  ⟨h.os, h.tape, h.output, h.size, fun c hc => h.block c (by omega) (.inl (by omega))⟩
theorem Rng.of_below {lo hi : Nat} {w w' : World} (h : Below w.heap.size w w') : Rng lo hi w w' := ⟨h.os, h.tape, h.output, h.size, fun c hc _ => h.block c hc⟩

/-- A copy of entries, all in blocks from lo on and below hi. -/
def LA (w : World) (lo hi n : Nat) (X : Nat → Ent) : Prop := ∃ G, EOwn w lo n n X G ∧ lo < hi ∧ hi ≤ w.heap.size ∧ ∀ i, i < n → G i < hi
section
variable {w w' : World} {lo hi n : Nat} {X : Nat → Ent}
theorem LA.row (h : LA w lo hi n X) (hbd : ∀ i, i < n → EB (X i)) : ERow w (some ⟨lo, 0, none⟩) n X := by obtain ⟨G, h, _⟩ := h; exact h.row hbd
theorem LA.keep (h : LA w lo hi n X) (hb : Below w.heap.size w w') : LA w' lo hi n X := by obtain ⟨G, h, h1, h2, h3⟩ := h; exact ⟨G, h.keep hb, h1, Nat.le_trans h2 hb.size, h3⟩
theorem LA.lt (h : LA w lo hi n X) : lo < hi ∧ hi ≤ w.heap.size := by obtain ⟨G, _, h1, h2, _⟩ := h; exact ⟨h1, h2⟩
theorem la_of {G : Nat → Nat} (h : EOwn w lo n n X G) : LA w lo w.heap.size n X := ⟨G, h, h.lt, Nat.le_refl _, fun i hi => (h.data i hi).2.lt⟩
end
/-- An entry that a law can hold. -/
structure SmE (x : Ent) : Prop where
  key : x.key.size ≤ 140
  n : x.n ≤ 8
  eb : EB x
  f : ∀ j, -9223372036854775808 ≤ x.f j ∧ x.f j ≤ 9223372036854775807
def SmL (E : List Ent) : Prop := ∀ x ∈ E, SmE x
section
variable {E : List Ent}
theorem SmL.at (h : SmL E) {i : Nat} (hi : i < E.length) : SmE (eL E i) := by
  have e : eL E i = E[i] := by simp [eL, hi]
  rw [e]; exact h _ (List.getElem_mem hi)
theorem SmL.eb (h : SmL E) : ∀ i, i < E.length → EB (eL E i) := fun i hi => (h.at hi).eb
theorem SmL.fb (h : SmL E) : FB E := fun i hi => (h.at hi).f
theorem SmL.sz (h : SmL E) : ESize E.length (eL E) := fun i hi => by have := h.at hi; exact ⟨by have := this.key; omega, by have := this.n; omega⟩
theorem kOf_sm {X : Nat → Ent} : ∀ {n : Nat}, (∀ i, i < n → (X i).n ≤ 8) → kOf X 1 n ≤ 1 + 16 * n
  | 0, _ => by simp [kOf]
  | n + 1, h => by
    have := kOf_sm (n := n) (fun i hi => h i (by omega))
    have := h n (by omega)
    unfold kOf
    omega
theorem SmL.k (h : SmL E) : kOf (eL E) 1 E.length ≤ 1 + 16 * E.length := kOf_sm (fun i hi => (h.at hi).n)
end
theorem ERow.fb {w : World} {ao : Option Addr} {n : Nat} {X : Nat → Ent} (h : ERow w ao n X) : ∀ i, i < n → ∀ j, -9223372036854775808 ≤ (X i).f j ∧ (X i).f j ≤ 9223372036854775807 := fun i hi => by
  obtain ⟨b, off, _, _, hc⟩ := h.lies.resolve_left (by omega)
  obtain ⟨da, dc, _, hr⟩ := hc i hi
  exact hr.bd
theorem GoodE.n8 {x : Ent} (h : GoodE x) : x.n ≤ 8 := by
  rcases h.2.2 with ⟨_, h⟩ | ⟨_, h⟩
  · have : x.n = 8 := h.2.1
    omega
  · have : x.n = 0 := h.2.2.2.2.1
    omega
theorem GoodE.sm {x : Ent} (h : GoodE x) (he : EB x) (hf : ∀ j, -9223372036854775808 ≤ x.f j ∧ x.f j ≤ 9223372036854775807) : SmE x :=
  ⟨by have := h.1; simp only [KeyOk] at this; omega, h.n8, he, hf⟩
end Go.Proofs.YtmeckcaekkangaaGreat
