/- Answers of entries whose memory is their own: told by cells, kept, marked. -/
import Derived.Test.YtfdbhkjmkpgomaaEoLaw
import Derived.Test.YtfdbhkjmkpgomaaEi
namespace Go.Proofs.Ytfdbhkjmkpgomaa
open Go.RowKit
set_option linter.unusedSimpArgs false
set_option linter.unusedVariables false

/-- v is a list of the entries E, all of whose memory lies in blocks from base on and below top, and may be written. -/
def CA (w : World) (base top : Nat) (v : Value) (E : List Ent) : Prop :=
  top ≤ w.heap.size ∧ ((E = [] ∧ ∃ lo lc, v = .slice lo 0 lc) ∨ ∃ g cap L C, v = .slice (some ⟨g, 0, none⟩) E.length cap ∧ E.length ≤ cap ∧ base ≤ g ∧ g < top ∧ CE w g E.length (eL E) L C ∧ ∀ i, i < E.length → 0 < (eL E i).n → ∀ c, L i = some ⟨c, 0, none⟩ → base ≤ c ∧ c < top)
/-- An answer and a word. -/
def AnE (E : List Ent) (c : Bool) (w : World) (e : Ending) (w' : World) : Prop :=
  ∃ v, e = .returned (.tuple #[v, .bool c]) ∧ CA w' w.heap.size w'.heap.size v E ∧ Below w.heap.size w w'
/-- An answer alone. -/
def AnS (E : List Ent) (w : World) (e : Ending) (w' : World) : Prop :=
  ∃ v, e = .returned v ∧ CA w' w.heap.size w'.heap.size v E ∧ Below w.heap.size w w'
/-- What the numbers of Hists are. -/
def FB (E : List Ent) : Prop := ∀ i, i < E.length → ∀ j, -9223372036854775808 ≤ (eL E i).f j ∧ (eL E i).f j ≤ 9223372036854775807
section
variable {w w' : World} {base base' top top' : Nat} {v : Value} {E : List Ent}
theorem ca_nil (w : World) (base : Nat) (lo : Option Addr) (lc : Nat) : CA w base w.heap.size (.slice lo 0 lc) [] := ⟨Nat.le_refl _, .inl ⟨rfl, lo, lc, rfl⟩⟩
theorem CA.form (h : CA w base top v E) : ∃ lo lc, v = .slice lo E.length lc := by
  rcases h.2 with ⟨rfl, lo, lc, e⟩ | ⟨g, cap, L, C, e, _⟩
  · exact ⟨lo, lc, e⟩
  · exact ⟨_, _, e⟩
theorem ce_same {b n : Nat} {X : Nat → Ent} {L : Nat → Option Addr} {C : Nat → Nat} (h : CE w b n X L C) (hs : w.heap.size ≤ w'.heap.size) (hb : w'.heap[b]? = w.heap[b]?) (hl : ∀ i, i < n → 0 < (X i).n → ∀ g, L i = some ⟨g, 0, none⟩ → w'.heap[g]? = w.heap[g]?) : CE w' b n X L C := by
  have k : ∀ j, w'.cell? ⟨b, j, none⟩ = w.cell? ⟨b, j, none⟩ := fun j => World.cell?_of_block (w := w) (a := ⟨b, j, none⟩) hb
  refine ⟨Nat.lt_of_lt_of_le h.lt hs, fun i hi => (h.ent i hi).move (Nat.lt_of_lt_of_le h.lt hs) k, fun j hj => (World.frozen?_of_block (w := w) (a := ⟨b, j, none⟩) hb).trans (h.free j hj), fun i hi => ?_, h.dis⟩
  rcases h.hist i hi with h0 | ⟨g, h1, h2, h3⟩
  · exact .inl h0
  · by_cases h0 : (X i).n = 0
    · exact .inl h0
    · have e := hl i hi (by omega) g h1
      exact .inr ⟨g, h1, h2, h3.bd, Nat.lt_of_lt_of_le h3.lt hs, fun j hj => (World.cell?_of_block (w := w) (a := ⟨g, 0 + j, none⟩) e).trans (h3.cell j hj), fun j hj => (World.frozen?_of_block (w := w) (a := ⟨g, 0 + j, none⟩) e).trans (h3.free j hj)⟩
theorem CA.same (h : CA w base top v E) (hs : w.heap.size ≤ w'.heap.size) (hb : ∀ c, base ≤ c → c < top → w'.heap[c]? = w.heap[c]?) : CA w' base top v E := by
  refine ⟨Nat.le_trans h.1 hs, ?_⟩
  rcases h.2 with h0 | ⟨g, cap, L, C, e, hcp, h1, h2, h3, h4⟩
  · exact .inl h0
  · exact .inr ⟨g, cap, L, C, e, hcp, h1, h2, ce_same h3 hs (hb g h1 h2) (fun i hi hp c hc => by have := h4 i hi hp c hc; exact hb c this.1 this.2), h4⟩
theorem CA.keep (h : CA w base top v E) (hb : Below w.heap.size w w') : CA w' base top v E :=
  h.same hb.size (fun c _ hc => hb.block c (Nat.lt_of_lt_of_le hc h.1))
theorem CA.mono (h : CA w base top v E) (hb : base' ≤ base) (ht : top ≤ top') (ht2 : top' ≤ w.heap.size) : CA w base' top' v E := by
  refine ⟨ht2, ?_⟩
  rcases h.2 with h0 | ⟨g, cap, L, C, e, hcp, h1, h2, h3, h4⟩
  · exact .inl h0
  · exact .inr ⟨g, cap, L, C, e, hcp, by omega, by omega, h3, fun i hi hp c hc => by have := h4 i hi hp c hc; omega⟩
theorem CA.erow {lo : Option Addr} {n lc : Nat} (h : CA w base top (.slice lo n lc) E) (hbd : ∀ i, i < E.length → EB (eL E i)) (hf : FB E) : n = E.length ∧ ERow w lo E.length (eL E) := by
  rcases h.2 with ⟨rfl, lo', lc', e⟩ | ⟨g, cap, L, C, e, hcp, h1, h2, h3, h4⟩
  · injection e with e1 e2 e3
    exact ⟨e2, hbd, .inl rfl⟩
  · injection e with e1 e2 e3
    subst e1 e2
    refine ⟨rfl, hbd, .inr ⟨g, 0, rfl, h3.lt, fun i hi => ⟨L i, C i, by rw [Nat.zero_add]; exact h3.ent i hi, ?_⟩⟩⟩
    rcases h3.hist i hi with h0 | ⟨q, h5, _, h6⟩
    · exact ⟨hf i hi, .inl h0⟩
    · rw [h5]; exact h6.row
theorem ca_of_outE {V : Nat → Value} (h : OutE w base v E.length (eL E) V) : CA w base w.heap.size v E := by
  refine ⟨Nat.le_refl _, ?_⟩
  by_cases h0 : E.length = 0
  · obtain ⟨lo, lc, e⟩ := ownsRow_form h.own
    exact .inl ⟨List.eq_nil_of_length_eq_zero h0, lo, lc, by rw [e, h0]⟩
  · obtain ⟨g, cap, L, C, e, hg, hce, hL⟩ := h.ce (by omega)
    have hcp : E.length ≤ cap := by
      rcases h.own.2 with ⟨_, h1⟩ | ⟨g', c', cur, e', _, _, h5, _⟩
      · omega
      · rw [e] at e'
        injection e' with _ _ e3
        omega
    refine .inr ⟨g, cap, L, C, e, hcp, hg, hce.lt, hce, fun i hi hp c hc => ⟨hL i hi hp c hc, ?_⟩⟩
    rcases hce.hist i hi with h0 | ⟨q, h1, _, h3⟩
    · omega
    · rw [hc] at h1
      injection h1 with h1
      injection h1 with h1 _ _
      rw [h1]; exact h3.lt
/-- An answer of one entry in a new box. -/
theorem ca_one {g : Nat} {x : Ent} {lo : Option Addr} {lc : Nat} (hb : base ≤ g) (he : EAt w g 0 x lo lc) (hf : ∀ j, j < 9 → w.frozen? ⟨g, j, none⟩ = false) (hh : x.n = 0 ∨ ∃ q, lo = some ⟨q, 0, none⟩ ∧ base ≤ q ∧ q ≠ g ∧ IOwn w q 0 x.n x.f) : CA w base w.heap.size (.slice (some ⟨g, 0, none⟩) 1 1) [x] := by
  refine ⟨Nat.le_refl _, .inr ⟨g, 1, fun _ => lo, fun _ => lc, rfl, Nat.le_refl _, hb, he.lt, ⟨he.lt, fun i hi => ?_, fun j hj => hf j (by simpa using hj), fun i hi => ?_, fun i j hi hj hij => ?_⟩, fun i hi hp c hc => ?_⟩⟩
  · obtain rfl : i = 0 := by simpa using hi
    exact he
  · obtain rfl : i = 0 := by simpa using hi
    rcases hh with h0 | ⟨q, h1, h2, h3, h4⟩
    · exact .inl h0
    · exact .inr ⟨q, h1, h3, h4⟩
  · simp at hi hj; omega
  · obtain rfl : i = 0 := by simpa using hi
    have hc' : lo = some ⟨c, 0, none⟩ := hc
    rcases hh with h0 | ⟨q, h1, h2, h3, h4⟩
    · have : (eL [x] 0).n = x.n := rfl
      omega
    · rw [hc'] at h1
      injection h1 with h1
      injection h1 with h1 _ _
      have := h4.lt
      omega
end

theorem markCA (v : Value) (base top : Nat) (E : List Ent) (w : World) (go : Option Addr) (n gc : Nat) (hv : v = .slice go n gc) (h : CA w base top v E) (hz : ∀ i, i < E.length → (eL E i).n ≤ 1048576) (hn : E.length ≤ 1048576) (hbd : kOf (eL E) 1 E.length ≤ 16000000) :
    Calls Try.prog 14 #[v, .int .i64 1] w fun e w' => e = .returned (.int .i64 (kOf (eL E) 1 E.length : Int)) ∧ (∀ W, Below w'.heap.size w' W → Calls Try.prog 15 #[v, .int .i64 1] W fun e w'' => e = .returned (.int .i64 (kOf (eL E) 1 E.length : Int)) ∧ Below W.heap.size W w'') ∧ w'.os = w.os ∧ w'.tape = w.tape ∧ w'.output = w.output ∧ w.heap.size ≤ w'.heap.size ∧ ∀ c, c < w.heap.size → (c < base ∨ top ≤ c) → w'.heap[c]? = w.heap[c]? := by
  rcases h.2 with ⟨rfl, lo, lc, rfl⟩ | ⟨g, cap, L, C, rfl, _, h1, h2, h3, h4⟩
  · refine (markE_zero lo lc 1 w).mono ?_
    rintro e w' ⟨rfl, rfl⟩
    refine ⟨rfl, fun W hW => ?_, rfl, rfl, rfl, Nat.le_refl _, fun _ _ _ => rfl⟩
    refine (heldE_zero lo lc 1 W).mono ?_
    rintro e w'' ⟨rfl, rfl⟩
    exact ⟨rfl, Below.refl _ _⟩
  · refine (markEntryS_any g E.length cap 1 (eL E) L C w h3 (by omega) hz hn hbd).mono ?_
    rintro e w' ⟨rfl, hc', hco⟩
    refine ⟨rfl, fun W hW => ?_, hco.os, hco.tape, hco.output, hco.size, fun c hc hd => hco.block c hc (by omega) (fun i hi hp e => by have := h4 i hi hp c e; omega)⟩
    have hcW := hc'.keep hW
    refine heldEntryS_yes g E.length cap 1 (eL E) L C W (fun i hi => ?_) (fun i hi => ?_) (by omega) hz hn hbd
    · have := hcW.ent i hi
      simpa [hi] using this
    · have hh := hcW.hist i hi
      simp only [hi, if_true] at hh
      rcases hh with h0 | ⟨q, h1, _, h3⟩
      · have h0' : (eL E i).n = 0 := h0
        exact ⟨fun j => by simp [mkE, h0'], .inl h0'⟩
      · rw [h1]
        exact h3.row
end Go.Proofs.Ytfdbhkjmkpgomaa
