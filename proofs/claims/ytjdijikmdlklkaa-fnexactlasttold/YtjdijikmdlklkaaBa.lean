/- Boards: where they lie, measured, copied, compared. / Answers of windows whose memory is their own: told, kept, marked. -/
import Derived.Test.YtjdijikmdlklkaaWr
import Derived.Test.YtjdijikmdlklkaaOw
namespace Go.Proofs.Ytjdijikmdlklkaa
open Go.RowKit
set_option linter.unusedSimpArgs false
set_option linter.unusedVariables false

/-- A board in block b. -/
structure BdAt (w : World) (b : Nat) (z h mk : Int) (sv : Value) : Prop where
  lt : b < w.heap.size
  c0 : w.cell? ⟨b, 0, none⟩ = some (.int .i64 z)
  c1 : w.cell? ⟨b, 1, none⟩ = some (.int .i64 h)
  c2 : w.cell? ⟨b, 2, none⟩ = some (.int .i64 mk)
  c3 : w.cell? ⟨b, 3, none⟩ = some sv
theorem BdAt.keep {w w' : World} {b : Nat} {z h mk : Int} {sv : Value} (H : BdAt w b z h mk sv) (hb : Below w.heap.size w w') : BdAt w' b z h mk sv :=
  ⟨Nat.lt_of_lt_of_le H.lt hb.size, (hb.cell (p := ⟨b, 0, none⟩) H.lt).trans H.c0, (hb.cell (p := ⟨b, 1, none⟩) H.lt).trans H.c1, (hb.cell (p := ⟨b, 2, none⟩) H.lt).trans H.c2, (hb.cell (p := ⟨b, 3, none⟩) H.lt).trans H.c3⟩
theorem BdAt.others {w w' : World} {b d : Nat} {z h mk : Int} {sv : Value} (H : BdAt w b z h mk sv) (ho : Others d w w') (hne : b ≠ d) : BdAt w' b z h mk sv :=
  have k : ∀ j, w'.cell? ⟨b, j, none⟩ = w.cell? ⟨b, j, none⟩ := fun j => World.cell?_of_block (w := w) (a := ⟨b, j, none⟩) (ho.block b hne)
  ⟨by rw [ho.size]; exact H.lt, (k _).trans H.c0, (k _).trans H.c1, (k _).trans H.c2, (k _).trans H.c3⟩
theorem BdAt.new (w : World) (z h mk : Int) (sv : Value) (T : Nat) : BdAt (w.alloc (.cells #[.int .i64 z, .int .i64 h, .int .i64 mk, sv] T)) w.heap.size z h mk sv := by
  refine ⟨by simp, ?_, ?_, ?_, ?_⟩ <;> simp [go_sem]

theorem WiOwn.others {w w' : World} {b n k d : Nat} {X : Nat → Wn} {G0 G1 : Nat → Nat} (h : WiOwn w b n k X G0 G1) (ho : Others d w w') (hd : d < b) : WiOwn w' b n k X G0 G1 :=
  ⟨by rw [ho.size]; exact h.lt, fun i hi => (h.ent i hi).others ho (by omega), fun i hi => by
      obtain ⟨h0, o0, o1, m0⟩ := h.data i hi
      exact ⟨h0, o0.others ho (by omega), ho.irow o1 (by omega), m0⟩, h.mono,
    fun j hj => by rw [World.cell?_of_block (w := w) (a := ⟨b, j, none⟩) (ho.block b (by omega))]; exact h.there j hj,
    fun j hj => (World.frozen?_of_block (w := w) (a := ⟨b, j, none⟩) (ho.block b (by omega))).trans (h.free j hj)⟩

/-- What toBoard leaves: a board of the call's own. -/
def ToB (z h mk : Int) (n : Nat) (X : Nat → Wn) (w : World) (e : Ending) (w' : World) : Prop :=
  ∃ b G0 G1, e = .returned (.agg #[.int .i64 z, .int .i64 h, .int .i64 mk, .slice (some ⟨b, 0, none⟩) n n]) ∧ w.heap.size ≤ b ∧ WiOwn w' b n n X G0 G1 ∧ Below w.heap.size w w'

end Go.Proofs.Ytjdijikmdlklkaa
namespace Go.Proofs.Ytjdijikmdlklkaa
open Go.RowKit
set_option linter.unusedSimpArgs false
set_option linter.unusedVariables false

theorem wf_get (X : Nat → Wn) (V : Nat → Value) : ∀ (n i q : Nat), i < n → q < 11 → ((List.range n).flatMap fun i => wcells (X i) (V (i * 2 + 0)) (V (i * 2 + 1)))[i * 11 + q]? = (wcells (X i) (V (i * 2 + 0)) (V (i * 2 + 1)))[q]? := by
  have hl : ∀ n, ((List.range n).flatMap fun i => wcells (X i) (V (i * 2 + 0)) (V (i * 2 + 1))).length = n * 11 := by
    intro n
    induction n with
    | zero => rfl
    | succ n ih => rw [List.range_succ, List.flatMap_append, List.length_append, ih]; simp [wcells]; omega
  intro n
  induction n with
  | zero => intro i q h; omega
  | succ n ih =>
    intro i q hi hq
    rw [List.range_succ, List.flatMap_append]
    by_cases e : i < n
    · rw [List.getElem?_append_left (by rw [hl]; omega)]
      exact ih i q e hq
    · obtain rfl : i = n := by omega
      rw [List.getElem?_append_right (by rw [hl]; omega), hl]
      simp [show i * 11 + q - i * 11 = q from by omega]

/-- The bounds of what Hists hold. -/
def FBw (n : Nat) (X : Nat → Wn) : Prop := ∀ i, i < n → ∀ j, -9223372036854775808 ≤ (X i).f j ∧ (X i).f j ≤ 9223372036854775807
theorem WiRow.fb {w : World} {ao : Option Addr} {n : Nat} {X : Nat → Wn} (h : WiRow w ao n X) : FBw n X := fun i hi => by
  obtain ⟨b, off, _, _, hc⟩ := h.lies.resolve_left (by omega)
  obtain ⟨_, _, _, _, _, _, hr⟩ := hc i hi
  exact hr.bd
def adOf : Value → Option Addr
  | .slice a _ _ => a
  | _ => none
def cpOf : Value → Nat
  | .slice _ _ c => c
  | _ => 0
/-- Where a list lies. -/
def gOf (B : Nat) (V : Nat → Value) (p : Nat) : Nat := ((V p).ownBlock).getD (B + p)

/-- v is a list of the windows X, all of whose memory lies in blocks from base on and below top, and may be written. -/
def BA (w : World) (base top : Nat) (v : Value) (n : Nat) (X : Nat → Wn) : Prop :=
  top ≤ w.heap.size ∧ ((n = 0 ∧ ∃ lo lc, v = .slice lo 0 lc) ∨ ∃ g cap A0 A1 K0 K1 G, v = .slice (some ⟨g, 0, none⟩) n cap ∧ base ≤ g ∧ g < top ∧ WiC w g n X A0 A1 K0 K1 G ∧ (∀ i, i < n → 0 < (X i).tn → base ≤ G (i * 2 + 0) ∧ G (i * 2 + 0) < top) ∧ (∀ i, i < n → 0 < (X i).n → base ≤ G (i * 2 + 1) ∧ G (i * 2 + 1) < top))
section
variable {w w' : World} {base base' top top' n : Nat} {v : Value} {X : Nat → Wn}
theorem BA.form (h : BA w base top v n X) : ∃ lo lc, v = .slice lo n lc := by
  rcases h.2 with ⟨rfl, lo, lc, e⟩ | ⟨g, cap, _, _, _, _, _, e, _⟩
  · exact ⟨lo, lc, e⟩
  · exact ⟨_, _, e⟩
theorem BA.same (h : BA w base top v n X) (hs : w.heap.size ≤ w'.heap.size) (hb : ∀ c, base ≤ c → c < top → w'.heap[c]? = w.heap[c]?) : BA w' base top v n X := by
  refine ⟨Nat.le_trans h.1 hs, ?_⟩
  rcases h.2 with h0 | ⟨g, cap, A0, A1, K0, K1, G, e, h1, h2, h3, h4, h5⟩
  · exact .inl h0
  · exact .inr ⟨g, cap, A0, A1, K0, K1, G, e, h1, h2, h3.same hs (hb g h1 h2) (fun i hi hp => by have := h4 i hi hp; exact hb _ this.1 this.2) (fun i hi hp => by have := h5 i hi hp; exact hb _ this.1 this.2), h4, h5⟩
theorem BA.keep (h : BA w base top v n X) (hb : Below w.heap.size w w') : BA w' base top v n X :=
  h.same hb.size (fun c _ hc => hb.block c (Nat.lt_of_lt_of_le hc h.1))
theorem BA.mono (h : BA w base top v n X) (hb : base' ≤ base) (ht : top ≤ top') (ht2 : top' ≤ w.heap.size) : BA w base' top' v n X := by
  refine ⟨ht2, ?_⟩
  rcases h.2 with h0 | ⟨g, cap, A0, A1, K0, K1, G, e, h1, h2, h3, h4, h5⟩
  · exact .inl h0
  · exact .inr ⟨g, cap, A0, A1, K0, K1, G, e, by omega, by omega, h3, fun i hi hp => by have := h4 i hi hp; omega, fun i hi hp => by have := h5 i hi hp; omega⟩
theorem BA.row {lo : Option Addr} {m lc : Nat} (h : BA w base top (.slice lo m lc) n X) (hbd : ∀ i, i < n → WiB (X i)) (hf : FBw n X) : m = n ∧ WiRow w lo n X := by
  rcases h.2 with ⟨rfl, lo', lc', e⟩ | ⟨g, cap, A0, A1, K0, K1, G, e, h1, h2, h3, h4, h5⟩
  · injection e with e1 e2 e3
    exact ⟨e2, hbd, .inl rfl⟩
  · injection e with e1 e2 e3
    subst e1 e2
    refine ⟨rfl, hbd, .inr ⟨g, 0, rfl, h3.lt, fun i hi => ⟨A0 i, A1 i, K0 i, K1 i, by rw [Nat.zero_add]; exact h3.ent i hi, ?_, ?_⟩⟩⟩
    · by_cases h0 : (X i).tn = 0
      · exact ⟨.inl h0⟩
      · obtain ⟨q1, _, q3⟩ := h3.l0 i hi (by omega)
        rw [q1]; exact q3.row
    · by_cases h0 : (X i).n = 0
      · exact ⟨hf i hi, .inl h0⟩
      · obtain ⟨q1, _, q3⟩ := h3.l1 i hi (by omega)
        rw [q1]; exact q3.row
theorem ba_own {b : Nat} {G0 G1 : Nat → Nat} (h : WiOwn w b n n X G0 G1) : BA w b w.heap.size (.slice (some ⟨b, 0, none⟩) n n) n X := by
  refine ⟨Nat.le_refl _, .inr ⟨b, n, fun i => some ⟨G0 i, 0, none⟩, fun i => some ⟨G1 i, 0, none⟩, fun i => (X i).tn, fun i => (X i).n, fun p => if p % 2 = 0 then G0 (p / 2) else G1 (p / 2), rfl, Nat.le_refl _, h.lt, ⟨h.lt, fun i hi => h.ent i hi, fun j hj => h.free j hj, fun i hi _ => ?_, fun i hi _ => ?_, fun p p' hp hp' hne => ?_⟩, fun i hi _ => ?_, fun i hi _ => ?_⟩⟩
  · obtain ⟨h0, o0, o1, m0⟩ := h.data i hi
    try dsimp only
    rw [show (if (i * 2 + 0) % 2 = 0 then G0 ((i * 2 + 0) / 2) else G1 ((i * 2 + 0) / 2)) = G0 i from by rw [if_pos (by omega), show (i * 2 + 0) / 2 = i from by omega]]
    exact ⟨rfl, by omega, o0⟩
  · obtain ⟨h0, o0, o1, m0⟩ := h.data i hi
    try dsimp only
    rw [show (if (i * 2 + 1) % 2 = 0 then G0 ((i * 2 + 1) / 2) else G1 ((i * 2 + 1) / 2)) = G1 i from by rw [if_neg (by omega), show (i * 2 + 1) / 2 = i from by omega]]
    exact ⟨rfl, by omega, o1⟩
  · have d1 := (h.data (p / 2) (by omega)).2.2.2
    have d2 := (h.data (p' / 2) (by omega)).2.2.2
    rcases Nat.lt_trichotomy (p / 2) (p' / 2) with q | q | q
    · have := h.mono _ _ q (by omega)
      split <;> split <;> omega
    · rw [← q] at d2 ⊢
      split <;> split <;> omega
    · have := h.mono _ _ q (by omega)
      split <;> split <;> omega
  · obtain ⟨h0, o0, o1, m0⟩ := h.data i hi
    try dsimp only
    rw [show (if (i * 2 + 0) % 2 = 0 then G0 ((i * 2 + 0) / 2) else G1 ((i * 2 + 0) / 2)) = G0 i from by rw [if_pos (by omega), show (i * 2 + 0) / 2 = i from by omega]]
    exact ⟨by omega, o0.lt⟩
  · obtain ⟨h0, o0, o1, m0⟩ := h.data i hi
    try dsimp only
    rw [show (if (i * 2 + 1) % 2 = 0 then G0 ((i * 2 + 1) / 2) else G1 ((i * 2 + 1) / 2)) = G1 i from by rw [if_neg (by omega), show (i * 2 + 1) / 2 = i from by omega]]
    exact ⟨by omega, o1.lt⟩
end

end Go.Proofs.Ytjdijikmdlklkaa
