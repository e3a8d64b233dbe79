/- Boards: where they lie, measured, copied, compared. / Answers of windows whose memory is their own: told, kept, marked. / Good keys, both texts. / Good keys: the two texts agree. -/
import Derived.Test.YtpggmgmdcccmeaaWr
import Derived.Test.YtpggmgmdcccmeaaOw
namespace Go.Proofs.Ytpggmgmdcccmeaa
open Go.RowKit
set_option linter.unusedSimpArgs false
set_option linter.unusedVariables false

/-- A board in block b. -/
structure BdAt (w : World) (b : Nat) (z h mk : Int) (sv : Value) : Prop where
  lt : b < w.heap.size
  c0 : w.cell? ⟨b, 0, none⟩ = some (.int .i64 z)
  c1 : w.cell? ⟨b, 1, none⟩ = some (.int .i64 h)
  c2 : w.cell? ⟨b, 2, none⟩ = some (.int .i64 mk)
  c3 : w.cell? ⟨b, 3, none⟩ = some sv
theorem BdAt.keep {w w' : World} {b : Nat} {z h mk : Int} {sv : Value} (H : BdAt w b z h mk sv) (hb : Below w.heap.size w w') : BdAt w' b z h mk sv :=
  ⟨Nat.lt_of_lt_of_le H.lt hb.size, (hb.cell (p := ⟨b, 0, none⟩) H.lt).trans H.c0, (hb.cell (p := ⟨b, 1, none⟩) H.lt).trans H.c1, (hb.cell (p := ⟨b, 2, none⟩) H.lt).trans H.c2, (hb.cell (p := ⟨b, 3, none⟩) H.lt).trans H.c3⟩
theorem BdAt.others {w w' : World} {b d : Nat} {z h mk : Int} {sv : Value} (H : BdAt w b z h mk sv) (ho : Others d w w') (hne : b ≠ d) : BdAt w' b z h mk sv :=
  have k : ∀ j, w'.cell? ⟨b, j, none⟩ = w.cell? ⟨b, j, none⟩ := fun j => World.cell?_of_block (w := w) (a := ⟨b, j, none⟩) (ho.block b hne)
  ⟨by rw [ho.size]; exact H.lt, (k _).trans H.c0, (k _).trans H.c1, (k _).trans H.c2, (k _).trans H.c3⟩
theorem BdAt.new (w : World) (z h mk : Int) (sv : Value) (T : Nat) : BdAt (w.alloc (.cells #[.int .i64 z, .int .i64 h, .int .i64 mk, sv] T)) w.heap.size z h mk sv := by
  refine ⟨by simp, ?_, ?_, ?_, ?_⟩ <;> simp [go_sem]

theorem WiOwn.others {w w' : World} {b n k d : Nat} {X : Nat → Wn} {G0 G1 : Nat → Nat} (h : WiOwn w b n k X G0 G1) (ho : Others d w w') (hd : d < b) : WiOwn w' b n k X G0 G1 :=
  ⟨by rw [ho.size]; exact h.lt, fun i hi => (h.ent i hi).others ho (by omega), fun i hi => by
      obtain ⟨h0, o0, o1, m0⟩ := h.data i hi
      exact ⟨h0, o0.others ho (by omega), ho.irow o1 (by omega), m0⟩, h.mono,
    fun j hj => by rw [World.cell?_of_block (w := w) (a := ⟨b, j, none⟩) (ho.block b (by omega))]; exact h.there j hj,
    fun j hj => (World.frozen?_of_block (w := w) (a := ⟨b, j, none⟩) (ho.block b (by omega))).trans (h.free j hj)⟩

/-- What toBoard leaves: a board of the call's own. -/
def ToB (z h mk : Int) (n : Nat) (X : Nat → Wn) (w : World) (e : Ending) (w' : World) : Prop :=
  ∃ b G0 G1, e = .returned (.agg #[.int .i64 z, .int .i64 h, .int .i64 mk, .slice (some ⟨b, 0, none⟩) n n]) ∧ w.heap.size ≤ b ∧ WiOwn w' b n n X G0 G1 ∧ Below w.heap.size w w'

end Go.Proofs.Ytpggmgmdcccmeaa
namespace Go.Proofs.Ytpggmgmdcccmeaa
open Go.RowKit
set_option linter.unusedSimpArgs false
set_option linter.unusedVariables false

theorem wf_get (X : Nat → Wn) (V : Nat → Value) : ∀ (n i q : Nat), i < n → q < 11 → ((List.range n).flatMap fun i => wcells (X i) (V (i * 2 + 0)) (V (i * 2 + 1)))[i * 11 + q]? = (wcells (X i) (V (i * 2 + 0)) (V (i * 2 + 1)))[q]? := by
  have hl : ∀ n, ((List.range n).flatMap fun i => wcells (X i) (V (i * 2 + 0)) (V (i * 2 + 1))).length = n * 11 := by
    intro n
    induction n with
    | zero => rfl
    | succ n ih => rw [List.range_succ, List.flatMap_append, List.length_append, ih]; simp [wcells]; omega
  intro n
  induction n with
  | zero => intro i q h; omega
  | succ n ih =>
    intro i q hi hq
    rw [List.range_succ, List.flatMap_append]
    by_cases e : i < n
    · rw [List.getElem?_append_left (by rw [hl]; omega)]
      exact ih i q e hq
    · obtain rfl : i = n := by omega
      rw [List.getElem?_append_right (by rw [hl]; omega), hl]
      simp [show i * 11 + q - i * 11 = q from by omega]

/-- The bounds of what Hists hold. -/
def FBw (n : Nat) (X : Nat → Wn) : Prop := ∀ i, i < n → ∀ j, -9223372036854775808 ≤ (X i).f j ∧ (X i).f j ≤ 9223372036854775807
theorem WiRow.fb {w : World} {ao : Option Addr} {n : Nat} {X : Nat → Wn} (h : WiRow w ao n X) : FBw n X := fun i hi => by
  obtain ⟨b, off, _, _, hc⟩ := h.lies.resolve_left (by omega)
  obtain ⟨_, _, _, _, _, _, hr⟩ := hc i hi
  exact hr.bd
def adOf : Value → Option Addr
  | .slice a _ _ => a
  | _ => none
def cpOf : Value → Nat
  | .slice _ _ c => c
  | _ => 0
/-- Where a list lies. -/
def gOf (B : Nat) (V : Nat → Value) (p : Nat) : Nat := ((V p).ownBlock).getD (B + p)

theorem OutW.wic {w : World} {base : Nat} {v : Value} {n : Nat} {X : Nat → Wn} {V : Nat → Value} (h : OutW w base v n X V) (hb : FBw n X) (h0 : 0 < n) :
    ∃ g cap, v = .slice (some ⟨g, 0, none⟩) n cap ∧ n ≤ cap ∧ base ≤ g ∧ g < w.heap.size ∧ WiC w g n X (fun i => adOf (V (i * 2 + 0))) (fun i => adOf (V (i * 2 + 1))) (fun i => cpOf (V (i * 2 + 0))) (fun i => cpOf (V (i * 2 + 1))) (gOf w.heap.size V) ∧
      (∀ i, i < n → 0 < (X i).tn → base ≤ gOf w.heap.size V (i * 2 + 0) ∧ gOf w.heap.size V (i * 2 + 0) < w.heap.size) ∧ (∀ i, i < n → 0 < (X i).n → base ≤ gOf w.heap.size V (i * 2 + 1) ∧ gOf w.heap.size V (i * 2 + 1) < w.heap.size) := by
  have ho := h.own
  rcases ho.2 with ⟨_, h1⟩ | ⟨g, cap, cur, rfl, hbg, hg, hnc, _⟩
  · omega
  have hlt := (Array.getElem?_eq_some_iff.1 hg).1
  have k0 : ∀ i, i < n → 0 < (X i).tn → ∃ q c, V (i * 2 + 0) = .slice (some ⟨q, 0, none⟩) (X i).tn c ∧ base ≤ q ∧ TOwn w q (X i).tn (X i).tn (X i).nm (X i).vl := fun i hi hp => (h.r0 i hi).own hp
  have k1 : ∀ i, i < n → 0 < (X i).n → ∃ q c, V (i * 2 + 1) = .slice (some ⟨q, 0, none⟩) (X i).n c ∧ base ≤ q ∧ IOwn w q 0 (X i).n (X i).f := fun i hi hp => (h.r1 i hi).own (hb i hi) hp
  refine ⟨g, cap, rfl, hnc, hbg, hlt, ⟨hlt, fun i hi => ?_, fun j hj => ho.frozenAt j, fun i hi hp => ?_, fun i hi hp => ?_, fun p p' hp hp' hne => ?_⟩, fun i hi hp => ?_, fun i hi hp => ?_⟩
  · have c : ∀ q, q < 11 → w.cell? ⟨g, i * 11 + q, none⟩ = (wcells (X i) (V (i * 2 + 0)) (V (i * 2 + 1)))[q]? := fun q hq => (ho.cellAt (i * 11 + q) (by omega)).trans (wf_get X V n i q hi hq)
    obtain ⟨a0, c0, e0⟩ := ownsRow_form (h.r0 i hi)
    obtain ⟨a1, c1, e1⟩ := ownsRow_form (h.r1 i hi)
    simp only [e0, e1, wcells, adOf, cpOf] at c ⊢
    exact ⟨hlt, c 0 (by omega), c 1 (by omega), c 2 (by omega), c 3 (by omega), c 4 (by omega), c 5 (by omega), c 6 (by omega), c 7 (by omega), c 8 (by omega), c 9 (by omega), c 10 (by omega)⟩
  · obtain ⟨q, c, e, h1, h2⟩ := k0 i hi hp
    have eg : gOf w.heap.size V (i * 2 + 0) = q := by unfold gOf; rw [e]; rfl
    rw [eg]
    refine ⟨by simp only [e, adOf], fun hq => ?_, h2⟩
    exact h.apart (i * 2 + 0) (by omega) q (by rw [e]; rfl) (by rw [hq]; rfl)
  · obtain ⟨q, c, e, h1, h2⟩ := k1 i hi hp
    have eg : gOf w.heap.size V (i * 2 + 1) = q := by unfold gOf; rw [e]; rfl
    rw [eg]
    refine ⟨by simp only [e, adOf], fun hq => ?_, h2⟩
    exact h.apart (i * 2 + 1) (by omega) q (by rw [e]; rfl) (by rw [hq]; rfl)
  · unfold gOf
    cases e1 : (V p).ownBlock with
    | none =>
      cases e2 : (V p').ownBlock with
      | none => simp; omega
      | some k' => have := (h.lt hp' e2).2; simp; omega
    | some k =>
      have := (h.lt hp e1).2
      cases e2 : (V p').ownBlock with
      | none => simp; omega
      | some k' =>
        intro e
        have ek : k = k' := by simpa using e
        subst ek
        exact h.dis p p' hp hp' hne k e1 e2
  · obtain ⟨q, c, e, h1, h2⟩ := k0 i hi hp
    have eg : gOf w.heap.size V (i * 2 + 0) = q := by unfold gOf; rw [e]; rfl
    rw [eg]
    exact ⟨h1, h2.lt⟩
  · obtain ⟨q, c, e, h1, h2⟩ := k1 i hi hp
    have eg : gOf w.heap.size V (i * 2 + 1) = q := by unfold gOf; rw [e]; rfl
    rw [eg]
    exact ⟨h1, h2.lt⟩

/-- v is a list of the windows X, all of whose memory lies in blocks from base on and below top, and may be written. -/
def BA (w : World) (base top : Nat) (v : Value) (n : Nat) (X : Nat → Wn) : Prop :=
  top ≤ w.heap.size ∧ ((n = 0 ∧ ∃ lo lc, v = .slice lo 0 lc) ∨ ∃ g cap A0 A1 K0 K1 G, v = .slice (some ⟨g, 0, none⟩) n cap ∧ base ≤ g ∧ g < top ∧ WiC w g n X A0 A1 K0 K1 G ∧ (∀ i, i < n → 0 < (X i).tn → base ≤ G (i * 2 + 0) ∧ G (i * 2 + 0) < top) ∧ (∀ i, i < n → 0 < (X i).n → base ≤ G (i * 2 + 1) ∧ G (i * 2 + 1) < top))
section
variable {w w' : World} {base base' top top' n : Nat} {v : Value} {X : Nat → Wn}
theorem BA.form (h : BA w base top v n X) : ∃ lo lc, v = .slice lo n lc := by
  rcases h.2 with ⟨rfl, lo, lc, e⟩ | ⟨g, cap, _, _, _, _, _, e, _⟩
  · exact ⟨lo, lc, e⟩
  · exact ⟨_, _, e⟩
theorem BA.same (h : BA w base top v n X) (hs : w.heap.size ≤ w'.heap.size) (hb : ∀ c, base ≤ c → c < top → w'.heap[c]? = w.heap[c]?) : BA w' base top v n X := by
  refine ⟨Nat.le_trans h.1 hs, ?_⟩
  rcases h.2 with h0 | ⟨g, cap, A0, A1, K0, K1, G, e, h1, h2, h3, h4, h5⟩
  · exact .inl h0
  · exact .inr ⟨g, cap, A0, A1, K0, K1, G, e, h1, h2, h3.same hs (hb g h1 h2) (fun i hi hp => by have := h4 i hi hp; exact hb _ this.1 this.2) (fun i hi hp => by have := h5 i hi hp; exact hb _ this.1 this.2), h4, h5⟩
theorem BA.keep (h : BA w base top v n X) (hb : Below w.heap.size w w') : BA w' base top v n X :=
  h.same hb.size (fun c _ hc => hb.block c (Nat.lt_of_lt_of_le hc h.1))
theorem BA.mono (h : BA w base top v n X) (hb : base' ≤ base) (ht : top ≤ top') (ht2 : top' ≤ w.heap.size) : BA w base' top' v n X := by
  refine ⟨ht2, ?_⟩
  rcases h.2 with h0 | ⟨g, cap, A0, A1, K0, K1, G, e, h1, h2, h3, h4, h5⟩
  · exact .inl h0
  · exact .inr ⟨g, cap, A0, A1, K0, K1, G, e, by omega, by omega, h3, fun i hi hp => by have := h4 i hi hp; omega, fun i hi hp => by have := h5 i hi hp; omega⟩
theorem BA.row {lo : Option Addr} {m lc : Nat} (h : BA w base top (.slice lo m lc) n X) (hbd : ∀ i, i < n → WiB (X i)) (hf : FBw n X) : m = n ∧ WiRow w lo n X := by
  rcases h.2 with ⟨rfl, lo', lc', e⟩ | ⟨g, cap, A0, A1, K0, K1, G, e, h1, h2, h3, h4, h5⟩
  · injection e with e1 e2 e3
    exact ⟨e2, hbd, .inl rfl⟩
  · injection e with e1 e2 e3
    subst e1 e2
    refine ⟨rfl, hbd, .inr ⟨g, 0, rfl, h3.lt, fun i hi => ⟨A0 i, A1 i, K0 i, K1 i, by rw [Nat.zero_add]; exact h3.ent i hi, ?_, ?_⟩⟩⟩
    · by_cases h0 : (X i).tn = 0
      · exact ⟨.inl h0⟩
      · obtain ⟨q1, _, q3⟩ := h3.l0 i hi (by omega)
        rw [q1]; exact q3.row
    · by_cases h0 : (X i).n = 0
      · exact ⟨hf i hi, .inl h0⟩
      · obtain ⟨q1, _, q3⟩ := h3.l1 i hi (by omega)
        rw [q1]; exact q3.row
theorem ba_of {V : Nat → Value} (h : OutW w base v n X V) (hf : FBw n X) : BA w base w.heap.size v n X := by
  refine ⟨Nat.le_refl _, ?_⟩
  by_cases h0 : n = 0
  · obtain ⟨lo, lc, e⟩ := ownsRow_form h.own
    exact .inl ⟨h0, lo, lc, by rw [e, h0]⟩
  · obtain ⟨g, cap, e, _, h1, h2, h3, h4, h5⟩ := h.wic hf (by omega)
    exact .inr ⟨g, cap, _, _, _, _, _, e, h1, h2, h3, h4, h5⟩
theorem ba_own {b : Nat} {G0 G1 : Nat → Nat} (h : WiOwn w b n n X G0 G1) : BA w b w.heap.size (.slice (some ⟨b, 0, none⟩) n n) n X := by
  refine ⟨Nat.le_refl _, .inr ⟨b, n, fun i => some ⟨G0 i, 0, none⟩, fun i => some ⟨G1 i, 0, none⟩, fun i => (X i).tn, fun i => (X i).n, fun p => if p % 2 = 0 then G0 (p / 2) else G1 (p / 2), rfl, Nat.le_refl _, h.lt, ⟨h.lt, fun i hi => h.ent i hi, fun j hj => h.free j hj, fun i hi _ => ?_, fun i hi _ => ?_, fun p p' hp hp' hne => ?_⟩, fun i hi _ => ?_, fun i hi _ => ?_⟩⟩
  · obtain ⟨h0, o0, o1, m0⟩ := h.data i hi
    try dsimp only
    rw [show (if (i * 2 + 0) % 2 = 0 then G0 ((i * 2 + 0) / 2) else G1 ((i * 2 + 0) / 2)) = G0 i from by rw [if_pos (by omega), show (i * 2 + 0) / 2 = i from by omega]]
    exact ⟨rfl, by omega, o0⟩
  · obtain ⟨h0, o0, o1, m0⟩ := h.data i hi
    try dsimp only
    rw [show (if (i * 2 + 1) % 2 = 0 then G0 ((i * 2 + 1) / 2) else G1 ((i * 2 + 1) / 2)) = G1 i from by rw [if_neg (by omega), show (i * 2 + 1) / 2 = i from by omega]]
    exact ⟨rfl, by omega, o1⟩
  · have d1 := (h.data (p / 2) (by omega)).2.2.2
    have d2 := (h.data (p' / 2) (by omega)).2.2.2
    rcases Nat.lt_trichotomy (p / 2) (p' / 2) with q | q | q
    · have := h.mono _ _ q (by omega)
      split <;> split <;> omega
    · rw [← q] at d2 ⊢
      split <;> split <;> omega
    · have := h.mono _ _ q (by omega)
      split <;> split <;> omega
  · obtain ⟨h0, o0, o1, m0⟩ := h.data i hi
    try dsimp only
    rw [show (if (i * 2 + 0) % 2 = 0 then G0 ((i * 2 + 0) / 2) else G1 ((i * 2 + 0) / 2)) = G0 i from by rw [if_pos (by omega), show (i * 2 + 0) / 2 = i from by omega]]
    exact ⟨by omega, o0.lt⟩
  · obtain ⟨h0, o0, o1, m0⟩ := h.data i hi
    try dsimp only
    rw [show (if (i * 2 + 1) % 2 = 0 then G0 ((i * 2 + 1) / 2) else G1 ((i * 2 + 1) / 2)) = G1 i from by rw [if_neg (by omega), show (i * 2 + 1) / 2 = i from by omega]]
    exact ⟨by omega, o1.lt⟩
end

end Go.Proofs.Ytpggmgmdcccmeaa
namespace Go.Proofs.Ytpggmgmdcccmeaa
open Go.RowKit
set_option linter.unusedSimpArgs false
set_option linter.unusedVariables false

/-- Whether the tag at place i stands where it may. -/
def tagOk (nm vl : Nat → ByteArray) (i : Nat) : Bool := nmB (nm i) && nmB (vl i) && (decide (i = 0) || Op.bytesLess (nm (i - 1)).toList (nm i).toList)
def tagsOk (n : Nat) (nm vl : Nat → ByteArray) : Bool := (List.range n).all (tagOk nm vl)
def goodTagsB (n : Nat) (nm vl : Nat → ByteArray) : Bool := decide (n ≤ 4) && tagsOk n nm vl
def goodB (m : ByteArray) (n : Nat) (nm vl : Nat → ByteArray) (st : Int) : Bool := nmB m && goodTagsB n nm vl && decide (0 ≤ st) && decide (st ≤ 1000000000)

theorem tagsOk_yes {n : Nat} {nm vl : Nat → ByteArray} (h : ∀ i, i < n → tagOk nm vl i = true) : tagsOk n nm vl = true := by
  unfold tagsOk; rw [List.all_eq_true]; exact fun i hi => h i (List.mem_range.1 hi)
theorem tagsOk_no {n : Nat} {nm vl : Nat → ByteArray} (i : Nat) (hi : i < n) (h : tagOk nm vl i = false) : tagsOk n nm vl = false := by
  unfold tagsOk; rw [List.all_eq_false]; exact ⟨i, List.mem_range.2 hi, by simp [h]⟩

set_option maxHeartbeats 1000000 in
theorem goodTags_any (ao : Option Addr) (n cap : Nat) (nm vl : Nat → ByteArray) (w : World) (hr : TRow w ao n nm vl) (hn : n ≤ 1048576) (hs : TSize n nm vl 1048576) :
    Calls Try.prog 64 #[.slice ao n cap] w fun e w' => e = .returned (.bool (goodTagsB n nm vl)) ∧ Below w.heap.size w w' := by
  obtain ⟨hlies⟩ := hr
  generalize hB : goodTagsB n nm vl = B
  have HB : Hid (goodTagsB n nm vl = B) := hB
  clear hB
  by_cases h4 : n ≤ 4
  · have h4' : ¬ (4 : Int) < (n : Int) := by omega
    have HB2 : Hid (B = tagsOk n nm vl) := by unfold Hid; rw [← HB.out]; simp [goodTagsB, h4]
    clear HB
    go_enter Try.func64, Try.ntmps64
    go_wp2
    go_loopw [10] (fun i wr => ∃ k : Nat, k ≤ n ∧ i = .int .i64 k ∧ Hid (∀ i, i < k → tagOk nm vl i = true) ∧ Below w.heap.size w wr) (fun i _ => n - (intOf i).toNat)
    case atStart => exact ⟨0, Nat.zero_le _, rfl, fun i h => by omega, Below.refl _ _⟩
    case round =>
      obtain ⟨k, hk, rfl, HK, hbk⟩ := hrel
      by_cases hlt : k < n
      · obtain ⟨b, off, rfl, hblt, hc⟩ := hlies.resolve_left (by omega)
        have hc1 : wr.cell? ⟨b, off + k * 2, none⟩ = some (.string (nm k)) := (hbk.cell (p := ⟨b, off + k * 2, none⟩) hblt).trans (hc k hlt).1
        have hc2 : wr.cell? ⟨b, off + k * 2 + 1, none⟩ = some (.string (vl k)) := (hbk.cell (p := ⟨b, off + k * 2 + 1, none⟩) hblt).trans (hc k hlt).2
        have hsk := hs k hlt
        have hbn := fun O => hbk.alloc (B := w.heap.size) hbk.size O
        generalize h1 : nmB (nm k) = b1
        have H1 : Hid (nmB (nm k) = b1) := h1
        clear h1
        go_wp2_with fail
        refine (isName_any _ _ hsk.1).mono ?_
        rintro e w' ⟨rfl, rfl⟩
        rw [H1.out]
        cases b1
        · have HF : Hid (B = false) := by unfold Hid; rw [HB2.out]; exact tagsOk_no k hlt (by simp [tagOk, H1.out])
          go_wp2
          go_ret
          rw [HF.out]
          exact ⟨rfl, hbn _⟩
        · generalize h2 : nmB (vl k) = b2
          have H2 : Hid (nmB (vl k) = b2) := h2
          clear h2
          go_wp2_with fail
          refine (isName_any _ _ hsk.2).mono ?_
          rintro e w' ⟨rfl, rfl⟩
          rw [H2.out]
          cases b2
          · have HF : Hid (B = false) := by unfold Hid; rw [HB2.out]; exact tagsOk_no k hlt (by simp [tagOk, H1.out, H2.out])
            go_wp2
            go_ret
            rw [HF.out]
            exact ⟨rfl, hbn _⟩
          · by_cases hk0 : k = 0
            · subst hk0
              have HK' : Hid (∀ i, i < 0 + 1 → tagOk nm vl i = true) := fun i h => by
                have : i = 0 := by omega
                subst this
                simp [tagOk, H1.out, H2.out]
              have hd2 : decide ((0 : Int) < ((0 : Nat) : Int)) = false := by simp
              go_wp2
              go_quiet (fail)
              go_wp2
              go_roundw
              case rel => exact ⟨0 + 1, by omega, by go_num, HK', below_drewN (hbn _) _⟩
              case measure => simp [intOf]; omega
            · have hpos : 0 < k := by omega
              have hpos2 : (0 : Int) < (k : Int) := by omega
              have hc0 : wr.cell? ⟨b, off + (k - 1) * 2, none⟩ = some (.string (nm (k - 1))) := (hbk.cell (p := ⟨b, off + (k - 1) * 2, none⟩) hblt).trans (hc (k - 1) (by omega)).1
              have hbne : b < wr.heap.size := Nat.lt_of_lt_of_le hblt hbk.size
              have hc0' : ∀ O, (wr.alloc O).cell? ⟨b, off + (k - 1) * 2, none⟩ = some (.string (nm (k - 1))) := fun O => (World.cell?_alloc_old _ _ _ (Nat.ne_of_lt hbne)).trans hc0
              by_cases hL : Op.bytesLess (nm (k - 1)).toList (nm k).toList = true
              · have HK' : Hid (∀ i, i < k + 1 → tagOk nm vl i = true) := fun i h => by
                  rcases Nat.lt_succ_iff_lt_or_eq.1 h with h | h
                  · exact HK.out i h
                  · subst h; simp [tagOk, H1.out, H2.out, hL]
                clear hc hlies
                go_wp2
                go_quiet (fail)
                go_wp2
                go_roundw
                case rel => exact ⟨k + 1, by omega, by go_num, HK', below_drewN (hbn _) _⟩
                case measure => simp [intOf]; omega
              · have hL' : Op.bytesLess (nm (k - 1)).toList (nm k).toList = false := by simpa using hL
                have HF : Hid (B = false) := by unfold Hid; rw [HB2.out]; exact tagsOk_no k hlt (by simp [tagOk, H1.out, H2.out, hL', hk0])
                clear hL hc hlies
                go_wp2
                go_quiet (fail)
                go_wp2
                go_ret
                rw [HF.out]
                exact ⟨rfl, below_drewN (hbn _) _⟩
      · have HT : Hid (B = true) := by unfold Hid; rw [HB2.out]; exact tagsOk_yes (fun i hi => HK.out i (by omega))
        go_wp2
        go_ret
        rw [HT.out]
        exact ⟨rfl, hbk⟩
  · have h4' : (4 : Int) < (n : Int) := by omega
    have HF : Hid (B = false) := by unfold Hid; rw [← HB.out]; simp [goodTagsB, h4]
    go_enter Try.func64, Try.ntmps64
    go_wp2
    go_ret
    rw [HF.out]
    exact ⟨rfl, Below.refl _ _⟩
end Go.Proofs.Ytpggmgmdcccmeaa
namespace Go.Proofs.Ytpggmgmdcccmeaa
open Go.RowKit
set_option linter.unusedSimpArgs false
set_option linter.unusedVariables false

theorem goodB_eq (m : ByteArray) (n : Nat) (nm vl : Nat → ByteArray) (st : Int) (a b c d : Bool) (h1 : nmB m = a) (h2 : goodTagsB n nm vl = b) (h3 : decide (0 ≤ st) = c) (h4 : decide (st ≤ 1000000000) = d) : goodB m n nm vl st = (a && b && c && d) := by
  unfold goodB; rw [h1, h2, h3, h4]

set_option maxHeartbeats 1000000 in
theorem goodKey_impl (m : ByteArray) (st : Int) (ao : Option Addr) (n cap : Nat) (nm vl : Nat → ByteArray) (w : World) (hr : TRow w ao n nm vl) (hm : m.size ≤ 1048576) (hn : n ≤ 1048576) (hs : TSize n nm vl 1048576) :
    Calls Try.prog 39 #[.agg #[.string m, .slice ao n cap, .int .i64 st]] w fun e w' => e = .returned (.bool (goodB m n nm vl st)) ∧ Below w.heap.size w w' := by
  have hB : Below w.heap.size w (w.alloc (.cells #[.string m, .slice ao n cap, .int .i64 st] 32)) := (Below.refl _ _).alloc (Nat.le_refl _) _
  generalize hG : goodB m n nm vl st = G
  have HG : Hid (goodB m n nm vl st = G) := hG
  clear hG
  generalize h1 : nmB m = b1
  have H1 : Hid (nmB m = b1) := h1
  clear h1
  go_enter Try.func39, Try.ntmps39
  go_wp2_with fail
  refine (isName_any _ _ hm).mono ?_
  rintro e w' ⟨rfl, rfl⟩
  rw [H1.out]
  cases b1
  · have HF : Hid (G = false) := by unfold Hid; rw [← HG.out]; simp [goodB, H1.out]
    go_wp2
    go_ret
    rw [HF.out]
    exact ⟨rfl, hB⟩
  · generalize h2 : goodTagsB n nm vl = b2
    have H2 : Hid (goodTagsB n nm vl = b2) := h2
    clear h2
    go_wp2_with fail
    refine (goodTags_any ao n cap nm vl _ (hr.keep hB) hn hs).mono ?_
    rintro e w1 ⟨rfl, hb1⟩
    rw [H2.out]
    have c0 : w1.cell? ⟨w.heap.size, 2, none⟩ = some (.int .i64 st) := (hb1.cell (p := ⟨w.heap.size, 2, none⟩) (by simp)).trans (by simp [go_sem])
    have hbw : Below w.heap.size w w1 := hB.trans (hb1.mono (by simp))
    cases b2
    · have HF : Hid (G = false) := by unfold Hid; rw [← HG.out]; simp [goodB, H1.out, H2.out]
      go_wp2
      go_ret
      rw [HF.out]
      exact ⟨rfl, hbw⟩
    · by_cases h3 : 0 ≤ st
      · by_cases h4 : st ≤ 1000000000
        · have HF : Hid (G = true) := by unfold Hid; rw [← HG.out]; simp [goodB, H1.out, H2.out, h3, h4]
          go_wp2
          go_ret
          rw [HF.out]
          exact ⟨rfl, hbw⟩
        · have HF : Hid (G = false) := by unfold Hid; rw [← HG.out]; simp [goodB, H1.out, H2.out, h3, h4]
          have h4' : decide (st ≤ 1000000000) = false := by simp; omega
          go_wp2
          go_ret
          rw [HF.out]
          exact ⟨rfl, hbw⟩
      · have HF : Hid (G = false) := by unfold Hid; rw [← HG.out]; simp [goodB, H1.out, H2.out, h3]
        have h3' : decide (0 ≤ st) = false := by simp; omega
        go_wp2
        go_ret
        rw [HF.out]
        exact ⟨rfl, hbw⟩

theorem l1Name_is (s : ByteArray) (B : Bool) (h : Hid (nmB s = B)) (w : World) (hs : s.size ≤ 1048576) : Calls Try.prog 51 #[.string s] w fun e w' => e = .returned (.bool B) ∧ w' = w := by
  have := l1Name_any s w hs
  rw [h.out] at this
  exact this

set_option maxHeartbeats 2000000 in
theorem goodKey_spec (m : ByteArray) (st : Int) (ao : Option Addr) (n cap : Nat) (nm vl : Nat → ByteArray) (w : World) (hr : TRow w ao n nm vl) (hm : m.size ≤ 1048576) (hn : n ≤ 1048576) (hs : TSize n nm vl 1048576) :
    Calls Try.prog 24 #[.agg #[.string m, .slice ao n cap, .int .i64 st]] w fun e w' => e = .returned (.bool (goodB m n nm vl st)) ∧ Below w.heap.size w w' := by
  have hB : Below w.heap.size w (w.alloc (.cells #[.string m, .slice ao n cap, .int .i64 st] 32)) := (Below.refl _ _).alloc (Nat.le_refl _) _
  generalize hG : goodB m n nm vl st = G
  have HG : Hid (goodB m n nm vl st = G) := hG
  clear hG
  generalize h1 : nmB m = b1
  have H1 : Hid (nmB m = b1) := h1
  clear h1
  go_enter Try.func24, Try.ntmps24
  go_wp2_with fail
  refine (l1Name_any _ _ hm).mono ?_
  rintro e w' ⟨rfl, rfl⟩
  rw [H1.out]
  cases b1
  · have HF : Hid (G = false) := by unfold Hid; rw [← HG.out]; simp [goodB, H1.out]
    go_wp2
    go_ret
    rw [HF.out]
    exact ⟨rfl, hB⟩
  · by_cases h4 : n ≤ 4
    · have h4' : decide ((4 : Int) < (n : Int)) = false := by simp; omega
      by_cases h5 : 0 ≤ st ∧ st ≤ 1000000000
      · have HG2 : Hid (G = tagsOk n nm vl) := by unfold Hid; rw [← HG.out]; simp [goodB, goodTagsB, H1.out, h4, h5.1, h5.2]
        go_wp2_with fail
        refine (l1In_yes _ _ _ _ h5.1 h5.2).mono ?_
        rintro e w' ⟨rfl, rfl⟩
        go_wp2
        go_loopw [24] (fun i wr => ∃ k : Nat, k ≤ n ∧ i = .int .i64 k ∧ Hid (∀ i, i < k → tagOk nm vl i = true) ∧ Below (w.heap.size + 1) (w.alloc (.cells #[.string m, .slice ao n cap, .int .i64 st] 32)) wr) (fun i _ => n - (intOf i).toNat)
        case atStart => exact ⟨0, Nat.zero_le _, rfl, fun i h => by omega, Below.refl _ _⟩
        case round =>
          obtain ⟨k, hk, rfl, HK, hbk⟩ := hrel
          have hszk : w.heap.size + 1 ≤ wr.heap.size := by have := hbk.size; simpa using this
          have hbw : Below w.heap.size w wr := hB.trans (hbk.mono (by omega))
          have hkey : wr.cell? ⟨w.heap.size, 1, none⟩ = some (.slice ao n cap) := (hbk.cell (p := ⟨w.heap.size, 1, none⟩) (by simp)).trans (by simp [go_sem])
          by_cases hlt : k < n
          · obtain ⟨b, off, rfl, hblt, hc⟩ := hr.lies.resolve_left (by omega)
            have hc1 : wr.cell? ⟨b, off + k * 2, none⟩ = some (.string (nm k)) := (hbw.cell (p := ⟨b, off + k * 2, none⟩) hblt).trans (hc k hlt).1
            have hc2 : wr.cell? ⟨b, off + k * 2 + 1, none⟩ = some (.string (vl k)) := (hbw.cell (p := ⟨b, off + k * 2 + 1, none⟩) hblt).trans (hc k hlt).2
            have hsk := hs k hlt
            have hbn := fun O => hbk.alloc (B := w.heap.size + 1) hszk O
            have hbn2 := fun O => hbw.alloc (B := w.heap.size) hbw.size O
            have hbne : b < wr.heap.size := Nat.lt_of_lt_of_le hblt hbw.size
            have hwne : w.heap.size < wr.heap.size := by omega
            have hkey' : ∀ O, (wr.alloc O).cell? ⟨w.heap.size, 1, none⟩ = some (.slice (some ⟨b, off, none⟩) n cap) := fun O => (World.cell?_alloc_old _ _ _ (Nat.ne_of_lt hwne)).trans hkey
            generalize h1 : nmB (nm k) = b1
            have Q1 : Hid (nmB (nm k) = b1) := h1
            clear h1
            generalize h2 : nmB (vl k) = b2
            have Q2 : Hid (nmB (vl k) = b2) := h2
            clear h2
            cases b1
            · have HF : Hid (G = false) := by unfold Hid; rw [HG2.out]; exact tagsOk_no k hlt (by simp [tagOk, Q1.out])
              clear hc
              go_wp2
              go_quiet ((go_at_call 51; exact Calls.quiet_of_same (l1Name_is _ _ Q1 _ hsk.1)))
              go_wp2
              go_ret
              rw [HF.out]
              exact ⟨rfl, below_drewN (hbn2 _) _⟩
            · cases b2
              · have HF : Hid (G = false) := by unfold Hid; rw [HG2.out]; exact tagsOk_no k hlt (by simp [tagOk, Q1.out, Q2.out])
                clear hc
                go_wp2
                go_quiet ((first | (go_at_call_of 51 (Value.string (nm k)); exact Calls.quiet_of_same (l1Name_is _ _ Q1 _ hsk.1)) | (go_at_call_of 51 (Value.string (vl k)); exact Calls.quiet_of_same (l1Name_is _ _ Q2 _ hsk.2))))
                go_wp2
                go_ret
                rw [HF.out]
                exact ⟨rfl, below_drewN (hbn2 _) _⟩
              · by_cases hk0 : k = 0
                · have HK' : Hid (∀ i, i < k + 1 → tagOk nm vl i = true) := fun i h => by
                    have : i = k := by omega
                    subst this
                    unfold tagOk
                    rw [Q1.out, Q2.out]
                    simp [hk0]
                  have hd0 : decide (0 < k) = false := by simp; omega
                  have hd1 : decide ((0 : Int) < (k : Int)) = false := by simp; omega
                  have hke : ¬ 0 < k := by omega
                  clear hc hk0
                  go_wp2
                  go_quiet ((first | (go_at_call_of 51 (Value.string (nm k)); exact Calls.quiet_of_same (l1Name_is _ _ Q1 _ hsk.1)) | (go_at_call_of 51 (Value.string (vl k)); exact Calls.quiet_of_same (l1Name_is _ _ Q2 _ hsk.2))))
                  go_wp2
                  go_roundw
                  case rel => exact ⟨k + 1, by omega, by go_num, HK', below_drewN (hbn _) _⟩
                  case measure => simp [intOf]; omega
                · have hpos : 0 < k := by omega
                  have hpos2 : (0 : Int) < (k : Int) := by omega
                  have hc0 : wr.cell? ⟨b, off + (k - 1) * 2, none⟩ = some (.string (nm (k - 1))) := (hbw.cell (p := ⟨b, off + (k - 1) * 2, none⟩) hblt).trans (hc (k - 1) (by omega)).1
                  have hc0' : ∀ O, (wr.alloc O).cell? ⟨b, off + (k - 1) * 2, none⟩ = some (.string (nm (k - 1))) := fun O => (World.cell?_alloc_old _ _ _ (Nat.ne_of_lt hbne)).trans hc0
                  by_cases hL : Op.bytesLess (nm (k - 1)).toList (nm k).toList = true
                  · have HK' : Hid (∀ i, i < k + 1 → tagOk nm vl i = true) := fun i h => by
                      rcases Nat.lt_succ_iff_lt_or_eq.1 h with h | h
                      · exact HK.out i h
                      · subst h; simp [tagOk, Q1.out, Q2.out, hL]
                    clear hc hk0
                    go_wp2
                    go_quiet ((first | (go_at_call_of 51 (Value.string (nm k)); exact Calls.quiet_of_same (l1Name_is _ _ Q1 _ hsk.1)) | (go_at_call_of 51 (Value.string (vl k)); exact Calls.quiet_of_same (l1Name_is _ _ Q2 _ hsk.2))))
                    go_wp2
                    go_roundw
                    case rel => exact ⟨k + 1, by omega, by go_num, HK', below_drewN (hbn _) _⟩
                    case measure => simp [intOf]; omega
                  · have hL' : Op.bytesLess (nm (k - 1)).toList (nm k).toList = false := by simpa using hL
                    have HF : Hid (G = false) := by unfold Hid; rw [HG2.out]; exact tagsOk_no k hlt (by simp [tagOk, Q1.out, Q2.out, hL', hk0])
                    clear hL hc hk0
                    go_wp2
                    go_quiet ((first | (go_at_call_of 51 (Value.string (nm k)); exact Calls.quiet_of_same (l1Name_is _ _ Q1 _ hsk.1)) | (go_at_call_of 51 (Value.string (vl k)); exact Calls.quiet_of_same (l1Name_is _ _ Q2 _ hsk.2))))
                    go_wp2
                    go_ret
                    rw [HF.out]
                    exact ⟨rfl, below_drewN (hbn2 _) _⟩
          · have HT : Hid (G = true) := by unfold Hid; rw [HG2.out]; exact tagsOk_yes (fun i hi => HK.out i (by omega))
            go_wp2
            go_ret
            rw [HT.out]
            exact ⟨rfl, hbw⟩
      · have HF : Hid (G = false) := by
          unfold Hid; rw [← HG.out]
          by_cases h6 : 0 ≤ st
          · have : ¬ st ≤ 1000000000 := fun h => h5 ⟨h6, h⟩
            simp [goodB, this]
          · simp [goodB, h6]
        go_wp2_with fail
        refine (l1In_no _ _ _ _ h5).mono ?_
        rintro e w' ⟨rfl, rfl⟩
        go_wp2
        go_ret
        rw [HF.out]
        exact ⟨rfl, hB⟩
    · have h4' : (4 : Int) < (n : Int) := by omega
      have HF : Hid (G = false) := by unfold Hid; rw [← HG.out]; simp [goodB, goodTagsB, h4]
      go_wp2
      go_ret
      rw [HF.out]
      exact ⟨rfl, hB⟩
end Go.Proofs.Ytpggmgmdcccmeaa
