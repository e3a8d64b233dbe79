/- Boards: where they lie, measured, copied, compared. / Answers of windows whose memory is their own: told, kept, marked. -/
import Derived.Test.YtaiigpffhcofpaaGreatWr
import Derived.Test.YtaiigpffhcofpaaGreatOw
namespace Go.Proofs.YtaiigpffhcofpaaGreat
set_option maxRecDepth 100000
open Go.RowKit
set_option linter.unusedSimpArgs false
set_option linter.unusedVariables false

/-- A board in block b. -/
structure BdAt (w : World) (b : Nat) (z h mk : Int) (sv : Value) : Prop where
  lt : b < w.heap.size
  c0 : w.cell? ⟨b, 0, none⟩ = some (.int .i64 z)
  c1 : w.cell? ⟨b, 1, none⟩ = some (.int .i64 h)
  c2 : w.cell? ⟨b, 2, none⟩ = some (.int .i64 mk)
  c3 : w.cell? ⟨b, 3, none⟩ = some sv
theorem BdAt.keep {w w' : World} {b : Nat} {z h mk : Int} {sv : Value} (H : BdAt w b z h mk sv) (hb : Below w.heap.size w w') : BdAt w' b z h mk sv :=
  ⟨Nat.lt_of_lt_of_le H.lt hb.size, (hb.cell (p := ⟨b, 0, none⟩) H.lt).trans H.c0, (hb.cell (p := ⟨b, 1, none⟩) H.lt).trans H.c1, (hb.cell (p := ⟨b, 2, none⟩) H.lt).trans H.c2, (hb.cell (p := ⟨b, 3, none⟩) H.lt).trans H.c3⟩
theorem BdAt.others {w w' : World} {b d : Nat} {z h mk : Int} {sv : Value} (H : BdAt w b z h mk sv) (ho : Others d w w') (hne : b ≠ d) : BdAt w' b z h mk sv :=
  have k : ∀ j, w'.cell? ⟨b, j, none⟩ = w.cell? ⟨b, j, none⟩ := fun j => World.cell?_of_block (w := w) (a := ⟨b, j, none⟩) (ho.block b hne)
  ⟨by rw [ho.size]; exact H.lt, (k _).trans H.c0, (k _).trans H.c1, (k _).trans H.c2, (k _).trans H.c3⟩
theorem BdAt.new (w : World) (z h mk : Int) (sv : Value) (T : Nat) : BdAt (w.alloc (.cells #[.int .i64 z, .int .i64 h, .int .i64 mk, sv] T)) w.heap.size z h mk sv := by
  refine ⟨by simp, ?_, ?_, ?_, ?_⟩ <;> simp [go_sem]

theorem WiOwn.others {w w' : World} {b n k d : Nat} {X : Nat → Wn} {G0 G1 : Nat → Nat} (h : WiOwn w b n k X G0 G1) (ho : Others d w w') (hd : d < b) : WiOwn w' b n k X G0 G1 :=
  ⟨by rw [ho.size]; exact h.lt, fun i hi => (h.ent i hi).others ho (by omega), fun i hi => by
      obtain ⟨h0, o0, o1, m0⟩ := h.data i hi
      exact ⟨h0, o0.others ho (by omega), ho.irow o1 (by omega), m0⟩, h.mono,
    fun j hj => by rw [World.cell?_of_block (w := w) (a := ⟨b, j, none⟩) (ho.block b (by omega))]; exact h.there j hj,
    fun j hj => (World.frozen?_of_block (w := w) (a := ⟨b, j, none⟩) (ho.block b (by omega))).trans (h.free j hj)⟩

set_option maxHeartbeats 800000 in
theorem szBoard_any (z h mk : Int) (ao : Option Addr) (n cap : Nat) (X : Nat → Wn) (left : Int) (w : World) (hr : WiRow w ao n X) (hl : 0 ≤ left ∧ left ≤ 1048576) (hn : n ≤ 9223372036854775807) :
    Calls Tryz.prog 4 #[.agg #[.int .i64 z, .int .i64 h, .int .i64 mk, .slice ao n cap], .int .i64 left] w fun e w' => SzOut left (n ≤ 1048576 ∧ WiSize n X) w e w' := by
  have hB := below_new w (.cells #[.int .i64 z, .int .i64 h, .int .i64 mk, .slice ao n cap] 24)
  go_enter Tryz.func4, Tryz.ntmps4
  go_wp2_with fail
  refine (szWinS_any ao n cap X left _ (hr.keep hB) hl hn).mono ?_
  rintro e w1 ⟨v, rfl, hv1, hv2, hv3, hb⟩
  have bw : Below w.heap.size w w1 := hB.trans (hb.mono (by simp))
  clear hb
  by_cases hv : v < 0
  · clear hv3
    go_wp2
    go_ret
    exact ⟨-1, rfl, by omega, by omega, fun h => by omega, bw⟩
  · have H : Hid (n ≤ 1048576 ∧ WiSize n X) := hv3 (by omega)
    clear hv3
    go_wp2
    go_ret
    exact ⟨v, rfl, by omega, by omega, fun _ => H.out, bw⟩

/-- What toBoard leaves: a board of the call's own. -/
def ToB (z h mk : Int) (n : Nat) (X : Nat → Wn) (w : World) (e : Ending) (w' : World) : Prop :=
  ∃ b G0 G1, e = .returned (.agg #[.int .i64 z, .int .i64 h, .int .i64 mk, .slice (some ⟨b, 0, none⟩) n n]) ∧ w.heap.size ≤ b ∧ WiOwn w' b n n X G0 G1 ∧ Below w.heap.size w w'

set_option maxHeartbeats 1600000 in
theorem toBoard_any (z h mk : Int) (ao : Option Addr) (n cap : Nat) (X : Nat → Wn) (w : World) (hr : WiRow w ao n X) (hn : n ≤ 1048576) (hz : WiSize n X) :
    Calls Tryz.prog 7 #[.agg #[.int .i64 z, .int .i64 h, .int .i64 mk, .slice ao n cap]] w fun e w' => ToB z h mk n X w e w' := by
  go_enter Tryz.func7, Tryz.ntmps7
  go_wp2_with fail
  refine (toWinS_any ao n cap X _ (hr.keep ?_) hn hz).mono ?_
  · repeat' refine Below.setCell ?_ (by first | (simp; done) | (simp; omega)) _
    exact (((Below.refl _ _).alloc (Nat.le_refl _) _).alloc (by simp) _).alloc (by simp; omega) _
  rintro e w1 ⟨G0, G1, rfl, ho, hb⟩
  have b0 := hb.cell (p := ⟨w.heap.size + 1, 0, none⟩) (by simp; try omega)
  have b1 := hb.cell (p := ⟨w.heap.size + 1, 1, none⟩) (by simp; try omega)
  have b2 := hb.cell (p := ⟨w.heap.size + 1, 2, none⟩) (by simp; try omega)
  have b3 := hb.cell (p := ⟨w.heap.size + 1, 3, none⟩) (by simp; try omega)
  have k0 := hb.cell (p := ⟨w.heap.size + 1 + 1, 0, none⟩) (by simp; try omega)
  have k1 := hb.cell (p := ⟨w.heap.size + 1 + 1, 1, none⟩) (by simp; try omega)
  have k2 := hb.cell (p := ⟨w.heap.size + 1 + 1, 2, none⟩) (by simp; try omega)
  have k3 := hb.cell (p := ⟨w.heap.size + 1 + 1, 3, none⟩) (by simp; try omega)
  have bf : ∀ j, w1.frozen? ⟨w.heap.size + 1, j, none⟩ = false := fun j => (hb.frozen (p := ⟨w.heap.size + 1, j, none⟩) (by simp; try omega)).trans (by simp [go_sem])
  have kf : ∀ j, w1.frozen? ⟨w.heap.size + 1 + 1, j, none⟩ = false := fun j => (hb.frozen (p := ⟨w.heap.size + 1 + 1, j, none⟩) (by simp; try omega)).trans (by simp [go_sem])
  simp [go_sem] at b0 b1 b2 b3 k0 k1 k2 k3
  have bw : Below w.heap.size w w1 := by
    refine Below.trans ?_ (hb.mono (by simp; omega))
    repeat' refine Below.setCell ?_ (by first | (simp; done) | (simp; omega)) _
    exact (((Below.refl _ _).alloc (Nat.le_refl _) _).alloc (by simp) _).alloc (by simp; omega) _
  simp only [World.size_setCell, World.size_alloc] at ho
  clear hb
  go_wp2
  refine bodyPost_ret (v := .agg #[.int .i64 z, .int .i64 h, .int .i64 mk, .slice (some ⟨w.heap.size + 1 + 1 + 1, 0, none⟩) n n]) (by simp [results, Tryz.results7, go_sem, b0, b1, b2, b3]) rfl ⟨w.heap.size + 1 + 1 + 1, G0, G1, rfl, by omega, ?_, ?_⟩
  · repeat' refine WiOwn.others ?_ (Others.setCell _ _ _ _) (by omega)
    exact ho
  · repeat' refine Below.setCell ?_ (by first | (simp; done) | (simp; omega)) _
    exact bw

set_option maxHeartbeats 1600000 in
theorem eqBoard_same (z h mk : Int) (ao bo : Option Addr) (n ca cb : Nat) (X : Nat → Wn) (w : World) (hr : WiRow w ao n X) (hs : WiRow w bo n X) (hn : n ≤ 1048576) (hz : WiSize n X) :
    Calls Tryz.prog 10 #[.agg #[.int .i64 z, .int .i64 h, .int .i64 mk, .slice ao n ca], .agg #[.int .i64 z, .int .i64 h, .int .i64 mk, .slice bo n cb]] w fun e w' => e = .returned (.bool true) ∧ Below w.heap.size w w' := by
  have hB : ∀ o p, Below w.heap.size w ((w.alloc o).alloc p) := fun o p => (below_new w o).alloc (by simp) _
  go_enter Tryz.func10, Tryz.ntmps10
  go_wp2_with fail
  refine (eqWinS_same ao bo n ca cb X _ (hr.keep (hB _ _)) (hs.keep (hB _ _)) hn hz).mono ?_
  rintro e w1 ⟨rfl, hb⟩
  have hbw : Below w.heap.size w w1 := (hB _ _).trans (hb.mono (by simp; omega))
  clear hb
  go_wp2
  go_ret
  exact ⟨rfl, hbw⟩
end Go.Proofs.YtaiigpffhcofpaaGreat
namespace Go.Proofs.YtaiigpffhcofpaaGreat
set_option maxRecDepth 100000
open Go.RowKit
set_option linter.unusedSimpArgs false
set_option linter.unusedVariables false

theorem wf_get (X : Nat → Wn) (V : Nat → Value) : ∀ (n i q : Nat), i < n → q < 11 → ((List.range n).flatMap fun i => wcells (X i) (V (i * 2 + 0)) (V (i * 2 + 1)))[i * 11 + q]? = (wcells (X i) (V (i * 2 + 0)) (V (i * 2 + 1)))[q]? := by
  have hl : ∀ n, ((List.range n).flatMap fun i => wcells (X i) (V (i * 2 + 0)) (V (i * 2 + 1))).length = n * 11 := by
    intro n
    induction n with
    | zero => rfl
    | succ n ih => rw [List.range_succ, List.flatMap_append, List.length_append, ih]; simp [wcells]; omega
  intro n
  induction n with
  | zero => intro i q h; omega
  | succ n ih =>
    intro i q hi hq
    rw [List.range_succ, List.flatMap_append]
    by_cases e : i < n
    · rw [List.getElem?_append_left (by rw [hl]; omega)]
      exact ih i q e hq
    · obtain rfl : i = n := by omega
      rw [List.getElem?_append_right (by rw [hl]; omega), hl]
      simp [show i * 11 + q - i * 11 = q from by omega]

/-- The bounds of what Hists hold. -/
def FBw (n : Nat) (X : Nat → Wn) : Prop := ∀ i, i < n → ∀ j, -9223372036854775808 ≤ (X i).f j ∧ (X i).f j ≤ 9223372036854775807
theorem WiRow.fb {w : World} {ao : Option Addr} {n : Nat} {X : Nat → Wn} (h : WiRow w ao n X) : FBw n X := fun i hi => by
  obtain ⟨b, off, _, _, hc⟩ := h.lies.resolve_left (by omega)
  obtain ⟨_, _, _, _, _, _, hr⟩ := hc i hi
  exact hr.bd
def adOf : Value → Option Addr
  | .slice a _ _ => a
  | _ => none
def cpOf : Value → Nat
  | .slice _ _ c => c
  | _ => 0
/-- Where a list lies. -/
def gOf (B : Nat) (V : Nat → Value) (p : Nat) : Nat := ((V p).ownBlock).getD (B + p)

theorem OutW.wic {w : World} {base : Nat} {v : Value} {n : Nat} {X : Nat → Wn} {V : Nat → Value} (h : OutW w base v n X V) (hb : FBw n X) (h0 : 0 < n) :
    ∃ g cap, v = .slice (some ⟨g, 0, none⟩) n cap ∧ n ≤ cap ∧ base ≤ g ∧ g < w.heap.size ∧ WiC w g n X (fun i => adOf (V (i * 2 + 0))) (fun i => adOf (V (i * 2 + 1))) (fun i => cpOf (V (i * 2 + 0))) (fun i => cpOf (V (i * 2 + 1))) (gOf w.heap.size V) ∧
      (∀ i, i < n → 0 < (X i).tn → base ≤ gOf w.heap.size V (i * 2 + 0) ∧ gOf w.heap.size V (i * 2 + 0) < w.heap.size) ∧ (∀ i, i < n → 0 < (X i).n → base ≤ gOf w.heap.size V (i * 2 + 1) ∧ gOf w.heap.size V (i * 2 + 1) < w.heap.size) := by
  have ho := h.own
  rcases ho.2 with ⟨_, h1⟩ | ⟨g, cap, cur, rfl, hbg, hg, hnc, _⟩
  · omega
  have hlt := (Array.getElem?_eq_some_iff.1 hg).1
  have k0 : ∀ i, i < n → 0 < (X i).tn → ∃ q c, V (i * 2 + 0) = .slice (some ⟨q, 0, none⟩) (X i).tn c ∧ base ≤ q ∧ TOwn w q (X i).tn (X i).tn (X i).nm (X i).vl := fun i hi hp => (h.r0 i hi).own hp
  have k1 : ∀ i, i < n → 0 < (X i).n → ∃ q c, V (i * 2 + 1) = .slice (some ⟨q, 0, none⟩) (X i).n c ∧ base ≤ q ∧ IOwn w q 0 (X i).n (X i).f := fun i hi hp => (h.r1 i hi).own (hb i hi) hp
  refine ⟨g, cap, rfl, hnc, hbg, hlt, ⟨hlt, fun i hi => ?_, fun j hj => ho.frozenAt j, fun i hi hp => ?_, fun i hi hp => ?_, fun p p' hp hp' hne => ?_⟩, fun i hi hp => ?_, fun i hi hp => ?_⟩
  · have c : ∀ q, q < 11 → w.cell? ⟨g, i * 11 + q, none⟩ = (wcells (X i) (V (i * 2 + 0)) (V (i * 2 + 1)))[q]? := fun q hq => (ho.cellAt (i * 11 + q) (by omega)).trans (wf_get X V n i q hi hq)
    obtain ⟨a0, c0, e0⟩ := ownsRow_form (h.r0 i hi)
    obtain ⟨a1, c1, e1⟩ := ownsRow_form (h.r1 i hi)
    simp only [e0, e1, wcells, adOf, cpOf] at c ⊢
    exact ⟨hlt, c 0 (by omega), c 1 (by omega), c 2 (by omega), c 3 (by omega), c 4 (by omega), c 5 (by omega), c 6 (by omega), c 7 (by omega), c 8 (by omega), c 9 (by omega), c 10 (by omega)⟩
  · obtain ⟨q, c, e, h1, h2⟩ := k0 i hi hp
    have eg : gOf w.heap.size V (i * 2 + 0) = q := by unfold gOf; rw [e]; rfl
    rw [eg]
    refine ⟨by simp only [e, adOf], fun hq => ?_, h2⟩
    exact h.apart (i * 2 + 0) (by omega) q (by rw [e]; rfl) (by rw [hq]; rfl)
  · obtain ⟨q, c, e, h1, h2⟩ := k1 i hi hp
    have eg : gOf w.heap.size V (i * 2 + 1) = q := by unfold gOf; rw [e]; rfl
    rw [eg]
    refine ⟨by simp only [e, adOf], fun hq => ?_, h2⟩
    exact h.apart (i * 2 + 1) (by omega) q (by rw [e]; rfl) (by rw [hq]; rfl)
  · unfold gOf
    cases e1 : (V p).ownBlock with
    | none =>
      cases e2 : (V p').ownBlock with
      | none => simp; omega
      | some k' => have := (h.lt hp' e2).2; simp; omega
    | some k =>
      have := (h.lt hp e1).2
      cases e2 : (V p').ownBlock with
      | none => simp; omega
      | some k' =>
        intro e
        have ek : k = k' := by simpa using e
        subst ek
        exact h.dis p p' hp hp' hne k e1 e2
  · obtain ⟨q, c, e, h1, h2⟩ := k0 i hi hp
    have eg : gOf w.heap.size V (i * 2 + 0) = q := by unfold gOf; rw [e]; rfl
    rw [eg]
    exact ⟨h1, h2.lt⟩
  · obtain ⟨q, c, e, h1, h2⟩ := k1 i hi hp
    have eg : gOf w.heap.size V (i * 2 + 1) = q := by unfold gOf; rw [e]; rfl
    rw [eg]
    exact ⟨h1, h2.lt⟩

/-- v is a list of the windows X, all of whose memory lies in blocks from base on and below top, and may be written. -/
def BA (w : World) (base top : Nat) (v : Value) (n : Nat) (X : Nat → Wn) : Prop :=
  top ≤ w.heap.size ∧ ((n = 0 ∧ ∃ lo lc, v = .slice lo 0 lc) ∨ ∃ g cap A0 A1 K0 K1 G, v = .slice (some ⟨g, 0, none⟩) n cap ∧ base ≤ g ∧ g < top ∧ WiC w g n X A0 A1 K0 K1 G ∧ (∀ i, i < n → 0 < (X i).tn → base ≤ G (i * 2 + 0) ∧ G (i * 2 + 0) < top) ∧ (∀ i, i < n → 0 < (X i).n → base ≤ G (i * 2 + 1) ∧ G (i * 2 + 1) < top))
section
variable {w w' : World} {base base' top top' n : Nat} {v : Value} {X : Nat → Wn}
theorem BA.form (h : BA w base top v n X) : ∃ lo lc, v = .slice lo n lc := by
  rcases h.2 with ⟨rfl, lo, lc, e⟩ | ⟨g, cap, _, _, _, _, _, e, _⟩
  · exact ⟨lo, lc, e⟩
  · exact ⟨_, _, e⟩
theorem BA.same (h : BA w base top v n X) (hs : w.heap.size ≤ w'.heap.size) (hb : ∀ c, base ≤ c → c < top → w'.heap[c]? = w.heap[c]?) : BA w' base top v n X := by
  refine ⟨Nat.le_trans h.1 hs, ?_⟩
  rcases h.2 with h0 | ⟨g, cap, A0, A1, K0, K1, G, e, h1, h2, h3, h4, h5⟩
  · exact .inl h0
  · exact .inr ⟨g, cap, A0, A1, K0, K1, G, e, h1, h2, h3.same hs (hb g h1 h2) (fun i hi hp => by have := h4 i hi hp; exact hb _ this.1 this.2) (fun i hi hp => by have := h5 i hi hp; exact hb _ this.1 this.2), h4, h5⟩
theorem BA.keep (h : BA w base top v n X) (hb : Below w.heap.size w w') : BA w' base top v n X :=
  h.same hb.size (fun c _ hc => hb.block c (Nat.lt_of_lt_of_le hc h.1))
theorem BA.mono (h : BA w base top v n X) (hb : base' ≤ base) (ht : top ≤ top') (ht2 : top' ≤ w.heap.size) : BA w base' top' v n X := by
  refine ⟨ht2, ?_⟩
  rcases h.2 with h0 | ⟨g, cap, A0, A1, K0, K1, G, e, h1, h2, h3, h4, h5⟩
  · exact .inl h0
  · exact .inr ⟨g, cap, A0, A1, K0, K1, G, e, by omega, by omega, h3, fun i hi hp => by have := h4 i hi hp; omega, fun i hi hp => by have := h5 i hi hp; omega⟩
theorem BA.row {lo : Option Addr} {m lc : Nat} (h : BA w base top (.slice lo m lc) n X) (hbd : ∀ i, i < n → WiB (X i)) (hf : FBw n X) : m = n ∧ WiRow w lo n X := by
  rcases h.2 with ⟨rfl, lo', lc', e⟩ | ⟨g, cap, A0, A1, K0, K1, G, e, h1, h2, h3, h4, h5⟩
  · injection e with e1 e2 e3
    exact ⟨e2, hbd, .inl rfl⟩
  · injection e with e1 e2 e3
    subst e1 e2
    refine ⟨rfl, hbd, .inr ⟨g, 0, rfl, h3.lt, fun i hi => ⟨A0 i, A1 i, K0 i, K1 i, by rw [Nat.zero_add]; exact h3.ent i hi, ?_, ?_⟩⟩⟩
    · by_cases h0 : (X i).tn = 0
      · exact ⟨.inl h0⟩
      · obtain ⟨q1, _, q3⟩ := h3.l0 i hi (by omega)
        rw [q1]; exact q3.row
    · by_cases h0 : (X i).n = 0
      · exact ⟨hf i hi, .inl h0⟩
      · obtain ⟨q1, _, q3⟩ := h3.l1 i hi (by omega)
        rw [q1]; exact q3.row
theorem ba_of {V : Nat → Value} (h : OutW w base v n X V) (hf : FBw n X) : BA w base w.heap.size v n X := by
  refine ⟨Nat.le_refl _, ?_⟩
  by_cases h0 : n = 0
  · obtain ⟨lo, lc, e⟩ := ownsRow_form h.own
    exact .inl ⟨h0, lo, lc, by rw [e, h0]⟩
  · obtain ⟨g, cap, e, _, h1, h2, h3, h4, h5⟩ := h.wic hf (by omega)
    exact .inr ⟨g, cap, _, _, _, _, _, e, h1, h2, h3, h4, h5⟩
theorem ba_own {b : Nat} {G0 G1 : Nat → Nat} (h : WiOwn w b n n X G0 G1) : BA w b w.heap.size (.slice (some ⟨b, 0, none⟩) n n) n X := by
  refine ⟨Nat.le_refl _, .inr ⟨b, n, fun i => some ⟨G0 i, 0, none⟩, fun i => some ⟨G1 i, 0, none⟩, fun i => (X i).tn, fun i => (X i).n, fun p => if p % 2 = 0 then G0 (p / 2) else G1 (p / 2), rfl, Nat.le_refl _, h.lt, ⟨h.lt, fun i hi => h.ent i hi, fun j hj => h.free j hj, fun i hi _ => ?_, fun i hi _ => ?_, fun p p' hp hp' hne => ?_⟩, fun i hi _ => ?_, fun i hi _ => ?_⟩⟩
  · obtain ⟨h0, o0, o1, m0⟩ := h.data i hi
    try dsimp only
    rw [show (if (i * 2 + 0) % 2 = 0 then G0 ((i * 2 + 0) / 2) else G1 ((i * 2 + 0) / 2)) = G0 i from by rw [if_pos (by omega), show (i * 2 + 0) / 2 = i from by omega]]
    exact ⟨rfl, by omega, o0⟩
  · obtain ⟨h0, o0, o1, m0⟩ := h.data i hi
    try dsimp only
    rw [show (if (i * 2 + 1) % 2 = 0 then G0 ((i * 2 + 1) / 2) else G1 ((i * 2 + 1) / 2)) = G1 i from by rw [if_neg (by omega), show (i * 2 + 1) / 2 = i from by omega]]
    exact ⟨rfl, by omega, o1⟩
  · have d1 := (h.data (p / 2) (by omega)).2.2.2
    have d2 := (h.data (p' / 2) (by omega)).2.2.2
    rcases Nat.lt_trichotomy (p / 2) (p' / 2) with q | q | q
    · have := h.mono _ _ q (by omega)
      split <;> split <;> omega
    · rw [← q] at d2 ⊢
      split <;> split <;> omega
    · have := h.mono _ _ q (by omega)
      split <;> split <;> omega
  · obtain ⟨h0, o0, o1, m0⟩ := h.data i hi
    try dsimp only
    rw [show (if (i * 2 + 0) % 2 = 0 then G0 ((i * 2 + 0) / 2) else G1 ((i * 2 + 0) / 2)) = G0 i from by rw [if_pos (by omega), show (i * 2 + 0) / 2 = i from by omega]]
    exact ⟨by omega, o0.lt⟩
  · obtain ⟨h0, o0, o1, m0⟩ := h.data i hi
    try dsimp only
    rw [show (if (i * 2 + 1) % 2 = 0 then G0 ((i * 2 + 1) / 2) else G1 ((i * 2 + 1) / 2)) = G1 i from by rw [if_neg (by omega), show (i * 2 + 1) / 2 = i from by omega]]
    exact ⟨by omega, o1.lt⟩
end

theorem markW_zero (ao : Option Addr) (cap : Nat) (q : Int) (w : World) :
    Calls Tryz.prog 33 #[.slice ao 0 cap, .int .i64 q] w fun e w' => e = .returned (.int .i64 q) ∧ w' = w := by
  go_enter Tryz.func33, Tryz.ntmps33
  go_wp2
  go_loopw [1, 5] (fun p i wr => i = .int .i64 0 ∧ p = .int .i64 q ∧ wr = w) (fun _ _ _ => 0)
  case atStart => exact ⟨rfl, rfl, rfl⟩
  case round =>
    obtain ⟨rfl, rfl, rfl⟩ := hrel
    go_wp2
    go_ret
    exact ⟨rfl, rfl⟩
theorem heldW_zero (ao : Option Addr) (cap : Nat) (q : Int) (w : World) :
    Calls Tryz.prog 35 #[.slice ao 0 cap, .int .i64 q] w fun e w' => e = .returned (.int .i64 q) ∧ w' = w := by
  go_enter Tryz.func35, Tryz.ntmps35
  go_wp2
  go_loopw [1, 5] (fun p i wr => i = .int .i64 0 ∧ p = .int .i64 q ∧ wr = w) (fun _ _ _ => 0)
  case atStart => exact ⟨rfl, rfl, rfl⟩
  case round =>
    obtain ⟨rfl, rfl, rfl⟩ := hrel
    go_wp2
    go_ret
    exact ⟨rfl, rfl⟩

/-- Windows marked: their marks are found as long as nothing writes there. -/
def MHeld (b k0 n : Nat) (v : Value) (X : Nat → Wn) (w' : World) : Prop := ∀ W, Below w'.heap.size w' W → Calls Tryz.prog 35 #[v, .int .i64 k0] W fun e w'' => e = .returned (.int .i64 (kOWi X k0 n : Int)) ∧ Below W.heap.size W w''

theorem markBA (v : Value) (base top n k0 : Nat) (X : Nat → Wn) (w : World) (h : BA w base top v n X) (hk0 : 1 ≤ k0) (hk1 : k0 ≤ 4398046511104) (hz : WiSize n X) (hn : n ≤ 1048576) :
    Calls Tryz.prog 33 #[v, .int .i64 k0] w fun e w' => e = .returned (.int .i64 (kOWi X k0 n : Int)) ∧ MHeld 0 k0 n v X w' ∧ Rng base top w w' := by
  rcases h.2 with ⟨rfl, lo, lc, rfl⟩ | ⟨g, cap, A0, A1, K0, K1, G, rfl, h1, h2, h3, h4, h5⟩
  · refine (markW_zero lo lc k0 w).mono ?_
    rintro e w' ⟨rfl, rfl⟩
    refine ⟨rfl, fun W hW => ?_, Rng.refl _ _ _⟩
    refine (heldW_zero lo lc k0 W).mono ?_
    rintro e w'' ⟨rfl, rfl⟩
    exact ⟨rfl, Below.refl _ _⟩
  · refine (markWinS_any g n cap k0 X A0 A1 K0 K1 G base top w h3 ⟨h1, h2⟩ h4 h5 hk0 hk1 hz hn).mono ?_
    rintro e w' ⟨rfl, hc, hr⟩
    exact ⟨rfl, fun W hW => heldWinS_yes g n cap k0 X A0 A1 K0 K1 G W (hc.keep hW) hk0 hk1 hz hn, hr⟩

set_option maxHeartbeats 800000 in
theorem markBoard_any (z h mk : Int) (v : Value) (base top n k0 : Nat) (X : Nat → Wn) (w : World) (hA : BA w base top v n X) (hk0 : 1 ≤ k0) (hk1 : k0 ≤ 4398046511104) (hz : WiSize n X) (hn : n ≤ 1048576) :
    Calls Tryz.prog 12 #[.agg #[.int .i64 z, .int .i64 h, .int .i64 mk, v], .int .i64 k0] w fun e w' => e = .returned (.int .i64 (kOWi X k0 n : Int)) ∧ MHeld 0 k0 n v X w' ∧ Rng base top w w' := by
  have hB := below_new w (.cells #[.int .i64 z, .int .i64 h, .int .i64 mk, v] 32)
  have hm := markBA v base top n k0 X _ (hA.keep hB) hk0 hk1 hz hn
  obtain ⟨lo, lc, rfl⟩ := hA.form
  go_enter Tryz.func12, Tryz.ntmps12
  go_wp2_with fail
  refine hm.mono ?_
  rintro e w1 ⟨rfl, h1, h2⟩
  have H1 : Hid (MHeld 0 k0 n (.slice lo n lc) X w1) := h1
  have h3 := (Rng.of_below (lo := base) (hi := top) hB).trans h2
  clear h1 h2 hm
  go_wp2
  go_ret
  exact ⟨rfl, H1.out, h3⟩

set_option maxHeartbeats 800000 in
theorem heldBoard_yes (z h mk : Int) (v : Value) (n k0 : Nat) (X : Nat → Wn) (w W : World) (hv : ∃ lo lc, v = .slice lo n lc) (hm : MHeld 0 k0 n v X w) (hW : Below w.heap.size w W) :
    Calls Tryz.prog 14 #[.agg #[.int .i64 z, .int .i64 h, .int .i64 mk, v], .int .i64 k0] W fun e w' => e = .returned (.int .i64 (kOWi X k0 n : Int)) ∧ Below W.heap.size W w' := by
  have hB := below_new W (.cells #[.int .i64 z, .int .i64 h, .int .i64 mk, v] 32)
  have hh := hm _ (hW.trans (hB.mono hW.size))
  obtain ⟨lo, lc, rfl⟩ := hv
  have hneg : decide (((kOWi X k0 n : Nat) : Int) < 0) = false := decide_eq_false (by omega)
  generalize ((kOWi X k0 n : Nat) : Int) = q at *
  go_enter Tryz.func14, Tryz.ntmps14
  go_wp2_with fail
  refine hh.mono ?_
  rintro e w1 ⟨rfl, h1⟩
  have bw : Below W.heap.size W w1 := hB.trans (h1.mono (by simp))
  clear h1 hh hm
  go_wp2
  go_ret
  exact ⟨rfl, bw⟩
end Go.Proofs.YtaiigpffhcofpaaGreat
