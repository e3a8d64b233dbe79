/- Answers of windows and of keys whose memory is their own, told by a set of blocks. / A region that draws its order, walked in one order: what is held of the world is shown anew behind each operation but those that wait for the one that is taken first (so a region may write, at its end, what it read at its beginning). -/
import Derived.Test.YtflmbcgokiiedaaFr
import Derived.Test.YtflmbcgokiiedaaKc
import Derived.Test.YtflmbcgokiiedaaHw
import Derived.Test.YtflmbcgokiiedaaKh
import Derived.Test.YtflmbcgokiiedaaTe
import Derived.OrdersHeld
import Derived.StillTail
namespace Go.Proofs.Ytflmbcgokiiedaa
open Go.RowKit
set_option linter.unusedSimpArgs false
set_option linter.unusedVariables false

/-- Windows whose memory is the blocks of Q. -/
def BP (w : World) (Q : Nat → Prop) (v : Value) (n : Nat) (X : Nat → Wn) : Prop :=
  (∀ c, Q c → c < w.heap.size) ∧ ((n = 0 ∧ ∃ lo lc, v = .slice lo 0 lc) ∨ ∃ g cap A0 A1 K0 K1 G, v = .slice (some ⟨g, 0, none⟩) n cap ∧ Q g ∧ WiC w g n X A0 A1 K0 K1 G ∧ (∀ i, i < n → 0 < (X i).tn → Q (G (i * 2 + 0))) ∧ (∀ i, i < n → 0 < (X i).n → Q (G (i * 2 + 1))))
/-- Keys whose memory is the blocks of Q. -/
def KP (w : World) (Q : Nat → Prop) (v : Value) (n : Nat) (X : Nat → Wn) : Prop :=
  (∀ c, Q c → c < w.heap.size) ∧ ((n = 0 ∧ ∃ lo lc, v = .slice lo 0 lc) ∨ ∃ g cap A0 K0 G, v = .slice (some ⟨g, 0, none⟩) n cap ∧ Q g ∧ KeC w g n X A0 K0 G ∧ (∀ i, i < n → 0 < (X i).tn → Q (G (i * 1 + 0))))
section
variable {w w' : World} {Q R : Nat → Prop} {v : Value} {n : Nat} {X : Nat → Wn}
theorem BP.form (h : BP w Q v n X) : ∃ lo lc, v = .slice lo n lc := by
  rcases h.2 with ⟨rfl, lo, lc, e⟩ | ⟨g, cap, _, _, _, _, _, e, _⟩
  · exact ⟨lo, lc, e⟩
  · exact ⟨_, _, e⟩
theorem KP.form (h : KP w Q v n X) : ∃ lo lc, v = .slice lo n lc := by
  rcases h.2 with ⟨rfl, lo, lc, e⟩ | ⟨g, cap, _, _, _, e, _⟩
  · exact ⟨lo, lc, e⟩
  · exact ⟨_, _, e⟩
theorem BP.same (h : BP w Q v n X) (hs : w.heap.size ≤ w'.heap.size) (hb : ∀ c, Q c → w'.heap[c]? = w.heap[c]?) : BP w' Q v n X := by
  refine ⟨fun c hc => Nat.lt_of_lt_of_le (h.1 c hc) hs, ?_⟩
  rcases h.2 with h0 | ⟨g, cap, A0, A1, K0, K1, G, e1, h1, h3, h4, h5⟩
  · exact .inl h0
  · exact .inr ⟨g, cap, A0, A1, K0, K1, G, e1, h1, h3.same hs (hb g h1) (fun i hi hp => hb _ (h4 i hi hp)) (fun i hi hp => hb _ (h5 i hi hp)), h4, h5⟩
theorem KP.same (h : KP w Q v n X) (hs : w.heap.size ≤ w'.heap.size) (hb : ∀ c, Q c → w'.heap[c]? = w.heap[c]?) : KP w' Q v n X := by
  refine ⟨fun c hc => Nat.lt_of_lt_of_le (h.1 c hc) hs, ?_⟩
  rcases h.2 with h0 | ⟨g, cap, A0, K0, G, e1, h1, h3, h4⟩
  · exact .inl h0
  · exact .inr ⟨g, cap, A0, K0, G, e1, h1, KeC.same h3 hs (hb g h1) (fun i hi hp => hb _ (h4 i hi hp)), h4⟩
theorem BP.keep (h : BP w Q v n X) (hb : Below w.heap.size w w') : BP w' Q v n X := h.same hb.size (fun c hc => hb.block c (h.1 c hc))
theorem KP.keep (h : KP w Q v n X) (hb : Below w.heap.size w w') : KP w' Q v n X := h.same hb.size (fun c hc => hb.block c (h.1 c hc))
theorem BP.frm (h : BP w Q v n X) (hf : Frm R w w') (hd : ∀ c, Q c → ¬ R c) : BP w' Q v n X := h.same hf.size (fun c hc => hf.block c (h.1 c hc) (hd c hc))
theorem KP.frm (h : KP w Q v n X) (hf : Frm R w w') (hd : ∀ c, Q c → ¬ R c) : KP w' Q v n X := h.same hf.size (fun c hc => hf.block c (h.1 c hc) (hd c hc))
theorem WiC.congrP {b : Nat} {X' : Nat → Wn} {A0 A1 : Nat → Option Addr} {K0 K1 G : Nat → Nat} (h : WiC w b n X A0 A1 K0 K1 G) (e : ∀ i, i < n → X i = X' i) : WiC w b n X' A0 A1 K0 K1 G :=
  ⟨h.lt, fun i hi => by rw [← e i hi]; exact h.ent i hi, h.free, fun i hi => by rw [← e i hi]; exact h.l0 i hi, fun i hi => by rw [← e i hi]; exact h.l1 i hi, h.dis⟩
theorem BP.congr {X' : Nat → Wn} (h : BP w Q v n X) (e : ∀ i, i < n → X i = X' i) : BP w Q v n X' := by
  refine ⟨h.1, ?_⟩
  rcases h.2 with h0 | ⟨g, cap, A0, A1, K0, K1, G, e1, h1, h3, h4, h5⟩
  · exact .inl h0
  · exact .inr ⟨g, cap, A0, A1, K0, K1, G, e1, h1, h3.congrP e, fun i hi hp => h4 i hi (by rw [e i hi]; exact hp), fun i hi hp => h5 i hi (by rw [e i hi]; exact hp)⟩
theorem BP.row {lo : Option Addr} {m lc : Nat} (h : BP w Q (.slice lo m lc) n X) (hbd : ∀ i, i < n → WiB (X i)) (hf : FBw n X) : WiRow w lo n X := by
  rcases h.2 with ⟨rfl, _⟩ | ⟨g, cap, A0, A1, K0, K1, G, e, h1, h3, h4, h5⟩
  · exact ⟨hbd, .inl rfl⟩
  · injection e with e1 e2 e3
    subst e1
    refine ⟨hbd, .inr ⟨g, 0, rfl, h3.lt, fun i hi => ⟨A0 i, A1 i, K0 i, K1 i, by rw [Nat.zero_add]; exact h3.ent i hi, ?_, ?_⟩⟩⟩
    · by_cases h0 : (X i).tn = 0
      · exact ⟨.inl h0⟩
      · obtain ⟨e1, _, e3⟩ := h3.l0 i hi (by omega)
        rw [e1]; exact e3.row
    · by_cases h0 : (X i).n = 0
      · exact ⟨hf i hi, .inl h0⟩
      · obtain ⟨e1, _, e3⟩ := h3.l1 i hi (by omega)
        rw [e1]; exact e3.row
theorem KP.row {lo : Option Addr} {m lc : Nat} (h : KP w Q (.slice lo m lc) n X) : KeRow w lo n X := by
  rcases h.2 with ⟨rfl, _⟩ | ⟨g, cap, A0, K0, G, e, h1, h3, h4⟩
  · exact ⟨.inl rfl⟩
  · injection e with e1 e2 e3
    subst e1
    refine ⟨.inr ⟨g, 0, rfl, h3.lt, fun i hi => ⟨A0 i, K0 i, by rw [Nat.zero_add]; exact h3.ent i hi, ?_⟩⟩⟩
    by_cases h0 : (X i).tn = 0
    · exact ⟨.inl h0⟩
    · obtain ⟨e1, _, e3⟩ := h3.l0 i hi (by omega)
      rw [e1]; exact e3.row
end
theorem mAWi_len' (X : Nat → Wn) (k0 m i : Nat) : (mAWi X k0 m i).tn = (X i).tn ∧ (mAWi X k0 m i).n = (X i).n := by unfold mAWi; split <;> exact ⟨rfl, rfl⟩
theorem mAKe_len (X : Nat → Wn) (k0 m i : Nat) : (mAKe X k0 m i).tn = (X i).tn := by unfold mAKe; split <;> rfl
theorem markK_none (ao : Option Addr) (cap : Nat) (q : Int) (w : World) :
    Calls Try.prog 19 #[.slice ao 0 cap, .int .i64 q] w fun e w' => e = .returned (.int .i64 q) ∧ w' = w := by
  go_enter Try.func19, Try.ntmps19
  go_wp2
  go_loopw [1, 5] (fun p i wr => i = .int .i64 0 ∧ p = .int .i64 q ∧ wr = w) (fun _ _ _ => 0)
  case atStart => exact ⟨rfl, rfl, rfl⟩
  case round =>
    obtain ⟨rfl, rfl, rfl⟩ := hrel
    go_wp2
    go_ret
    exact ⟨rfl, rfl⟩
theorem heldK_none (ao : Option Addr) (cap : Nat) (q : Int) (w : World) :
    Calls Try.prog 20 #[.slice ao 0 cap, .int .i64 q] w fun e w' => e = .returned (.int .i64 q) ∧ w' = w := by
  go_enter Try.func20, Try.ntmps20
  go_wp2
  go_loopw [1, 5] (fun p i wr => i = .int .i64 0 ∧ p = .int .i64 q ∧ wr = w) (fun _ _ _ => 0)
  case atStart => exact ⟨rfl, rfl, rfl⟩
  case round =>
    obtain ⟨rfl, rfl, rfl⟩ := hrel
    go_wp2
    go_ret
    exact ⟨rfl, rfl⟩
theorem markBP (v : Value) (Q : Nat → Prop) (n k0 : Nat) (X : Nat → Wn) (w : World) (h : BP w Q v n X) (hk0 : 1 ≤ k0) (hk1 : k0 ≤ 4398046511104) (hz : WiSize n X) (hn : n ≤ 1048576) :
    Calls Try.prog 43 #[v, .int .i64 k0] w fun e w' => e = .returned (.int .i64 (kOWi X k0 n : Int)) ∧ BP w' Q v n (mAWi X k0 n) ∧ Frm Q w w' := by
  have ht := h.1
  rcases h.2 with ⟨rfl, lo, lc, rfl⟩ | ⟨g, cap, A0, A1, K0, K1, G, rfl, h1, h3, h4, h5⟩
  · refine (markW_zero lo lc k0 w).mono ?_
    rintro e w' ⟨rfl, rfl⟩
    exact ⟨rfl, ⟨ht, .inl ⟨rfl, lo, lc, rfl⟩⟩, Frm.refl _ _⟩
  · refine (markWinS_frm g n cap k0 X A0 A1 K0 K1 G Q w h3 h1 h4 h5 hk0 hk1 hz hn).mono ?_
    rintro e w' ⟨rfl, hc, hr⟩
    exact ⟨rfl, ⟨fun c hc' => Nat.lt_of_lt_of_le (ht c hc') hr.size, .inr ⟨g, cap, A0, A1, K0, K1, G, rfl, h1, hc, fun i hi hp => h4 i hi (by rw [(mAWi_len' _ _ _ _).1] at hp; exact hp), fun i hi hp => h5 i hi (by rw [(mAWi_len' _ _ _ _).2] at hp; exact hp)⟩⟩, hr⟩
theorem heldBP (v : Value) (Q : Nat → Prop) (n k0 : Nat) (X : Nat → Wn) (w : World) (h : BP w Q v n (mAWi X k0 n)) (hk0 : 1 ≤ k0) (hk1 : k0 ≤ 4398046511104) (hz : WiSize n X) (hn : n ≤ 1048576) :
    Calls Try.prog 47 #[v, .int .i64 k0] w fun e w' => e = .returned (.int .i64 (kOWi X k0 n : Int)) ∧ Below w.heap.size w w' := by
  rcases h.2 with ⟨rfl, lo, lc, rfl⟩ | ⟨g, cap, A0, A1, K0, K1, G, rfl, h1, h3, h4, h5⟩
  · refine (heldW_zero lo lc k0 w).mono ?_
    rintro e w' ⟨rfl, rfl⟩
    exact ⟨rfl, Below.refl _ _⟩
  · exact heldWinS_yes g n cap k0 X A0 A1 K0 K1 G w h3 hk0 hk1 hz hn
theorem markKP (v : Value) (Q : Nat → Prop) (n k0 : Nat) (X : Nat → Wn) (w : World) (h : KP w Q v n X) (hk0 : 1 ≤ k0) (hk1 : k0 ≤ 4398046511104) (hz : KeSize n X) (hn : n ≤ 1048576) :
    Calls Try.prog 19 #[v, .int .i64 k0] w fun e w' => e = .returned (.int .i64 (kOKe X k0 n : Int)) ∧ KP w' Q v n (mAKe X k0 n) ∧ Frm Q w w' := by
  have ht := h.1
  rcases h.2 with ⟨rfl, lo, lc, rfl⟩ | ⟨g, cap, A0, K0, G, rfl, h1, h3, h4⟩
  · refine (markK_none lo lc k0 w).mono ?_
    rintro e w' ⟨rfl, rfl⟩
    exact ⟨rfl, ⟨ht, .inl ⟨rfl, lo, lc, rfl⟩⟩, Frm.refl _ _⟩
  · refine (markKeyS_any g n cap k0 X A0 K0 G Q w h3 h1 h4 hk0 hk1 hz hn).mono ?_
    rintro e w' ⟨rfl, hc, hr⟩
    exact ⟨rfl, ⟨fun c hc' => Nat.lt_of_lt_of_le (ht c hc') hr.size, .inr ⟨g, cap, A0, K0, G, rfl, h1, hc, fun i hi hp => h4 i hi (by rw [mAKe_len] at hp; exact hp)⟩⟩, hr⟩
theorem heldKP (v : Value) (Q : Nat → Prop) (n k0 : Nat) (X : Nat → Wn) (w : World) (h : KP w Q v n (mAKe X k0 n)) (hk0 : 1 ≤ k0) (hk1 : k0 ≤ 4398046511104) (hz : KeSize n X) (hn : n ≤ 1048576) :
    Calls Try.prog 20 #[v, .int .i64 k0] w fun e w' => e = .returned (.int .i64 (kOKe X k0 n : Int)) ∧ Below w.heap.size w w' := by
  rcases h.2 with ⟨rfl, lo, lc, rfl⟩ | ⟨g, cap, A0, K0, G, rfl, h1, h3, h4⟩
  · refine (heldK_none lo lc k0 w).mono ?_
    rintro e w' ⟨rfl, rfl⟩
    exact ⟨rfl, Below.refl _ _⟩
  · exact heldKeyS_yes g n cap k0 X A0 K0 G w h3 hk0 hk1 hz hn
/-- The blocks of windows that were gathered. -/
def QW (v : Value) (V : Nat → Value) (n : Nat) (c : Nat) : Prop := v.ownBlock = some c ∨ ∃ p, p < n * 2 ∧ (V p).ownBlock = some c
theorem bp_of {w : World} {base : Nat} {v : Value} {n : Nat} {X : Nat → Wn} {V : Nat → Value} (h : OutW w base v n X V) (hf : FBw n X) : BP w (QW v V n) v n X := by
  refine ⟨fun c hc => ?_, ?_⟩
  · rcases hc with hc | ⟨p, hp, hc⟩
    · exact (World.ownsRow.lt h.own c hc).2
    · exact (h.lt hp hc).2
  · by_cases h0 : n = 0
    · subst h0
      obtain ⟨lo, lc, e⟩ := ownsRow_form h.own
      exact .inl ⟨rfl, lo, lc, e⟩
    · obtain ⟨g, cap, e, _, _, _, hC, _, _⟩ := h.wic hf (by omega)
      refine .inr ⟨g, cap, _, _, _, _, _, e, .inl (by rw [e]; rfl), hC, fun i hi hp => ?_, fun i hi hp => ?_⟩
      · obtain ⟨q, c, e1, _, _⟩ := (h.r0 i hi).own hp
        have eg : gOf w.heap.size V (i * 2 + 0) = q := by unfold gOf; rw [e1]; rfl
        rw [eg]
        exact .inr ⟨i * 2 + 0, by omega, by rw [e1]; rfl⟩
      · obtain ⟨q, c, e1, _, _⟩ := (h.r1 i hi).own (hf i hi) hp
        have eg : gOf w.heap.size V (i * 2 + 1) = q := by unfold gOf; rw [e1]; rfl
        rw [eg]
        exact .inr ⟨i * 2 + 1, by omega, by rw [e1]; rfl⟩
/-- The blocks of keys that were gathered. -/
def QK (v : Value) (V : Nat → Value) (L : List Nat) (c : Nat) : Prop := v.ownBlock = some c ∨ ∃ i, i ∈ L ∧ (V (i * 2 + 0)).ownBlock = some c
theorem kf_get (f : Nat → Wn) (h : Nat → Value) : ∀ (n i q : Nat), i < n → q < 3 → ((List.range n).flatMap fun i => kcells (f i) (h i))[i * 3 + q]? = (kcells (f i) (h i))[q]?
  | 0, i, q, hi, _ => by omega
  | n + 1, i, q, hi, hq => by
    have hl : ∀ m, ((List.range m).flatMap fun i => kcells (f i) (h i)).length = m * 3 := fun m => by
      induction m with
      | zero => rfl
      | succ m ih => rw [List.range_succ, List.flatMap_append, List.length_append, ih]; simp [kcells]; omega
    rw [List.range_succ, List.flatMap_append]
    by_cases e : i < n
    · rw [List.getElem?_append_left (by rw [hl]; omega)]
      exact kf_get f h n i q e hq
    · obtain rfl : i = n := by omega
      rw [List.getElem?_append_right (by rw [hl]; omega), hl]
      simp
theorem kp_of {w : World} {base b2 n : Nat} {v v0 : Value} {X : Nat → Wn} {V : Nat → Value} {L : List Nat} (h : RK w b2 v X V L) (hO : OutW w base v0 n X V) (hL : ∀ i ∈ L, i < n) (hd : L.Nodup) (hl : ∀ p k, p < n * 2 → (V p).ownBlock = some k → k < b2) :
    KP w (QK v V L) v L.length (fun j => X (L.getD j 0)) := by
  have hm : ∀ j, j < L.length → L.getD j 0 ∈ L := fun j hj => by
    rw [List.getD_eq_getElem?_getD, List.getElem?_eq_getElem hj]
    exact List.getElem_mem hj
  have hi : ∀ j, j < L.length → L.getD j 0 < n := fun j hj => hL _ (hm j hj)
  have hinj : ∀ j j', j < L.length → j' < L.length → L.getD j 0 = L.getD j' 0 → j = j' := fun j j' hj hj' e => by
    rw [List.getD_eq_getElem?_getD, List.getD_eq_getElem?_getD, List.getElem?_eq_getElem hj, List.getElem?_eq_getElem hj'] at e
    exact nodup_inj hd hj hj' (by simpa using e)
  have ho : w.ownsRow b2 49 3 v L.length (L.flatMap fun i => kcells (X i) (V (i * 2 + 0))) := h
  refine ⟨fun c hc => ?_, ?_⟩
  · rcases hc with hc | ⟨i, him, hc⟩
    · exact (World.ownsRow.lt ho c hc).2
    · exact (hO.lt (by have := hL i him; omega) hc).2
  · by_cases h0 : L.length = 0
    · obtain ⟨lo, lc, e⟩ := ownsRow_form ho
      rw [h0] at e
      exact .inl ⟨h0, lo, lc, e⟩
    · rcases ho.2 with ⟨_, h1⟩ | ⟨g, cap, cur, ev, hbg, hg, hnc, _⟩
      · omega
      have hlt := (Array.getElem?_eq_some_iff.1 hg).1
      have k0 : ∀ j, j < L.length → 0 < (X (L.getD j 0)).tn → ∃ q c, V (L.getD j 0 * 2 + 0) = .slice (some ⟨q, 0, none⟩) (X (L.getD j 0)).tn c ∧ base ≤ q ∧ TOwn w q (X (L.getD j 0)).tn (X (L.getD j 0)).tn (X (L.getD j 0)).nm (X (L.getD j 0)).vl := fun j hj hp => (hO.r0 _ (hi j hj)).own hp
      have gq : ∀ (j q : Nat) (c m : Nat), V (L.getD j 0 * 2 + 0) = .slice (some ⟨q, 0, none⟩) m c → gOf w.heap.size (fun j => V (L.getD j 0 * 2 + 0)) j = q := fun j q c m e => by
        unfold gOf; simp only [e]; rfl
      refine .inr ⟨g, cap, fun j => adOf (V (L.getD j 0 * 2 + 0)), fun j => cpOf (V (L.getD j 0 * 2 + 0)), fun p => gOf w.heap.size (fun j => V (L.getD j 0 * 2 + 0)) p, ev, .inl (by rw [ev]; rfl), ⟨hlt, fun j hj => ?_, fun j hj => ?_, fun j hj hp => ?_, fun p p' hp hp' hne => ?_⟩, fun j hj hp => ?_⟩
      · have c : ∀ q, q < 3 → w.cell? ⟨g, j * 3 + q, none⟩ = (kcells (X (L.getD j 0)) (V (L.getD j 0 * 2 + 0)))[q]? := fun q hq => by
          have ho2 := ho
          rw [ev, flat_range] at ho2
          exact (World.ownsRow.cellAt ho2 (j * 3 + q) (by omega)).trans (kf_get (fun j => X (L.getD j 0)) (fun j => V (L.getD j 0 * 2 + 0)) L.length j q hj hq)
        obtain ⟨a0, c0, e0⟩ := ownsRow_form (hO.r0 _ (hi j hj))
        simp only [e0, kcells, adOf, cpOf] at c ⊢
        exact ⟨hlt, c 0 (by omega), c 1 (by omega), c 2 (by omega)⟩
      · have ho2 := ho
        rw [ev] at ho2
        exact World.ownsRow.frozenAt ho2 j
      · obtain ⟨q, c, e, h1, h2⟩ := k0 j hj hp
        rw [show j * 1 + 0 = j by omega, gq j q c _ e]
        refine ⟨by simp only [e, adOf], fun hq => ?_, h2⟩
        have h3 := hl (L.getD j 0 * 2 + 0) q (by have := hi j hj; omega) (by rw [e]; rfl)
        omega
      · rw [Nat.mul_one] at hp hp'
        show gOf w.heap.size (fun j => V (L.getD j 0 * 2 + 0)) p ≠ gOf w.heap.size (fun j => V (L.getD j 0 * 2 + 0)) p'
        unfold gOf
        dsimp only
        have q1 := hi p hp
        have q2 := hi p' hp'
        cases e1 : (V (L.getD p 0 * 2 + 0)).ownBlock with
        | none =>
          cases e2 : (V (L.getD p' 0 * 2 + 0)).ownBlock with
          | none => simp; omega
          | some k' => have := (hO.lt (show L.getD p' 0 * 2 + 0 < n * 2 by omega) e2).2; simp; omega
        | some k =>
          have := (hO.lt (show L.getD p 0 * 2 + 0 < n * 2 by omega) e1).2
          cases e2 : (V (L.getD p' 0 * 2 + 0)).ownBlock with
          | none => simp; omega
          | some k' =>
            intro e
            have ek : k = k' := by simpa using e
            subst ek
            refine hO.dis (L.getD p 0 * 2 + 0) (L.getD p' 0 * 2 + 0) (by omega) (by omega) (fun e3 => hne (hinj _ _ hp hp' (by omega))) k e1 e2
      · obtain ⟨q, c, e, h1, h2⟩ := k0 j hj hp
        show QK v V L (gOf w.heap.size (fun j => V (L.getD j 0 * 2 + 0)) (j * 1 + 0))
        rw [show j * 1 + 0 = j by omega, gq j q c _ e]
        exact .inr ⟨_, hm j hj, by rw [e]; rfl⟩
end Go.Proofs.Ytflmbcgokiiedaa
namespace Go.Proofs.Ytflmbcgokiiedaa
open Go.RowKit
set_option linter.unusedSimpArgs false
set_option linter.unusedVariables false

section
variable {P : Program} {ops : Array Oper} {Q : Exit → Act → World → Prop} {md : Region.Mode} {S : World → Prop} {W : Nat → Bool}

/-- Whatever order comes up; S is shown behind the operations that W names. -/
def wpW (P : Program) (md : Region.Mode) (ops : Array Oper) (Q : Exit → Act → World → Prop) (S : World → Prop) (W : Nat → Bool) : Nat → Array Bool → Act → World → Prop
  | 0, L, a, w => Region.ready md ops L = [] ∧ Q .normal a w
  | f + 1, L, a, w => (Region.ready md ops L = [] → Q .normal a w) ∧ ∀ j ∈ Region.ready md ops L, wpOp P ops Q j (fun a' w' => (W j = true → S w') ∧ wpW P md ops Q S W f (L.setIfInBounds j true) a' w') a w

theorem wpW_any : ∀ (f : Nat) (L : Array Bool) (a : Act) (w : World), wpW P md ops Q S W f L a w → wpAny P md ops Q f L a w
  | 0, _, _, _, h => h
  | f + 1, L, a, w, h => ⟨h.1, fun j hj => wpOp_mono (fun a' w' h' => wpW_any f _ a' w' h'.2) (h.2 j hj)⟩

/-- One that may come up is taken first: it yields its value in every world that meets S, and each other one waits for it, or lies apart from it and leaves S. -/
theorem wpW_first {i : Nat} {oi : Oper} {v : Value} (hi : ops[i]? = some oi) (hsel : ∀ (j : Nat) (o : Oper) cs b, ops[j]? = some o → o.op ≠ .select cs b)
    (hQ : ∀ c a w, Q (.panic c) (a.put oi.dst v) w → Q (.panic c) a w) (hW : ∀ j, j < ops.size → W j = false → Region.waitsFor md ops j i = true) :
    ∀ (f : Nat) (L : Array Bool) (a : Act) (w : World),
      (∀ j oj, ops[j]? = some oj → j ≠ i → L.getD j true = false → (∀ e ∈ oj.after, Region.binds md e = true → e.on ≠ i) → oi.apart ops oj = true) →
      i ∈ Region.ready md ops L → YieldsIf P ops S oi v a → S w → wpW P md ops Q S W f (L.setIfInBounds i true) (a.put oi.dst v) w → wpW P md ops Q S W (f + 1) L a w
  | 0, L, a, w, _, hr, hy, hS, H => by
    refine ⟨fun h0 => (by rw [h0] at hr; cases hr), fun j hj => ?_⟩
    by_cases e : j = i
    · subst e
      exact hy.wpOp hi hS ⟨fun _ => hS, H⟩
    · have h1 := ready_mono hj e
      rw [H.1] at h1
      cases h1
  | f + 1, L, a, w, hfree, hr, hy, hS, H => by
    refine ⟨fun h0 => (by rw [h0] at hr; cases hr), fun j hj => ?_⟩
    by_cases e : j = i
    · subst e
      exact hy.wpOp hi hS ⟨fun _ => hS, H⟩
    obtain ⟨hjun, oj, hoj, hall⟩ := mem_ready.1 hj
    have hjl : j < ops.size := (Array.getElem?_eq_some_iff.1 hoj).1
    have hun := (mem_ready.1 hr).1
    have hnw : ∀ ed ∈ oj.after, Region.binds md ed = true → ed.on ≠ i := by
      intro ed he hb heq
      have h1 := hall ed he hb
      rw [heq] at h1
      have h2 := getD_both hun
      rw [h2] at h1
      cases h1
    have hWj : W j = true := by
      cases hc : W j with
      | true => rfl
      | false =>
        obtain ⟨o', ho', ed, he, hb, hon⟩ := Region.waitsFor_spec (hW j hjl hc)
        rw [hoj] at ho'
        injection ho' with ho'
        subst ho'
        exact absurd hon (hnw ed he hb)
    have h2 := wpOp_putIf hoj (hfree j oj hoj e hjun hnw) (fun cs b => hsel i oi cs b hi) (fun cs b => hsel j oj cs b hoj) hQ hy (H.2 j (ready_mono hj e))
    refine wpOp_mono (fun a' w' h3 => ?_) h2
    have hS' := h3.2.1 hWj
    refine ⟨fun _ => hS', wpW_first hi hsel hQ hW f (L.setIfInBounds j true) a' w' (fun k ok hk hki hku hno => ?_) (ready_mono hr (Ne.symm e)) h3.1 hS' ?_⟩
    · refine hfree k ok hk hki ?_ hno
      by_cases ejk : j = k
      · subst ejk; exact hjun
      · rw [getD_set_ne true ejk] at hku; exact hku
    · rw [Array.setIfInBounds_comm _ _ e]
      exact h3.2.2

/-- Number i taken first. -/
theorem wpW_take (i : Nat) (oi : Oper) (v : Value) {f : Nat} {L : Array Bool} {a : Act} {w : World} (hi : ops[i]? = some oi) (hs : Region.noSelect ops = true) (hf : Region.free md ops L i = true) (hr : (Region.ready md ops L).contains i = true)
    (hQ : ∀ c a w, Q (.panic c) (a.put oi.dst v) w → Q (.panic c) a w) (hW : ((List.range ops.size).all fun j => W j || Region.waitsFor md ops j i) = true) (hy : YieldsIf P ops S oi v a) (hS : S w)
    (h : wpW P md ops Q S W f (L.setIfInBounds i true) (a.put oi.dst v) w) : wpW P md ops Q S W (f + 1) L a w :=
  wpW_first hi (Region.noSelect_spec hs) hQ (fun j hj hw => by
    have := List.all_eq_true.1 hW j (List.mem_range.2 hj)
    rw [hw] at this
    simpa using this) f L a w (Region.free_spec hi hf) (by simpa using hr) hy hS h
/-- The only one that may come up. -/
theorem wpW_one (i : Nat) (oi : Oper) {f : Nat} {L : Array Bool} {a : Act} {w : World} (hi : ops[i]? = some oi) (hr : Region.ready md ops L = [i])
    (h : if Region.wanted oi (yielded ops a.tmps) = true then Oper.wp P oi a w (fun a' w' => (W i = true → S w') ∧ wpW P md ops Q S W f (L.setIfInBounds i true) a' w') Q else False) : wpW P md ops Q S W (f + 1) L a w := by
  refine ⟨fun h0 => (by rw [hr] at h0; cases h0), fun j hj => ?_⟩
  rw [hr] at hj
  obtain rfl := List.mem_singleton.1 hj
  unfold wpOp
  rw [hi]
  dsimp only
  by_cases hw : Region.wanted oi (yielded ops a.tmps) = true
  · rw [if_pos hw] at h ⊢
    exact .inl h
  · rw [if_neg hw] at h
    exact h.elim
theorem wpW_done {f : Nat} {L : Array Bool} {a : Act} {w : World} (hr : Region.ready md ops L = []) (h : Q .normal a w) : wpW P md ops Q S W f L a w := by
  cases f with
  | zero => exact ⟨hr, h⟩
  | succ f => exact ⟨fun _ => h, fun j hj => by rw [hr] at hj; cases hj⟩
theorem wp_region_w (S : World → Prop) (W : Nat → Bool) {id : Nat} {a : Act} {w : World} (hm : P.follows .mixedOrders = true)
    (h : wpW P .any ops Q S W ops.size (Array.replicate ops.size false) a { w with drawn := w.drawn + 1 }) : (Code.region id ops true).wp P Q a w :=
  wp_region_any hm (wpW_any _ _ _ _ h)
end
end Go.Proofs.Ytflmbcgokiiedaa
