/- Told windows gathered by append, and answers of them whose memory is their own (made by told.py). -/
import Derived.Test.YtjdijikmdlklkaaWb
import Derived.Test.YtjdijikmdlklkaaCx
namespace Go.Proofs.Ytjdijikmdlklkaa
open Go.RowKit
set_option linter.unusedSimpArgs false
set_option linter.unusedVariables false

/-- A told window's cells, its lists told. -/
def tlcells (x : Wn) (h0 h1 : Value) : List Value := [.string x.m, h0, .int .i64 x.st, .int .i64 x.ver, .int .i64 x.c, .int .i64 x.s, .int .i64 x.lo, .int .i64 x.hi, h1, .bool x.fu]
/-- v is a slice of the call's own of n told windows X, their lists V of the call's own too, all apart. -/
structure OutT (w : World) (base : Nat) (v : Value) (n : Nat) (X : Nat → Wn) (V : Nat → Value) : Prop where
  own : w.ownsRow base 45 10 v n ((List.range n).flatMap fun i => tlcells (X i) (V (i * 2 + 0)) (V (i * 2 + 1)))
  r0 : ∀ i, i < n → TV w base (V (i * 2 + 0)) (X i)
  r1 : ∀ i, i < n → HV w base (V (i * 2 + 1)) (X i)
  dis : ∀ p p', p < n * 2 → p' < n * 2 → p ≠ p' → ∀ k, (V p).ownBlock = some k → (V p').ownBlock ≠ some k
  apart : ∀ p, p < n * 2 → ∀ k, (V p).ownBlock = some k → v.ownBlock ≠ some k
theorem outT_nil (w : World) (base : Nat) (X : Nat → Wn) : OutT w base (.slice none 0 0) 0 X (fun _ => .slice none 0 0) :=
  ⟨World.ownsRow_nil _ _ _ _, fun i hi => absurd hi (Nat.not_lt_zero _), fun i hi => absurd hi (Nat.not_lt_zero _), fun i j hi => absurd hi (by omega), fun i hi => absurd hi (by omega)⟩
theorem OutT.keep {w w' : World} {base : Nat} {v : Value} {n : Nat} {X : Nat → Wn} {V : Nat → Value} (h : OutT w base v n X V) (hb : Below w.heap.size w w') : OutT w' base v n X V :=
  ⟨ownsRow_keep h.own hb, fun i hi => ownsRow_keep (h.r0 i hi) hb, fun i hi => ownsRow_keep (h.r1 i hi) hb, h.dis, h.apart⟩
theorem OutT.lt {w : World} {base : Nat} {v : Value} {n : Nat} {X : Nat → Wn} {V : Nat → Value} (h : OutT w base v n X V) {p k : Nat} (hp : p < n * 2) (hk : (V p).ownBlock = some k) : base ≤ k ∧ k < w.heap.size := by
  rcases Nat.mod_two_eq_zero_or_one p with hm | hm
  · have e : p = p / 2 * 2 + 0 := by omega
    rw [e] at hk
    exact (h.r0 (p / 2) (by omega)).lt k hk
  · have e : p = p / 2 * 2 + 1 := by omega
    rw [e] at hk
    exact (h.r1 (p / 2) (by omega)).lt k hk
/-- What lies on, where others are written. -/
theorem OutT.others {w w' : World} {base d : Nat} {v : Value} {n : Nat} {X : Nat → Wn} {V : Nat → Value} (h : OutT w base v n X V) (ho : Others d w w') (hd : d < base) : OutT w' base v n X V := by
  have ne : ∀ (u : Value) (e size m : Nat) (xs : List Value), w.ownsRow base e size u m xs → u.ownBlock ≠ some d := fun u e size m xs hu hk => by have := (hu.lt d hk).1; omega
  exact ⟨ownsRow_others h.own ho (ne _ _ _ _ _ h.own), fun i hi => ownsRow_others (h.r0 i hi) ho (ne _ _ _ _ _ (h.r0 i hi)), fun i hi => ownsRow_others (h.r1 i hi) ho (ne _ _ _ _ _ (h.r1 i hi)), h.dis, h.apart⟩

theorem OutT.push {w w' : World} {base : Nat} {v v' h0 h1 : Value} {n : Nat} {X : Nat → Wn} {V : Nat → Value} {x : Wn} (h : OutT w base v n X V) (hx0 : TV w base h0 x) (hx1 : HV w base h1 x)
    (hd0 : ∀ k, h0.ownBlock = some k → v.ownBlock ≠ some k ∧ ∀ p, p < n * 2 → (V p).ownBlock ≠ some k) (hd1 : ∀ k, h1.ownBlock = some k → v.ownBlock ≠ some k ∧ (∀ p, p < n * 2 → (V p).ownBlock ≠ some k) ∧ h0.ownBlock ≠ some k)
    (ho : w'.ownsRow base 45 10 v' (n + 1) (((List.range n).flatMap fun i => tlcells (X i) (V (i * 2 + 0)) (V (i * 2 + 1))) ++ tlcells x h0 h1)) (hg : w.grownBy w' v.ownBlock) (ha : v'.ownBlock = v.ownBlock ∨ v'.ownBlock = some w.heap.size) :
    OutT w' base v' (n + 1) (upTo X n x) (vPut V n h0 h1) := by
  have v0 : vPut V n h0 h1 (n * 2 + 0) = h0 := by simp [vPut]
  have v1 : vPut V n h0 h1 (n * 2 + 1) = h1 := by simp [vPut]
  have vo : ∀ p, p < n * 2 → vPut V n h0 h1 p = V p := fun p hp => by unfold vPut; rw [if_neg (by omega), if_neg (by omega)]
  have cs : ∀ p, p < (n + 1) * 2 → p < n * 2 ∨ p = n * 2 + 0 ∨ p = n * 2 + 1 := fun p hp => by omega
  refine ⟨?_, fun i hi => ?_, fun i hi => ?_, fun p p' hp hp' hne k h2 h3 => ?_, fun p hp k h2 h3 => ?_⟩
  · have e : ((List.range (n + 1)).flatMap fun i => tlcells (upTo X n x i) (vPut V n h0 h1 (i * 2 + 0)) (vPut V n h0 h1 (i * 2 + 1))) = ((List.range n).flatMap fun i => tlcells (X i) (V (i * 2 + 0)) (V (i * 2 + 1))) ++ tlcells x h0 h1 := by
      rw [List.range_succ, List.flatMap_append]
      congr 1
      · unfold List.flatMap
        congr 1
        refine List.map_congr_left fun i hi => ?_
        have := List.mem_range.1 hi
        rw [upTo_ne _ _ _ (by omega), vo _ (by omega), vo _ (by omega)]
      · simp only [List.flatMap_cons, List.flatMap_nil, List.append_nil]
        rw [upTo_at, v0, v1]
    rw [e]; exact ho
  · by_cases e : i = n
    · subst e; rw [upTo_at, v0]; exact ownsRow_kept hx0 hg (fun k hk hh => (hd0 k hh).1 hk)
    · rw [upTo_ne _ _ _ e, vo _ (by omega)]; exact ownsRow_kept (h.r0 i (by omega)) hg (fun k hk hh => h.apart _ (by omega) k hh hk)
  · by_cases e : i = n
    · subst e; rw [upTo_at, v1]; exact ownsRow_kept hx1 hg (fun k hk hh => (hd1 k hh).1 hk)
    · rw [upTo_ne _ _ _ e, vo _ (by omega)]; exact ownsRow_kept (h.r1 i (by omega)) hg (fun k hk hh => h.apart _ (by omega) k hh hk)
  · rcases cs p hp with q | rfl | rfl <;> rcases cs p' hp' with q' | rfl | rfl
    · rw [vo _ q] at h2; rw [vo _ q'] at h3; exact h.dis p p' q q' hne k h2 h3
    · rw [vo _ q] at h2; rw [v0] at h3; exact (hd0 k h3).2 p q h2
    · rw [vo _ q] at h2; rw [v1] at h3; exact (hd1 k h3).2.1 p q h2
    · rw [v0] at h2; rw [vo _ q'] at h3; exact (hd0 k h2).2 p' q' h3
    · exact hne rfl
    · rw [v0] at h2; rw [v1] at h3; exact (hd1 k h3).2.2 h2
    · rw [v1] at h2; rw [vo _ q'] at h3; exact (hd1 k h2).2.1 p' q' h3
    · rw [v1] at h2; rw [v0] at h3; exact (hd1 k h2).2.2 h3
    · exact hne rfl
  · have hlt : k < w.heap.size := by
      rcases cs p hp with q | rfl | rfl
      · rw [vo _ q] at h2; exact (h.lt q h2).2
      · rw [v0] at h2; exact (hx0.lt k h2).2
      · rw [v1] at h2; exact (hx1.lt k h2).2
    rcases ha with ha | ha
    · rw [ha] at h3
      rcases cs p hp with q | rfl | rfl
      · rw [vo _ q] at h2; exact h.apart p q k h2 h3
      · rw [v0] at h2; exact (hd0 k h2).1 h3
      · rw [v1] at h2; exact (hd1 k h2).1 h3
    · rw [ha] at h3; injection h3 with h3; omega

theorem ten_new (w : World) (x : Wn) (h0 h1 : Value) (T : Nat) : ∀ j u, (tlcells x h0 h1)[j]? = some u → (w.alloc (.cells #[.string x.m, h0, .int .i64 x.st, .int .i64 x.ver, .int .i64 x.c, .int .i64 x.s, .int .i64 x.lo, .int .i64 x.hi, h1, .bool x.fu] T)).cell? ((⟨w.heap.size, 0, none⟩ : Addr).add j) = some u := by
  intro j u hj
  have hlt : j < 10 := by
    have := (List.getElem?_eq_some_iff.1 hj).1
    simpa [tlcells] using this
  rw [show (⟨w.heap.size, 0, none⟩ : Addr).add j = ⟨w.heap.size, j, none⟩ from by unfold Addr.add; split <;> simp_all]
  rw [← hj]
  simp [go_sem, tlcells]

/-- One told window put behind, as an equation. -/
theorem pushT_run {w : World} {base : Nat} {v h0 h1 : Value} {n : Nat} {X : Nat → Wn} {V : Nat → Value} {x : Wn} (h : OutT w base v n X V) (hx0 : TV w base h0 x) (hx1 : HV w base h1 x)
    (hd0 : ∀ k, h0.ownBlock = some k → v.ownBlock ≠ some k ∧ ∀ p, p < n * 2 → (V p).ownBlock ≠ some k) (hd1 : ∀ k, h1.ownBlock = some k → v.ownBlock ≠ some k ∧ (∀ p, p < n * 2 → (V p).ownBlock ≠ some k) ∧ h0.ownBlock ≠ some k)
    (hn : n ≤ 1048576) (hbase : base ≤ w.heap.size) (ty : TypeId) :
    ∃ v' w', (Builtin.append_ #[24, 24] ty #[v, .slice (some ⟨w.heap.size, 0, none⟩) 1 1]).run Try.prog (w.alloc (.cells #[.string x.m, h0, .int .i64 x.st, .int .i64 x.ver, .int .i64 x.c, .int .i64 x.s, .int .i64 x.lo, .int .i64 x.hi, h1, .bool x.fu] 45)) = .ok v' w' ∧ OutT w' base v' (n + 1) (upTo X n x) (vPut V n h0 h1) ∧ (w.alloc (.cells #[.string x.m, h0, .int .i64 x.st, .int .i64 x.ver, .int .i64 x.c, .int .i64 x.s, .int .i64 x.lo, .int .i64 x.hi, h1, .bool x.fu] 45)).grownBy w' v.ownBlock := by
  obtain ⟨i0, hi, hz0, hz1, hz2⟩ := info_parts Try.infoTo
  have hB := below_new w (.cells #[.string x.m, h0, .int .i64 x.st, .int .i64 x.ver, .int .i64 x.c, .int .i64 x.s, .int .i64 x.lo, .int .i64 x.hi, h1, .bool x.fu] 45)
  obtain ⟨a0, c0, e0⟩ := ownsRow_form hx0
  obtain ⟨a1, c1, e1⟩ := ownsRow_form hx1
  obtain ⟨v', w', hr, ho, hg, _, hb⟩ := run_append_own_at (P := Try.prog) (w.alloc (.cells #[.string x.m, h0, .int .i64 x.st, .int .i64 x.ver, .int .i64 x.c, .int .i64 x.s, .int .i64 x.lo, .int .i64 x.hi, h1, .bool x.fu] 45)) base 24 ty 45 i0 _ 10 120 Try.underlying24 hi hz0 hz1 hz2 rfl (by decide) v n _ (ownsRow_keep h.own hB) ⟨w.heap.size, 0, none⟩ 1 1 (tlcells x h0 h1) rfl (ten_new _ _ _ _ _) (fun u hu => by
    subst e0 e1
    simp only [tlcells, List.mem_cons, List.not_mem_nil, or_false] at hu
    rcases hu with rfl | rfl | rfl | rfl | rfl | rfl | rfl | rfl | rfl | rfl <;> rfl) (by unfold maxLen; omega) (by omega) (by simp; omega)
  exact ⟨v', w', hr, (h.keep hB).push (ownsRow_keep hx0 hB) (ownsRow_keep hx1 hB) hd0 hd1 ho hg hb, hg⟩

theorem tf_get (X : Nat → Wn) (V : Nat → Value) : ∀ (n i q : Nat), i < n → q < 10 → ((List.range n).flatMap fun i => tlcells (X i) (V (i * 2 + 0)) (V (i * 2 + 1)))[i * 10 + q]? = (tlcells (X i) (V (i * 2 + 0)) (V (i * 2 + 1)))[q]? := by
  have hl : ∀ n, ((List.range n).flatMap fun i => tlcells (X i) (V (i * 2 + 0)) (V (i * 2 + 1))).length = n * 10 := by
    intro n
    induction n with
    | zero => rfl
    | succ n ih => rw [List.range_succ, List.flatMap_append, List.length_append, ih]; simp [tlcells]; omega
  intro n
  induction n with
  | zero => intro i q h; omega
  | succ n ih =>
    intro i q hi hq
    rw [List.range_succ, List.flatMap_append]
    by_cases e : i < n
    · rw [List.getElem?_append_left (by rw [hl]; omega)]
      exact ih i q e hq
    · obtain rfl : i = n := by omega
      rw [List.getElem?_append_right (by rw [hl]; omega), hl]
      simp [show i * 10 + q - i * 10 = q from by omega]


theorem ToRow.fb {w : World} {ao : Option Addr} {n : Nat} {X : Nat → Wn} (h : ToRow w ao n X) : FBw n X := fun i hi => by
  obtain ⟨b, off, _, _, hc⟩ := h.lies.resolve_left (by omega)
  obtain ⟨_, _, _, _, _, _, hr⟩ := hc i hi
  exact hr.bd

theorem OutT.toc {w : World} {base : Nat} {v : Value} {n : Nat} {X : Nat → Wn} {V : Nat → Value} (h : OutT w base v n X V) (hb : FBw n X) (h0 : 0 < n) :
    ∃ g cap, v = .slice (some ⟨g, 0, none⟩) n cap ∧ n ≤ cap ∧ base ≤ g ∧ g < w.heap.size ∧ ToC w g n X (fun i => adOf (V (i * 2 + 0))) (fun i => adOf (V (i * 2 + 1))) (fun i => cpOf (V (i * 2 + 0))) (fun i => cpOf (V (i * 2 + 1))) (gOf w.heap.size V) ∧
      (∀ i, i < n → 0 < (X i).tn → base ≤ gOf w.heap.size V (i * 2 + 0) ∧ gOf w.heap.size V (i * 2 + 0) < w.heap.size) ∧ (∀ i, i < n → 0 < (X i).n → base ≤ gOf w.heap.size V (i * 2 + 1) ∧ gOf w.heap.size V (i * 2 + 1) < w.heap.size) := by
  have ho := h.own
  rcases ho.2 with ⟨_, h1⟩ | ⟨g, cap, cur, rfl, hbg, hg, hnc, _⟩
  · omega
  have hlt := (Array.getElem?_eq_some_iff.1 hg).1
  have k0 : ∀ i, i < n → 0 < (X i).tn → ∃ q c, V (i * 2 + 0) = .slice (some ⟨q, 0, none⟩) (X i).tn c ∧ base ≤ q ∧ TOwn w q (X i).tn (X i).tn (X i).nm (X i).vl := fun i hi hp => (h.r0 i hi).own hp
  have k1 : ∀ i, i < n → 0 < (X i).n → ∃ q c, V (i * 2 + 1) = .slice (some ⟨q, 0, none⟩) (X i).n c ∧ base ≤ q ∧ IOwn w q 0 (X i).n (X i).f := fun i hi hp => (h.r1 i hi).own (hb i hi) hp
  refine ⟨g, cap, rfl, hnc, hbg, hlt, ⟨hlt, fun i hi => ?_, fun j hj => ho.frozenAt j, fun i hi hp => ?_, fun i hi hp => ?_, fun p p' hp hp' hne => ?_⟩, fun i hi hp => ?_, fun i hi hp => ?_⟩
  · have c : ∀ q, q < 10 → w.cell? ⟨g, i * 10 + q, none⟩ = (tlcells (X i) (V (i * 2 + 0)) (V (i * 2 + 1)))[q]? := fun q hq => (ho.cellAt (i * 10 + q) (by omega)).trans (tf_get X V n i q hi hq)
    obtain ⟨a0, c0, e0⟩ := ownsRow_form (h.r0 i hi)
    obtain ⟨a1, c1, e1⟩ := ownsRow_form (h.r1 i hi)
    simp only [e0, e1, tlcells, adOf, cpOf] at c ⊢
    exact ⟨hlt, c 0 (by omega), c 1 (by omega), c 2 (by omega), c 3 (by omega), c 4 (by omega), c 5 (by omega), c 6 (by omega), c 7 (by omega), c 8 (by omega), c 9 (by omega)⟩
  · obtain ⟨q, c, e, h1, h2⟩ := k0 i hi hp
    have eg : gOf w.heap.size V (i * 2 + 0) = q := by unfold gOf; rw [e]; rfl
    rw [eg]
    refine ⟨by simp only [e, adOf], fun hq => ?_, h2⟩
    exact h.apart (i * 2 + 0) (by omega) q (by rw [e]; rfl) (by rw [hq]; rfl)
  · obtain ⟨q, c, e, h1, h2⟩ := k1 i hi hp
    have eg : gOf w.heap.size V (i * 2 + 1) = q := by unfold gOf; rw [e]; rfl
    rw [eg]
    refine ⟨by simp only [e, adOf], fun hq => ?_, h2⟩
    exact h.apart (i * 2 + 1) (by omega) q (by rw [e]; rfl) (by rw [hq]; rfl)
  · unfold gOf
    cases e1 : (V p).ownBlock with
    | none =>
      cases e2 : (V p').ownBlock with
      | none => simp; omega
      | some k' => have := (h.lt hp' e2).2; simp; omega
    | some k =>
      have := (h.lt hp e1).2
      cases e2 : (V p').ownBlock with
      | none => simp; omega
      | some k' =>
        intro e
        have ek : k = k' := by simpa using e
        subst ek
        exact h.dis p p' hp hp' hne k e1 e2
  · obtain ⟨q, c, e, h1, h2⟩ := k0 i hi hp
    have eg : gOf w.heap.size V (i * 2 + 0) = q := by unfold gOf; rw [e]; rfl
    rw [eg]
    exact ⟨h1, h2.lt⟩
  · obtain ⟨q, c, e, h1, h2⟩ := k1 i hi hp
    have eg : gOf w.heap.size V (i * 2 + 1) = q := by unfold gOf; rw [e]; rfl
    rw [eg]
    exact ⟨h1, h2.lt⟩

/-- v is a list of the told windows X, all of whose memory lies in blocks from base on and below top, and may be written. -/
def TA (w : World) (base top : Nat) (v : Value) (n : Nat) (X : Nat → Wn) : Prop :=
  top ≤ w.heap.size ∧ ((n = 0 ∧ ∃ lo lc, v = .slice lo 0 lc) ∨ ∃ g cap A0 A1 K0 K1 G, v = .slice (some ⟨g, 0, none⟩) n cap ∧ base ≤ g ∧ g < top ∧ ToC w g n X A0 A1 K0 K1 G ∧ (∀ i, i < n → 0 < (X i).tn → base ≤ G (i * 2 + 0) ∧ G (i * 2 + 0) < top) ∧ (∀ i, i < n → 0 < (X i).n → base ≤ G (i * 2 + 1) ∧ G (i * 2 + 1) < top))
section
variable {w w' : World} {base base' top top' n : Nat} {v : Value} {X : Nat → Wn}
theorem TA.form (h : TA w base top v n X) : ∃ lo lc, v = .slice lo n lc := by
  rcases h.2 with ⟨rfl, lo, lc, e⟩ | ⟨g, cap, _, _, _, _, _, e, _⟩
  · exact ⟨lo, lc, e⟩
  · exact ⟨_, _, e⟩
theorem TA.same (h : TA w base top v n X) (hs : w.heap.size ≤ w'.heap.size) (hb : ∀ c, base ≤ c → c < top → w'.heap[c]? = w.heap[c]?) : TA w' base top v n X := by
  refine ⟨Nat.le_trans h.1 hs, ?_⟩
  rcases h.2 with h0 | ⟨g, cap, A0, A1, K0, K1, G, e, h1, h2, h3, h4, h5⟩
  · exact .inl h0
  · exact .inr ⟨g, cap, A0, A1, K0, K1, G, e, h1, h2, h3.same hs (hb g h1 h2) (fun i hi hp => by have := h4 i hi hp; exact hb _ this.1 this.2) (fun i hi hp => by have := h5 i hi hp; exact hb _ this.1 this.2), h4, h5⟩
theorem TA.keep (h : TA w base top v n X) (hb : Below w.heap.size w w') : TA w' base top v n X :=
  h.same hb.size (fun c _ hc => hb.block c (Nat.lt_of_lt_of_le hc h.1))
theorem TA.mono (h : TA w base top v n X) (hb : base' ≤ base) (ht : top ≤ top') (ht2 : top' ≤ w.heap.size) : TA w base' top' v n X := by
  refine ⟨ht2, ?_⟩
  rcases h.2 with h0 | ⟨g, cap, A0, A1, K0, K1, G, e, h1, h2, h3, h4, h5⟩
  · exact .inl h0
  · exact .inr ⟨g, cap, A0, A1, K0, K1, G, e, by omega, by omega, h3, fun i hi hp => by have := h4 i hi hp; omega, fun i hi hp => by have := h5 i hi hp; omega⟩
theorem TA.row {lo : Option Addr} {m lc : Nat} (h : TA w base top (.slice lo m lc) n X) (hbd : ∀ i, i < n → TlB (X i)) (hf : FBw n X) : m = n ∧ ToRow w lo n X := by
  rcases h.2 with ⟨rfl, lo', lc', e⟩ | ⟨g, cap, A0, A1, K0, K1, G, e, h1, h2, h3, h4, h5⟩
  · injection e with e1 e2 e3
    exact ⟨e2, hbd, .inl rfl⟩
  · injection e with e1 e2 e3
    subst e1 e2
    refine ⟨rfl, hbd, .inr ⟨g, 0, rfl, h3.lt, fun i hi => ⟨A0 i, A1 i, K0 i, K1 i, by rw [Nat.zero_add]; exact h3.ent i hi, ?_, ?_⟩⟩⟩
    · by_cases h0 : (X i).tn = 0
      · exact ⟨.inl h0⟩
      · obtain ⟨q1, _, q3⟩ := h3.l0 i hi (by omega)
        rw [q1]; exact q3.row
    · by_cases h0 : (X i).n = 0
      · exact ⟨hf i hi, .inl h0⟩
      · obtain ⟨q1, _, q3⟩ := h3.l1 i hi (by omega)
        rw [q1]; exact q3.row
theorem ta_of {V : Nat → Value} (h : OutT w base v n X V) (hf : FBw n X) : TA w base w.heap.size v n X := by
  refine ⟨Nat.le_refl _, ?_⟩
  by_cases h0 : n = 0
  · obtain ⟨lo, lc, e⟩ := ownsRow_form h.own
    exact .inl ⟨h0, lo, lc, by rw [e, h0]⟩
  · obtain ⟨g, cap, e, _, h1, h2, h3, h4, h5⟩ := h.toc hf (by omega)
    exact .inr ⟨g, cap, _, _, _, _, _, e, h1, h2, h3, h4, h5⟩
theorem ta_own {b : Nat} {G0 G1 : Nat → Nat} (h : ToOwn w b n n X G0 G1) : TA w b w.heap.size (.slice (some ⟨b, 0, none⟩) n n) n X := by
  refine ⟨Nat.le_refl _, .inr ⟨b, n, fun i => some ⟨G0 i, 0, none⟩, fun i => some ⟨G1 i, 0, none⟩, fun i => (X i).tn, fun i => (X i).n, fun p => if p % 2 = 0 then G0 (p / 2) else G1 (p / 2), rfl, Nat.le_refl _, h.lt, ⟨h.lt, fun i hi => h.ent i hi, fun j hj => h.free j hj, fun i hi _ => ?_, fun i hi _ => ?_, fun p p' hp hp' hne => ?_⟩, fun i hi _ => ?_, fun i hi _ => ?_⟩⟩
  · obtain ⟨h0, o0, o1, m0⟩ := h.data i hi
    try dsimp only
    rw [show (if (i * 2 + 0) % 2 = 0 then G0 ((i * 2 + 0) / 2) else G1 ((i * 2 + 0) / 2)) = G0 i from by rw [if_pos (by omega), show (i * 2 + 0) / 2 = i from by omega]]
    exact ⟨rfl, by omega, o0⟩
  · obtain ⟨h0, o0, o1, m0⟩ := h.data i hi
    try dsimp only
    rw [show (if (i * 2 + 1) % 2 = 0 then G0 ((i * 2 + 1) / 2) else G1 ((i * 2 + 1) / 2)) = G1 i from by rw [if_neg (by omega), show (i * 2 + 1) / 2 = i from by omega]]
    exact ⟨rfl, by omega, o1⟩
  · have d1 := (h.data (p / 2) (by omega)).2.2.2
    have d2 := (h.data (p' / 2) (by omega)).2.2.2
    rcases Nat.lt_trichotomy (p / 2) (p' / 2) with q | q | q
    · have := h.mono _ _ q (by omega)
      split <;> split <;> omega
    · rw [← q] at d2 ⊢
      split <;> split <;> omega
    · have := h.mono _ _ q (by omega)
      split <;> split <;> omega
  · obtain ⟨h0, o0, o1, m0⟩ := h.data i hi
    try dsimp only
    rw [show (if (i * 2 + 0) % 2 = 0 then G0 ((i * 2 + 0) / 2) else G1 ((i * 2 + 0) / 2)) = G0 i from by rw [if_pos (by omega), show (i * 2 + 0) / 2 = i from by omega]]
    exact ⟨by omega, o0.lt⟩
  · obtain ⟨h0, o0, o1, m0⟩ := h.data i hi
    try dsimp only
    rw [show (if (i * 2 + 1) % 2 = 0 then G0 ((i * 2 + 1) / 2) else G1 ((i * 2 + 1) / 2)) = G1 i from by rw [if_neg (by omega), show (i * 2 + 1) / 2 = i from by omega]]
    exact ⟨by omega, o1.lt⟩
end


/-- One told window put behind. -/
theorem wpList_pushT {w : World} {ops : Array Oper} {rest : List Oper} {o : Oper} {a : Act} {Q : Exit → Act → World → Prop} (nb : Nat) (hnb : w.heap.size = nb) (hgd : o.guard = none) (s y : Operand)
    (ho : o.op = .call { callee := .builtin .append, args := #[s, y], argTypes := #[24, 24] })
    (base : Nat) (v h0 h1 : Value) (n : Nat) (X : Nat → Wn) (V : Nat → Value) (x : Wn) (hs : a.eval s = v) (h : OutT w base v n X V) (hx0 : TV w base h0 x) (hx1 : HV w base h1 x)
    (hd0 : ∀ k, h0.ownBlock = some k → v.ownBlock ≠ some k ∧ ∀ p, p < n * 2 → (V p).ownBlock ≠ some k) (hd1 : ∀ k, h1.ownBlock = some k → v.ownBlock ≠ some k ∧ (∀ p, p < n * 2 → (V p).ownBlock ≠ some k) ∧ h0.ownBlock ≠ some k)
    (hy : a.eval y = .slice (some ⟨nb, 0, none⟩) 1 1) (hn : n ≤ 1048576) (hbase : base ≤ w.heap.size)
    (hk : ∀ v' w', OutT w' base v' (n + 1) (upTo X n x) (vPut V n h0 h1) → (w.alloc (.cells #[.string x.m, h0, .int .i64 x.st, .int .i64 x.ver, .int .i64 x.c, .int .i64 x.s, .int .i64 x.lo, .int .i64 x.hi, h1, .bool x.fu] 45)).grownBy w' v.ownBlock → wpList Try.prog ops Q rest (a.put o.dst v') w') :
    wpList Try.prog ops Q (o :: rest) a (w.alloc (.cells #[.string x.m, h0, .int .i64 x.st, .int .i64 x.ver, .int .i64 x.c, .int .i64 x.s, .int .i64 x.lo, .int .i64 x.hi, h1, .bool x.fu] 45)) := by
  subst hnb
  obtain ⟨v', w', hr, h2, h3⟩ := pushT_run h hx0 hx1 hd0 hd1 hn hbase o.type
  exact wpList_append_eq _ hgd s y 24 o.type ho rfl v _ v' hs hy w' hr (hk v' w' h2 h3)
theorem OutT.mono {w : World} {base base' : Nat} {v : Value} {n : Nat} {X : Nat → Wn} {V : Nat → Value} (h : OutT w base v n X V) (hb : base' ≤ base) : OutT w base' v n X V :=
  ⟨ownsRow_mono h.own hb, fun i hi => ownsRow_mono (h.r0 i hi) hb, fun i hi => ownsRow_mono (h.r1 i hi) hb, h.dis, h.apart⟩


theorem OutT.thru {w w' : World} {base n d : Nat} {v : Value} {Y : Nat → Wn} {V : Nat → Value} (H : OutT w base v n Y V) (ht : Thru d w w') (hd : d < base) : OutT w' base v n Y V := by
  have hg : w.grownBy w' (some d) := ⟨ht.os, ht.tape, ht.output, ht.size, fun i hi hne => ht.block i hi (fun e => hne (by rw [e]))⟩
  have ne : ∀ (u : Value) (e size m : Nat) (xs : List Value), w.ownsRow base e size u m xs → ∀ k, some d = some k → u.ownBlock ≠ some k := fun u e size m xs hu k hk hh => by injection hk with hk; subst hk; have := (hu.lt d hh).1; omega
  exact ⟨ownsRow_kept H.own hg (ne _ _ _ _ _ H.own), fun i hi => ownsRow_kept (H.r0 i hi) hg (ne _ _ _ _ _ (H.r0 i hi)), fun i hi => ownsRow_kept (H.r1 i hi) hg (ne _ _ _ _ _ (H.r1 i hi)), H.dis, H.apart⟩
end Go.Proofs.Ytjdijikmdlklkaa
