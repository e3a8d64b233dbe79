/- What is packed, gathered: entries whose lists are their own. / PackRows, in both texts. / LiveIn, in both texts. / What PackRows and LiveIn answer can be held by a law. -/
import Derived.Test.YtfdbhkjmkpgomaaGreatRe
import Derived.Test.YtfdbhkjmkpgomaaGreatPk
import Derived.Test.YtfdbhkjmkpgomaaGreatJi
import Derived.Test.YtfdbhkjmkpgomaaGreatJv
namespace Go.Proofs.YtfdbhkjmkpgomaaGreat
set_option maxRecDepth 100000
open Go.RowKit
set_option linter.unusedSimpArgs false
set_option linter.unusedVariables false

/-- v is a slice of the call's own of the entries E, each with a list of its own, all apart. -/
structure OutC (w : World) (base : Nat) (v : Value) (E : List Ent) (V : Nat → Value) : Prop where
  own : w.ownsRow base 48 9 v E.length ((List.range E.length).flatMap fun i => ecells (eL E i) (V i))
  row : ∀ i, i < E.length → ∃ lo lc, V i = .slice lo (eL E i).n lc ∧ ((eL E i).n = 0 ∨ ∃ G, lo = some ⟨G, 0, none⟩ ∧ base ≤ G ∧ IOwn w G 0 (eL E i).n (eL E i).f)
  apart : ∀ i, i < E.length → 0 < (eL E i).n → ∀ c, (V i).ownBlock = some c → v.ownBlock ≠ some c
  dis : ∀ i j, i < E.length → j < E.length → i ≠ j → 0 < (eL E i).n → 0 < (eL E j).n → ∀ c, (V i).ownBlock = some c → (V j).ownBlock ≠ some c
theorem outC_nil (w : World) (base : Nat) : OutC w base (.slice none 0 0) [] (fun _ => .slice none 0 0) := ⟨World.ownsRow_nil _ _ _ _, fun i hi => absurd hi (Nat.not_lt_zero _), fun i hi => absurd hi (Nat.not_lt_zero _), fun i j hi => absurd hi (Nat.not_lt_zero _)⟩
section
variable {w w' : World} {base : Nat} {v : Value} {E : List Ent} {V : Nat → Value}
theorem OutC.keep (h : OutC w base v E V) (hb : Below w.heap.size w w') : OutC w' base v E V :=
  ⟨ownsRow_keep h.own hb, fun i hi => by obtain ⟨lo, lc, e, h2⟩ := h.row i hi; exact ⟨lo, lc, e, h2.elim .inl fun ⟨G, g1, g2, g3⟩ => .inr ⟨G, g1, g2, g3.keep hb⟩⟩, h.apart, h.dis⟩
theorem OutC.form (h : OutC w base v E V) : ∃ lo lc, v = .slice lo E.length lc ∧ E.length ≤ lc := by
  rcases h.own.2 with ⟨rfl, h0⟩ | ⟨g, c, cur, rfl, _, _, h5, _⟩
  · exact ⟨none, 0, by rw [h0], by omega⟩
  · exact ⟨_, _, rfl, h5⟩
theorem OutC.ltV (h : OutC w base v E V) {i : Nat} (hi : i < E.length) (hp : 0 < (eL E i).n) {c : Nat} (hc : (V i).ownBlock = some c) : base ≤ c ∧ c < w.heap.size := by
  obtain ⟨lo, lc, e, h2⟩ := h.row i hi
  rcases h2 with h0 | ⟨G, g1, g2, g3⟩
  · omega
  · rw [e, g1] at hc
    have hc' : some G = some c := hc
    injection hc' with hc'
    subst hc'
    exact ⟨g2, g3.lt⟩
theorem OutC.push {v' : Value} {x : Ent} {xo : Option Addr} {xc : Nat} (h : OutC w base v E V) (hx : x.n = 0 ∨ ∃ G, xo = some ⟨G, 0, none⟩ ∧ base ≤ G ∧ IOwn w G 0 x.n x.f ∧ v.ownBlock ≠ some G ∧ ∀ i, i < E.length → 0 < (eL E i).n → (V i).ownBlock ≠ some G)
    (ho : w'.ownsRow base 48 9 v' (E.length + 1) (((List.range E.length).flatMap fun i => ecells (eL E i) (V i)) ++ ecells x (.slice xo x.n xc))) (hg : w.grownBy w' v.ownBlock) (ha : v'.ownBlock = v.ownBlock ∨ v'.ownBlock = some w.heap.size) :
    OutC w' base v' (E ++ [x]) (fun i => if i = E.length then .slice xo x.n xc else V i) := by
  have hI : ∀ {G n : Nat} {f : Nat → Int}, IOwn w G 0 n f → v.ownBlock ≠ some G → IOwn w' G 0 n f := fun {G n f} h1 hne => by
    have hb := hg.block G h1.lt (fun e => hne e.symm)
    exact ⟨h1.bd, Nat.lt_of_lt_of_le h1.lt hg.size, fun i hi => (World.cell?_of_block (w := w) (a := ⟨G, 0 + i, none⟩) hb).trans (h1.cell i hi), fun i hi => (World.frozen?_of_block (w := w) (a := ⟨G, 0 + i, none⟩) hb).trans (h1.free i hi)⟩
  have hlast : eL (E ++ [x]) E.length = x := by rw [← eL_push _ _ _ (by omega), if_pos rfl]
  have hfr : ∀ i, i < E.length → eL (E ++ [x]) i = eL E i := fun i hi => by rw [← eL_push _ _ i (by omega), if_neg (by omega)]
  have hl : (E ++ [x]).length = E.length + 1 := by simp
  refine ⟨?_, fun i hi => ?_, fun i hi hp c hc => ?_, fun i j hi hj hij hp hq c h1 h2 => ?_⟩
  · rw [hl, List.range_succ, List.flatMap_append]
    have e1 : ((List.range E.length).flatMap fun i => ecells (eL (E ++ [x]) i) (if i = E.length then .slice xo x.n xc else V i)) = ((List.range E.length).flatMap fun i => ecells (eL E i) (V i)) := by
      unfold List.flatMap
      congr 1
      refine List.map_congr_left fun i hi => ?_
      have := List.mem_range.1 hi
      rw [hfr i this, if_neg (by omega)]
    rw [e1]
    have e2 : (List.flatMap (fun i => ecells (eL (E ++ [x]) i) (if i = E.length then Value.slice xo x.n xc else V i)) [E.length]) = ecells x (.slice xo x.n xc) := by
      simp only [List.flatMap_cons, List.flatMap_nil, List.append_nil, if_true]
      rw [hlast]
    rw [e2]
    exact ho
  · rw [hl] at hi
    by_cases e : i = E.length
    · subst e
      rw [hlast]
      refine ⟨xo, xc, by simp, hx.elim .inl fun ⟨G, g1, g2, g3, g4, _⟩ => .inr ⟨G, g1, g2, hI g3 g4⟩⟩
    · rw [hfr i (by omega)]
      obtain ⟨lo, lc, e1, h2⟩ := h.row i (by omega)
      refine ⟨lo, lc, by simp only [e, if_false]; exact e1, ?_⟩
      by_cases h0 : (eL E i).n = 0
      · exact .inl h0
      · rcases h2 with h3 | ⟨G, g1, g2, g3⟩
        · exact .inl h3
        · exact .inr ⟨G, g1, g2, hI g3 (h.apart i (by omega) (by omega) G (by rw [e1, g1]; rfl))⟩
  · rw [hl] at hi
    have hlt : c < w.heap.size ∧ v.ownBlock ≠ some c := by
      by_cases e : i = E.length
      · subst e
        rw [hlast] at hp
        simp only [if_true] at hc
        rcases hx with h0 | ⟨G, g1, g2, g3, g4, _⟩
        · omega
        · rw [g1] at hc
          have hc' : some G = some c := hc
          injection hc' with hc'
          subst hc'
          exact ⟨g3.lt, g4⟩
      · rw [hfr i (by omega)] at hp
        simp only [e, if_false] at hc
        exact ⟨(h.ltV (by omega) hp hc).2, h.apart i (by omega) hp c hc⟩
    rcases ha with ha | ha
    · rw [ha]; exact hlt.2
    · rw [ha]
      intro e
      injection e with e
      omega
  · rw [hl] at hi hj
    by_cases e : i = E.length
    · by_cases e' : j = E.length
      · omega
      · subst e
        rw [hlast] at hp
        rw [hfr j (by omega)] at hq
        simp only [if_true] at h1
        simp only [e', if_false] at h2
        rcases hx with h0 | ⟨G, g1, g2, g3, g4, g5⟩
        · omega
        · rw [g1] at h1
          have h1' : some G = some c := h1
          injection h1' with h1'
          subst h1'
          exact g5 j (by omega) hq h2
    · by_cases e' : j = E.length
      · subst e'
        rw [hlast] at hq
        rw [hfr i (by omega)] at hp
        simp only [e, if_false] at h1
        simp only [if_true] at h2
        rcases hx with h0 | ⟨G, g1, g2, g3, g4, g5⟩
        · omega
        · rw [g1] at h2
          have h2' : some G = some c := h2
          injection h2' with h2'
          subst h2'
          exact g5 i (by omega) hp h1
      · rw [hfr i (by omega)] at hp
        rw [hfr j (by omega)] at hq
        simp only [e, if_false] at h1
        simp only [e', if_false] at h2
        exact h.dis i j (by omega) (by omega) hij hp hq c h1 h2
theorem OutC.ca (h : OutC w base v E V) : CA w base w.heap.size v E := by
  refine ⟨Nat.le_refl _, ?_⟩
  rcases h.own.2 with ⟨rfl, h0⟩ | ⟨g, cap, cur, rfl, hbg, hg, hnc, _⟩
  · exact .inl ⟨List.eq_nil_of_length_eq_zero h0, none, 0, rfl⟩
  · have hlt := (Array.getElem?_eq_some_iff.1 hg).1
    have key : ∀ i, ∃ p : Option Addr × Nat, i < E.length → V i = .slice p.1 (eL E i).n p.2 ∧ ((eL E i).n = 0 ∨ ∃ c, p.1 = some ⟨c, 0, none⟩ ∧ base ≤ c ∧ IOwn w c 0 (eL E i).n (eL E i).f) := fun i => by
      by_cases hi : i < E.length
      · obtain ⟨lo, lc, h1, h2⟩ := h.row i hi
        exact ⟨(lo, lc), fun _ => ⟨h1, h2⟩⟩
      · exact ⟨(none, 0), fun hh => absurd hh hi⟩
    obtain ⟨P, hP⟩ := Classical.axiomOfChoice key
    have ob : ∀ i, i < E.length → ∀ c, (P i).1 = some ⟨c, 0, none⟩ → (V i).ownBlock = some c := fun i hi c hc => by rw [(hP i hi).1, hc]; rfl
    have c : ∀ i j, i < E.length → j < 9 → w.cell? ⟨g, i * 9 + j, none⟩ = (ecells (eL E i) (V i))[j]? := fun i j hi hj => by rw [h.own.cellAt (i * 9 + j) (by omega), fm9_get E.length (eL E) V hi hj]
    refine .inr ⟨g, cap, fun i => (P i).1, fun i => (P i).2, rfl, hnc, hbg, hlt, ⟨hlt, fun i hi => ?_, fun j _ => by simpa using h.own.frozenAt j, fun i hi => ?_, fun i j hi hj hij h1 h2 q hL1 hL2 => ?_⟩, fun i hi hp q hq => ?_⟩
    · have cc := fun j hj => c i j hi hj
      rw [(hP i hi).1] at cc
      exact ⟨hlt, cc 0 (by omega), cc 1 (by omega), cc 2 (by omega), cc 3 (by omega), cc 4 (by omega), cc 5 (by omega), cc 6 (by omega), cc 7 (by omega), cc 8 (by omega)⟩
    · by_cases h0 : (eL E i).n = 0
      · exact .inl h0
      · rcases (hP i hi).2 with h3 | ⟨q, h1, _, h4⟩
        · exact .inl h3
        · exact .inr ⟨q, h1, fun e => h.apart i hi (by omega) q (ob i hi q h1) (by rw [e]; rfl), h4⟩
    · exact h.dis i j hi hj hij h1 h2 q (ob i hi q hL1) (ob j hj q hL2)
    · exact h.ltV hi hp (ob i hi q hq)
end

/-- Nothing put behind. -/
theorem app_none (w : World) (a lo : Option Addr) (n c lc : Nat) (ty : TypeId) (h : n ≤ c) : (Builtin.append_ #[24, 24] ty #[.slice a n c, .slice lo 0 lc]).run Tryz.prog w = .ok (.slice a n c) w := by
  obtain ⟨i0, hi, hz0, hz1, hz2⟩ := info_parts Tryz.infoEnt
  cases a <;> cases lo <;> simp [Builtin.append_, run_underlying Tryz.underlying24, sizeOf, typeInfo, hi, Builtin.lenOf, Builtin.firstCells, loadCells, loadCellsFrom, storeCells, h]

set_option maxRecDepth 100000 in
/-- One entry in a box put behind. -/
theorem one_run {w : World} {base g gc : Nat} {v : Value} {E : List Ent} {V : Nat → Value} {x : Ent} {xo : Option Addr} {xc : Nat} (ty : TypeId) (h : OutC w base v E V) (he : EAt w g 0 x xo xc)
    (hx : x.n = 0 ∨ ∃ G, xo = some ⟨G, 0, none⟩ ∧ base ≤ G ∧ IOwn w G 0 x.n x.f ∧ v.ownBlock ≠ some G ∧ ∀ i, i < E.length → 0 < (eL E i).n → (V i).ownBlock ≠ some G) (hn : E.length ≤ 1048576) (hb : base ≤ w.heap.size) :
    ∃ lo' lc' V' w', (Builtin.append_ #[24, 24] ty #[v, .slice (some ⟨g, 0, none⟩) 1 gc]).run Tryz.prog w = .ok (.slice lo' (E.length + 1) lc') w' ∧ OutC w' base (.slice lo' (E.length + 1) lc') (E ++ [x]) V' ∧ Below base w w' := by
  obtain ⟨i0, hi, hz0, hz1, hz2⟩ := info_parts Tryz.infoEnt
  obtain ⟨v', w', hrun, h1, h2, _, h4⟩ := run_append_own_at (P := Tryz.prog) w base 24 ty 48 i0 _ 9 96 Tryz.underlying24 hi hz0 hz1 hz2 rfl (by decide) v E.length ((List.range E.length).flatMap fun i => ecells (eL E i) (V i)) h.own ⟨g, 0, none⟩ 1 gc (ecells x (.slice xo x.n xc)) rfl (fun j u hj => by
      have hlt : j < 9 := by
        have := (List.getElem?_eq_some_iff.1 hj).1
        simpa [ecells] using this
      rw [Addr.add_lit, ← hj]
      obtain ⟨_, z0, z1, z2, z3, z4, z5, z6, z7, z8⟩ := he.z
      rcases j with _ | _ | _ | _ | _ | _ | _ | _ | _ | j
      all_goals first | (simp [ecells, z0, z1, z2, z3, z4, z5, z6, z7, z8]; done) | omega) (fun u hu => by
    simp only [ecells, List.mem_cons, List.not_mem_nil, or_false] at hu
    rcases hu with rfl | rfl | rfl | rfl | rfl | rfl | rfl | rfl | rfl <;> rfl) (by unfold maxLen; omega) (by omega) hb
  obtain ⟨lo', lc', rfl⟩ := ownsRow_form h1
  exact ⟨lo', lc', _, w', hrun, h.push hx h1 h2 h4, (Below.refl base w).grown h2 hb (fun q hq => (h.own.lt q hq).1)⟩

/-- What was packed put behind. -/
theorem pack_run {w0 w : World} {base : Nat} {v pv : Value} {E P : List Ent} {V : Nat → Value} (ty : TypeId) (h : OutC w0 base v E V) (hp : CA w w0.heap.size w.heap.size pv P) (hbw : Below w0.heap.size w0 w) (hP : P.length ≤ 1) (hn : E.length ≤ 1048576) (hb : base ≤ w0.heap.size) :
    ∃ lo' lc' V' w', (Builtin.append_ #[24, 24] ty #[v, pv]).run Tryz.prog w = .ok (.slice lo' (E ++ P).length lc') w' ∧ OutC w' base (.slice lo' (E ++ P).length lc') (E ++ P) V' ∧ Below base w w' := by
  have hk := h.keep hbw
  rcases hp.2 with ⟨rfl, lo, lc, rfl⟩ | ⟨g, cap, L, C, rfl, hcp, h1, h2, h3, h4⟩
  · obtain ⟨a, c, rfl, hac⟩ := hk.form
    rw [List.append_nil]
    exact ⟨a, c, V, w, app_none w a lo E.length c lc ty hac, hk, Below.refl _ _⟩
  · by_cases h0 : P = []
    · subst h0
      obtain ⟨a, c, rfl, hac⟩ := hk.form
      rw [List.append_nil]
      exact ⟨a, c, V, w, app_none w a (some ⟨g, 0, none⟩) E.length c cap ty hac, hk, Below.refl _ _⟩
    · obtain ⟨x, rfl⟩ : ∃ x, P = [x] := by
        match P, hP, h0 with
        | [x], _, _ => exact ⟨x, rfl⟩
      have he := h3.ent 0 (by simp)
      have hh := h3.hist 0 (by simp)
      have ltv := h.own.lt
      obtain ⟨lo', lc', V', w', hrun, hO, hB⟩ := one_run (gc := cap) ty hk (x := x) (xo := L 0) (xc := C 0) (g := g) (by simpa [eL] using he) (by
        by_cases hx0 : x.n = 0
        · exact .inl hx0
        · rcases hh with hz | ⟨q, g1, g2, g3⟩
          · exact .inl hz
          · have hq := h4 0 (by simp) (by show 0 < x.n; omega) q g1
            exact .inr ⟨q, g1, by omega, g3, fun e => by have := (ltv q e).2; omega, fun i hi hp e => by have := (h.ltV hi hp e).2; omega⟩) hn (Nat.le_trans hb hbw.size)
      rw [List.length_append, List.length_singleton]
      exact ⟨lo', lc', V', w', hrun, hO, hB⟩
/-- What is packed of the first runs. -/
def pkP (Rs : List (List Ent)) (bt : Bool) : Nat → List Ent
  | 0 => []
  | k + 1 => pkP Rs bt k ++ pkX (eL (gR Rs k)) (gR Rs k).length bt
theorem pkP_len (Rs : List (List Ent)) (bt : Bool) : ∀ k, (pkP Rs bt k).length ≤ k
  | 0 => by simp [pkP]
  | k + 1 => by
    have h1 := pkP_len Rs bt k
    have h2 := pkX_len (eL (gR Rs k)) (gR Rs k).length bt
    unfold pkP
    rw [List.length_append]
    omega
/-- Of runs: each is of one key and lies in what was there. -/
theorem rn_all (X : Nat → Ent) : ∀ k, ∀ L ∈ rn X k, L ≠ [] ∧ L.Sublist (sl X 0 k) ∧ ∀ x ∈ L, ∀ y ∈ L, x.key.toList = y.key.toList
  | 0, L, h => nomatch h
  | k + 1, L, h => by
    have ih := rn_all X k
    have hsub : ∀ M ∈ rn X (k + 1), M.Sublist (sl X 0 (k + 1)) := fun M hM => by rw [← (rn_prop X (k + 1)).1]; exact List.sublist_flatten_of_mem hM
    refine ⟨(rn_prop X (k + 1)).2.1 L h, hsub L h, ?_⟩
    obtain ⟨Rs, a, ha, e, hk⟩ := (rn_prop X (k + 1)).2.2 (by omega)
    have hmem : L ∈ rn X k ∨ L = sl X a (k + 1) := by
      by_cases hc : k = 0 ∨ (X (k - 1)).key.toList ≠ (X k).key.toList
      · rw [rn_new hc] at e h
        rcases List.mem_append.1 h with h | h
        · exact .inl h
        · have := List.append_inj_right' e (by simp)
          rw [List.mem_singleton.1 h]
          injection this with this
          exact .inr this
      · have h0 : k ≠ 0 := fun h => hc (.inl h)
        have he : (X (k - 1)).key.toList = (X k).key.toList := Classical.not_not.1 (fun h => hc (.inr h))
        obtain ⟨Rs', a', ha', e', hk'⟩ := (rn_prop X k).2.2 (by omega)
        have e2 := rn_more h0 he e'
        rw [e2] at e h
        rcases List.mem_append.1 h with h | h
        · exact .inl (by rw [e']; exact List.mem_append_left _ h)
        · have := List.append_inj_right' e (by simp)
          rw [List.mem_singleton.1 h]
          injection this with this
          exact .inr this
    rcases hmem with h1 | h1
    · exact (ih L h1).2.2
    · have key : ∀ x ∈ L, x.key.toList = (X a).key.toList := fun x hx => by
        rw [h1] at hx
        obtain ⟨i, hi, e⟩ := List.mem_map.1 hx
        have := List.mem_range.1 hi
        rw [← e]
        exact hk (a + i) (by omega) (by omega)
      exact fun x hx y hy => (key x hx).trans (key y hy).symm
theorem sl_zero (E : List Ent) : sl (eL E) 0 E.length = E := by
  apply List.ext_getElem
  · simp [sl]
  · intro i h1 h2
    simp [sl, eL, h2]
theorem GoodLs.sub {E L : List Ent} (h : GoodLs E) (hs : L.Sublist E) : GoodLs L := ⟨fun x hx => h.1 x (hs.subset hx), h.2.1.sublist hs, h.2.2.sublist hs⟩
theorem gR_mem {Rs : List (List Ent)} {i : Nat} (h : i < Rs.length) : gR Rs i ∈ Rs := by simp [gR, h]
/-- A run of good entries can be packed. -/
theorem run_ok {E : List Ent} (h : GoodLs E) {i : Nat} (hi : i < (rn (eL E) E.length).length) : (gR (rn (eL E) E.length) i).length ≤ E.length ∧ 0 < (gR (rn (eL E) E.length) i).length ∧ GoodL (eL (gR (rn (eL E) E.length) i)) (gR (rn (eL E) E.length) i).length ∧ OneK (eL (gR (rn (eL E) E.length) i)) (gR (rn (eL E) E.length) i).length := by
  obtain ⟨h1, h2, h3⟩ := rn_all (eL E) E.length _ (gR_mem hi)
  rw [sl_zero] at h2
  have hp : 0 < (gR (rn (eL E) E.length) i).length := List.length_pos_iff.2 h1
  refine ⟨h2.length_le, hp, good_iff.2 (h.sub h2), .inr (h3 _ (eL_mem hp) _ (eL_mem (by omega)))⟩
end Go.Proofs.YtfdbhkjmkpgomaaGreat

namespace Go.Proofs.YtfdbhkjmkpgomaaGreat
set_option maxRecDepth 100000
open Go.RowKit
set_option linter.unusedSimpArgs false
set_option linter.unusedVariables false

/-- What is packed of entries. -/
def pkAll (E : List Ent) (bt : Bool) : List Ent := pkP (rn (eL E) E.length) bt (rn (eL E) E.length).length
/-- What PackRows leaves. -/
def PrO (N : Nat) (D : Nat → List Ent) (bt : Bool) (w : World) (e : Ending) (w' : World) : Prop :=
  (RowsOk N D → AnE (pkAll (mg N D) bt) true w e w') ∧ (¬ RowsOk N D → AnE [] false w e w')

set_option maxHeartbeats 1000000 in
theorem keyRuns_zero (ao : Option Addr) (cap : Nat) (w : World) : Calls Tryz.prog 21 #[.slice ao 0 cap] w fun e w' => e = .returned (.slice none 0 0) ∧ w' = w := by
  go_enter Tryz.func21, Tryz.ntmps21
  go_wp2
  go_loopw [3, 5] (fun u i wr => i = .int .i64 1 ∧ u = .slice none 0 0 ∧ wr = w) (fun _ _ _ => 0)
  case atStart => exact ⟨rfl, rfl, rfl⟩
  case round =>
    obtain ⟨rfl, rfl, rfl⟩ := hrel
    go_wp2
    go_ret
    exact ⟨rfl, rfl⟩
set_option maxHeartbeats 1000000 in
theorem l8Each_zero (ao : Option Addr) (cap : Nat) (w : World) : Calls Tryz.prog 30 #[.slice ao 0 cap] w fun e w' => e = .returned (.slice none 0 0) ∧ w' = w := by
  go_enter Tryz.func30, Tryz.ntmps30
  go_wp2
  go_loopw [3, 8] (fun u i wr => i = .int .i64 0 ∧ u = .slice none 0 0 ∧ wr = w) (fun _ _ _ => 0)
  case atStart => exact ⟨rfl, rfl, rfl⟩
  case round =>
    obtain ⟨rfl, rfl, rfl⟩ := hrel
    go_wp2
    go_ret
    exact ⟨rfl, rfl⟩
/-- The runs at hand, whatever world their entries lie in. -/
def RunsX (w' : World) (base : Nat) (Rs : List (List Ent)) (v : Value) : Prop := (Rs = [] ∧ v = .slice none 0 0) ∨ ∃ g c, v = .slice (some ⟨g, 0, none⟩) Rs.length c ∧ base ≤ g ∧ LR w' g 0 Rs.length (gR Rs)
theorem RunsO.x {w0 w' : World} {base : Nat} {Rs : List (List Ent)} {v : Value} (h : RunsO w0 w' base Rs v) (hb : Below w0.heap.size w0 w') : RunsX w' base Rs v := by
  rcases h with h | ⟨g, c, e, h1, h2⟩
  · exact .inl h
  · exact .inr ⟨g, c, e, h1, h2.lr hb⟩
theorem RunsX.form {w' : World} {base : Nat} {Rs : List (List Ent)} {v : Value} (h : RunsX w' base Rs v) : ∃ lo lc, v = .slice lo Rs.length lc := by
  rcases h with ⟨rfl, e⟩ | ⟨g, c, e, _⟩
  · exact ⟨none, 0, e⟩
  · exact ⟨_, _, e⟩
theorem keyRuns_of (lo : Option Addr) (lc : Nat) (E : List Ent) (w : World) (hr : ERow w lo E.length (eL E)) (hn : E.length ≤ 1048576) (hcap : E.length ≤ lc) :
    Calls Tryz.prog 21 #[.slice lo E.length lc] w fun e w' => ∃ v, e = .returned v ∧ RunsX w' w.heap.size (rn (eL E) E.length) v ∧ Below w.heap.size w w' := by
  by_cases h0 : E.length = 0
  · rw [h0]
    refine (keyRuns_zero lo lc w).mono ?_
    rintro e w' ⟨rfl, rfl⟩
    exact ⟨_, rfl, .inl ⟨rfl, rfl⟩, Below.refl _ _⟩
  · obtain ⟨b, off, rfl, _⟩ := hr.lies.resolve_left h0
    refine (keyRuns_any b off E.length lc (eL E) w hr hn hcap).mono ?_
    rintro e w' ⟨v, rfl, h1, h2⟩
    exact ⟨v, rfl, h1.x h2, h2⟩
theorem l8Each_of (lo : Option Addr) (lc : Nat) (E : List Ent) (w : World) (hr : ERow w lo E.length (eL E)) (hn : E.length ≤ 1048576) :
    Calls Tryz.prog 30 #[.slice lo E.length lc] w fun e w' => ∃ v, e = .returned v ∧ RunsX w' w.heap.size (rn (eL E) E.length) v ∧ Below w.heap.size w w' := by
  by_cases h0 : E.length = 0
  · rw [h0]
    refine (l8Each_zero lo lc w).mono ?_
    rintro e w' ⟨rfl, rfl⟩
    exact ⟨_, rfl, .inl ⟨rfl, rfl⟩, Below.refl _ _⟩
  · obtain ⟨b, off, rfl, _⟩ := hr.lies.resolve_left h0
    refine (l8Each_any b off E.length lc (eL E) w hr hn).mono ?_
    rintro e w' ⟨v, rfl, h1, h2⟩
    exact ⟨v, rfl, h1.x (Below.refl _ _), h2⟩
theorem CA.cap {w : World} {base top : Nat} {lo : Option Addr} {n lc : Nat} {E : List Ent} (h : CA w base top (.slice lo n lc) E) : E.length ≤ lc := by
  rcases h.2 with ⟨rfl, lo', lc', e⟩ | ⟨g, cap, L, C, e, hcp, _⟩
  · simp
  · injection e with _ _ e3
    omega
theorem GatE.cap {w0 w : World} {base : Nat} {lo : Option Addr} {n lc : Nat} {E : List Ent} (h : GatE w0 w base (.slice lo n lc) E) : E.length ≤ lc := by
  obtain ⟨V, h, _⟩ := h
  rcases h.2 with ⟨_, h0⟩ | ⟨g, c, cur, e, _, _, h5, _⟩
  · omega
  · injection e with _ _ e3
    omega

theorem run_size {E : List Ent} (h : ESize E.length (eL E)) {i : Nat} (hi : i < (rn (eL E) E.length).length) : ESize (gR (rn (eL E) E.length) i).length (eL (gR (rn (eL E) E.length) i)) := fun j hj => by
  have h2 := (rn_all (eL E) E.length _ (gR_mem hi)).2.1
  rw [sl_zero] at h2
  have h3 := h2.subset (eL_mem hj)
  obtain ⟨q, hq, e⟩ := List.getElem_of_mem h3
  rw [← e, ← eL_get hq]
  exact h q hq
/-- Each run can be packed, in the program and in the model. -/
theorem run_impl {E : List Ent} (hg : GoodLs E) (h3 : E.length ≤ 300) (hES : ESize E.length (eL E)) (bt : Bool) {W : World} {g i : Nat} (hi : i < (rn (eL E) E.length).length) (h : LR W g 0 (rn (eL E) E.length).length (gR (rn (eL E) E.length))) :
    ∃ p c, W.cell? ⟨g, i, none⟩ = some (.slice p (gR (rn (eL E) E.length) i).length c) ∧ (∀ W', Below W.heap.size W W' → Calls Tryz.prog 22 #[.slice p (gR (rn (eL E) E.length) i).length c, .bool bt] W' fun e w' => AnE (pkX (eL (gR (rn (eL E) E.length) i)) (gR (rn (eL E) E.length) i).length bt) true W' e w') := by
  obtain ⟨p, c, h1, h2, h4⟩ := h.row i hi
  obtain ⟨g1, g2, g3, g4⟩ := run_ok hg hi
  obtain ⟨b, off, rfl, _⟩ := h4.lies.resolve_left (by omega)
  refine ⟨_, c, by rw [Nat.zero_add] at h1; exact h1, fun W' hW => (packKey_impl b off _ c _ bt W' (h4.keep hW) (by omega) (run_size hES hi) h2).mono (fun e w' hp => hp.1 ⟨g3, g4, by omega⟩)⟩
theorem run_spec {E : List Ent} (hg : GoodLs E) (h3 : E.length ≤ 300) (hES : ESize E.length (eL E)) (bt : Bool) {W : World} {g i : Nat} (hi : i < (rn (eL E) E.length).length) (h : LR W g 0 (rn (eL E) E.length).length (gR (rn (eL E) E.length))) :
    ∃ p c, W.cell? ⟨g, i, none⟩ = some (.slice p (gR (rn (eL E) E.length) i).length c) ∧ (∀ W', Below W.heap.size W W' → Calls Tryz.prog 32 #[.slice p (gR (rn (eL E) E.length) i).length c, .bool bt] W' fun e w' => AnS (pkX (eL (gR (rn (eL E) E.length) i)) (gR (rn (eL E) E.length) i).length bt) W' e w') := by
  obtain ⟨p, c, h1, h2, h4⟩ := h.row i hi
  obtain ⟨g1, g2, g3, g4⟩ := run_ok hg hi
  obtain ⟨b, off, rfl, _⟩ := h4.lies.resolve_left (by omega)
  exact ⟨_, c, by rw [Nat.zero_add] at h1; exact h1, fun W' hW => l8Pack_any b off _ c _ bt W' (h4.keep hW) g3.1 (by omega) (run_size hES hi) h2⟩

set_option maxRecDepth 100000 in
set_option maxHeartbeats 4000000 in
theorem packRows_impl (b off N cap : Nat) (D : Nat → List Ent) (bt : Bool) (w : World) (hr : LR w b off N D) (hN : N ≤ 1048576) (hs : sm D N ≤ 1048576) (hz : ∀ i, i < N → ESize (D i).length (eL (D i))) (hSm : RowsOk N D → SmL (mg N D)) :
    Calls Tryz.prog 8 #[.slice (some ⟨b, off, none⟩) N cap, .bool bt] w fun e w' => PrO N D bt w e w' := by
  have hj := joinRows_impl b off N cap D w hr hN hs hz
  by_cases hok : RowsOk N D
  rotate_left
  · have hj2 : Calls Tryz.prog 20 #[.slice (some ⟨b, off, none⟩) N cap] w fun e w' => AnE [] false w e w' := hj.mono fun e w' h => h.2 hok
    have H : Hid (∀ W, Below w.heap.size w W → PrO N D bt w (.returned (.tuple #[.slice none 0 0, .bool false])) W) := fun W hb => ⟨fun h => absurd h hok, fun _ => ane_no hb⟩
    clear hj hok
    go_enter Tryz.func8, Tryz.ntmps8
    go_wp2_with fail
    refine hj2.mono ?_
    rintro e w1 ⟨v, rfl, hv, hb1⟩
    obtain ⟨lo, lc, rfl⟩ := hv.form
    go_wp2
    exact bodyPost_ret (v := .tuple #[.slice none 0 0, .bool false]) (by simp [results, Tryz.results8, go_sem]) rfl (H.out _ hb1)
  have hj2 : Calls Tryz.prog 20 #[.slice (some ⟨b, off, none⟩) N cap] w fun e w' => AnE (mg N D) true w e w' := hj.mono fun e w' h => h.1 hok
  have HY : Hid (∀ e W, AnE (pkAll (mg N D) bt) true w e W → PrO N D bt w e W) := fun e W he => ⟨fun _ => he, fun h => absurd hok h⟩
  have hG : Hid (GoodLs (mg N D)) := (rows_iff.1 hok).2
  have h3 : (mg N D).length ≤ 300 := by rw [mg_len]; exact hok.2.1
  have hsm := hSm hok
  have hES := hsm.sz
  have hEB := hsm.eb
  have hFB := hsm.fb
  clear hj hok hSm hz hs hr
  generalize mg N D = E at *
  have hrl := rn_len (eL E) E.length
  go_enter Tryz.func8, Tryz.ntmps8
  go_wp2_with fail
  refine hj2.mono ?_
  rintro e w1 ⟨v, rfl, hv, hb1⟩
  obtain ⟨lo, lc, rfl⟩ := hv.form
  obtain ⟨_, hE1⟩ := hv.erow hEB hFB
  have hcp := hv.cap
  clear hv hj2
  go_wp2_with fail
  refine (keyRuns_of lo lc E _ hE1 (by omega) hcp).mono ?_
  rintro e w2 ⟨v2, rfl, hR2, hb2⟩
  have bw2 := hb1.trans (hb2.mono hb1.size)
  obtain ⟨ro, rc, rfl⟩ := hR2.form
  have HA : Hid (pkAll E bt = pkP (rn (eL E) E.length) bt (rn (eL E) E.length).length) := rfl
  have hpl := pkP_len (rn (eL E) E.length) bt
  have hrun := fun W g i hi h => run_impl hG.out h3 hES bt (W := W) (g := g) (i := i) hi h
  have hpx := fun i => pkX_len (eL (gR (rn (eL E) E.length) i)) (gR (rn (eL E) E.length) i).length bt
  have hstep : ∀ i, pkP (rn (eL E) E.length) bt (i + 1) = pkP (rn (eL E) E.length) bt i ++ pkX (eL (gR (rn (eL E) E.length) i)) (gR (rn (eL E) E.length) i).length bt := fun _ => rfl
  have HP0 : Hid (pkP (rn (eL E) E.length) bt 0 = []) := rfl
  have HST : Hid _ := hstep
  have HPX : Hid _ := hpx
  have HRU : Hid _ := hrun
  have HPL : Hid _ := hpl
  clear hstep hpx hrun hpl hE1 hcp hEB hFB hES hsm hG
  generalize hPK : pkP (rn (eL E) E.length) bt = PK at *
  generalize rn (eL E) E.length = Rs at *
  clear hPK
  go_wp2
  go_loopw [8, 23] (fun u i wr => ∃ (k : Nat) (V : Nat → Value), k ≤ Rs.length ∧ i = .int .i64 k ∧ OutC wr w2.heap.size u (PK k) V ∧ Below w2.heap.size w2 wr) (fun _ i _ => Rs.length - (intOf i).toNat)
  case atStart => exact ⟨0, _, Nat.zero_le _, rfl, by rw [HP0.out]; exact outC_nil _ _, Below.refl _ _⟩
  case round =>
    obtain ⟨k, V, hk, rfl, hO, hbk⟩ := hrel
    obtain ⟨lo, lc, rfl, _⟩ := hO.form
    have bwk := bw2.trans (hbk.mono bw2.size)
    have hkl := HPL.out k
    by_cases hlt : k < Rs.length
    · rcases hR2 with ⟨h0, _⟩ | ⟨g, c, e, hg, hL⟩
      · rw [h0] at hlt; simp at hlt
      · injection e with e1 _ e3
        subst e1
        subst e3
        obtain ⟨p, pc, hc1, hcall⟩ := HRU.out wr g k hlt (hL.keep hbk)
        have hst := HST.out k
        have hpk := HPX.out k
        have HS : Hid (PK (k + 1) = PK k ++ pkX (eL (gR Rs k)) (gR Rs k).length bt) := hst
        have hsz := hbk.size
        clear hst HRU HST HPX HPL HP0 hL
        generalize pkX (eL (gR Rs k)) (gR Rs k).length bt = P at *
        generalize (gR Rs k).length = nk at *
        go_wp2_with fail
        refine (hcall _ (Below.refl _ _)).mono ?_
        rintro e w4 ⟨v4, rfl, hv4, hb4⟩
        obtain ⟨po, pc4, hpv⟩ := hv4.form
        obtain ⟨lo5, lc5, V5, w5, hrun, hO5, hb5⟩ := pack_run 24 hO hv4 hb4 hpk (by omega) hsz
        subst hpv
        have b5 := hbk.trans ((hb4.mono hsz).trans hb5)
        rw [← HS.out] at hO5 hrun
        have HO5 : Hid (OutC w5 w2.heap.size (.slice lo5 (PK (k + 1)).length lc5) (PK (k + 1)) V5) := hO5
        clear hO5 hO hv4 hb4 hcall hb5
        generalize (PK (k + 1)).length = n5 at *
        go_wp2_with (at_builtin; refine wpList_append_eq2 w4 rfl (.tmp 33) (.tmp 34) 24 24 24 rfl rfl (.slice lo (PK k).length lc) (.slice po P.length pc4) (.slice lo5 n5 lc5) rfl rfl w5 hrun ?_)
        go_roundw
        case rel => exact ⟨k + 1, V5, by omega, by go_num, HO5.out, b5⟩
        case measure => simp [intOf]; omega
    · obtain rfl : k = Rs.length := by omega
      have hC := (hO.ca).mono bw2.size (Nat.le_refl _) (Nat.le_refl _)
      have HC : Hid (AnE (PK Rs.length) true w (.returned (.tuple #[.slice lo (PK Rs.length).length lc, .bool true])) wr) := ⟨_, rfl, hC, bwk⟩
      clear hO hC HRU HST HPX HPL HP0 hR2
      generalize hnn : (PK Rs.length).length = nn at *
      go_wp2
      exact bodyPost_ret (v := .tuple #[.slice lo nn lc, .bool true]) (by simp [results, Tryz.results8, go_sem]) rfl (HY.out _ _ (by rw [HA.out]; exact HC.out))

set_option maxRecDepth 100000 in
set_option maxHeartbeats 4000000 in
theorem l8PackAll_any (b off N cap : Nat) (D : Nat → List Ent) (bt : Bool) (w : World) (hr : LR w b off N D) (hN : N ≤ 1048576) (hs : sm D N ≤ 1048576) (hok : RowsOk N D) (hsm : SmL (mg N D)) :
    Calls Tryz.prog 18 #[.slice (some ⟨b, off, none⟩) N cap, .bool bt] w fun e w' => AnS (pkAll (mg N D) bt) w e w' := by
  have hj := l8Join_any b off N cap D w hr hN hs
  have hG : Hid (GoodLs (mg N D)) := (rows_iff.1 hok).2
  have h3 : (mg N D).length ≤ 300 := by rw [mg_len]; exact hok.2.1
  have hES := hsm.sz
  have hEB := hsm.eb
  have hFB := hsm.fb
  clear hok hs hr
  generalize mg N D = E at *
  have hrl := rn_len (eL E) E.length
  go_enter Tryz.func18, Tryz.ntmps18
  go_wp2_with fail
  refine hj.mono ?_
  rintro e w1 ⟨v, rfl, hv, hb1⟩
  obtain ⟨lo, lc, rfl, hE1⟩ := hv.erow hb1 hEB
  clear hv hj
  go_wp2_with fail
  refine (l8Each_of lo lc E _ hE1 (by omega)).mono ?_
  rintro e w2 ⟨v2, rfl, hR2, hb2⟩
  have bw2 := hb1.trans (hb2.mono hb1.size)
  obtain ⟨ro, rc, rfl⟩ := hR2.form
  have HA : Hid (pkAll E bt = pkP (rn (eL E) E.length) bt (rn (eL E) E.length).length) := rfl
  have hpl := pkP_len (rn (eL E) E.length) bt
  have hrun := fun W g i hi h => run_spec hG.out h3 hES bt (W := W) (g := g) (i := i) hi h
  have hpx := fun i => pkX_len (eL (gR (rn (eL E) E.length) i)) (gR (rn (eL E) E.length) i).length bt
  have hstep : ∀ i, pkP (rn (eL E) E.length) bt (i + 1) = pkP (rn (eL E) E.length) bt i ++ pkX (eL (gR (rn (eL E) E.length) i)) (gR (rn (eL E) E.length) i).length bt := fun _ => rfl
  have HP0 : Hid (pkP (rn (eL E) E.length) bt 0 = []) := rfl
  have HST : Hid _ := hstep
  have HPX : Hid _ := hpx
  have HRU : Hid _ := hrun
  have HPL : Hid _ := hpl
  clear hstep hpx hrun hpl hE1 hEB hFB hES hsm hG
  generalize hPK : pkP (rn (eL E) E.length) bt = PK at *
  generalize rn (eL E) E.length = Rs at *
  clear hPK
  go_wp2
  go_loopw [5, 12] (fun u i wr => ∃ (k : Nat) (V : Nat → Value), k ≤ Rs.length ∧ i = .int .i64 k ∧ OutC wr w2.heap.size u (PK k) V ∧ Below w2.heap.size w2 wr) (fun _ i _ => Rs.length - (intOf i).toNat)
  case atStart => exact ⟨0, _, Nat.zero_le _, rfl, by rw [HP0.out]; exact outC_nil _ _, Below.refl _ _⟩
  case round =>
    obtain ⟨k, V, hk, rfl, hO, hbk⟩ := hrel
    obtain ⟨lo, lc, rfl, _⟩ := hO.form
    have bwk := bw2.trans (hbk.mono bw2.size)
    have hkl := HPL.out k
    by_cases hlt : k < Rs.length
    · rcases hR2 with ⟨h0, _⟩ | ⟨g, c, e, hg, hL⟩
      · rw [h0] at hlt; simp at hlt
      · injection e with e1 _ e3
        subst e1
        subst e3
        obtain ⟨p, pc, hc1, hcall⟩ := HRU.out wr g k hlt (hL.keep hbk)
        have hst := HST.out k
        have hpk := HPX.out k
        have HS : Hid (PK (k + 1) = PK k ++ pkX (eL (gR Rs k)) (gR Rs k).length bt) := hst
        have hsz := hbk.size
        clear hst HRU HST HPX HPL HP0 hL
        generalize pkX (eL (gR Rs k)) (gR Rs k).length bt = P at *
        generalize (gR Rs k).length = nk at *
        go_wp2_with fail
        refine (hcall _ (Below.refl _ _)).mono ?_
        rintro e w4 ⟨v4, rfl, hv4, hb4⟩
        obtain ⟨po, pc4, hpv⟩ := hv4.form
        obtain ⟨lo5, lc5, V5, w5, hrun, hO5, hb5⟩ := pack_run 24 hO hv4 hb4 hpk (by omega) hsz
        subst hpv
        have b5 := hbk.trans ((hb4.mono hsz).trans hb5)
        rw [← HS.out] at hO5 hrun
        have HO5 : Hid (OutC w5 w2.heap.size (.slice lo5 (PK (k + 1)).length lc5) (PK (k + 1)) V5) := hO5
        clear hO5 hO hv4 hb4 hcall hb5
        generalize (PK (k + 1)).length = n5 at *
        go_wp2_with (at_builtin; refine wpList_append_eq2 w4 rfl (.tmp 16) (.tmp 19) 24 24 24 rfl rfl (.slice lo (PK k).length lc) (.slice po P.length pc4) (.slice lo5 n5 lc5) rfl rfl w5 hrun ?_)
        go_roundw
        case rel => exact ⟨k + 1, V5, by omega, by go_num, HO5.out, b5⟩
        case measure => simp [intOf]; omega
    · obtain rfl : k = Rs.length := by omega
      have hC := (hO.ca).mono bw2.size (Nat.le_refl _) (Nat.le_refl _)
      have HC : Hid (AnS (PK Rs.length) w (.returned (.slice lo (PK Rs.length).length lc)) wr) := ⟨_, rfl, hC, bwk⟩
      clear hO hC HRU HST HPX HPL HP0 hR2
      generalize hnn : (PK Rs.length).length = nn at *
      go_wp2
      go_ret
      rw [HA.out]
      exact HC.out

set_option maxHeartbeats 4000000 in
theorem packRows_spec (b off N cap : Nat) (D : Nat → List Ent) (bt : Bool) (w : World) (hr : LR w b off N D) (hN : N ≤ 1048576) (hs : sm D N ≤ 1048576) (hz : ∀ i, i < N → ESize (D i).length (eL (D i))) (hSm : RowsOk N D → SmL (mg N D)) :
    Calls Tryz.prog 6 #[.slice (some ⟨b, off, none⟩) N cap, .bool bt] w fun e w' => PrO N D bt w e w' := by
  have hp := fun W hW hok => l8PackAll_any b off N cap D bt W hW hN hs hok (hSm hok)
  have HN : Hid (¬ RowsOk N D → ∀ W, Below w.heap.size w W → PrO N D bt w (.returned (.tuple #[.slice none 0 0, .bool false])) W) := fun h W hb => ⟨fun h2 => absurd h2 h, fun _ => ane_no hb⟩
  have HY : Hid (RowsOk N D → ∀ e W, AnE (pkAll (mg N D) bt) true w e W → PrO N D bt w e W) := fun h e W he => ⟨fun _ => he, fun h2 => absurd h h2⟩
  go_enter Tryz.func6, Tryz.ntmps6
  go_wp2_with fail
  refine (l8Rows_any b off N cap D w hr hN hs hz).mono ?_
  rintro e w1 ⟨b1, rfl, h1, hb1⟩
  cases b1
  · have H : Hid (¬ RowsOk N D) := fun h => by
      have := h1.2 h
      cases this
    clear h1
    go_wp2
    exact bodyPost_ret (v := .tuple #[.slice none 0 0, .bool false]) (by simp [results, Tryz.results6, go_sem]) rfl (HN.out H.out _ hb1)
  · have H : Hid (RowsOk N D) := h1.1 rfl
    clear h1
    go_wp2_with fail
    refine (hp _ (hr.keep hb1) H.out).mono ?_
    rintro e w2 ⟨v2, rfl, hv2, hb2⟩
    have bw2 := hb1.trans (hb2.mono hb1.size)
    obtain ⟨lo, lc, rfl⟩ := hv2.form
    have hC := hv2.mono hb1.size (Nat.le_refl _) (Nat.le_refl _)
    go_wp2
    exact bodyPost_ret (v := .tuple #[.slice lo (pkAll (mg N D) bt).length lc, .bool true]) (by simp [results, Tryz.results6, go_sem]) rfl (HY.out H.out _ _ ⟨_, rfl, hC, bw2⟩)
end Go.Proofs.YtfdbhkjmkpgomaaGreat

namespace Go.Proofs.YtfdbhkjmkpgomaaGreat
set_option maxRecDepth 100000
open Go.RowKit
set_option linter.unusedSimpArgs false
set_option linter.unusedVariables false

set_option maxHeartbeats 4000000 in
theorem liveIn_impl (b off N cap : Nat) (D : Nat → List Ent) (w : World) (hr : LR w b off N D) (hN : N ≤ 1048576) (hs : sm D N ≤ 1048576) (hz : ∀ i, i < N → ESize (D i).length (eL (D i))) (hSm : RowsOk N D → SmL (mg N D)) :
    Calls Tryz.prog 15 #[.slice (some ⟨b, off, none⟩) N cap] w fun e w' => PrO N D true w e w' := by
  have hp := packRows_impl b off N cap D true w hr hN hs hz hSm
  obtain ⟨E, c, hA, hB⟩ : ∃ (E : List Ent) (c : Bool), (∀ e w', PrO N D true w e w' → AnE E c w e w') ∧ (∀ e w', AnE E c w e w' → PrO N D true w e w') := by
    by_cases h : RowsOk N D
    · exact ⟨_, _, fun e w' hh => hh.1 h, fun e w' hh => ⟨fun _ => hh, fun h2 => absurd h h2⟩⟩
    · exact ⟨_, _, fun e w' hh => hh.2 h, fun e w' hh => ⟨fun h2 => absurd h2 h, fun _ => hh⟩⟩
  have hp2 : Calls Tryz.prog 8 #[.slice (some ⟨b, off, none⟩) N cap, .bool true] w fun e w' => AnE E c w e w' := hp.mono fun e w' h => hA e w' h
  have HB : Hid (∀ e w', AnE E c w e w' → PrO N D true w e w') := hB
  clear hp hA hB hSm hz
  go_enter Tryz.func15, Tryz.ntmps15
  go_wp2_with fail
  refine hp2.mono ?_
  rintro e w1 ⟨v, rfl, hv, hb1⟩
  obtain ⟨lo, lc, rfl⟩ := hv.form
  go_wp2
  exact bodyPost_ret (v := .tuple #[.slice lo E.length lc, .bool c]) (by simp [results, Tryz.results15, go_sem]) rfl (HB.out _ _ ⟨_, rfl, hv, hb1⟩)

/-- What is told of a run. -/
theorem run_live {E : List Ent} (hg : GoodLs E) (h3 : E.length ≤ 300) {W : World} {g i : Nat} (hi : i < (rn (eL E) E.length).length) (h : LR W g 0 (rn (eL E) E.length).length (gR (rn (eL E) E.length))) :
    ∃ b off c d0 c0, W.cell? ⟨g, i, none⟩ = some (.slice (some ⟨b, off, none⟩) (gR (rn (eL E) E.length) i).length c) ∧ 0 < (gR (rn (eL E) E.length) i).length ∧ EAt W b off (eL (gR (rn (eL E) E.length) i) 0) d0 c0 ∧
      ((NoF (eL (gR (rn (eL E) E.length) i)) (gR (rn (eL E) E.length) i).length ∧ pkX (eL (gR (rn (eL E) E.length) i)) (gR (rn (eL E) E.length) i).length true = [] ∧ (∀ W', Below W.heap.size W W' → Calls Tryz.prog 43 #[.slice (some ⟨b, off, none⟩) (gR (rn (eL E) E.length) i).length c] W' fun e w' => FlO dE false W' e w')) ∨
       ∃ y : Ent, pkX (eL (gR (rn (eL E) E.length) i)) (gR (rn (eL E) E.length) i).length true = [⟨(eL (gR (rn (eL E) E.length) i) 0).key, (eL (gR (rn (eL E) E.length) i) 0).seq, 1, y.c, y.s, y.lo, y.hi, y.n, y.f, y.fu⟩] ∧ (∀ W', Below W.heap.size W W' → Calls Tryz.prog 43 #[.slice (some ⟨b, off, none⟩) (gR (rn (eL E) E.length) i).length c] W' fun e w' => FlO y true W' e w')) := by
  obtain ⟨p, c, h1, h2, h4⟩ := h.row i hi
  obtain ⟨g1, g2, g3, g4⟩ := run_ok hg hi
  obtain ⟨b, off, rfl, hlt, hc⟩ := h4.lies.resolve_left (by omega)
  obtain ⟨d0, c0, ea, _⟩ := hc 0 g2
  rw [Nat.zero_mul, Nat.add_zero] at ea
  have hf := fun W' (hW : Below W.heap.size W W') => l5Fold_any b off _ c _ W' (h4.keep hW) g3.1 (by omega)
  refine ⟨b, off, c, d0, c0, by rw [Nat.zero_add] at h1; exact h1, g2, ea, ?_⟩
  by_cases hN : NoF (eL (gR (rn (eL E) E.length) i)) (gR (rn (eL E) E.length) i).length
  · exact .inl ⟨hN, by unfold pkX; rw [show (if (gR (rn (eL E) E.length) i).length = 0 ∨ (eL (gR (rn (eL E) E.length) i) 0).kind = 2 then (if (gR (rn (eL E) E.length) i).length = 0 ∨ true = true then [] else [eL (gR (rn (eL E) E.length) i) 0]) else [pk1 (eL (gR (rn (eL E) E.length) i)) (gR (rn (eL E) E.length) i).length true]) = _ from if_pos hN]; simp, fun W' hW => (hf W' hW).mono fun e w' hh => hh.1 hN⟩
  · refine .inr ⟨fdA (eL (gR (rn (eL E) E.length) i)) (gR (rn (eL E) E.length) i).length, ?_, fun W' hW => (hf W' hW).mono fun e w' hh => hh.2 hN⟩
    unfold pkX
    rw [show (if (gR (rn (eL E) E.length) i).length = 0 ∨ (eL (gR (rn (eL E) E.length) i) 0).kind = 2 then (if (gR (rn (eL E) E.length) i).length = 0 ∨ true = true then [] else [eL (gR (rn (eL E) E.length) i) 0]) else [pk1 (eL (gR (rn (eL E) E.length) i)) (gR (rn (eL E) E.length) i).length true]) = _ from if_neg hN]
    simp [pk1]

set_option maxRecDepth 100000 in
set_option maxHeartbeats 8000000 in
theorem l8Live_any (b off N cap : Nat) (D : Nat → List Ent) (w : World) (hr : LR w b off N D) (hN : N ≤ 1048576) (hs : sm D N ≤ 1048576) (hok : RowsOk N D) (hsm : SmL (mg N D)) :
    Calls Tryz.prog 27 #[.slice (some ⟨b, off, none⟩) N cap] w fun e w' => AnS (pkAll (mg N D) true) w e w' := by
  have hj := l8Join_any b off N cap D w hr hN hs
  have hG : Hid (GoodLs (mg N D)) := (rows_iff.1 hok).2
  have h3 : (mg N D).length ≤ 300 := by rw [mg_len]; exact hok.2.1
  have hEB := hsm.eb
  clear hok hs hr
  generalize mg N D = E at *
  have hrl := rn_len (eL E) E.length
  go_enter Tryz.func27, Tryz.ntmps27
  go_wp2_with fail
  refine hj.mono ?_
  rintro e w1 ⟨v, rfl, hv, hb1⟩
  obtain ⟨lo, lc, rfl, hE1⟩ := hv.erow hb1 hEB
  clear hv hj
  go_wp2_with fail
  refine (l8Each_of lo lc E _ hE1 (by omega)).mono ?_
  rintro e w2 ⟨v2, rfl, hR2, hb2⟩
  have bw2 := hb1.trans (hb2.mono hb1.size)
  obtain ⟨ro, rc, rfl⟩ := hR2.form
  have HA : Hid (pkAll E true = pkP (rn (eL E) E.length) true (rn (eL E) E.length).length) := rfl
  have hpl := pkP_len (rn (eL E) E.length) true
  have hrun := fun W g i hi h => run_live hG.out h3 (W := W) (g := g) (i := i) hi h
  have hstep : ∀ i, pkP (rn (eL E) E.length) true (i + 1) = pkP (rn (eL E) E.length) true i ++ pkX (eL (gR (rn (eL E) E.length) i)) (gR (rn (eL E) E.length) i).length true := fun _ => rfl
  have HP0 : Hid (pkP (rn (eL E) E.length) true 0 = []) := rfl
  have HST : Hid _ := hstep
  have HRU : Hid _ := hrun
  have HPL : Hid _ := hpl
  clear hstep hrun hpl hE1 hEB hsm hG
  generalize hPK : pkP (rn (eL E) E.length) true = PK at *
  generalize rn (eL E) E.length = Rs at *
  clear hPK
  go_wp2
  go_loopw [3, 12] (fun u i wr => ∃ (k : Nat) (V : Nat → Value), k ≤ Rs.length ∧ i = .int .i64 k ∧ OutC wr w2.heap.size u (PK k) V ∧ Below w2.heap.size w2 wr) (fun _ i _ => Rs.length - (intOf i).toNat)
  case atStart => exact ⟨0, _, Nat.zero_le _, rfl, by rw [HP0.out]; exact outC_nil _ _, Below.refl _ _⟩
  case round =>
    obtain ⟨k, V, hk, rfl, hO, hbk⟩ := hrel
    obtain ⟨lo, lc, rfl, _⟩ := hO.form
    have bwk := bw2.trans (hbk.mono bw2.size)
    have hkl := HPL.out k
    by_cases hlt : k < Rs.length
    rotate_left
    · obtain rfl : k = Rs.length := by omega
      have hC := (hO.ca).mono bw2.size (Nat.le_refl _) (Nat.le_refl _)
      have HC : Hid (AnS (PK Rs.length) w (.returned (.slice lo (PK Rs.length).length lc)) wr) := ⟨_, rfl, hC, bwk⟩
      clear hO hC HRU HST HPL HP0 hR2
      generalize hnn : (PK Rs.length).length = nn at *
      go_wp2
      go_ret
      rw [HA.out]
      exact HC.out
    rcases hR2 with ⟨h0, _⟩ | ⟨g, c, e, hg, hL⟩
    · rw [h0] at hlt; simp at hlt
    injection e with e1 _ e3
    subst e1
    subst e3
    obtain ⟨bx, ox, pc, d0, c0, hc1, hpos, ea, hor⟩ := HRU.out wr g k hlt (hL.keep hbk)
    have hst := HST.out k
    have hsz := hbk.size
    clear HRU HST HPL HP0 hL
    rcases hor with ⟨_, hP, hcall⟩ | ⟨y, hP, hcall⟩
    · rw [hP, List.append_nil] at hst
      have HS : Hid (PK (k + 1) = PK k) := hst
      have hO2 : Hid (OutC wr w2.heap.size (.slice lo (PK k).length lc) (PK k) V) := hO
      clear hst hP hO ea
      generalize (gR Rs k).length = nk at *
      generalize dE = y at *
      go_wp2_with fail
      refine (hcall _ (Below.refl _ _)).mono ?_
      rintro e w4 ⟨zo, zc, rfl, _, hb4⟩
      have hB5 := below_new w4 (.cells #[.int .i64 y.c, .int .i64 y.s, .int .i64 y.lo, .int .i64 y.hi, .slice zo y.n zc, .bool y.fu] 46)
      have b45 := hb4.trans (hB5.mono hb4.size)
      have hO5 := hO2.out.keep b45
      have b5 := hbk.trans (b45.mono hsz)
      rw [← HS.out] at hO5
      have HO5 : Hid (OutC (w4.alloc (.cells #[.int .i64 y.c, .int .i64 y.s, .int .i64 y.lo, .int .i64 y.hi, .slice zo y.n zc, .bool y.fu] 46)) w2.heap.size (.slice lo (PK (k + 1)).length lc) (PK (k + 1)) V) := hO5
      have HLE : Hid ((PK (k + 1)).length = (PK k).length) := by rw [HS.out]; rfl
      rw [HLE.out] at HO5
      clear hO5 hO2 hcall
      generalize (PK k).length = n5 at *
      go_wp2
      go_roundw
      case rel => exact ⟨k + 1, V, by omega, by go_num, HO5.out, b5⟩
      case measure => simp [intOf]; omega
    · rw [hP] at hst
      clear hP
      have hposi : (0 : Int) < ((gR Rs k).length : Int) := by omega
      go_wp2_with fail
      refine (hcall _ (Below.refl _ _)).mono ?_
      rintro e w4 ⟨zo, zc, rfl, hh, hb4⟩
      have hB5 := below_new w4 (.cells #[.int .i64 y.c, .int .i64 y.s, .int .i64 y.lo, .int .i64 y.hi, .slice zo y.n zc, .bool y.fu] 46)
      have hA5 := AAt.new w4 y.c y.s y.lo y.hi (.slice zo y.n zc) y.fu 46
      have HS5 : Hid ((w4.alloc (.cells #[.int .i64 y.c, .int .i64 y.s, .int .i64 y.lo, .int .i64 y.hi, .slice zo y.n zc, .bool y.fu] 46)).heap.size = w4.heap.size + 1) := by simp [Hid]
      go_wp2
      generalize w4.alloc (.cells #[.int .i64 y.c, .int .i64 y.s, .int .i64 y.lo, .int .i64 y.hi, .slice zo y.n zc, .bool y.fu] 46) = w5 at *
      have b45 := hb4.trans (hB5.mono hb4.size)
      have hO5 := hO.keep b45
      have b5 := hbk.trans (b45.mono hsz)
      obtain ⟨_, z0, z1, z2, z3, z4, z5⟩ := hA5
      have ea5 := ea.keep b45
      have p0 := ea5.c0
      have p1 := ea5.c1
      have ltv := hO.own.lt
      have ltV := fun i hi hp (c : Nat) hc => (hO.ltV (i := i) hi hp (c := c) hc).2
      obtain ⟨X, hX⟩ : ∃ X : Ent, (⟨(eL (gR Rs k) 0).key, (eL (gR Rs k) 0).seq, 1, y.c, y.s, y.lo, y.hi, y.n, y.f, y.fu⟩ : Ent) = X := ⟨_, rfl⟩
      have hB6 : Below w5.heap.size w5 (w5.drew.alloc (.cells #[.string X.key, .int .i64 X.seq, .int .i64 X.kind, .int .i64 X.c, .int .i64 X.s, .int .i64 X.lo, .int .i64 X.hi, .slice zo X.n zc, .bool X.fu] 48)) := (Below.refl _ w5).drew.alloc (by simp) _
      obtain ⟨lo7, lc7, V7, w7, hrun7, hO7, hb7⟩ := one_run (gc := 1) (x := X) (xo := zo) (xc := zc) (g := w5.heap.size) 24 (hO5.keep hB6) (by have := EAt.new w5.drew X zo zc 48; simpa using this) (by
        have e1 : y.n = X.n := by rw [← hX]
        have e2 : y.f = X.f := by rw [← hX]
        rcases hh with h0 | ⟨q, g1, g2, g3⟩
        · exact .inl (e1.symm.trans h0)
        · have g6 := (g3.keep hB5).keep hB6
          rw [e1, e2] at g6
          exact .inr ⟨q, g1, by omega, g6, fun e => by have := (ltv q e).2; omega, fun i hi hp e => by have := ltV i hi hp q e; omega⟩) (by omega) (by have := b45.size; simp; omega)
      have b7 : Below w2.heap.size w2 w7 := b5.trans (((hB6.mono (by have := b45.size; omega))).trans hb7)
      rw [hX] at hst
      rw [← hst] at hO7
      have HLE : Hid ((PK (k + 1)).length = (PK k).length + 1) := by rw [hst]; simp [Hid]
      have HO7 : Hid (OutC w7 w2.heap.size (.slice lo7 ((PK k).length + 1) lc7) (PK (k + 1)) V7) := hO7
      rw [← hX] at hrun7
      clear hO7 hO5 hO ea ea5 hh hst hX hB6 hb7 hcall HS5 ltv ltV
      generalize (PK k).length = n5 at *
      generalize eL (gR Rs k) 0 = x0 at *
      generalize (gR Rs k).length = nk at *
      go_region_law (refine step_append_ty (by rfl) (.tmp 22) (.tmp 33) 24 24 (by rfl) (by rfl) (.slice lo n5 lc) (.slice (some ⟨w5.heap.size, 0, none⟩) 1 1) (.slice lo7 (n5 + 1) lc7) (by simp [Act.eval, Act.put]) (by simp [Act.eval, Act.put]) w7 hrun7 ?_)
      all_goals
        go_wp2
        go_roundw
        case rel => exact ⟨k + 1, V7, by omega, by go_num, HO7.out, b7⟩
        case measure => simp [intOf]; omega

set_option maxHeartbeats 4000000 in
theorem liveIn_spec (b off N cap : Nat) (D : Nat → List Ent) (w : World) (hr : LR w b off N D) (hN : N ≤ 1048576) (hs : sm D N ≤ 1048576) (hz : ∀ i, i < N → ESize (D i).length (eL (D i))) (hSm : RowsOk N D → SmL (mg N D)) :
    Calls Tryz.prog 14 #[.slice (some ⟨b, off, none⟩) N cap] w fun e w' => PrO N D true w e w' := by
  have hp := fun W hW hok => l8Live_any b off N cap D W hW hN hs hok (hSm hok)
  have HN : Hid (¬ RowsOk N D → ∀ W, Below w.heap.size w W → PrO N D true w (.returned (.tuple #[.slice none 0 0, .bool false])) W) := fun h W hb => ⟨fun h2 => absurd h2 h, fun _ => ane_no hb⟩
  have HY : Hid (RowsOk N D → ∀ e W, AnE (pkAll (mg N D) true) true w e W → PrO N D true w e W) := fun h e W he => ⟨fun _ => he, fun h2 => absurd h h2⟩
  go_enter Tryz.func14, Tryz.ntmps14
  go_wp2_with fail
  refine (l8Rows_any b off N cap D w hr hN hs hz).mono ?_
  rintro e w1 ⟨b1, rfl, h1, hb1⟩
  cases b1
  · have H : Hid (¬ RowsOk N D) := fun h => by
      have := h1.2 h
      cases this
    clear h1
    go_wp2
    exact bodyPost_ret (v := .tuple #[.slice none 0 0, .bool false]) (by simp [results, Tryz.results14, go_sem]) rfl (HN.out H.out _ hb1)
  · have H : Hid (RowsOk N D) := h1.1 rfl
    clear h1
    go_wp2_with fail
    refine (hp _ (hr.keep hb1) H.out).mono ?_
    rintro e w2 ⟨v2, rfl, hv2, hb2⟩
    have bw2 := hb1.trans (hb2.mono hb1.size)
    obtain ⟨lo, lc, rfl⟩ := hv2.form
    have hC := hv2.mono hb1.size (Nat.le_refl _) (Nat.le_refl _)
    go_wp2
    exact bodyPost_ret (v := .tuple #[.slice lo (pkAll (mg N D) true).length lc, .bool true]) (by simp [results, Tryz.results14, go_sem]) rfl (HY.out H.out _ _ ⟨_, rfl, hC, bw2⟩)
end Go.Proofs.YtfdbhkjmkpgomaaGreat

namespace Go.Proofs.YtfdbhkjmkpgomaaGreat
set_option maxRecDepth 100000
open Go.RowKit
set_option linter.unusedSimpArgs false
set_option linter.unusedVariables false

theorem pkP_sm {E : List Ent} (hg : GoodLs E) (hs : SmL E) (bt : Bool) : ∀ k, k ≤ (rn (eL E) E.length).length → SmL (pkP (rn (eL E) E.length) bt k)
  | 0, _ => (fun x hx => nomatch hx)
  | k + 1, hk => by
    have ih := pkP_sm hg hs bt k (by omega)
    intro x hx
    unfold pkP at hx
    rcases List.mem_append.1 hx with h | h
    · exact ih x h
    · have hi : k < (rn (eL E) E.length).length := by omega
      have h2 := (rn_all (eL E) E.length _ (gR_mem hi)).2.1
      rw [sl_zero] at h2
      have hm : ∀ j, j < (gR (rn (eL E) E.length) k).length → eL (gR (rn (eL E) E.length) k) j ∈ E := fun j hj => h2.subset (eL_mem hj)
      exact pkX_sm (fun j hj => hg.1 _ (hm j hj)) (fun j hj => (hs _ (hm j hj)).eb) (fun j hj => (hs _ (hm j hj)).f) x h
theorem pro_of {w : World} {ao : Option Addr} {N : Nat} {R : Nat → Nat → Ent} {M : Nat → Nat} (hr : RRow w ao N R M) (bt : Bool) : ∃ (E : List Ent) (c : Bool), SmL E ∧ E.length ≤ 1000 ∧ ∀ w e w', PrO N (dR R M) bt w e w' → AnE E c w e w' := by
  by_cases h : RowsOk N (dR R M)
  · have h3 : (mg N (dR R M)).length ≤ 300 := by rw [mg_len]; exact h.2.1
    have h4 := rn_len (eL (mg N (dR R M))) (mg N (dR R M)).length
    have h5 := pkP_len (rn (eL (mg N (dR R M))) (mg N (dR R M)).length) bt (rn (eL (mg N (dR R M))) (mg N (dR R M)).length).length
    exact ⟨pkAll (mg N (dR R M)) bt, true, pkP_sm (rows_iff.1 h).2 (mg_sm hr h) bt _ (Nat.le_refl _), by unfold pkAll; omega, fun w e w' hp => hp.1 h⟩
  · exact ⟨[], false, (fun x hx => nomatch hx), by simp, fun w e w' hp => hp.2 h⟩
end Go.Proofs.YtfdbhkjmkpgomaaGreat
