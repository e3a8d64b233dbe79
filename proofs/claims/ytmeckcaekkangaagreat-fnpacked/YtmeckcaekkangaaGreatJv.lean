/- What is packed, gathered: entries whose lists are their own. / What JoinRows answers can be held by a law. -/
import Derived.Test.YtmeckcaekkangaaGreatRe
import Derived.Test.YtmeckcaekkangaaGreatPk
import Derived.Test.YtmeckcaekkangaaGreatJt
import Derived.Test.YtmeckcaekkangaaGreatLw
namespace Go.Proofs.YtmeckcaekkangaaGreat
set_option maxRecDepth 100000
open Go.RowKit
set_option linter.unusedSimpArgs false
set_option linter.unusedVariables false

/-- v is a slice of the call's own of the entries E, each with a list of its own, all apart. -/
structure OutC (w : World) (base : Nat) (v : Value) (E : List Ent) (V : Nat → Value) : Prop where
  own : w.ownsRow base 48 9 v E.length ((List.range E.length).flatMap fun i => ecells (eL E i) (V i))
  row : ∀ i, i < E.length → ∃ lo lc, V i = .slice lo (eL E i).n lc ∧ ((eL E i).n = 0 ∨ ∃ G, lo = some ⟨G, 0, none⟩ ∧ base ≤ G ∧ IOwn w G 0 (eL E i).n (eL E i).f)
  apart : ∀ i, i < E.length → 0 < (eL E i).n → ∀ c, (V i).ownBlock = some c → v.ownBlock ≠ some c
  dis : ∀ i j, i < E.length → j < E.length → i ≠ j → 0 < (eL E i).n → 0 < (eL E j).n → ∀ c, (V i).ownBlock = some c → (V j).ownBlock ≠ some c
theorem outC_nil (w : World) (base : Nat) : OutC w base (.slice none 0 0) [] (fun _ => .slice none 0 0) := ⟨World.ownsRow_nil _ _ _ _, fun i hi => absurd hi (Nat.not_lt_zero _), fun i hi => absurd hi (Nat.not_lt_zero _), fun i j hi => absurd hi (Nat.not_lt_zero _)⟩
section
variable {w w' : World} {base : Nat} {v : Value} {E : List Ent} {V : Nat → Value}
theorem OutC.keep (h : OutC w base v E V) (hb : Below w.heap.size w w') : OutC w' base v E V :=
  ⟨ownsRow_keep h.own hb, fun i hi => by obtain ⟨lo, lc, e, h2⟩ := h.row i hi; exact ⟨lo, lc, e, h2.elim .inl fun ⟨G, g1, g2, g3⟩ => .inr ⟨G, g1, g2, g3.keep hb⟩⟩, h.apart, h.dis⟩
theorem OutC.form (h : OutC w base v E V) : ∃ lo lc, v = .slice lo E.length lc ∧ E.length ≤ lc := by
  rcases h.own.2 with ⟨rfl, h0⟩ | ⟨g, c, cur, rfl, _, _, h5, _⟩
  · exact ⟨none, 0, by rw [h0], by omega⟩
  · exact ⟨_, _, rfl, h5⟩
theorem OutC.ltV (h : OutC w base v E V) {i : Nat} (hi : i < E.length) (hp : 0 < (eL E i).n) {c : Nat} (hc : (V i).ownBlock = some c) : base ≤ c ∧ c < w.heap.size := by
  obtain ⟨lo, lc, e, h2⟩ := h.row i hi
  rcases h2 with h0 | ⟨G, g1, g2, g3⟩
  · omega
  · rw [e, g1] at hc
    have hc' : some G = some c := hc
    injection hc' with hc'
    subst hc'
    exact ⟨g2, g3.lt⟩
theorem OutC.push {v' : Value} {x : Ent} {xo : Option Addr} {xc : Nat} (h : OutC w base v E V) (hx : x.n = 0 ∨ ∃ G, xo = some ⟨G, 0, none⟩ ∧ base ≤ G ∧ IOwn w G 0 x.n x.f ∧ v.ownBlock ≠ some G ∧ ∀ i, i < E.length → 0 < (eL E i).n → (V i).ownBlock ≠ some G)
    (ho : w'.ownsRow base 48 9 v' (E.length + 1) (((List.range E.length).flatMap fun i => ecells (eL E i) (V i)) ++ ecells x (.slice xo x.n xc))) (hg : w.grownBy w' v.ownBlock) (ha : v'.ownBlock = v.ownBlock ∨ v'.ownBlock = some w.heap.size) :
    OutC w' base v' (E ++ [x]) (fun i => if i = E.length then .slice xo x.n xc else V i) := by
  have hI : ∀ {G n : Nat} {f : Nat → Int}, IOwn w G 0 n f → v.ownBlock ≠ some G → IOwn w' G 0 n f := fun {G n f} h1 hne => by
    have hb := hg.block G h1.lt (fun e => hne e.symm)
    exact ⟨h1.bd, Nat.lt_of_lt_of_le h1.lt hg.size, fun i hi => (World.cell?_of_block (w := w) (a := ⟨G, 0 + i, none⟩) hb).trans (h1.cell i hi), fun i hi => (World.frozen?_of_block (w := w) (a := ⟨G, 0 + i, none⟩) hb).trans (h1.free i hi)⟩
  have hlast : eL (E ++ [x]) E.length = x := by rw [← eL_push _ _ _ (by omega), if_pos rfl]
  have hfr : ∀ i, i < E.length → eL (E ++ [x]) i = eL E i := fun i hi => by rw [← eL_push _ _ i (by omega), if_neg (by omega)]
  have hl : (E ++ [x]).length = E.length + 1 := by simp
  refine ⟨?_, fun i hi => ?_, fun i hi hp c hc => ?_, fun i j hi hj hij hp hq c h1 h2 => ?_⟩
  · rw [hl, List.range_succ, List.flatMap_append]
    have e1 : ((List.range E.length).flatMap fun i => ecells (eL (E ++ [x]) i) (if i = E.length then .slice xo x.n xc else V i)) = ((List.range E.length).flatMap fun i => ecells (eL E i) (V i)) := by
      unfold List.flatMap
      congr 1
      refine List.map_congr_left fun i hi => ?_
      have := List.mem_range.1 hi
      rw [hfr i this, if_neg (by omega)]
    rw [e1]
    have e2 : (List.flatMap (fun i => ecells (eL (E ++ [x]) i) (if i = E.length then Value.slice xo x.n xc else V i)) [E.length]) = ecells x (.slice xo x.n xc) := by
      simp only [List.flatMap_cons, List.flatMap_nil, List.append_nil, if_true]
      rw [hlast]
    rw [e2]
    exact ho
  · rw [hl] at hi
    by_cases e : i = E.length
    · subst e
      rw [hlast]
      refine ⟨xo, xc, by simp, hx.elim .inl fun ⟨G, g1, g2, g3, g4, _⟩ => .inr ⟨G, g1, g2, hI g3 g4⟩⟩
    · rw [hfr i (by omega)]
      obtain ⟨lo, lc, e1, h2⟩ := h.row i (by omega)
      refine ⟨lo, lc, by simp only [e, if_false]; exact e1, ?_⟩
      by_cases h0 : (eL E i).n = 0
      · exact .inl h0
      · rcases h2 with h3 | ⟨G, g1, g2, g3⟩
        · exact .inl h3
        · exact .inr ⟨G, g1, g2, hI g3 (h.apart i (by omega) (by omega) G (by rw [e1, g1]; rfl))⟩
  · rw [hl] at hi
    have hlt : c < w.heap.size ∧ v.ownBlock ≠ some c := by
      by_cases e : i = E.length
      · subst e
        rw [hlast] at hp
        simp only [if_true] at hc
        rcases hx with h0 | ⟨G, g1, g2, g3, g4, _⟩
        · omega
        · rw [g1] at hc
          have hc' : some G = some c := hc
          injection hc' with hc'
          subst hc'
          exact ⟨g3.lt, g4⟩
      · rw [hfr i (by omega)] at hp
        simp only [e, if_false] at hc
        exact ⟨(h.ltV (by omega) hp hc).2, h.apart i (by omega) hp c hc⟩
    rcases ha with ha | ha
    · rw [ha]; exact hlt.2
    · rw [ha]
      intro e
      injection e with e
      omega
  · rw [hl] at hi hj
    by_cases e : i = E.length
    · by_cases e' : j = E.length
      · omega
      · subst e
        rw [hlast] at hp
        rw [hfr j (by omega)] at hq
        simp only [if_true] at h1
        simp only [e', if_false] at h2
        rcases hx with h0 | ⟨G, g1, g2, g3, g4, g5⟩
        · omega
        · rw [g1] at h1
          have h1' : some G = some c := h1
          injection h1' with h1'
          subst h1'
          exact g5 j (by omega) hq h2
    · by_cases e' : j = E.length
      · subst e'
        rw [hlast] at hq
        rw [hfr i (by omega)] at hp
        simp only [e, if_false] at h1
        simp only [if_true] at h2
        rcases hx with h0 | ⟨G, g1, g2, g3, g4, g5⟩
        · omega
        · rw [g1] at h2
          have h2' : some G = some c := h2
          injection h2' with h2'
          subst h2'
          exact g5 i (by omega) hp h1
      · rw [hfr i (by omega)] at hp
        rw [hfr j (by omega)] at hq
        simp only [e, if_false] at h1
        simp only [e', if_false] at h2
        exact h.dis i j (by omega) (by omega) hij hp hq c h1 h2
theorem OutC.ca (h : OutC w base v E V) : CA w base w.heap.size v E := by
  refine ⟨Nat.le_refl _, ?_⟩
  rcases h.own.2 with ⟨rfl, h0⟩ | ⟨g, cap, cur, rfl, hbg, hg, hnc, _⟩
  · exact .inl ⟨List.eq_nil_of_length_eq_zero h0, none, 0, rfl⟩
  · have hlt := (Array.getElem?_eq_some_iff.1 hg).1
    have key : ∀ i, ∃ p : Option Addr × Nat, i < E.length → V i = .slice p.1 (eL E i).n p.2 ∧ ((eL E i).n = 0 ∨ ∃ c, p.1 = some ⟨c, 0, none⟩ ∧ base ≤ c ∧ IOwn w c 0 (eL E i).n (eL E i).f) := fun i => by
      by_cases hi : i < E.length
      · obtain ⟨lo, lc, h1, h2⟩ := h.row i hi
        exact ⟨(lo, lc), fun _ => ⟨h1, h2⟩⟩
      · exact ⟨(none, 0), fun hh => absurd hh hi⟩
    obtain ⟨P, hP⟩ := Classical.axiomOfChoice key
    have ob : ∀ i, i < E.length → ∀ c, (P i).1 = some ⟨c, 0, none⟩ → (V i).ownBlock = some c := fun i hi c hc => by rw [(hP i hi).1, hc]; rfl
    have c : ∀ i j, i < E.length → j < 9 → w.cell? ⟨g, i * 9 + j, none⟩ = (ecells (eL E i) (V i))[j]? := fun i j hi hj => by rw [h.own.cellAt (i * 9 + j) (by omega), fm9_get E.length (eL E) V hi hj]
    refine .inr ⟨g, cap, fun i => (P i).1, fun i => (P i).2, rfl, hnc, hbg, hlt, ⟨hlt, fun i hi => ?_, fun j _ => by simpa using h.own.frozenAt j, fun i hi => ?_, fun i j hi hj hij h1 h2 q hL1 hL2 => ?_⟩, fun i hi hp q hq => ?_⟩
    · have cc := fun j hj => c i j hi hj
      rw [(hP i hi).1] at cc
      exact ⟨hlt, cc 0 (by omega), cc 1 (by omega), cc 2 (by omega), cc 3 (by omega), cc 4 (by omega), cc 5 (by omega), cc 6 (by omega), cc 7 (by omega), cc 8 (by omega)⟩
    · by_cases h0 : (eL E i).n = 0
      · exact .inl h0
      · rcases (hP i hi).2 with h3 | ⟨q, h1, _, h4⟩
        · exact .inl h3
        · exact .inr ⟨q, h1, fun e => h.apart i hi (by omega) q (ob i hi q h1) (by rw [e]; rfl), h4⟩
    · exact h.dis i j hi hj hij h1 h2 q (ob i hi q hL1) (ob j hj q hL2)
    · exact h.ltV hi hp (ob i hi q hq)
end

/-- Nothing put behind. -/
theorem app_none (w : World) (a lo : Option Addr) (n c lc : Nat) (ty : TypeId) (h : n ≤ c) : (Builtin.append_ #[26, 26] ty #[.slice a n c, .slice lo 0 lc]).run Tryz.prog w = .ok (.slice a n c) w := by
  obtain ⟨i0, hi, hz0, hz1, hz2⟩ := info_parts Tryz.infoEnt
  cases a <;> cases lo <;> simp [Builtin.append_, run_underlying Tryz.underlying26, sizeOf, typeInfo, hi, Builtin.lenOf, Builtin.firstCells, loadCells, loadCellsFrom, storeCells, h]

set_option maxRecDepth 100000 in
/-- One entry in a box put behind. -/
theorem one_run {w : World} {base g gc : Nat} {v : Value} {E : List Ent} {V : Nat → Value} {x : Ent} {xo : Option Addr} {xc : Nat} (ty : TypeId) (h : OutC w base v E V) (he : EAt w g 0 x xo xc)
    (hx : x.n = 0 ∨ ∃ G, xo = some ⟨G, 0, none⟩ ∧ base ≤ G ∧ IOwn w G 0 x.n x.f ∧ v.ownBlock ≠ some G ∧ ∀ i, i < E.length → 0 < (eL E i).n → (V i).ownBlock ≠ some G) (hn : E.length ≤ 1048576) (hb : base ≤ w.heap.size) :
    ∃ lo' lc' V' w', (Builtin.append_ #[26, 26] ty #[v, .slice (some ⟨g, 0, none⟩) 1 gc]).run Tryz.prog w = .ok (.slice lo' (E.length + 1) lc') w' ∧ OutC w' base (.slice lo' (E.length + 1) lc') (E ++ [x]) V' ∧ Below base w w' := by
  obtain ⟨i0, hi, hz0, hz1, hz2⟩ := info_parts Tryz.infoEnt
  obtain ⟨v', w', hrun, h1, h2, _, h4⟩ := run_append_own_at (P := Tryz.prog) w base 26 ty 48 i0 _ 9 96 Tryz.underlying26 hi hz0 hz1 hz2 rfl (by decide) v E.length ((List.range E.length).flatMap fun i => ecells (eL E i) (V i)) h.own ⟨g, 0, none⟩ 1 gc (ecells x (.slice xo x.n xc)) rfl (fun j u hj => by
      have hlt : j < 9 := by
        have := (List.getElem?_eq_some_iff.1 hj).1
        simpa [ecells] using this
      rw [Addr.add_lit, ← hj]
      obtain ⟨_, z0, z1, z2, z3, z4, z5, z6, z7, z8⟩ := he.z
      rcases j with _ | _ | _ | _ | _ | _ | _ | _ | _ | j
      all_goals first | (simp [ecells, z0, z1, z2, z3, z4, z5, z6, z7, z8]; done) | omega) (fun u hu => by
    simp only [ecells, List.mem_cons, List.not_mem_nil, or_false] at hu
    rcases hu with rfl | rfl | rfl | rfl | rfl | rfl | rfl | rfl | rfl <;> rfl) (by unfold maxLen; omega) (by omega) hb
  obtain ⟨lo', lc', rfl⟩ := ownsRow_form h1
  exact ⟨lo', lc', _, w', hrun, h.push hx h1 h2 h4, (Below.refl base w).grown h2 hb (fun q hq => (h.own.lt q hq).1)⟩

/-- What was packed put behind. -/
theorem pack_run {w0 w : World} {base : Nat} {v pv : Value} {E P : List Ent} {V : Nat → Value} (ty : TypeId) (h : OutC w0 base v E V) (hp : CA w w0.heap.size w.heap.size pv P) (hbw : Below w0.heap.size w0 w) (hP : P.length ≤ 1) (hn : E.length ≤ 1048576) (hb : base ≤ w0.heap.size) :
    ∃ lo' lc' V' w', (Builtin.append_ #[26, 26] ty #[v, pv]).run Tryz.prog w = .ok (.slice lo' (E ++ P).length lc') w' ∧ OutC w' base (.slice lo' (E ++ P).length lc') (E ++ P) V' ∧ Below base w w' := by
  have hk := h.keep hbw
  rcases hp.2 with ⟨rfl, lo, lc, rfl⟩ | ⟨g, cap, L, C, rfl, hcp, h1, h2, h3, h4⟩
  · obtain ⟨a, c, rfl, hac⟩ := hk.form
    rw [List.append_nil]
    exact ⟨a, c, V, w, app_none w a lo E.length c lc ty hac, hk, Below.refl _ _⟩
  · by_cases h0 : P = []
    · subst h0
      obtain ⟨a, c, rfl, hac⟩ := hk.form
      rw [List.append_nil]
      exact ⟨a, c, V, w, app_none w a (some ⟨g, 0, none⟩) E.length c cap ty hac, hk, Below.refl _ _⟩
    · obtain ⟨x, rfl⟩ : ∃ x, P = [x] := by
        match P, hP, h0 with
        | [x], _, _ => exact ⟨x, rfl⟩
      have he := h3.ent 0 (by simp)
      have hh := h3.hist 0 (by simp)
      have ltv := h.own.lt
      obtain ⟨lo', lc', V', w', hrun, hO, hB⟩ := one_run (gc := cap) ty hk (x := x) (xo := L 0) (xc := C 0) (g := g) (by simpa [eL] using he) (by
        by_cases hx0 : x.n = 0
        · exact .inl hx0
        · rcases hh with hz | ⟨q, g1, g2, g3⟩
          · exact .inl hz
          · have hq := h4 0 (by simp) (by show 0 < x.n; omega) q g1
            exact .inr ⟨q, g1, by omega, g3, fun e => by have := (ltv q e).2; omega, fun i hi hp e => by have := (h.ltV hi hp e).2; omega⟩) hn (Nat.le_trans hb hbw.size)
      rw [List.length_append, List.length_singleton]
      exact ⟨lo', lc', V', w', hrun, hO, hB⟩
/-- What is packed of the first runs. -/
def pkP (Rs : List (List Ent)) (bt : Bool) : Nat → List Ent
  | 0 => []
  | k + 1 => pkP Rs bt k ++ pkX (eL (gR Rs k)) (gR Rs k).length bt
theorem pkP_len (Rs : List (List Ent)) (bt : Bool) : ∀ k, (pkP Rs bt k).length ≤ k
  | 0 => by simp [pkP]
  | k + 1 => by
    have h1 := pkP_len Rs bt k
    have h2 := pkX_len (eL (gR Rs k)) (gR Rs k).length bt
    unfold pkP
    rw [List.length_append]
    omega
/-- Of runs: each is of one key and lies in what was there. -/
theorem rn_all (X : Nat → Ent) : ∀ k, ∀ L ∈ rn X k, L ≠ [] ∧ L.Sublist (sl X 0 k) ∧ ∀ x ∈ L, ∀ y ∈ L, x.key.toList = y.key.toList
  | 0, L, h => nomatch h
  | k + 1, L, h => by
    have ih := rn_all X k
    have hsub : ∀ M ∈ rn X (k + 1), M.Sublist (sl X 0 (k + 1)) := fun M hM => by rw [← (rn_prop X (k + 1)).1]; exact List.sublist_flatten_of_mem hM
    refine ⟨(rn_prop X (k + 1)).2.1 L h, hsub L h, ?_⟩
    obtain ⟨Rs, a, ha, e, hk⟩ := (rn_prop X (k + 1)).2.2 (by omega)
    have hmem : L ∈ rn X k ∨ L = sl X a (k + 1) := by
      by_cases hc : k = 0 ∨ (X (k - 1)).key.toList ≠ (X k).key.toList
      · rw [rn_new hc] at e h
        rcases List.mem_append.1 h with h | h
        · exact .inl h
        · have := List.append_inj_right' e (by simp)
          rw [List.mem_singleton.1 h]
          injection this with this
          exact .inr this
      · have h0 : k ≠ 0 := fun h => hc (.inl h)
        have he : (X (k - 1)).key.toList = (X k).key.toList := Classical.not_not.1 (fun h => hc (.inr h))
        obtain ⟨Rs', a', ha', e', hk'⟩ := (rn_prop X k).2.2 (by omega)
        have e2 := rn_more h0 he e'
        rw [e2] at e h
        rcases List.mem_append.1 h with h | h
        · exact .inl (by rw [e']; exact List.mem_append_left _ h)
        · have := List.append_inj_right' e (by simp)
          rw [List.mem_singleton.1 h]
          injection this with this
          exact .inr this
    rcases hmem with h1 | h1
    · exact (ih L h1).2.2
    · have key : ∀ x ∈ L, x.key.toList = (X a).key.toList := fun x hx => by
        rw [h1] at hx
        obtain ⟨i, hi, e⟩ := List.mem_map.1 hx
        have := List.mem_range.1 hi
        rw [← e]
        exact hk (a + i) (by omega) (by omega)
      exact fun x hx y hy => (key x hx).trans (key y hy).symm
theorem sl_zero (E : List Ent) : sl (eL E) 0 E.length = E := by
  apply List.ext_getElem
  · simp [sl]
  · intro i h1 h2
    simp [sl, eL, h2]
theorem GoodLs.sub {E L : List Ent} (h : GoodLs E) (hs : L.Sublist E) : GoodLs L := ⟨fun x hx => h.1 x (hs.subset hx), h.2.1.sublist hs, h.2.2.sublist hs⟩
theorem gR_mem {Rs : List (List Ent)} {i : Nat} (h : i < Rs.length) : gR Rs i ∈ Rs := by simp [gR, h]
/-- A run of good entries can be packed. -/
theorem run_ok {E : List Ent} (h : GoodLs E) {i : Nat} (hi : i < (rn (eL E) E.length).length) : (gR (rn (eL E) E.length) i).length ≤ E.length ∧ 0 < (gR (rn (eL E) E.length) i).length ∧ GoodL (eL (gR (rn (eL E) E.length) i)) (gR (rn (eL E) E.length) i).length ∧ OneK (eL (gR (rn (eL E) E.length) i)) (gR (rn (eL E) E.length) i).length := by
  obtain ⟨h1, h2, h3⟩ := rn_all (eL E) E.length _ (gR_mem hi)
  rw [sl_zero] at h2
  have hp : 0 < (gR (rn (eL E) E.length) i).length := List.length_pos_iff.2 h1
  refine ⟨h2.length_le, hp, good_iff.2 (h.sub h2), .inr (h3 _ (eL_mem hp) _ (eL_mem (by omega)))⟩
end Go.Proofs.YtmeckcaekkangaaGreat
namespace Go.Proofs.YtmeckcaekkangaaGreat
set_option maxRecDepth 100000
open Go.RowKit
set_option linter.unusedSimpArgs false
set_option linter.unusedVariables false

theorem dR_len (R : Nat → Nat → Ent) (M : Nat → Nat) (i : Nat) : (dR R M i).length = M i := lX_len _ _
theorem dR_at {R : Nat → Nat → Ent} {M : Nat → Nat} {i j : Nat} (h : j < M i) : eL (dR R M i) j = R i j := lX_at h
theorem ERow.cast {w : World} {ao : Option Addr} {n m : Nat} {X : Nat → Ent} (h : ERow w ao n X) (e : n = m) : ERow w ao m X := e ▸ h
theorem RA.lr {w : World} {lo hi N : Nat} {R : Nat → Nat → Ent} {M : Nat → Nat} (h : RA w lo hi N R M) (hbd : ∀ i, i < N → ∀ j, j < M i → EB (R i j)) : LR w lo 0 N (dR R M) := by
  obtain ⟨A, H, h, _⟩ := h
  refine ⟨h.lt, fun i hi => ⟨some ⟨A i, 0, none⟩, M i, ?_, ?_, ((h.la i hi).row (hbd i hi)).congr (X' := eL (dR R M i)) (fun j hj => (dR_at hj).symm) |>.cast (dR_len R M i).symm⟩⟩
  · rw [Nat.zero_add, dR_len]; exact h.cell i hi
  · rw [dR_len]; exact Nat.le_refl _
theorem RRow.fb {w : World} {ao : Option Addr} {N : Nat} {R : Nat → Nat → Ent} {M : Nat → Nat} (h : RRow w ao N R M) : ∀ i, i < N → ∀ j, j < M i → ∀ q, -9223372036854775808 ≤ (R i j).f q ∧ (R i j).f q ≤ 9223372036854775807 := fun i hi => by
  obtain ⟨b, off, _, _, hc⟩ := h.lies.resolve_left (by omega)
  obtain ⟨da, dc, _, hr⟩ := hc i hi
  exact hr.fb
theorem dR_size {R : Nat → Nat → Ent} {M : Nat → Nat} {N : Nat} (h : N + totR R M N ≤ 1048576) : ∀ i, i < N → ESize (dR R M i).length (eL (dR R M i)) := fun i hi j hj => by
  rw [dR_len] at hj
  rw [dR_at hj]
  have := totR_le (R := R) (M := M) hi
  exact tot_size (B := 1048576) (by omega) j hj
theorem mg_sm {w : World} {ao : Option Addr} {N : Nat} {R : Nat → Nat → Ent} {M : Nat → Nat} (hr : RRow w ao N R M) (h : RowsOk N (dR R M)) : SmL (mg N (dR R M)) := fun x hx => by
  obtain ⟨i, hi, hx2⟩ := mem_fl.1 ((mg_perm N _ _ rfl).mem_iff.1 hx)
  obtain ⟨j, hj, e⟩ := List.getElem_of_mem hx2
  have hj2 : j < M i := by rw [dR_len] at hj; exact hj
  have e2 : R i j = x := by rw [← e, ← eL_get hj, dR_at hj2]
  have hg := (h.2.2.1 i hi).1 x hx2
  exact hg.sm (by rw [← e2]; exact hr.bd i hi j hj2) (by rw [← e2]; exact hr.fb i hi j hj2)
theorem joo_of {w : World} {ao : Option Addr} {N : Nat} {R : Nat → Nat → Ent} {M : Nat → Nat} (hr : RRow w ao N R M) : ∃ (E : List Ent) (c : Bool), SmL E ∧ E.length ≤ 1000 ∧ ∀ w e w', JoO N (dR R M) w e w' → AnE E c w e w' := by
  by_cases h : RowsOk N (dR R M)
  · exact ⟨mg N (dR R M), true, mg_sm hr h, by rw [mg_len]; have := h.2.1; omega, fun w e w' hp => hp.1 h⟩
  · exact ⟨[], false, (fun x hx => nomatch hx), by simp, fun w e w' hp => hp.2 h⟩
end Go.Proofs.YtmeckcaekkangaaGreat
