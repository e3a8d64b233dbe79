/- Entries by their keys, in the model. -/
import Derived.Test.YtmeckcaekkangaaGreatRn
import Derived.Test.YtmeckcaekkangaaGreatJt
namespace Go.Proofs.YtmeckcaekkangaaGreat
set_option maxRecDepth 100000
open Go.RowKit
set_option linter.unusedSimpArgs false
set_option linter.unusedVariables false

set_option maxRecDepth 100000 in
/-- One put behind, as an equation; only its own block is written. -/
theorem gat_run2 (w0 w : World) (base : Nat) (lo : Option Addr) (lc : Nat) (E : List Ent) (x : Ent) (xo : Option Addr) (xc : Nat) (ty : TypeId) (h : GatE w0 w base (.slice lo E.length lc) E) (hx : IRow w0 xo x.n x.f) (hn : E.length ≤ 1048576) (hbase : base ≤ w.heap.size) :
    ∃ lo' lc' w', (Builtin.append_ #[26, 26] ty #[.slice lo E.length lc, .slice (some ⟨w.heap.size, 0, none⟩) 1 1]).run Tryz.prog (w.alloc (.cells #[.string x.key, .int .i64 x.seq, .int .i64 x.kind, .int .i64 x.c, .int .i64 x.s, .int .i64 x.lo, .int .i64 x.hi, .slice xo x.n xc, .bool x.fu] 48)) = .ok (.slice lo' (E.length + 1) lc') w' ∧ GatE w0 w' base (.slice lo' (E.length + 1) lc') (E ++ [x]) ∧
      (w.alloc (.cells #[.string x.key, .int .i64 x.seq, .int .i64 x.kind, .int .i64 x.c, .int .i64 x.s, .int .i64 x.lo, .int .i64 x.hi, .slice xo x.n xc, .bool x.fu] 48)).grownBy w' (Value.slice lo E.length lc).ownBlock ∧ ((Value.slice lo' (E.length + 1) lc').ownBlock = (Value.slice lo E.length lc).ownBlock ∨ (Value.slice lo' (E.length + 1) lc').ownBlock = some (w.heap.size + 1)) := by
  obtain ⟨i0, hi, hz0, hz1, hz2⟩ := info_parts Tryz.infoEnt
  obtain ⟨V, hO, hV⟩ := h
  have hB := below_new w (.cells #[.string x.key, .int .i64 x.seq, .int .i64 x.kind, .int .i64 x.c, .int .i64 x.s, .int .i64 x.lo, .int .i64 x.hi, .slice xo x.n xc, .bool x.fu] 48)
  obtain ⟨v', w', hrun, h1, h2, _, h4⟩ := run_append_own_at (P := Tryz.prog) (w.alloc (.cells #[.string x.key, .int .i64 x.seq, .int .i64 x.kind, .int .i64 x.c, .int .i64 x.s, .int .i64 x.lo, .int .i64 x.hi, .slice xo x.n xc, .bool x.fu] 48)) base 26 ty 48 i0 _ 9 96 Tryz.underlying26 hi hz0 hz1 hz2 rfl (by decide) (.slice lo E.length lc) E.length ((List.range E.length).flatMap fun i => ecells (eL E i) (V i)) (ownsRow_keep hO hB) ⟨w.heap.size, 0, none⟩ 1 1 (ecells x (.slice xo x.n xc)) rfl (nine_new _ _ _ _) (fun u hu => by
    simp only [ecells, List.mem_cons, List.not_mem_nil, or_false] at hu
    rcases hu with rfl | rfl | rfl | rfl | rfl | rfl | rfl | rfl | rfl <;> rfl) (by unfold maxLen; omega) (by omega) (by simp; omega)
  obtain ⟨lo', lc', rfl⟩ := ownsRow_form h1
  refine ⟨lo', lc', w', hrun, ⟨fun i => if i = E.length then .slice xo x.n xc else V i, ?_, fun i hi => ?_⟩, h2, by simpa using h4⟩
  · rw [List.length_append, List.length_singleton, List.range_succ, List.flatMap_append]
    have e1 : ((List.range E.length).flatMap fun i => ecells (eL (E ++ [x]) i) (if i = E.length then .slice xo x.n xc else V i)) = ((List.range E.length).flatMap fun i => ecells (eL E i) (V i)) := by
      unfold List.flatMap
      congr 1
      refine List.map_congr_left fun i hi => ?_
      have := List.mem_range.1 hi
      rw [← eL_push _ _ i (by omega), if_neg (by omega), if_neg (by omega)]
    rw [e1]
    have e2 : (List.flatMap (fun i => ecells (eL (E ++ [x]) i) (if i = E.length then Value.slice xo x.n xc else V i)) [E.length]) = ecells x (.slice xo x.n xc) := by
      simp only [List.flatMap_cons, List.flatMap_nil, List.append_nil, if_true]
      rw [← eL_push _ _ _ (by omega), if_pos rfl]
    rw [e2]
    exact h1
  · rw [List.length_append, List.length_singleton] at hi
    rw [← eL_push _ _ i hi]
    show ∃ lo lc, (if i = E.length then Value.slice xo x.n xc else V i) = _ ∧ _
    split
    · exact ⟨xo, xc, rfl, hx⟩
    · exact hV i (by omega)
theorem GatE.kept {w0 w w' : World} {base : Nat} {v : Value} {E : List Ent} {row : Option Nat} (h : GatE w0 w base v E) (hg : w.grownBy w' row) (hne : ∀ k, row = some k → v.ownBlock ≠ some k) : GatE w0 w' base v E := by
  obtain ⟨V, h, h2⟩ := h
  exact ⟨V, ownsRow_kept h hg hne, h2⟩
theorem GatE.lt {w0 w : World} {base : Nat} {v : Value} {E : List Ent} (h : GatE w0 w base v E) (c : Nat) (hc : v.ownBlock = some c) : base ≤ c ∧ c < w.heap.size := by obtain ⟨V, h, _⟩ := h; exact h.lt c hc
theorem gR_last (Rs : List (List Ent)) (L : List Ent) : gR (Rs ++ [L]) Rs.length = L := by simp [gR]
theorem gR_front {Rs : List (List Ent)} {L L' : List Ent} {i : Nat} (h : i < Rs.length) : gR (Rs ++ [L]) i = gR (Rs ++ [L']) i := by rw [← gR_push _ _ i (by omega), ← gR_push _ _ i (by omega), if_neg (by omega), if_neg (by omega)]

/-- Rows of the call's own, each of them gathered by the call, all apart. -/
structure EaI (w wr : World) (base : Nat) (u : Value) (Rs : List (List Ent)) (V : Nat → Value) : Prop where
  own : wr.ownsRow base 26 1 u Rs.length ((List.range Rs.length).map V)
  row : ∀ i, i < Rs.length → GatE w wr base (V i) (gR Rs i)
  apart : ∀ i, i < Rs.length → ∀ c, (V i).ownBlock = some c → u.ownBlock ≠ some c
  dis : ∀ i j, i < Rs.length → j < Rs.length → i ≠ j → ∀ c, (V i).ownBlock = some c → (V j).ownBlock ≠ some c
theorem eaI_nil (w wr : World) (base : Nat) : EaI w wr base (.slice none 0 0) [] (fun _ => .slice none 0 0) := ⟨World.ownsRow_nil _ _ _ _, fun i hi => absurd hi (Nat.not_lt_zero _), fun i hi => absurd hi (Nat.not_lt_zero _), fun i j hi => absurd hi (Nat.not_lt_zero _)⟩
section
variable {w wr w' : World} {base : Nat} {u : Value} {Rs : List (List Ent)} {V : Nat → Value}
theorem EaI.keep (h : EaI w wr base u Rs V) (hb : Below wr.heap.size wr w') : EaI w w' base u Rs V := ⟨ownsRow_keep h.own hb, fun i hi => (h.row i hi).keep hb, h.apart, h.dis⟩
theorem EaI.form (h : EaI w wr base u Rs V) : ∃ lo lc, u = .slice lo Rs.length lc := ownsRow_form h.own
theorem EaI.rowlt (h : EaI w wr base u Rs V) (i : Nat) (hi : i < Rs.length) (c : Nat) (hc : (V i).ownBlock = some c) : base ≤ c ∧ c < wr.heap.size := (h.row i hi).lt c hc
theorem EaI.block (h : EaI w wr base u Rs V) (h0 : 0 < Rs.length) : ∃ g, ∃ c, u = .slice (some ⟨g, 0, none⟩) Rs.length c := by
  rcases h.own.2 with ⟨_, h1⟩ | ⟨g, c, cur, e, _⟩
  · omega
  · exact ⟨g, c, e⟩
theorem EaI.cellAt {g c i : Nat} (h : EaI w wr base (.slice (some ⟨g, 0, none⟩) Rs.length c) Rs V) (hi : i < Rs.length) : wr.cell? ⟨g, i, none⟩ = some (V i) := by
  rw [h.own.cellAt i (by omega)]
  simp [hi]
theorem EaI.lt {g c : Nat} (h : EaI w wr base (.slice (some ⟨g, 0, none⟩) Rs.length c) Rs V) : g < wr.heap.size := (h.own.lt g rfl).2
theorem EaI.from' {g c : Nat} (h : EaI w wr base (.slice (some ⟨g, 0, none⟩) Rs.length c) Rs V) : base ≤ g := (h.own.lt g rfl).1
/-- A row that is nil put behind. -/
theorem EaI.pushNil {u' : Value} (h : EaI w wr base u Rs V) (ho : w'.ownsRow base 26 1 u' (Rs.length + 1) ((List.range Rs.length).map V ++ [.slice none 0 0])) (hg : wr.grownBy w' u.ownBlock) (ha : u'.ownBlock = u.ownBlock ∨ u'.ownBlock = some wr.heap.size) :
    EaI w w' base u' (Rs ++ [[]]) (fun i => if i = Rs.length then .slice none 0 0 else V i) := by
  refine ⟨?_, fun i hi => ?_, fun i hi c hc => ?_, fun i j hi hj hij c h1 h2 => ?_⟩
  · rw [List.length_append, List.length_singleton, List.range_succ, List.map_append]
    have e1 : ((List.range Rs.length).map fun i => if i = Rs.length then Value.slice none 0 0 else V i) = (List.range Rs.length).map V := List.map_congr_left fun i hi => by
      have := List.mem_range.1 hi
      rw [if_neg (by omega)]
    rw [e1]
    simpa using ho
  · rw [List.length_append, List.length_singleton] at hi
    rw [← gR_push _ _ i hi]
    by_cases e : i = Rs.length
    · simp only [e, if_true]; exact gatE_nil _ _ _
    · simp only [e, if_false]; exact (h.row i (by omega)).kept hg (fun k hk hh => h.apart i (by omega) k hh hk)
  · rw [List.length_append, List.length_singleton] at hi
    by_cases e : i = Rs.length
    · simp only [e, if_true] at hc; cases hc
    · simp only [e, if_false] at hc
      rcases ha with ha | ha
      · rw [ha]; exact h.apart i (by omega) c hc
      · rw [ha]
        intro e2
        have := (h.rowlt i (by omega) c hc).2
        injection e2 with e2
        omega
  · rw [List.length_append, List.length_singleton] at hi hj
    by_cases e : i = Rs.length
    · simp only [e, if_true] at h1; cases h1
    · by_cases e' : j = Rs.length
      · simp only [e', if_true] at h2; cases h2
      · simp only [e, if_false] at h1
        simp only [e', if_false] at h2
        exact h.dis i j (by omega) (by omega) hij c h1 h2
/-- The last row written anew. -/
theorem EaI.setLast {Rs0 : List (List Ent)} {L : List Ent} {x : Ent} {g cO lcL lc2 : Nat} {loL lo2 xo : Option Addr} {xc : Nat} {w2 : World} (h : EaI w wr base (.slice (some ⟨g, 0, none⟩) (Rs0 ++ [L]).length cO) (Rs0 ++ [L]) V) (hVL : V Rs0.length = .slice loL L.length lcL)
    (hG : GatE w w2 base (.slice lo2 (L.length + 1) lc2) (L ++ [x])) (hg : (wr.drew.alloc (.cells #[.string x.key, .int .i64 x.seq, .int .i64 x.kind, .int .i64 x.c, .int .i64 x.s, .int .i64 x.lo, .int .i64 x.hi, .slice xo x.n xc, .bool x.fu] 48)).grownBy w2 (Value.slice loL L.length lcL).ownBlock) (ha : (Value.slice lo2 (L.length + 1) lc2).ownBlock = (Value.slice loL L.length lcL).ownBlock ∨ (Value.slice lo2 (L.length + 1) lc2).ownBlock = some (wr.drew.heap.size + 1)) :
    EaI w (w2.setCell ⟨g, Rs0.length, none⟩ (.slice lo2 (L.length + 1) lc2)) base (.slice (some ⟨g, 0, none⟩) (Rs0 ++ [L]).length cO) (Rs0 ++ [L ++ [x]]) (fun i => if i = Rs0.length then .slice lo2 (L.length + 1) lc2 else V i) ∧ w2.cell? ⟨g, Rs0.length, none⟩ = wr.cell? ⟨g, Rs0.length, none⟩ ∧ w2.frozen? ⟨g, Rs0.length, none⟩ = wr.frozen? ⟨g, Rs0.length, none⟩ := by
  have hlen : (Rs0 ++ [L]).length = Rs0.length + 1 := by simp
  have hlen2 : (Rs0 ++ [L ++ [x]]).length = Rs0.length + 1 := by simp
  have hl : Rs0.length < (Rs0 ++ [L]).length := by omega
  have hBn : Below wr.heap.size wr (wr.drew.alloc (.cells #[.string x.key, .int .i64 x.seq, .int .i64 x.kind, .int .i64 x.c, .int .i64 x.s, .int .i64 x.lo, .int .i64 x.hi, .slice xo x.n xc, .bool x.fu] 48)) := (Below.refl _ wr).drew.alloc (by simp) _
  have hlt := h.lt
  have hneg : (Value.slice loL L.length lcL).ownBlock ≠ some g := by
    rw [← hVL]
    intro e
    exact h.apart Rs0.length hl g e rfl
  have hg' : ∀ c, c < wr.heap.size → (Value.slice loL L.length lcL).ownBlock ≠ some c → w2.heap[c]? = wr.heap[c]? := fun c hc hne => (hg.block c (by simp; omega) (fun e => hne e.symm)).trans (hBn.block c hc)
  have hgb := hg' g hlt hneg
  have hown2 : w2.ownsRow base 26 1 (.slice (some ⟨g, 0, none⟩) (Rs0 ++ [L]).length cO) (Rs0 ++ [L]).length ((List.range (Rs0 ++ [L]).length).map V) := ownsRow_same h.own (fun c hc => by injection hc with hc; subst hc; exact hgb)
  have hst := hown2.stored Rs0.length (.slice lo2 (L.length + 1) lc2)
  have hoth : Others g w2 (w2.setCell ⟨g, Rs0.length, none⟩ (.slice lo2 (L.length + 1) lc2)) := Others.setCell _ _ _ _
  have hbn : ∀ c, (Value.slice lo2 (L.length + 1) lc2).ownBlock = some c → c ≠ g ∧ ∀ i, i < Rs0.length → (V i).ownBlock ≠ some c := fun c hc => by
    rcases ha with ha | ha
    · rw [ha] at hc
      refine ⟨fun e => hneg (by rw [hc, e]), fun i hi e => ?_⟩
      rw [← hVL] at hc
      exact h.dis i Rs0.length (by omega) hl (by omega) c e hc
    · rw [ha] at hc
      injection hc with hc
      simp at hc
      refine ⟨by omega, fun i hi e => ?_⟩
      have := (h.rowlt i (by omega) c e).2
      omega
  refine ⟨⟨?_, fun i hi => ?_, fun i hi c hc => ?_, fun i j hi hj hij c h1 h2 => ?_⟩, World.cell?_of_block (w := wr) (a := ⟨g, Rs0.length, none⟩) hgb, World.frozen?_of_block (w := wr) (a := ⟨g, Rs0.length, none⟩) hgb⟩
  · have e : ((List.range (Rs0 ++ [L ++ [x]]).length).map fun i => if i = Rs0.length then Value.slice lo2 (L.length + 1) lc2 else V i) = ((List.range (Rs0 ++ [L]).length).map V).set Rs0.length (.slice lo2 (L.length + 1) lc2) := by
      rw [hlen, hlen2]
      apply List.ext_getElem
      · simp
      · intro i h1 h2
        simp at h1
        rw [List.getElem_set]
        by_cases e : i = Rs0.length
        · simp [e]
        · simp [e]
          intro h
          exact absurd h.symm e
    rw [e, hlen2, ← hlen]
    exact hst.1
  · rw [hlen2] at hi
    by_cases e : i = Rs0.length
    · subst e
      rw [gR_last]
      simp only [if_true]
      exact hG.kept (others_grown hoth) (fun k hk hh => by injection hk with hk; exact (hbn k hh).1 hk.symm)
    · simp only [e, if_false]
      rw [gR_front (L' := L) (by omega)]
      have h5 := h.row i (by omega)
      obtain ⟨VV, h6, h7⟩ := h5
      refine ⟨VV, ownsRow_same h6 (fun c hc => ?_), h7⟩
      have hc2 := (h6.lt c hc).2
      rw [hoth.block c (fun e2 => h.apart i (by omega) c hc (by rw [e2]; rfl))]
      refine hg' c hc2 (fun e2 => ?_)
      rw [← hVL] at e2
      exact h.dis i Rs0.length (by omega) hl e c hc e2
  · rw [hlen2] at hi
    by_cases e : i = Rs0.length
    · simp only [e, if_true] at hc
      intro e2
      injection e2 with e2
      exact (hbn c hc).1 e2.symm
    · simp only [e, if_false] at hc
      exact h.apart i (by omega) c hc
  · rw [hlen2] at hi hj
    by_cases e : i = Rs0.length
    · by_cases e' : j = Rs0.length
      · omega
      · simp only [e, if_true] at h1
        simp only [e', if_false] at h2
        exact (hbn c h1).2 j (by omega) h2
    · by_cases e' : j = Rs0.length
      · simp only [e, if_false] at h1
        simp only [e', if_true] at h2
        exact (hbn c h2).2 i (by omega) h1
      · simp only [e, if_false] at h1
        simp only [e', if_false] at h2
        exact h.dis i j (by omega) (by omega) hij c h1 h2
theorem EaI.runs (h : EaI w wr base u Rs V) (hw : Below w.heap.size w wr) (hb : ∀ L ∈ Rs, ∀ x ∈ L, EB x) : RunsO wr wr base Rs u := by
  rcases h.own.2 with ⟨rfl, h1⟩ | ⟨g, c, cur, rfl, h3, h4, h5, _⟩
  · exact .inl ⟨List.eq_nil_of_length_eq_zero h1, rfl⟩
  · refine .inr ⟨g, c, rfl, h3, (Array.getElem?_eq_some_iff.1 h4).1, fun i hi => ?_, fun i _ => by simpa using h.own.frozenAt i⟩
    have hmem : gR Rs i ∈ Rs := by simp [gR, hi]
    obtain ⟨lo, lc, e, hE⟩ := (h.row i hi).erow hw (fun j hj => hb _ hmem _ (by rw [eL_get hj]; exact List.getElem_mem hj))
    refine ⟨lo, lc, by rw [h.cellAt hi, e], ?_, hE⟩
    obtain ⟨VV, h6, _⟩ := h.row i hi
    rw [e] at h6
    rcases h6.2 with ⟨e2, h7⟩ | ⟨g', c', cur', e2, _, _, h8, _⟩
    · omega
    · injection e2 with _ _ e3
      omega
end
set_option maxRecDepth 100000 in
/-- A row that is nil put behind, in the walk. -/
theorem wpList_pushN {w wr : World} {ops : Array Oper} {rest : List Oper} {o : Oper} {a : Act} {Q : Exit → Act → World → Prop} (nb : Nat) (hnb : wr.heap.size = nb) (hgd : o.guard = none) (s y : Operand)
    (ho : o.op = .call { callee := .builtin .append, args := #[s, y], argTypes := #[23, 23] })
    (base : Nat) (v : Value) (Rs : List (List Ent)) (V : Nat → Value) (hs : a.eval s = v) (h : EaI w wr base v Rs V)
    (hy : a.eval y = .slice (some ⟨nb, 0, none⟩) 1 1) (hn : Rs.length ≤ 1048576) (hbase : base ≤ wr.heap.size)
    (hk : ∀ lo' lc' w' V', EaI w w' base (.slice lo' (Rs.length + 1) lc') (Rs ++ [[]]) V' → Below base wr w' → (∀ c, c < wr.heap.size → v.ownBlock ≠ some c → w'.heap[c]? = wr.heap[c]?) → wr.heap.size ≤ w'.heap.size → wpList Tryz.prog ops Q rest (a.put o.dst (.slice lo' (Rs.length + 1) lc')) w') :
    wpList Tryz.prog ops Q (o :: rest) a (wr.alloc (.cells #[.slice none 0 0] 26)) := by
  subst hnb
  obtain ⟨i0, hi, hz0, hz1, hz2⟩ := info_parts Tryz.infoES
  have hB := below_new wr (.cells #[.slice none 0 0] 26)
  refine wpList_append_own_at (w := wr.alloc (.cells #[.slice none 0 0] 26)) hgd s y 23 ho base 26 i0 _ 1 24 Tryz.underlying23 hi hz0 hz1 hz2 rfl (by decide) v Rs.length ((List.range Rs.length).map V) hs (ownsRow_keep h.own hB) ⟨wr.heap.size, 0, none⟩ 1 1 [.slice none 0 0] hy rfl (cell_one_v _ _ _) (fun u hu => by rw [List.mem_singleton.1 hu]; rfl) (by unfold maxLen; omega) (by omega) (by simp; omega) ?_
  intro v' w' h1 h2 h3 h4
  obtain ⟨lo', lc', rfl⟩ := ownsRow_form h1
  exact hk lo' lc' w' _ ((h.keep hB).pushNil h1 h2 h4) (((Below.refl base wr).trans (hB.mono hbase)).grown h2 (by simp; omega) (fun q hq => (h.own.lt q hq).1)) (fun c hc hne => (h2.block c (by simp; omega) (fun e => hne e.symm)).trans (hB.block c hc)) (Nat.le_trans hB.size h2.size)

theorem rn_len (X : Nat → Ent) : ∀ k, (rn X k).length ≤ k
  | 0 => by simp [rn]
  | k + 1 => by
    have h := rn_len X k
    show (if _ then _ else _ : List (List Ent)).length ≤ _
    split
    · simp; omega
    · rw [List.length_append, List.length_dropLast, List.length_singleton]; omega
theorem rn_eb {X : Nat → Ent} {n : Nat} (h : ∀ i, i < n → EB (X i)) : ∀ L ∈ rn X n, ∀ x ∈ L, EB x := fun L hL x hx => by
  have h1 : x ∈ (rn X n).flatten := List.mem_flatten.2 ⟨L, hL, hx⟩
  rw [(rn_prop X n).1] at h1
  obtain ⟨i, hi, e⟩ := List.mem_map.1 h1
  have := List.mem_range.1 hi
  rw [← e, Nat.zero_add]
  exact h i (by omega)

set_option maxRecDepth 100000 in
set_option maxHeartbeats 8000000 in
theorem l8Each_any (b off n cap : Nat) (X : Nat → Ent) (w : World) (hr : ERow w (some ⟨b, off, none⟩) n X) (hn : n ≤ 1048576) :
    Calls Tryz.prog 35 #[.slice (some ⟨b, off, none⟩) n cap] w fun e w' => ∃ v, e = .returned v ∧ RunsO w' w' w.heap.size (rn X n) v ∧ Below w.heap.size w w' := by
  obtain ⟨hbd, hlies⟩ := hr
  go_enter Tryz.func35, Tryz.ntmps35
  go_wp2
  go_loopw [3, 8] (fun u i wr => ∃ (k : Nat) (V : Nat → Value), k ≤ n ∧ i = .int .i64 k ∧ EaI w wr w.heap.size u (rn X k) V ∧ Below w.heap.size w wr) (fun _ i _ => n - (intOf i).toNat)
  case atStart => exact ⟨0, _, Nat.zero_le _, rfl, eaI_nil _ _ _, Below.refl _ _⟩
  case round =>
    obtain ⟨k, V, hk, rfl, hE, hbk⟩ := hrel
    obtain ⟨lo, lc, rfl⟩ := hE.form
    have hrl := rn_len X k
    by_cases hlt : k < n
    rotate_left
    · obtain rfl : k = n := by omega
      have HF := hE.runs hbk (rn_eb hbd)
      have HF2 : Hid (RunsO wr wr w.heap.size (rn X k) (.slice lo (rn X k).length lc)) := HF
      clear HF hE hlies
      go_wp2
      go_ret
      exact ⟨_, rfl, HF2.out, hbk⟩
    obtain ⟨b', off', e, hblt, hc⟩ := hlies.resolve_left (by omega)
    injection e with e
    injection e with e1 e2 _
    subst e1 e2
    obtain ⟨da, dc, ea, ir⟩ := hc k hlt
    obtain ⟨_, a0, a1, a2, a3, a4, a5, a6, a7, a8⟩ := ea.keep hbk
    have hB1 := below_new wr (.cells #[.string (X k).key, .int .i64 (X k).seq, .int .i64 (X k).kind, .int .i64 (X k).c, .int .i64 (X k).s, .int .i64 (X k).lo, .int .i64 (X k).hi, .slice da (X k).n dc, .bool (X k).fu] 48)
    have hN1 := EAt.new wr (X k) da dc 48
    have bw1 := hbk.trans (hB1.mono hbk.size)
    have hE1 := hE.keep hB1
    by_cases hnew : k = 0 ∨ (X (k - 1)).key.toList ≠ (X k).key.toList
    · have HRN : Hid (rn X (k + 1) = rn X k ++ [[] ++ [X k]]) := rn_new hnew
      by_cases h0 : k = 0
      · have hk0 : ((k : Int) == 0) = true := by simp [h0]
        clear hnew h0 hc hlies
        go_wp2
        go_quiet (fail)
        have hbd1 := below_drewN bw1 nq
        have hEd := hE1.keep (below_drewN (Below.refl _ _) nq)
        have hNd := hN1.keep (below_drewN (Below.refl _ _) nq)
        have HSD : Hid (((wr.alloc (.cells #[.string (X k).key, .int .i64 (X k).seq, .int .i64 (X k).kind, .int .i64 (X k).c, .int .i64 (X k).s, .int .i64 (X k).lo, .int .i64 (X k).hi, .slice da (X k).n dc, .bool (X k).fu] 48)).drewN nq).heap.size = wr.heap.size + 1) := by simp [Hid]
        generalize (wr.alloc (.cells #[.string (X k).key, .int .i64 (X k).seq, .int .i64 (X k).kind, .int .i64 (X k).c, .int .i64 (X k).s, .int .i64 (X k).lo, .int .i64 (X k).hi, .slice da (X k).n dc, .bool (X k).fu] 48)).drewN nq = w1 at *
        go_wp2_with (at_builtin; refine wpList_pushN (wr := w1) _ rfl rfl (.tmp 26) (.tmp 27) rfl w.heap.size (.slice lo (rn X k).length lc) (rn X k) V rfl hEd rfl (by omega) hbd1.size ?_; intro lo6 lc6 W6 V6 h6 hb6 hblk6 hsz6)
        have bw6 := hbd1.trans hb6
        have hN6 : EAt W6 wr.heap.size 0 (X k) da dc := hNd.move (by have := HSD.out; omega) (fun j => World.cell?_of_block (w := w1) (a := ⟨wr.heap.size, j, none⟩) (hblk6 wr.heap.size (by have := HSD.out; omega) (fun e => by have := (hE.own.lt wr.heap.size e).2; omega)))
        obtain ⟨L, hL⟩ : ∃ L : List Ent, [] = L := ⟨_, rfl⟩
        have HRN2 : Hid (rn X (k + 1) = rn X k ++ [L ++ [X k]]) := by rw [← hL]; exact HRN.out
        clear HRN
        have HRN := HRN2
        rw [hL] at h6
        clear HRN2 hL hEd hNd hE1 hN1 hE hb6 hblk6
        generalize rn X k = Rs0 at *
        have hlenE : (Rs0 ++ [L]).length = Rs0.length + 1 := by simp
        have hRL : Rs0.length ≤ k ∧ L.length ≤ k := by
          have e := HRN.out
          have h8 := rn_len X (k + 1)
          rw [e] at h8
          have h9 := congrArg List.length (rn_prop X (k + 1)).1
          rw [e, sl_len] at h9
          simp at h8 h9
          omega
        rw [← hlenE] at h6
        obtain ⟨g, cO, hgc⟩ := h6.block (by omega)
        rw [hgc] at h6
        injection hgc with hg1 hg2 hg3
        subst hg1
        have hg4 := hg3.symm
        clear hg3
        subst hg4
        obtain ⟨loL, lcL, hVL⟩ := (h6.row Rs0.length (by omega)).form
        rw [gR_last] at hVL
        have hGL := h6.row Rs0.length (by omega)
        rw [gR_last, hVL] at hGL
        have hcellL := h6.cellAt (i := Rs0.length) (by omega)
        rw [hVL] at hcellL
        have hglt := h6.lt
        have hfzL : W6.frozen? ⟨g, Rs0.length, none⟩ = false := h6.own.frozenAt _
        obtain ⟨lo2, lc2, w2, hrun, hG2, hgr2, hat2⟩ := gat_run2 w W6.drew w.heap.size loL lcL L (X k) da dc 26 (hGL.keep (Below.refl _ _).drew) ir (by omega) (by have := bw6.size; simp; omega)
        obtain ⟨hset, hc2, hf2⟩ := h6.setLast hVL hG2 hgr2 hat2
        have hcell2 : w2.cell? ⟨g, Rs0.length, none⟩ = some (.slice loL L.length lcL) := hc2.trans hcellL
        have hfz2 : w2.frozen? ⟨g, Rs0.length, none⟩ = false := hf2.trans hfzL
        have hbase := h6.from'
        have hbw2 : Below w.heap.size w (w2.setCell ⟨g, Rs0.length, none⟩ (.slice lo2 (L.length + 1) lc2)) := Below.setCell (p := ⟨g, Rs0.length, none⟩) ((bw6.drew.alloc (by have := bw6.size; simp; omega) _).grown hgr2 (by have := bw6.size; simp; omega) (fun q hq => (h6.rowlt Rs0.length (by omega) q (by rw [hVL]; exact hq)).1)) hbase _
        rw [← HRN.out, hlenE] at hset
        obtain ⟨z0, z1, z2, z3, z4, z5, z6, z7, z8, z9⟩ := hN6.z
        have hRl : (rn X (k + 1)).length = Rs0.length + 1 := by rw [HRN.out]; simp
        have HSET : Hid (∃ V', EaI w (w2.setCell ⟨g, Rs0.length, none⟩ (.slice lo2 (L.length + 1) lc2)) w.heap.size (.slice (some ⟨g, 0, none⟩) (Rs0.length + 1) cO) (rn X (k + 1)) V') := ⟨_, hset⟩
        rw [hlenE] at h6
        clear hset hc2 hf2 hG2 hgr2 hat2 hGL hVL h6 hRl HRN hlenE
        generalize Rs0.length = m at *
        generalize L.length = lL at *
        have hw1 : IntKind.i64.wrap (((m + 1 : Nat) : Int) - 1) = (m : Int) := by rw [IntKind.wrap_i64] <;> omega
        have hw2 : IntKind.i64.wrap ((m : Int) + 1 - 1) = (m : Int) := by rw [IntKind.wrap_i64] <;> omega
        have hw3 : IntKind.i64.wrap (m : Int) = (m : Int) := by rw [IntKind.wrap_i64] <;> omega
        have hi1 : (m : Int) < ((m + 1 : Nat) : Int) := by omega
        have hi2 : (m : Int) < (m : Int) + 1 := by omega
        have hi3 : m < m + 1 := by omega
        go_wp2
        go_region_law (refine step_append_ty (by rfl) (.tmp 38) (.tmp 40) 26 26 (by rfl) (by rfl) (.slice loL lL lcL) (.slice (some ⟨W6.heap.size, 0, none⟩) 1 1) (.slice lo2 (lL + 1) lc2) (by simp [Act.eval, Act.put]) (by simp [Act.eval, Act.put]) w2 hrun ?_)
        all_goals
          go_wp2
          obtain ⟨V', hV'⟩ := HSET.out
          exact ⟨⟨k + 1, V', by omega, by simp, hV', hbw2⟩, by simp [intOf]; omega⟩
      · have hne := hnew.resolve_left h0
        have hk0 : ((k : Int) == 0) = false := by simp; omega
        obtain ⟨j, hj⟩ : ∃ j, k = j + 1 := ⟨k - 1, by omega⟩
        obtain ⟨db, dd, eb, _⟩ := hc j (by omega)
        have p0 := (eb.keep bw1).c0
        have x0 := hN1.c0
        rw [show k - 1 = j by omega] at hne
        have hqd : ((X j).key.toList == (X k).key.toList) = false := by simpa using hne
        have hwj : IntKind.i64.wrap ((k : Int) - 1) = (j : Int) := by rw [IntKind.wrap_i64] <;> omega
        have hj1 : (j : Int) < (n : Int) := by omega
        have hj2 : j < n := by omega
        have HJ : Hid (k = j + 1) := hj
        clear hnew h0 hc hlies hne eb hj
        go_wp2
        go_quiet (fail)
        have hbd1 := below_drewN bw1 nq
        have hEd := hE1.keep (below_drewN (Below.refl _ _) nq)
        have hNd := hN1.keep (below_drewN (Below.refl _ _) nq)
        have HSD : Hid (((wr.alloc (.cells #[.string (X k).key, .int .i64 (X k).seq, .int .i64 (X k).kind, .int .i64 (X k).c, .int .i64 (X k).s, .int .i64 (X k).lo, .int .i64 (X k).hi, .slice da (X k).n dc, .bool (X k).fu] 48)).drewN nq).heap.size = wr.heap.size + 1) := by simp [Hid]
        generalize (wr.alloc (.cells #[.string (X k).key, .int .i64 (X k).seq, .int .i64 (X k).kind, .int .i64 (X k).c, .int .i64 (X k).s, .int .i64 (X k).lo, .int .i64 (X k).hi, .slice da (X k).n dc, .bool (X k).fu] 48)).drewN nq = w1 at *
        go_wp2_with (at_builtin; refine wpList_pushN (wr := w1) _ rfl rfl (.tmp 26) (.tmp 27) rfl w.heap.size (.slice lo (rn X k).length lc) (rn X k) V rfl hEd rfl (by omega) hbd1.size ?_; intro lo6 lc6 W6 V6 h6 hb6 hblk6 hsz6)
        have bw6 := hbd1.trans hb6
        have hN6 : EAt W6 wr.heap.size 0 (X k) da dc := hNd.move (by have := HSD.out; omega) (fun j => World.cell?_of_block (w := w1) (a := ⟨wr.heap.size, j, none⟩) (hblk6 wr.heap.size (by have := HSD.out; omega) (fun e => by have := (hE.own.lt wr.heap.size e).2; omega)))
        obtain ⟨L, hL⟩ : ∃ L : List Ent, [] = L := ⟨_, rfl⟩
        have HRN2 : Hid (rn X (k + 1) = rn X k ++ [L ++ [X k]]) := by rw [← hL]; exact HRN.out
        clear HRN
        have HRN := HRN2
        rw [hL] at h6
        clear HRN2 hL hEd hNd hE1 hN1 hE hb6 hblk6
        generalize rn X k = Rs0 at *
        have hlenE : (Rs0 ++ [L]).length = Rs0.length + 1 := by simp
        have hRL : Rs0.length ≤ k ∧ L.length ≤ k := by
          have e := HRN.out
          have h8 := rn_len X (k + 1)
          rw [e] at h8
          have h9 := congrArg List.length (rn_prop X (k + 1)).1
          rw [e, sl_len] at h9
          simp at h8 h9
          omega
        rw [← hlenE] at h6
        obtain ⟨g, cO, hgc⟩ := h6.block (by omega)
        rw [hgc] at h6
        injection hgc with hg1 hg2 hg3
        subst hg1
        have hg4 := hg3.symm
        clear hg3
        subst hg4
        obtain ⟨loL, lcL, hVL⟩ := (h6.row Rs0.length (by omega)).form
        rw [gR_last] at hVL
        have hGL := h6.row Rs0.length (by omega)
        rw [gR_last, hVL] at hGL
        have hcellL := h6.cellAt (i := Rs0.length) (by omega)
        rw [hVL] at hcellL
        have hglt := h6.lt
        have hfzL : W6.frozen? ⟨g, Rs0.length, none⟩ = false := h6.own.frozenAt _
        obtain ⟨lo2, lc2, w2, hrun, hG2, hgr2, hat2⟩ := gat_run2 w W6.drew w.heap.size loL lcL L (X k) da dc 26 (hGL.keep (Below.refl _ _).drew) ir (by omega) (by have := bw6.size; simp; omega)
        obtain ⟨hset, hc2, hf2⟩ := h6.setLast hVL hG2 hgr2 hat2
        have hcell2 : w2.cell? ⟨g, Rs0.length, none⟩ = some (.slice loL L.length lcL) := hc2.trans hcellL
        have hfz2 : w2.frozen? ⟨g, Rs0.length, none⟩ = false := hf2.trans hfzL
        have hbase := h6.from'
        have hbw2 : Below w.heap.size w (w2.setCell ⟨g, Rs0.length, none⟩ (.slice lo2 (L.length + 1) lc2)) := Below.setCell (p := ⟨g, Rs0.length, none⟩) ((bw6.drew.alloc (by have := bw6.size; simp; omega) _).grown hgr2 (by have := bw6.size; simp; omega) (fun q hq => (h6.rowlt Rs0.length (by omega) q (by rw [hVL]; exact hq)).1)) hbase _
        rw [← HRN.out, hlenE] at hset
        obtain ⟨z0, z1, z2, z3, z4, z5, z6, z7, z8, z9⟩ := hN6.z
        have hRl : (rn X (k + 1)).length = Rs0.length + 1 := by rw [HRN.out]; simp
        have HSET : Hid (∃ V', EaI w (w2.setCell ⟨g, Rs0.length, none⟩ (.slice lo2 (L.length + 1) lc2)) w.heap.size (.slice (some ⟨g, 0, none⟩) (Rs0.length + 1) cO) (rn X (k + 1)) V') := ⟨_, hset⟩
        rw [hlenE] at h6
        clear hset hc2 hf2 hG2 hgr2 hat2 hGL hVL h6 hRl HRN hlenE
        generalize Rs0.length = m at *
        generalize L.length = lL at *
        have hw1 : IntKind.i64.wrap (((m + 1 : Nat) : Int) - 1) = (m : Int) := by rw [IntKind.wrap_i64] <;> omega
        have hw2 : IntKind.i64.wrap ((m : Int) + 1 - 1) = (m : Int) := by rw [IntKind.wrap_i64] <;> omega
        have hw3 : IntKind.i64.wrap (m : Int) = (m : Int) := by rw [IntKind.wrap_i64] <;> omega
        have hi1 : (m : Int) < ((m + 1 : Nat) : Int) := by omega
        have hi2 : (m : Int) < (m : Int) + 1 := by omega
        have hi3 : m < m + 1 := by omega
        go_wp2
        go_region_law (refine step_append_ty (by rfl) (.tmp 38) (.tmp 40) 26 26 (by rfl) (by rfl) (.slice loL lL lcL) (.slice (some ⟨W6.heap.size, 0, none⟩) 1 1) (.slice lo2 (lL + 1) lc2) (by simp [Act.eval, Act.put]) (by simp [Act.eval, Act.put]) w2 hrun ?_)
        all_goals
          go_wp2
          obtain ⟨V', hV'⟩ := HSET.out
          exact ⟨⟨k + 1, V', by omega, by simp, hV', hbw2⟩, by simp [intOf]; omega⟩
    · have h0 : k ≠ 0 := fun h => hnew (.inl h)
      have he : (X (k - 1)).key.toList = (X k).key.toList := Classical.not_not.1 (fun h => hnew (.inr h))
      obtain ⟨Rs0, a, ha, e, _⟩ := (rn_prop X k).2.2 (by omega)
      obtain ⟨L, hL⟩ : ∃ L, sl X a k = L := ⟨_, rfl⟩
      rw [hL] at e
      have HRN : Hid (rn X (k + 1) = Rs0 ++ [L ++ [X k]]) := rn_more h0 he e
      have hk0 : ((k : Int) == 0) = false := by simp; omega
      obtain ⟨j, hj⟩ : ∃ j, k = j + 1 := ⟨k - 1, by omega⟩
      obtain ⟨db, dd, eb, _⟩ := hc j (by omega)
      have p0 := (eb.keep bw1).c0
      have x0 := hN1.c0
      rw [show k - 1 = j by omega] at he
      have hqd : ((X j).key.toList == (X k).key.toList) = true := by simp [he]
      have hwj : IntKind.i64.wrap ((k : Int) - 1) = (j : Int) := by rw [IntKind.wrap_i64] <;> omega
      have hj1 : (j : Int) < (n : Int) := by omega
      have hj2 : j < n := by omega
      have HJ : Hid (k = j + 1) := hj
      have hlk : (rn X k).length = Rs0.length + 1 := by rw [e]; simp
      rw [hlk] at hE hE1 ⊢
      rw [e] at hE hE1
      clear hnew h0 hc hlies he eb hj hL e hlk
      go_wp2
      go_quiet (fail)
      have hbd1 := below_drewN bw1 nq
      have hEd := hE1.keep (below_drewN (Below.refl _ _) nq)
      have hNd := hN1.keep (below_drewN (Below.refl _ _) nq)
      have HSD : Hid (((wr.alloc (.cells #[.string (X k).key, .int .i64 (X k).seq, .int .i64 (X k).kind, .int .i64 (X k).c, .int .i64 (X k).s, .int .i64 (X k).lo, .int .i64 (X k).hi, .slice da (X k).n dc, .bool (X k).fu] 48)).drewN nq).heap.size = wr.heap.size + 1) := by simp [Hid]
      generalize (wr.alloc (.cells #[.string (X k).key, .int .i64 (X k).seq, .int .i64 (X k).kind, .int .i64 (X k).c, .int .i64 (X k).s, .int .i64 (X k).lo, .int .i64 (X k).hi, .slice da (X k).n dc, .bool (X k).fu] 48)).drewN nq = w1 at *
      obtain ⟨W6, hW6⟩ : ∃ W6, W6 = w1 := ⟨_, rfl⟩
      subst hW6
      have bw6 := hbd1
      have hN6 := hNd
      have h6 := hEd
      clear hEd hNd hE1 hN1 hE
      have hlenE : (Rs0 ++ [L]).length = Rs0.length + 1 := by simp
      have hRL : Rs0.length ≤ k ∧ L.length ≤ k := by
        have e := HRN.out
        have h8 := rn_len X (k + 1)
        rw [e] at h8
        have h9 := congrArg List.length (rn_prop X (k + 1)).1
        rw [e, sl_len] at h9
        simp at h8 h9
        omega
      rw [← hlenE] at h6
      obtain ⟨g, cO, hgc⟩ := h6.block (by omega)
      rw [hgc] at h6
      injection hgc with hg1 hg2 hg3
      subst hg1
      have hg4 := hg3.symm
      clear hg3
      subst hg4
      obtain ⟨loL, lcL, hVL⟩ := (h6.row Rs0.length (by omega)).form
      rw [gR_last] at hVL
      have hGL := h6.row Rs0.length (by omega)
      rw [gR_last, hVL] at hGL
      have hcellL := h6.cellAt (i := Rs0.length) (by omega)
      rw [hVL] at hcellL
      have hglt := h6.lt
      have hfzL : W6.frozen? ⟨g, Rs0.length, none⟩ = false := h6.own.frozenAt _
      obtain ⟨lo2, lc2, w2, hrun, hG2, hgr2, hat2⟩ := gat_run2 w W6.drew w.heap.size loL lcL L (X k) da dc 26 (hGL.keep (Below.refl _ _).drew) ir (by omega) (by have := bw6.size; simp; omega)
      obtain ⟨hset, hc2, hf2⟩ := h6.setLast hVL hG2 hgr2 hat2
      have hcell2 : w2.cell? ⟨g, Rs0.length, none⟩ = some (.slice loL L.length lcL) := hc2.trans hcellL
      have hfz2 : w2.frozen? ⟨g, Rs0.length, none⟩ = false := hf2.trans hfzL
      have hbase := h6.from'
      have hbw2 : Below w.heap.size w (w2.setCell ⟨g, Rs0.length, none⟩ (.slice lo2 (L.length + 1) lc2)) := Below.setCell (p := ⟨g, Rs0.length, none⟩) ((bw6.drew.alloc (by have := bw6.size; simp; omega) _).grown hgr2 (by have := bw6.size; simp; omega) (fun q hq => (h6.rowlt Rs0.length (by omega) q (by rw [hVL]; exact hq)).1)) hbase _
      rw [← HRN.out, hlenE] at hset
      obtain ⟨z0, z1, z2, z3, z4, z5, z6, z7, z8, z9⟩ := hN6.z
      have hRl : (rn X (k + 1)).length = Rs0.length + 1 := by rw [HRN.out]; simp
      have HSET : Hid (∃ V', EaI w (w2.setCell ⟨g, Rs0.length, none⟩ (.slice lo2 (L.length + 1) lc2)) w.heap.size (.slice (some ⟨g, 0, none⟩) (Rs0.length + 1) cO) (rn X (k + 1)) V') := ⟨_, hset⟩
      rw [hlenE] at h6
      clear hset hc2 hf2 hG2 hgr2 hat2 hGL hVL h6 hRl HRN hlenE
      generalize Rs0.length = m at *
      generalize L.length = lL at *
      have hw1 : IntKind.i64.wrap (((m + 1 : Nat) : Int) - 1) = (m : Int) := by rw [IntKind.wrap_i64] <;> omega
      have hw2 : IntKind.i64.wrap ((m : Int) + 1 - 1) = (m : Int) := by rw [IntKind.wrap_i64] <;> omega
      have hw3 : IntKind.i64.wrap (m : Int) = (m : Int) := by rw [IntKind.wrap_i64] <;> omega
      have hi1 : (m : Int) < ((m + 1 : Nat) : Int) := by omega
      have hi2 : (m : Int) < (m : Int) + 1 := by omega
      have hi3 : m < m + 1 := by omega
      go_wp2
      go_region_law (refine step_append_ty (by rfl) (.tmp 38) (.tmp 40) 26 26 (by rfl) (by rfl) (.slice loL lL lcL) (.slice (some ⟨W6.heap.size, 0, none⟩) 1 1) (.slice lo2 (lL + 1) lc2) (by simp [Act.eval, Act.put]) (by simp [Act.eval, Act.put]) w2 hrun ?_)
      all_goals
        go_wp2
        obtain ⟨V', hV'⟩ := HSET.out
        exact ⟨⟨k + 1, V', by omega, by simp, hV', hbw2⟩, by simp [intOf]; omega⟩
end Go.Proofs.YtmeckcaekkangaaGreat
