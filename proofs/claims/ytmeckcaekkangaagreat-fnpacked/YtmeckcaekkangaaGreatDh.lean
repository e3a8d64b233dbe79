/- Rows of entries while they are drawn. / Twelve nil rows put behind rows. / Rows of rows while they are drawn. -/
import Derived.Test.YtmeckcaekkangaaGreatDf
import Derived.Test.YtmeckcaekkangaaGreatPp
import Derived.Test.YtmeckcaekkangaaGreatJl
import Derived.Test.YtmeckcaekkangaaGreatRr
import Derived.Lib.AppendZeros
import Derived.Maps.AppendAt
namespace Go.Proofs.YtmeckcaekkangaaGreat
set_option maxRecDepth 100000
open Go.RowKit
set_option linter.unusedSimpArgs false
set_option linter.unusedVariables false

/-- What is told of a drawn entry. -/
def SmD (x : Ent) : Prop := EB x ∧ x.key.size ≤ 200 ∧ x.n ≤ 8
/-- A list of entries of the call's own; their lists lie from base on. -/
structure GL (w : World) (base : Nat) (v : Value) (n : Nat) (X : Nat → Ent) (V : Nat → Value) : Prop where
  own : w.ownsRow base 48 9 v n ((List.range n).flatMap fun i => ecells (X i) (V i))
  row : ∀ i, i < n → ∃ lo lc, V i = .slice lo (X i).n lc ∧ HR w base lo (X i).n (X i).f
  bd : ∀ i, i < n → SmD (X i)
/-- The list and the lists of its entries do not lie in the block g. -/
def Off (v : Value) (n : Nat) (X : Nat → Ent) (V : Nat → Value) (g : Option Nat) : Prop :=
  (∀ k, g = some k → v.ownBlock ≠ some k) ∧ ∀ i, i < n → ∀ lo lc b off, V i = .slice lo (X i).n lc → lo = some ⟨b, off, none⟩ → (X i).n ≠ 0 → g ≠ some b
section
variable {w w' : World} {base : Nat} {v : Value} {n : Nat} {X : Nat → Ent} {V : Nat → Value}
theorem gl_nil (w : World) (base : Nat) (X : Nat → Ent) (V : Nat → Value) : GL w base (.slice none 0 0) 0 X V :=
  ⟨World.ownsRow_nil _ _ _ _, fun i hi => absurd hi (Nat.not_lt_zero _), fun i hi => absurd hi (Nat.not_lt_zero _)⟩
theorem GL.keep (h : GL w base v n X V) (hb : Below w.heap.size w w') : GL w' base v n X V :=
  ⟨ownsRow_keep h.own hb, fun i hi => by obtain ⟨lo, lc, e, h1⟩ := h.row i hi; exact ⟨lo, lc, e, h1.keep hb⟩, h.bd⟩
theorem GL.kept {row : Option Nat} (h : GL w base v n X V) (g : w.grownBy w' row) (ho : Off v n X V row) : GL w' base v n X V :=
  ⟨ownsRow_kept h.own g ho.1, fun i hi => by
    obtain ⟨lo, lc, e, h1⟩ := h.row i hi
    exact ⟨lo, lc, e, h1.grown g (fun b off e1 h0 => ho.2 i hi lo lc b off e e1 h0)⟩, h.bd⟩
theorem GL.below (h : GL w base v n X V) {k : Nat} (hk : k < base) : Off v n X V (some k) :=
  ⟨fun q e h2 => by injection e with e; have := (h.own.lt q h2).1; omega, fun i hi lo lc b off e e1 h0 e2 => by
    injection e2 with e2
    obtain ⟨lo', lc', e', h1⟩ := h.row i hi
    rw [e] at e'
    injection e' with e3 _ _
    subst e3
    have := h1.at' b off e1 h0
    omega⟩
theorem HR.blt {w : World} {base : Nat} {xo : Option Addr} {m : Nat} {f : Nat → Int} (h : HR w base xo m f) {b off : Nat} (e : xo = some ⟨b, off, Option.none⟩) (h0 : m ≠ 0) : b < w.heap.size := by
  obtain ⟨b', off', e', hlt, _⟩ := h.row.lies.resolve_left h0
  rw [e] at e'
  injection e' with e'
  injection e' with e1 _ _
  omega
theorem GL.above (h : GL w base v n X V) {k : Nat} (hk : w.heap.size ≤ k) : Off v n X V (some k) :=
  ⟨fun q e h2 => by injection e with e; have := (h.own.lt q h2).2; omega, fun i hi lo lc b off e e1 h0 e2 => by
    injection e2 with e2
    obtain ⟨lo', lc', e', h1⟩ := h.row i hi
    rw [e] at e'
    injection e' with e3 _ _
    subst e3
    have := h1.blt e1 h0
    omega⟩
theorem off_none : Off v n X V none := ⟨fun k e => (nomatch e), fun i hi lo lc b off e e1 h0 e2 => nomatch e2⟩
theorem GL.mono {base' : Nat} (h : GL w base v n X V) (hb : base' ≤ base) : GL w base' v n X V := by
  refine ⟨⟨h.own.1, ?_⟩, fun i hi => by obtain ⟨lo, lc, e, h1⟩ := h.row i hi; exact ⟨lo, lc, e, h1.mono hb⟩, h.bd⟩
  rcases h.own.2 with ⟨rfl, h0⟩ | ⟨g, cap, cur, rfl, h1, h2⟩
  · exact .inl ⟨rfl, h0⟩
  · exact .inr ⟨g, cap, cur, rfl, Nat.le_trans hb h1, h2⟩
theorem GL.erow (h : GL w base v n X V) : ∃ ao cap, v = .slice ao n cap ∧ ERow w ao n X ∧ n ≤ cap ∧ Nls ao n cap := by
  obtain ⟨ao, cap, e, hE⟩ := erow_of h.own (fun i hi => by obtain ⟨lo, lc, e, h1⟩ := h.row i hi; exact ⟨lo, lc, e, h1.row⟩) (fun i hi => (h.bd i hi).1)
  subst e
  refine ⟨ao, cap, rfl, hE, own_cap h.own, ?_⟩
  rcases h.own.2 with ⟨e, h0⟩ | ⟨g, cap', cur, e, _⟩
  · injection e with e1 e2 e3
    exact .inl ⟨e1, e2, e3⟩
  · injection e with e1 _ _
    exact .inr ⟨g, 0, e1⟩
theorem GL.sz (h : GL w base v n X V) : ESize n X := fun i hi => by
  have := h.bd i hi
  exact ⟨by have := this.2.1; omega, by have := this.2.2; omega⟩
theorem GL.ev {b off cap : Nat} (h : GL w base (.slice (some ⟨b, off, none⟩) n cap) n X V) : EV w b off n X V := by
  rcases h.own.2 with ⟨e, _⟩ | ⟨g, cap', cur, e, _⟩
  · cases e
  · injection e with e1 _ _
    injection e1 with e1
    injection e1 with e1 e2 _
    subst e1 e2
    refine ⟨fun i hi => by obtain ⟨lo, lc, e, h1⟩ := h.row i hi; exact ⟨lo, lc, e, h1.row⟩, fun w' hb i hi j hj => ?_⟩
    rw [Nat.zero_add, (ownsRow_keep h.own hb).cellAt (i * 9 + j) (by omega), fm9_get n X V hi hj]
/-- An entry put into the list. -/
theorem GL.put (h : GL w base v n X V) (x : Ent) (xo : Option Addr) (xc : Nat) (hH : HR w base xo x.n x.f) (hx : SmD x) (hn : n ≤ 1000) (hbs : base ≤ w.heap.size) :
    Calls Tryz.prog 27 #[v, .agg #[.string x.key, .int .i64 x.seq, .int .i64 x.kind, .int .i64 x.c, .int .i64 x.s, .int .i64 x.lo, .int .i64 x.hi, .slice xo x.n xc, .bool x.fu]] w fun e w' => ∃ v' X' V', e = .returned v' ∧ GL w' base v' (n + 1) X' V' ∧ Below w.heap.size w w' ∧ (v'.ownBlock ≠ none → ∀ k, v'.ownBlock = some k → w.heap.size ≤ k) := by
  obtain ⟨ao, cap, rfl, hE, hcap, hN⟩ := h.erow
  refine (l5Put_any ao n cap hcap hN X x xo xc w hE V (fun b off e => by subst e; exact h.ev) hn).mono ?_
  rintro e w' ⟨lo, lc, rfl, ho, hb⟩
  have hP := (pc_le (X := X) (n := n) (e := x) (q := 0) (Nat.zero_le _)).2
  generalize pc X n x 0 = P at ho hP
  refine ⟨_, pX X x P, pV V (.slice xo x.n xc) P, rfl, ⟨?_, fun i hi => ?_, fun i hi => ?_⟩, hb, fun _ k hk => (ho.lt k hk).1⟩
  · refine ⟨ho.1, ?_⟩
    rcases ho.2 with ⟨e, h0⟩ | ⟨g, cap', cur, e, h1, h2⟩
    · exact .inl ⟨e, h0⟩
    · exact .inr ⟨g, cap', cur, e, Nat.le_trans hbs h1, h2⟩
  · unfold pX pV
    by_cases h1 : i < P
    · obtain ⟨a, b, e1, e2⟩ := h.row i (by omega)
      rw [if_pos h1, if_pos h1]
      exact ⟨a, b, e1, e2.keep hb⟩
    · by_cases h2 : i = P
      · rw [if_neg h1, if_pos h2, if_neg h1, if_pos h2]
        exact ⟨xo, xc, rfl, hH.keep hb⟩
      · obtain ⟨a, b, e1, e2⟩ := h.row (i - 1) (by omega)
        rw [if_neg h1, if_neg h2, if_neg h1, if_neg h2]
        exact ⟨a, b, e1, e2.keep hb⟩
  · unfold pX
    by_cases h1 : i < P
    · rw [if_pos h1]; exact h.bd i (by omega)
    · by_cases h2 : i = P
      · rw [if_neg h1, if_pos h2]; exact hx
      · rw [if_neg h1, if_neg h2]; exact h.bd (i - 1) (by omega)
end
end Go.Proofs.YtmeckcaekkangaaGreat
namespace Go.Proofs.YtmeckcaekkangaaGreat
set_option maxRecDepth 100000
open Go.RowKit
set_option linter.unusedSimpArgs false
set_option linter.unusedVariables false

def nil12 : List Value := List.replicate 12 (.slice none 0 0)
theorem zc12 : Builtin.zeroCells (Value.slice none 0 0).cells 12 = nil12.toArray := by kernel_rfl
theorem rows_zeros (w : World) (base : Nat) (rv : Value) (N : Nat) (xs : List Value) (hown : w.ownsRow base 26 1 rv N xs) (hN : N ≤ 1000) (hbs : base ≤ w.heap.size) (ty : TypeId) :
    ∃ rv' w', (Builtin.append_ #[23, 3] ty #[rv, .int .i64 12]).run Tryz.prog w = .ok rv' w' ∧ w'.ownsRow base 26 1 rv' (N + 12) (xs ++ nil12) ∧ w.grownBy w' rv.ownBlock ∧ (rv'.ownBlock = rv.ownBlock ∨ rv'.ownBlock = some w.heap.size) := by
  obtain ⟨i0, hi, hz0, hz1, hz2⟩ := info_parts Tryz.infoES
  have hlen : (xs ++ nil12).length = (N + 12) * 1 := by rw [List.length_append, hown.1]; simp [nil12]
  have hw : IntKind.i64.wrap 12 = 12 := by rfl
  have h48i : ¬ ((281474976710656 : Int) < 12 * (i0.bytes : Int)) := by rw [hz2]; omega
  have grown : ∀ (old : Nat), old < N + 12 → ∀ (row : Option Nat),
      (w.drew.alloc (.cells (xs.toArray ++ nil12.toArray ++ Builtin.zeroCells (Value.slice none 0 0).cells (grownCap w (N + 12) old 26 - (N + 12))) 26)).ownsRow base 26 1
        (.slice (some ⟨w.heap.size, 0, none⟩) (N + 12) (grownCap w (N + 12) old 26)) (N + 12) (xs ++ nil12) ∧
      w.grownBy (w.drew.alloc (.cells (xs.toArray ++ nil12.toArray ++ Builtin.zeroCells (Value.slice none 0 0).cells (grownCap w (N + 12) old 26 - (N + 12))) 26)) row := by
    intro old ho row
    have hge := grownCap_ge w (N + 12) old 26
    have hcm : grownCap w (N + 12) old 26 ≤ maxLen := grownCap_le_maxLen w (N + 12) old 26 (by unfold maxLen; omega)
    refine ⟨⟨hlen, .inr ⟨w.heap.size, _, _, rfl, hbs, heap_alloc_new w.drew _, hge, hcm, ?_, ?_⟩⟩, ⟨rfl, rfl, rfl, by simp, fun k hk _ => heap_alloc_old w.drew _ hk⟩⟩
    · have hx := hown.1
      have hc1 : (Value.slice none 0 0).cells.size = 1 := rfl
      simp only [Array.size_append, List.size_toArray, size_zeroCells, hc1, hx, nil12, List.length_replicate]
      omega
    · simp only [Array.toList_append, List.append_assoc]
      rw [← List.append_assoc, ← hlen]
      exact List.take_left
  rcases hown.2 with ⟨rfl, rfl⟩ | ⟨g, cap, cur, rfl, hbg, hg, hnc, hcm, hcs, htake⟩
  · have hx : xs = [] := List.eq_nil_of_length_eq_zero (by simpa using hown.1)
    subst hx
    have hr := Lib.run_append_nil_zeros (P := Tryz.prog) w 23 3 ty 26 i0 (.slice none 0 0) .i64 .i64 Tryz.underlying23 Tryz.underlying3 hi hz0 12 (by omega) (by omega) (by omega) (by rw [hz2]; omega)
    rw [zc12] at hr
    have hgr := grown 0 (by omega) (Value.ownBlock (.slice none 0 0))
    simp only [Nat.zero_add, List.nil_append, Array.empty_append] at hgr ⊢
    exact ⟨_, _, hr, hgr.1, hgr.2, .inr rfl⟩
  · by_cases hroom : N + 12 ≤ cap
    · have hfit : N * 1 + nil12.length ≤ cur.size := by rw [hcs]; simp [nil12]; omega
      have hst := run_storeCells_at Tryz.prog g (N * 1) 26 nil12 0 cur w hg (by simpa using hfit) (fun u hu => by rw [List.eq_of_mem_replicate hu]; rfl)
      simp only [Nat.add_zero, Nat.mul_one] at hst
      have hr : (Builtin.append_ #[23, 3] ty #[.slice (some ⟨g, 0, none⟩) N cap, .int .i64 12]).run Tryz.prog w = .ok (.slice (some ⟨g, 0, none⟩) (N + 12) cap) (w.setRow g (cur.toList.take N ++ nil12 ++ cur.toList.drop (N + nil12.length)).toArray) := by
        simp [Builtin.append_, run_underlying Tryz.underlying23, run_underlying Tryz.underlying3, sizeOf, typeInfo, zeroValue, hi, hz0, hz1, asInt, asIntOf, hw, h48i, hroom, zc12, Addr.add_lit, hst]
      refine ⟨_, _, hr, ⟨hlen, .inr ⟨g, cap, _, rfl, hbg, setRow_heap w g cur _ _ _ hg, hroom, hcm, ?_, ?_⟩⟩, ⟨rfl, rfl, rfl, by simp, fun k _ hk => setRow_other w g k _ (fun e => hk (by simp [Value.ownBlock, e]))⟩, .inl rfl⟩
      · simp only [List.size_toArray, List.length_append, List.length_take, List.length_drop, Array.length_toList]
        simp [nil12] at *
        omega
      · rw [Nat.mul_one] at htake
        rw [htake, ← hlen]
        exact List.take_left
    · have holds : ∀ j u, xs[j]? = some u → w.cell? ((⟨g, 0, none⟩ : Addr).add j) = some u := hown.cells (g := g) rfl
      have hfo := run_firstCells_some (P := Tryz.prog) w.drew i0.size N ⟨g, 0, none⟩ N cap xs (by rw [hz1]; exact hown.1) (by simpa using holds)
      have hn : ¬ (N + 12 ≤ cap) := hroom
      have h63' : ¬ ((9223372036854775807 : Int) < (N : Int) + max 12 0) := by omega
      have h48' : ¬ (281474976710656 < Builtin.nextslicecap (N + 12) cap * i0.bytes) := by
        have := growslice_fits (need := N + 12) (old := cap) (bytes := i0.bytes) (by omega) (by rw [hz2]; omega)
        omega
      have hr : (Builtin.append_ #[23, 3] ty #[.slice (some ⟨g, 0, none⟩) N cap, .int .i64 12]).run Tryz.prog w = .ok (.slice (some ⟨w.heap.size, 0, none⟩) (N + 12) (grownCap w (N + 12) cap 26)) (w.drew.alloc (.cells (xs.toArray ++ nil12.toArray ++ Builtin.zeroCells (Value.slice none 0 0).cells (grownCap w (N + 12) cap 26 - (N + 12))) 26)) := by
        rw [hz1] at hfo
        simp [Builtin.append_, run_underlying Tryz.underlying23, run_underlying Tryz.underlying3, sizeOf, typeInfo, zeroValue, hi, hz0, hz1, asInt, asIntOf, hw, h48i, hn, h63', h48', zc12, Question.forced, hfo, newRow, grownCap]
        rw [← Array.append_assoc]
        simp only [List.append_toArray, List.append_assoc]
      have hgr := grown cap (by omega) (Value.ownBlock (.slice (some ⟨g, 0, none⟩) N cap))
      exact ⟨_, _, hr, hgr.1, hgr.2, .inr rfl⟩
end Go.Proofs.YtmeckcaekkangaaGreat
namespace Go.Proofs.YtmeckcaekkangaaGreat
set_option maxRecDepth 100000
open Go.RowKit
set_option linter.unusedSimpArgs false
set_option linter.unusedVariables false

/-- A drawn row: its value, how many, its entries, their lists. -/
structure Rw1 where
  v : Value
  m : Nat
  X : Nat → Ent
  V : Nat → Value
/-- Rows that the call gathers. -/
structure RL (w : World) (base : Nat) (rv : Value) (N : Nat) (R : Nat → Rw1) : Prop where
  own : w.ownsRow base 26 1 rv N ((List.range N).map fun i => (R i).v)
  row : ∀ i, i < N → GL w base (R i).v (R i).m (R i).X (R i).V
  off : ∀ i, i < N → Off (R i).v (R i).m (R i).X (R i).V rv.ownBlock
section
variable {w w' : World} {base : Nat} {rv : Value} {N : Nat} {R : Nat → Rw1}
theorem rl_nil (w : World) (base : Nat) (R : Nat → Rw1) : RL w base (.slice none 0 0) 0 R :=
  ⟨World.ownsRow_nil _ _ _ _, fun i hi => absurd hi (Nat.not_lt_zero _), fun i hi => absurd hi (Nat.not_lt_zero _)⟩
theorem RL.keep (h : RL w base rv N R) (hb : Below w.heap.size w w') : RL w' base rv N R :=
  ⟨ownsRow_keep h.own hb, fun i hi => (h.row i hi).keep hb, h.off⟩
theorem RL.draw {CB : Nat} (h : RL w base rv N R) (g : w.grownBy w' (some CB)) (hb : CB < base) : RL w' base rv N R :=
  ⟨ownsRow_kept h.own g (fun k e h2 => by injection e with e; have := (h.own.lt k h2).1; omega), fun i hi => (h.row i hi).kept g ((h.row i hi).below hb), h.off⟩
theorem RL.form (h : RL w base rv N R) : ∃ ro rc, rv = .slice ro N rc := ownsRow_form h.own
/-- One row more. -/
theorem RL.push (h : RL w base rv N R) (x : Rw1) (hg : GL w base x.v x.m x.X x.V) (ho : Off x.v x.m x.X x.V rv.ownBlock) (hN : N ≤ 1000) (hbs : base ≤ w.heap.size) (ty : TypeId) :
    ∃ rv' w', (Builtin.append_ #[23, 23] ty #[rv, .slice (some ⟨w.heap.size, 0, none⟩) 1 1]).run Tryz.prog (w.alloc (.cells #[x.v] 26)) = .ok rv' w' ∧ RL w' base rv' (N + 1) (fun i => if i = N then x else R i) ∧ (w.alloc (.cells #[x.v] 26)).grownBy w' rv.ownBlock := by
  obtain ⟨i0, hi, hz0, hz1, hz2⟩ := info_parts Tryz.infoES
  have hB := below_new w (.cells #[x.v] 26)
  have h' := h.keep hB
  have hg' := hg.keep hB
  obtain ⟨ao, cap, ev, _⟩ := hg.erow
  have hh : (w.alloc (.cells #[x.v] 26)).cell? ⟨w.heap.size, 0, none⟩ = some x.v := by simp [go_sem]
  obtain ⟨rv', w', hrun, hown, hgr, _, ha⟩ := run_append_own_at (P := Tryz.prog) (w.alloc (.cells #[x.v] 26)) base 23 ty 26 i0 (.slice none 0 0) 1 24 Tryz.underlying23 hi hz0 hz1 hz2 rfl (by decide) rv N _ h'.own ⟨w.heap.size, 0, none⟩ 1 1 [x.v] rfl (fun j u hu => by
    match j, hu with
    | 0, hu => simp at hu; subst hu; simp [Addr.add, go_sem]
    | j + 1, hu => simp at hu) (fun u hu => by rw [List.mem_singleton.1 hu, ev]; rfl) (by unfold maxLen; omega) (by omega) (by simp; omega)
  have hmap : ((List.range (N + 1)).map fun i => (if i = N then x else R i).v) = ((List.range N).map fun i => (R i).v) ++ [x.v] := by
    rw [List.range_succ, List.map_append]
    congr 1
    · refine List.map_congr_left fun i hi => ?_
      have := List.mem_range.1 hi
      rw [if_neg (by omega)]
    · simp
  have moff : ∀ (y : Rw1), GL (w.alloc (.cells #[x.v] 26)) base y.v y.m y.X y.V → Off y.v y.m y.X y.V rv.ownBlock → Off y.v y.m y.X y.V rv'.ownBlock := fun y hy hyo => by
    rcases ha with ha | ha
    · rw [ha]; exact hyo
    · rw [ha]; exact hy.above (Nat.le_refl _)
  refine ⟨rv', w', hrun, ⟨by rw [hmap]; exact hown, fun i hi => ?_, fun i hi => ?_⟩, hgr⟩
  · by_cases e : i = N
    · simp only [e, if_true]; exact hg'.kept hgr ho
    · simp only [e, if_false]; exact (h'.row i (by omega)).kept hgr (h.off i (by omega))
  · by_cases e : i = N
    · simp only [e, if_true]; exact moff x hg' ho
    · simp only [e, if_false]; exact moff (R i) (h'.row i (by omega)) (h.off i (by omega))
/-- A nil row. -/
def nilR : Rw1 := ⟨.slice none 0 0, 0, fun _ => dE, fun _ => .slice none 0 0⟩
theorem off_nil (g : Option Nat) : Off nilR.v nilR.m nilR.X nilR.V g := ⟨fun k _ e => (nomatch e), fun i hi => absurd hi (Nat.not_lt_zero _)⟩
/-- Twelve nil rows more. -/
theorem RL.zeros (h : RL w base rv N R) (hN : N ≤ 1000) (hbs : base ≤ w.heap.size) (ty : TypeId) :
    ∃ rv' w', (Builtin.append_ #[23, 3] ty #[rv, .int .i64 12]).run Tryz.prog w = .ok rv' w' ∧ RL w' base rv' (N + 12) (fun i => if i < N then R i else nilR) ∧ w.grownBy w' rv.ownBlock := by
  obtain ⟨rv', w', hrun, hown, hgr, ha⟩ := rows_zeros w base rv N _ h.own hN hbs ty
  have hmap : ((List.range (N + 12)).map fun i => (if i < N then R i else nilR).v) = ((List.range N).map fun i => (R i).v) ++ nil12 := by
    apply List.ext_getElem
    · simp [nil12]
    · intro i h1 h2
      by_cases hi : i < N
      · rw [List.getElem_append_left (by simpa using hi)]
        simp [hi]
      · rw [List.getElem_append_right (by simpa using hi)]
        have hz : ∀ (j : Nat) (hj : j < nil12.length), nil12[j] = Value.slice none 0 0 := fun j hj => by unfold nil12; exact List.getElem_replicate _
        rw [hz]
        simp [hi, nilR]
  refine ⟨rv', w', hrun, ⟨by rw [hmap]; exact hown, fun i hi => ?_, fun i hi => ?_⟩, hgr⟩
  · by_cases e : i < N
    · simp only [e, if_true]; exact (h.row i e).kept hgr (h.off i e)
    · simp only [e, if_false]; exact gl_nil _ _ _ _
  · by_cases e : i < N
    · simp only [e, if_true]
      rcases ha with ha | ha
      · rw [ha]; exact h.off i e
      · rw [ha]; exact (h.row i e).above (Nat.le_refl _)
    · simp only [e, if_false]; exact off_nil _
/-- The rows in lists. -/
def rD (R : Nat → Rw1) (i : Nat) : List Ent := lX (R i).X (R i).m
theorem RL.lr {g c : Nat} (h : RL w base (.slice (some ⟨g, 0, none⟩) N c) N R) : LR w g 0 N (rD R) := by
  rcases h.own.2 with ⟨e, _⟩ | ⟨g', cap', cur, e, hb, hg, hnc, _⟩
  · cases e
  · injection e with e1 _ _
    injection e1 with e1
    injection e1 with e1 _ _
    subst e1
    refine ⟨(Array.getElem?_eq_some_iff.1 hg).1, fun i hi => ?_⟩
    obtain ⟨ao, cap, ev, hE, hcap, _⟩ := (h.row i hi).erow
    have hl : (rD R i).length = (R i).m := lX_len _ _
    refine ⟨ao, cap, ?_, by rw [hl]; exact hcap, ?_⟩
    · rw [Nat.zero_add, h.own.cellAt i (by omega), hl, ← ev]
      simp [hi]
    · rw [hl]
      exact hE.congr (fun j hj => (lX_at hj).symm)
theorem RL.size (h : RL w base rv N R) : ∀ i, i < N → ESize (rD R i).length (eL (rD R i)) := fun i hi j hj => by
  have hl : (rD R i).length = (R i).m := lX_len _ _
  rw [hl] at hj
  have e : eL (rD R i) j = (R i).X j := lX_at hj
  rw [e]
  exact (h.row i hi).sz j hj
end
end Go.Proofs.YtmeckcaekkangaaGreat
