/- Entries that the call itself gathers, each with a list of its own. -/
import Derived.Test.YtohjjigkfdhklaaGreatGe
import Derived.Test.YtohjjigkfdhklaaGreatIL
import Derived.Maps.AppendAt
import Derived.OwnWalk
namespace Go.Proofs.YtohjjigkfdhklaaGreat
set_option maxRecDepth 100000
open Go.RowKit
set_option linter.unusedSimpArgs false
set_option linter.unusedVariables false

def icells (f : Nat → Int) (n : Nat) : List Value := (List.range n).map fun i => Value.int .i64 (f i)
/-- hv is a list of the call's own that holds x's Hist. -/
structure HOwn (w : World) (base : Nat) (hv : Value) (x : Ent) : Prop where
  bd : ∀ i, -9223372036854775808 ≤ x.f i ∧ x.f i ≤ 9223372036854775807
  own : w.ownsRow base 3 1 hv x.n (icells x.f x.n)
/-- An entry's cells, its Hist told. -/
def ecells (x : Ent) (hv : Value) : List Value := [.string x.key, .int .i64 x.seq, .int .i64 x.kind, .int .i64 x.c, .int .i64 x.s, .int .i64 x.lo, .int .i64 x.hi, hv, .bool x.fu]
theorem ownsRow_keep {w w' : World} {base e size n : Nat} {v : Value} {xs : List Value} (h : w.ownsRow base e size v n xs) (hb : Below w.heap.size w w') : w'.ownsRow base e size v n xs := by
  refine ⟨h.1, ?_⟩
  rcases h.2 with ⟨rfl, h0⟩ | ⟨g, cap, cur, rfl, h1, h2, h3⟩
  · exact .inl ⟨rfl, h0⟩
  · exact .inr ⟨g, cap, cur, rfl, h1, (hb.block g (Array.getElem?_eq_some_iff.1 h2).1).trans h2, h3⟩
theorem ownsRow_mono {w : World} {base base' e size n : Nat} {v : Value} {xs : List Value} (h : w.ownsRow base e size v n xs) (hb : base' ≤ base) : w.ownsRow base' e size v n xs := by
  refine ⟨h.1, ?_⟩
  rcases h.2 with ⟨rfl, h0⟩ | ⟨g, cap, cur, rfl, h1, h2⟩
  · exact .inl ⟨rfl, h0⟩
  · exact .inr ⟨g, cap, cur, rfl, Nat.le_trans hb h1, h2⟩
theorem ownsRow_form {w : World} {base e size n : Nat} {v : Value} {xs : List Value} (h : w.ownsRow base e size v n xs) : ∃ ao cap, v = .slice ao n cap := by
  rcases h.2 with ⟨rfl, h0⟩ | ⟨g, cap, cur, rfl, _⟩
  · exact ⟨none, 0, by rw [h0]⟩
  · exact ⟨_, _, rfl⟩
theorem ownsRow_kept {w w' : World} {base e size n : Nat} {v : Value} {xs : List Value} {row : Option Nat} (h : w.ownsRow base e size v n xs) (hg : w.grownBy w' row) (hne : ∀ k, row = some k → v.ownBlock ≠ some k) : w'.ownsRow base e size v n xs := by
  refine h.kept hg ?_
  cases hr : v.ownBlock with
  | none => exact .inl rfl
  | some k => exact .inr fun e => hne k e.symm hr
theorem HOwn.keep {w w' : World} {base : Nat} {hv : Value} {x : Ent} (h : HOwn w base hv x) (hb : Below w.heap.size w w') : HOwn w' base hv x := ⟨h.bd, ownsRow_keep h.own hb⟩
theorem HOwn.row {w : World} {base : Nat} {hv : Value} {x : Ent} (h : HOwn w base hv x) : ∃ lo lc, hv = .slice lo x.n lc ∧ IRow w lo x.n x.f := by
  have ho := h.own
  rcases ho.2 with ⟨rfl, h0⟩ | ⟨g, cap, cur, rfl, hbg, hg, hnc, _⟩
  · exact ⟨none, 0, by rw [h0], h.bd, .inl h0⟩
  · refine ⟨some ⟨g, 0, none⟩, cap, rfl, h.bd, .inr ⟨g, 0, rfl, (Array.getElem?_eq_some_iff.1 hg).1, fun i hi => ?_⟩⟩
    rw [Nat.zero_add, ho.cellAt i (by omega)]
    simp [icells, hi]

/-- v is a slice of the call's own of n entries X, their lists V of the call's own too, all apart. -/
structure OutE (w : World) (base : Nat) (v : Value) (n : Nat) (X : Nat → Ent) (V : Nat → Value) : Prop where
  own : w.ownsRow base 35 9 v n ((List.range n).flatMap fun i => ecells (X i) (V i))
  row : ∀ i, i < n → HOwn w base (V i) (X i)
  dis : ∀ i j, i < n → j < n → i ≠ j → ∀ k, (V i).ownBlock = some k → (V j).ownBlock ≠ some k
  apart : ∀ i, i < n → ∀ k, (V i).ownBlock = some k → v.ownBlock ≠ some k
theorem outE_nil (w : World) (base : Nat) (X : Nat → Ent) : OutE w base (.slice none 0 0) 0 X (fun _ => .slice none 0 0) :=
  ⟨World.ownsRow_nil _ _ _ _, fun i hi => absurd hi (Nat.not_lt_zero _), fun i j hi => absurd hi (Nat.not_lt_zero _), fun i hi => absurd hi (Nat.not_lt_zero _)⟩
theorem OutE.keep {w w' : World} {base : Nat} {v : Value} {n : Nat} {X : Nat → Ent} {V : Nat → Value} (h : OutE w base v n X V) (hb : Below w.heap.size w w') : OutE w' base v n X V :=
  ⟨ownsRow_keep h.own hb, fun i hi => (h.row i hi).keep hb, h.dis, h.apart⟩

theorem OutE.push {w w' : World} {base : Nat} {v v' hv : Value} {n : Nat} {X : Nat → Ent} {V : Nat → Value} {x : Ent} (h : OutE w base v n X V) (hx : HOwn w base hv x)
    (hd : ∀ k, hv.ownBlock = some k → v.ownBlock ≠ some k ∧ ∀ i, i < n → (V i).ownBlock ≠ some k)
    (ho : w'.ownsRow base 35 9 v' (n + 1) (((List.range n).flatMap fun i => ecells (X i) (V i)) ++ ecells x hv)) (hg : w.grownBy w' v.ownBlock) (ha : v'.ownBlock = v.ownBlock ∨ v'.ownBlock = some w.heap.size) :
    OutE w' base v' (n + 1) (fun i => if i = n then x else X i) (fun i => if i = n then hv else V i) := by
  have hxb : ∀ k, v.ownBlock = some k → hv.ownBlock ≠ some k := fun k h1 h2 => (hd k h2).1 h1
  refine ⟨?_, fun i hi => ?_, fun i j hi hj hij k h1 h2 => ?_, fun i hi k h1 h2 => ?_⟩
  · have e : ((List.range (n + 1)).flatMap fun i => ecells (if i = n then x else X i) (if i = n then hv else V i)) = ((List.range n).flatMap fun i => ecells (X i) (V i)) ++ ecells x hv := by
      rw [List.range_succ, List.flatMap_append]
      congr 1
      · unfold List.flatMap
        congr 1
        refine List.map_congr_left fun i hi => ?_
        have := List.mem_range.1 hi
        rw [if_neg (by omega), if_neg (by omega)]
      · simp
    rw [e]; exact ho
  · by_cases e : i = n
    · simp only [e, if_true]; exact ⟨hx.bd, ownsRow_kept hx.own hg (fun k hk => hxb k hk)⟩
    · simp only [e, if_false]; exact ⟨(h.row i (by omega)).bd, ownsRow_kept (h.row i (by omega)).own hg (fun k hk hh => h.apart i (by omega) k hh hk)⟩
  · by_cases e : i = n
    · by_cases e' : j = n
      · omega
      · simp only [e, if_true] at h1
        simp only [e', if_false] at h2
        exact (hd k h1).2 j (by omega) h2
    · by_cases e' : j = n
      · simp only [e, if_false] at h1
        simp only [e', if_true] at h2
        exact (hd k h2).2 i (by omega) h1
      · simp only [e, if_false] at h1
        simp only [e', if_false] at h2
        exact h.dis i j (by omega) (by omega) hij k h1 h2
  · have hlt : k < w.heap.size := by
      by_cases e : i = n
      · simp only [e, if_true] at h1; exact (hx.own.lt k h1).2
      · simp only [e, if_false] at h1; exact ((h.row i (by omega)).own.lt k h1).2
    rcases ha with ha | ha
    · rw [ha] at h2
      by_cases e : i = n
      · simp only [e, if_true] at h1; exact (hd k h1).1 h2
      · simp only [e, if_false] at h1; exact h.apart i (by omega) k h1 h2
    · rw [ha] at h2; injection h2 with h2; omega

/-- A list copied by an append to nil. -/
theorem hist_run (w : World) (ao : Option Addr) (hc : Nat) (x : Ent) (hr : IRow w ao x.n x.f) (hn : x.n ≤ 1048576) (ty : TypeId) :
    ∃ hv w', (Builtin.append_ #[31, 31] ty #[.slice none 0 0, .slice ao x.n hc]).run Tryz.prog w = .ok hv w' ∧ HOwn w' w.heap.size hv x ∧ Below w.heap.size w w' := by
  obtain ⟨i0, hi, hz0, hz1, hz2⟩ := info_parts Tryz.infoInt
  by_cases h0 : x.n = 0
  · refine ⟨.slice none 0 0, w, ?_, ⟨hr.bd, ?_⟩, Below.refl _ _⟩
    · rw [h0]
      cases ao <;> simp [Builtin.append_, run_underlying Tryz.underlying31, sizeOf, typeInfo, hi, Builtin.lenOf, Builtin.firstCells, loadCells, loadCellsFrom, storeCells]
    · rw [h0]; exact World.ownsRow_nil _ _ _ _
  · obtain ⟨b, off, rfl, hlt, hcl⟩ := hr.lies.resolve_left h0
    obtain ⟨v', w', hrun, hown, hg, _, _⟩ := run_append_own_at (P := Tryz.prog) w w.heap.size 31 ty 3 i0 (.int .i64 0) 1 8 Tryz.underlying31 hi hz0 hz1 hz2 rfl (by decide) (.slice none 0 0) 0 [] (World.ownsRow_nil _ _ _ _) ⟨b, off, none⟩ x.n hc (icells x.f x.n) (by simp [icells])
      (fun j u hu => by
        have hj : j < x.n := by
          have := (List.getElem?_eq_some_iff.1 hu).1
          simpa [icells] using this
        have e : u = .int .i64 (x.f j) := by simpa [icells, hj] using hu.symm
        subst e
        rw [show (⟨b, off, none⟩ : Addr).add j = ⟨b, off + j, none⟩ from by unfold Addr.add; split <;> simp_all]
        exact hcl j hj)
      (fun u hu => by simp only [icells, List.mem_map] at hu; obtain ⟨i, _, rfl⟩ := hu; rfl) (by unfold maxLen; omega) (by omega) (Nat.le_refl _)
    refine ⟨v', w', hrun, ⟨hr.bd, ?_⟩, (Below.refl _ _).grown hg (Nat.le_refl _) (fun k hk => by simp [Value.ownBlock] at hk)⟩
    simpa using hown

/-- An append by its run's equation. -/
theorem wpList_append_eq {P : Program} (w : World) {ops : Array Oper} {rest : List Oper} {o : Oper} {a : Act} {Q : Exit → Act → World → Prop}
    (hg : o.guard = none) (s x : Operand) (t ty : TypeId) (hop : o.op = .call { callee := .builtin .append, args := #[s, x], argTypes := #[t, t] }) (hty : o.type = ty) (u v r : Value) (hs : a.eval s = u) (hx : a.eval x = v) (w' : World)
    (hrun : (Builtin.append_ #[t, t] ty #[u, v]).run P w = .ok r w') (hK : wpList P ops Q rest (a.put o.dst r) w') : wpList P ops Q (o :: rest) a w := by
  refine wpList_plain hg fun K' hK' => ?_
  subst hty
  unfold Oper.wp execOp
  simp only [hop, resolve, invoke, builtin, Sem.run_bind, Sem.run_pure, Result.andThen_ok, List.map_toArray, List.map_cons, List.map_nil, hs, hx, hrun]
  exact hK' _ _ hK

theorem nine_new (w : World) (x : Ent) (hv : Value) (T : Nat) : ∀ j u, (ecells x hv)[j]? = some u → (w.alloc (.cells #[.string x.key, .int .i64 x.seq, .int .i64 x.kind, .int .i64 x.c, .int .i64 x.s, .int .i64 x.lo, .int .i64 x.hi, hv, .bool x.fu] T)).cell? ((⟨w.heap.size, 0, none⟩ : Addr).add j) = some u := by
  intro j u hj
  have hlt : j < 9 := by
    have := (List.getElem?_eq_some_iff.1 hj).1
    simpa [ecells] using this
  rw [show (⟨w.heap.size, 0, none⟩ : Addr).add j = ⟨w.heap.size, j, none⟩ from by unfold Addr.add; split <;> simp_all]
  rw [← hj]
  simp [go_sem, ecells]

/-- One entry put behind. -/
theorem wpList_pushE {w : World} {ops : Array Oper} {rest : List Oper} {o : Oper} {a : Act} {Q : Exit → Act → World → Prop} (hgd : o.guard = none) (s y : Operand)
    (ho : o.op = .call { callee := .builtin .append, args := #[s, y], argTypes := #[23, 23] })
    (base : Nat) (v hv : Value) (n : Nat) (X : Nat → Ent) (V : Nat → Value) (x : Ent) (hs : a.eval s = v) (h : OutE w base v n X V) (hx : HOwn w base hv x)
    (hd : ∀ k, hv.ownBlock = some k → v.ownBlock ≠ some k ∧ ∀ i, i < n → (V i).ownBlock ≠ some k)
    (hy : a.eval y = .slice (some ⟨w.heap.size, 0, none⟩) 1 1) (hn : n ≤ 1048576) (hbase : base ≤ w.heap.size) (h1 : hv.oneCell' = true)
    (hk : ∀ v' w', OutE w' base v' (n + 1) (fun i => if i = n then x else X i) (fun i => if i = n then hv else V i) → (w.alloc (.cells #[.string x.key, .int .i64 x.seq, .int .i64 x.kind, .int .i64 x.c, .int .i64 x.s, .int .i64 x.lo, .int .i64 x.hi, hv, .bool x.fu] 35)).grownBy w' v.ownBlock → wpList Tryz.prog ops Q rest (a.put o.dst v') w') :
    wpList Tryz.prog ops Q (o :: rest) a (w.alloc (.cells #[.string x.key, .int .i64 x.seq, .int .i64 x.kind, .int .i64 x.c, .int .i64 x.s, .int .i64 x.lo, .int .i64 x.hi, hv, .bool x.fu] 35)) := by
  obtain ⟨i0, hi, hz0, hz1, hz2⟩ := info_parts Tryz.infoEnt
  have hB := below_new w (.cells #[.string x.key, .int .i64 x.seq, .int .i64 x.kind, .int .i64 x.c, .int .i64 x.s, .int .i64 x.lo, .int .i64 x.hi, hv, .bool x.fu] 35)
  refine wpList_append_own_at (w := w.alloc (.cells #[.string x.key, .int .i64 x.seq, .int .i64 x.kind, .int .i64 x.c, .int .i64 x.s, .int .i64 x.lo, .int .i64 x.hi, hv, .bool x.fu] 35)) hgd s y 23 ho base 35 i0 _ 9 96 Tryz.underlying23 hi hz0 hz1 hz2 rfl (by decide) v n ((List.range n).flatMap fun i => ecells (X i) (V i)) hs (ownsRow_keep h.own hB) ⟨w.heap.size, 0, none⟩ 1 1 (ecells x hv) hy rfl (nine_new _ _ _ _) (fun u hu => by
    simp only [ecells, List.mem_cons, List.not_mem_nil, or_false] at hu
    rcases hu with rfl | rfl | rfl | rfl | rfl | rfl | rfl | rfl | rfl <;> first | rfl | exact h1) (by unfold maxLen; omega) (by omega) (by simp; omega) ?_
  intro v' w' h1 h2 h3 h4
  exact hk v' w' ((h.keep hB).push (hx.keep hB) hd h1 h2 h4) h2
theorem wpList_pushE2 {w : World} {ops : Array Oper} {rest : List Oper} {o : Oper} {a : Act} {Q : Exit → Act → World → Prop} (nb : Nat) (hnb : w.heap.size = nb) (hgd : o.guard = none) (s y : Operand)
    (ho : o.op = .call { callee := .builtin .append, args := #[s, y], argTypes := #[23, 23] })
    (base : Nat) (v hv : Value) (n : Nat) (X : Nat → Ent) (V : Nat → Value) (x : Ent) (hs : a.eval s = v) (h : OutE w base v n X V) (hx : HOwn w base hv x)
    (hd : ∀ k, hv.ownBlock = some k → v.ownBlock ≠ some k ∧ ∀ i, i < n → (V i).ownBlock ≠ some k)
    (hy : a.eval y = .slice (some ⟨nb, 0, none⟩) 1 1) (hn : n ≤ 1048576) (hbase : base ≤ w.heap.size) (h1 : hv.oneCell' = true)
    (hk : ∀ v' w', OutE w' base v' (n + 1) (fun i => if i = n then x else X i) (fun i => if i = n then hv else V i) → (w.alloc (.cells #[.string x.key, .int .i64 x.seq, .int .i64 x.kind, .int .i64 x.c, .int .i64 x.s, .int .i64 x.lo, .int .i64 x.hi, hv, .bool x.fu] 35)).grownBy w' v.ownBlock → wpList Tryz.prog ops Q rest (a.put o.dst v') w') :
    wpList Tryz.prog ops Q (o :: rest) a (w.alloc (.cells #[.string x.key, .int .i64 x.seq, .int .i64 x.kind, .int .i64 x.c, .int .i64 x.s, .int .i64 x.lo, .int .i64 x.hi, hv, .bool x.fu] 35)) := by
  subst hnb
  exact wpList_pushE hgd s y ho base v hv n X V x hs h hx hd hy hn hbase h1 hk
end Go.Proofs.YtohjjigkfdhklaaGreat
