/- A map of files, entry by entry; names that rise are different; an append to nothing. -/
import Derived.Test.YtgedpjabjoodjaaDoorGoodS
import Derived.Maps.RangeRun
import Derived.Maps.OwnSet
import Derived.OwnWalk
import Derived.Deep.AppendLies
namespace Go.Proofs.YtgedpjabjoodjaaDoor
open Go.RowKit
open Go.ChangeMaps (setBlock)
set_option linter.unusedSimpArgs false
set_option linter.unusedVariables false

theorem bl_self : ∀ l : List UInt8, Op.bytesLess l l = false
  | [] => rfl
  | x :: l => by simp [Op.bytesLess, bl_self l]
theorem bl_trans : ∀ a b c : List UInt8, Op.bytesLess a b = true → Op.bytesLess b c = true → Op.bytesLess a c = true
  | _, [], _, h, _ => by simp [Op.bytesLess] at h
  | _, _ :: _, [], _, h => by simp [Op.bytesLess] at h
  | [], _ :: _, _ :: _, _, _ => by simp [Op.bytesLess]
  | x :: a, y :: b, z :: c, h, g => by
    have ih := bl_trans a b c
    simp only [Op.bytesLess, Bool.or_eq_true, Bool.and_eq_true, decide_eq_true_eq, beq_iff_eq] at h g ⊢
    rcases h with h | ⟨rfl, h⟩ <;> rcases g with g | ⟨rfl, g⟩
    · exact .inl (UInt8.lt_trans h g)
    · exact .inl h
    · exact .inl g
    · exact .inr ⟨rfl, ih h g⟩
/-- Files that stand where they may: each name is above all ahead of it. -/
theorem names_rise {F : Nat → Fil} {n : Nat} (h : ∀ i, i < n → fileOk F i = true) : ∀ d i, i + (d + 1) < n → Op.bytesLess (F i).nm.toList (F (i + (d + 1))).nm.toList = true
  | 0, i, hi => by
    have := h (i + 1) hi
    simp [fileOk] at this
    exact this.1.1.2
  | d + 1, i, hi => by
    have h1 := names_rise h d i (by omega)
    have h2 := h (i + (d + 1 + 1)) hi
    simp [fileOk] at h2
    exact bl_trans _ _ _ h1 h2.1.1.2
theorem names_ne {F : Nat → Fil} {n : Nat} (h : ∀ i, i < n → fileOk F i = true) {i j : Nat} (hij : i < j) (hj : j < n) : (F i).nm ≠ (F j).nm := fun e => by
  have h1 := names_rise h (j - i - 1) i (by omega)
  rw [show i + (j - i - 1 + 1) = j from by omega, e, bl_self] at h1
  exact absurd h1 (by simp)

/-- The entry of file i, whose bytes are told by S i. -/
def ent (F : Nat → Fil) (S : Nat → Value) (i : Nat) : MapEntry := { key := .string (F i).nm, val := .agg #[.string (F i).nm, S i, .int .i64 (F i).sy], born := i }
def ents (F : Nat → Fil) (S : Nat → Value) (n : Nat) : Array MapEntry := ((List.range n).map (ent F S)).toArray
theorem ents_push (F : Nat → Fil) (S : Nat → Value) (k : Nat) : (ents F S k).push (ent F S k) = ents F S (k + 1) := by simp [ents, List.range_succ]
theorem ents_congr {F : Nat → Fil} {S S' : Nat → Value} {k : Nat} (h : ∀ i, i < k → S i = S' i) : ents F S k = ents F S' k := by
  unfold ents
  congr 1
  exact List.map_congr_left fun i hi => by simp [ent, h i (List.mem_range.1 hi)]
theorem mem_ents {F : Nat → Fil} {S : Nat → Value} {n : Nat} {x : MapEntry} (h : x ∈ (ents F S n).toList) : ∃ i, i < n ∧ x = ent F S i := by
  simp only [ents, List.mem_map, List.mem_range] at h
  obtain ⟨i, hi, rfl⟩ := h
  exact ⟨i, hi, rfl⟩
theorem ents_born (F : Nat → Fil) (S : Nat → Value) (n : Nat) : (ents F S n).toList.map (·.born) = List.range n := by
  simp only [ents, List.map_map]
  conv => rhs; rw [← List.map_id (List.range n)]
  rfl
theorem ents_keys {F : Nat → Fil} {S : Nat → Value} {n : Nat} : ∀ x ∈ (ents F S n).toList, MapKept.IsKey .string x.key := fun x hx => by
  obtain ⟨i, _, rfl⟩ := mem_ents hx
  simp [ent, MapKept.IsKey]

section
variable {P : Program} {w : World} {mty kt et : TypeId} {r : Nat} {es : Array MapEntry} {clock : Nat}
theorem run_mapUpdate_new {s : ByteArray} (val : Value) (hm : P.underlying mty = some (.map kt et)) (hd : P.underlying kt = some .string) (hb : w.heap[r]? = some (.map es clock)) (hks : ∀ x ∈ es.toList, MapKept.IsKey .string x.key) (hne : ∀ x ∈ es.toList, x.key ≠ .string s) :
    (Instr.mapUpdate mty (.map (some r)) (.string s) val).run P w = .ok () (setBlock w r (.map (es.push { key := .string s, val := val, born := clock }) (clock + 1))) := by
  have hk : MapKept.IsKey .string (.string s) := by simp [MapKept.IsKey]
  rcases MapKept.findNow_spec hk es.toList 0 hks with ⟨h1, _⟩ | ⟨j, e, h1, h2, h3⟩
  · simp [Instr.mapUpdate, run_underlying hm, MapKept.run_getObj_map hb, MapKept.run_checkKey hd hk, MapKept.run_findKey hd h1, MapKept.run_setObj_map _ hb, Result.andThen, setBlock]
  · exact absurd h3 (hne e (List.mem_of_getElem? h2))
end

theorem wpList_mapUpdate_run {P : Program} (w : World) {ops : Array Oper} {rest : List Oper} {o : Oper} {a : Act} {Q : Exit → Act → World → Prop}
    (hg : o.guard = none) (m x v : Operand) (t : TypeId) (hop : o.op = Op.mapUpdate t m x v) (mv key val : Value) (hm : a.eval m = mv) (hx : a.eval x = key) (hv : a.eval v = val) (w' : World)
    (hrun : (Instr.mapUpdate t mv key val).run P w = .ok () w') (hK : wpList P ops Q rest (a.put o.dst undef) w') : wpList P ops Q (o :: rest) a w := by
  refine wpList_plain hg fun K' hK' => ?_
  unfold Oper.wp
  simp [execOp, hop, hm, hx, hv, hrun, Result.andThen]
  exact hK' _ _ hK
theorem wpList_append_run {P : Program} (w : World) {ops : Array Oper} {rest : List Oper} {o : Oper} {a : Act} {Q : Exit → Act → World → Prop}
    (hg : o.guard = none) (s x : Operand) (t : TypeId) (hop : o.op = .call { callee := .builtin .append, args := #[s, x], argTypes := #[t, t] }) (u v r : Value) (hs : a.eval s = u) (hx : a.eval x = v) (w' : World)
    (hrun : ∀ ty, (Builtin.append_ #[t, t] ty #[u, v]).run P w = .ok r w') (hK : wpList P ops Q rest (a.put o.dst r) w') : wpList P ops Q (o :: rest) a w := by
  refine wpList_plain hg fun K' hK' => ?_
  unfold Oper.wp execOp
  simp only [hop, resolve, invoke, builtin, Sem.run_bind, Sem.run_pure, Result.andThen_ok, List.map_toArray, List.map_cons, List.map_nil, hs, hx, hrun]
  exact hK' _ _ hK

/-- A copy made by an append to nothing: nil where there is no byte, else in the next block. -/
theorem copy_run (w : World) (da : Option Addr) (len dc : Nat) (f : Nat → Int) (hr : Row w da len f) (hn : len ≤ 1048576) :
    ∃ g c w', (∀ ty, (Builtin.append_ #[35, 35] ty #[.slice none 0 0, .slice da len dc]).run Tryd.prog w = .ok (.slice g len c) w') ∧ ((len = 0 ∧ g = none) ∨ (g = some ⟨w.heap.size, 0, none⟩ ∧ Own w' w.heap.size 0 len f)) ∧ Below w.heap.size w w' ∧ Row w' g len f := by
  obtain ⟨i0, hi, hz0, hz1, hz2⟩ := info_parts Tryd.info5
  by_cases h0 : len = 0
  · subst h0
    refine ⟨none, 0, w, fun ty => ?_, .inl ⟨rfl, rfl⟩, Below.refl _ _, hr.bd, .inl rfl⟩
    cases da <;> simp [Builtin.append_, run_underlying Tryd.underlying35, sizeOf, typeInfo, hi, Builtin.lenOf, Builtin.firstCells, loadCells, loadCellsFrom]
  · obtain ⟨b, off, rfl, hlt, hc⟩ := hr.lies.resolve_left h0
    obtain ⟨g, cap, w', hrun, hown, hgrow, hat, hlt'⟩ := run_append_lies (P := Tryd.prog) w 35 0 w.heap.size 5 i0 (.int .u8 0) 1 1 Tryd.underlying35 hi hz0 hz1 hz2 rfl (by decide) (.slice none 0 0) 0 [] (World.ownsRow_nil _ _ _ _) ⟨b, off, none⟩ len dc ((List.range len).map fun i => Value.int .u8 (f i)) (by simp)
      (fun j u hu => by
        have hj : j < len := by
          have := (List.getElem?_eq_some_iff.1 hu).1
          simpa using this
        have e : u = .int .u8 (f j) := by simpa [hj] using hu.symm
        subst e
        have := hc j hj
        by_cases hj0 : j = 0
        · subst hj0; simpa [Addr.add] using this
        · simpa [Addr.add, hj0] using this)
      (fun u hu => by simp only [List.mem_map] at hu; obtain ⟨i, _, rfl⟩ := hu; rfl) (by omega) (by unfold maxLen; omega) (by omega) (Nat.le_refl _) w.heap.size rfl
    rw [Nat.zero_add] at hrun hown
    rw [List.nil_append] at hown
    have hg : g = w.heap.size := by
      rcases hat with h | h
      · simp [Value.ownBlock] at h
      · exact h
    subst hg
    have hO : Own w' w.heap.size 0 len f := by
      refine ⟨hr.bd, hlt', fun i hi => ?_, fun i _ => by simpa using hown.frozenAt i⟩
      rw [Nat.zero_add, hown.cellAt i (by omega)]
      simp [hi]
    have hB : Below w.heap.size w w' := (Below.refl _ _).grown hgrow (Nat.le_refl _) (fun k h => by simp [Value.ownBlock] at h)
    exact ⟨_, cap, w', fun ty => hrun, .inr ⟨rfl, hO⟩, hB, hO.row⟩
end Go.Proofs.YtgedpjabjoodjaaDoor
