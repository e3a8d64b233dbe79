/- Good files, the model's text; all bytes. / A map of files, entry by entry; names that rise are different; an append to nothing. / All bytes of a map of files, in whatever order it is told. -/
import Derived.Test.YtapmbgmmonhdoaaGreatDoorGood
import Derived.Maps.RangeRun
import Derived.Maps.OwnSet
import Derived.OwnWalk
import Derived.Deep.AppendLies
namespace Go.Proofs.YtapmbgmmonhdoaaGreatDoor
set_option maxRecDepth 100000
open Go.RowKit
set_option linter.unusedSimpArgs false
set_option linter.unusedVariables false

end Go.Proofs.YtapmbgmmonhdoaaGreatDoor
namespace Go.Proofs.YtapmbgmmonhdoaaGreatDoor
set_option maxRecDepth 100000
open Go.RowKit
open Go.ChangeMaps (setBlock)
set_option linter.unusedSimpArgs false
set_option linter.unusedVariables false

theorem bl_selfF : ∀ l : List UInt8, Op.bytesLess l l = false
  | [] => rfl
  | x :: l => by simp [Op.bytesLess, bl_selfF l]
theorem bl_trans : ∀ a b c : List UInt8, Op.bytesLess a b = true → Op.bytesLess b c = true → Op.bytesLess a c = true
  | _, [], _, h, _ => by simp [Op.bytesLess] at h
  | _, _ :: _, [], _, h => by simp [Op.bytesLess] at h
  | [], _ :: _, _ :: _, _, _ => by simp [Op.bytesLess]
  | x :: a, y :: b, z :: c, h, g => by
    have ih := bl_trans a b c
    simp only [Op.bytesLess, Bool.or_eq_true, Bool.and_eq_true, decide_eq_true_eq, beq_iff_eq] at h g ⊢
    rcases h with h | ⟨rfl, h⟩ <;> rcases g with g | ⟨rfl, g⟩
    · exact .inl (UInt8.lt_trans h g)
    · exact .inl h
    · exact .inl g
    · exact .inr ⟨rfl, ih h g⟩
/-- Files that stand where they may: each name is above all ahead of it. -/
theorem names_rise {F : Nat → Fil} {n : Nat} (h : ∀ i, i < n → fileOk F i = true) : ∀ d i, i + (d + 1) < n → Op.bytesLess (F i).nm.toList (F (i + (d + 1))).nm.toList = true
  | 0, i, hi => by
    have := h (i + 1) hi
    simp [fileOk] at this
    exact this.1.1.2
  | d + 1, i, hi => by
    have h1 := names_rise h d i (by omega)
    have h2 := h (i + (d + 1 + 1)) hi
    simp [fileOk] at h2
    exact bl_trans _ _ _ h1 h2.1.1.2
theorem names_ne {F : Nat → Fil} {n : Nat} (h : ∀ i, i < n → fileOk F i = true) {i j : Nat} (hij : i < j) (hj : j < n) : (F i).nm ≠ (F j).nm := fun e => by
  have h1 := names_rise h (j - i - 1) i (by omega)
  rw [show i + (j - i - 1 + 1) = j from by omega, e, bl_selfF] at h1
  exact absurd h1 (by simp)

/-- The entry of file i, whose bytes are told by S i. -/
def ent (F : Nat → Fil) (S : Nat → Value) (i : Nat) : MapEntry := { key := .string (F i).nm, val := .agg #[.string (F i).nm, S i, .int .i64 (F i).sy], born := i }
def ents (F : Nat → Fil) (S : Nat → Value) (n : Nat) : Array MapEntry := ((List.range n).map (ent F S)).toArray
theorem ents_push (F : Nat → Fil) (S : Nat → Value) (k : Nat) : (ents F S k).push (ent F S k) = ents F S (k + 1) := by simp [ents, List.range_succ]
theorem ents_congr {F : Nat → Fil} {S S' : Nat → Value} {k : Nat} (h : ∀ i, i < k → S i = S' i) : ents F S k = ents F S' k := by
  unfold ents
  congr 1
  exact List.map_congr_left fun i hi => by simp [ent, h i (List.mem_range.1 hi)]
theorem mem_ents {F : Nat → Fil} {S : Nat → Value} {n : Nat} {x : MapEntry} (h : x ∈ (ents F S n).toList) : ∃ i, i < n ∧ x = ent F S i := by
  simp only [ents, List.mem_map, List.mem_range] at h
  obtain ⟨i, hi, rfl⟩ := h
  exact ⟨i, hi, rfl⟩
theorem ents_born (F : Nat → Fil) (S : Nat → Value) (n : Nat) : (ents F S n).toList.map (·.born) = List.range n := by
  simp only [ents, List.map_map]
  conv => rhs; rw [← List.map_id (List.range n)]
  rfl
theorem ents_keys {F : Nat → Fil} {S : Nat → Value} {n : Nat} : ∀ x ∈ (ents F S n).toList, MapKept.IsKey .string x.key := fun x hx => by
  obtain ⟨i, _, rfl⟩ := mem_ents hx
  simp [ent, MapKept.IsKey]

section
variable {P : Program} {w : World} {mty kt et : TypeId} {r : Nat} {es : Array MapEntry} {clock : Nat}
theorem run_mapUpdate_new {s : ByteArray} (val : Value) (hm : P.underlying mty = some (.map kt et)) (hd : P.underlying kt = some .string) (hb : w.heap[r]? = some (.map es clock)) (hks : ∀ x ∈ es.toList, MapKept.IsKey .string x.key) (hne : ∀ x ∈ es.toList, x.key ≠ .string s) :
    (Instr.mapUpdate mty (.map (some r)) (.string s) val).run P w = .ok () (setBlock w r (.map (es.push { key := .string s, val := val, born := clock }) (clock + 1))) := by
  have hk : MapKept.IsKey .string (.string s) := by simp [MapKept.IsKey]
  rcases MapKept.findNow_spec hk es.toList 0 hks with ⟨h1, _⟩ | ⟨j, e, h1, h2, h3⟩
  · simp [Instr.mapUpdate, run_underlying hm, MapKept.run_getObj_map hb, MapKept.run_checkKey hd hk, MapKept.run_findKey hd h1, MapKept.run_setObj_map _ hb, Result.andThen, setBlock]
  · exact absurd h3 (hne e (List.mem_of_getElem? h2))
end

theorem wpList_mapUpdate_run {P : Program} (w : World) {ops : Array Oper} {rest : List Oper} {o : Oper} {a : Act} {Q : Exit → Act → World → Prop}
    (hg : o.guard = none) (m x v : Operand) (t : TypeId) (hop : o.op = Op.mapUpdate t m x v) (mv key val : Value) (hm : a.eval m = mv) (hx : a.eval x = key) (hv : a.eval v = val) (w' : World)
    (hrun : (Instr.mapUpdate t mv key val).run P w = .ok () w') (hK : wpList P ops Q rest (a.put o.dst undef) w') : wpList P ops Q (o :: rest) a w := by
  refine wpList_plain hg fun K' hK' => ?_
  unfold Oper.wp
  simp [execOp, hop, hm, hx, hv, hrun, Result.andThen]
  exact hK' _ _ hK
theorem wpList_append_run {P : Program} (w : World) {ops : Array Oper} {rest : List Oper} {o : Oper} {a : Act} {Q : Exit → Act → World → Prop}
    (hg : o.guard = none) (s x : Operand) (t : TypeId) (hop : o.op = .call { callee := .builtin .append, args := #[s, x], argTypes := #[t, t] }) (u v r : Value) (hs : a.eval s = u) (hx : a.eval x = v) (w' : World)
    (hrun : ∀ ty, (Builtin.append_ #[t, t] ty #[u, v]).run P w = .ok r w') (hK : wpList P ops Q rest (a.put o.dst r) w') : wpList P ops Q (o :: rest) a w := by
  refine wpList_plain hg fun K' hK' => ?_
  unfold Oper.wp execOp
  simp only [hop, resolve, invoke, builtin, Sem.run_bind, Sem.run_pure, Result.andThen_ok, List.map_toArray, List.map_cons, List.map_nil, hs, hx, hrun]
  exact hK' _ _ hK

/-- A copy made by an append to nothing: nil where there is no byte, else in the next block. -/
theorem copy_runF (w : World) (da : Option Addr) (len dc : Nat) (f : Nat → Int) (hr : Row w da len f) (hn : len ≤ 1048576) :
    ∃ g c w', (∀ ty, (Builtin.append_ #[38, 38] ty #[.slice none 0 0, .slice da len dc]).run Tryz.prog w = .ok (.slice g len c) w') ∧ ((len = 0 ∧ g = none) ∨ (g = some ⟨w.heap.size, 0, none⟩ ∧ Own w' w.heap.size 0 len f)) ∧ Below w.heap.size w w' ∧ Row w' g len f := by
  obtain ⟨i0, hi, hz0, hz1, hz2⟩ := info_parts Tryz.info5
  by_cases h0 : len = 0
  · subst h0
    refine ⟨none, 0, w, fun ty => ?_, .inl ⟨rfl, rfl⟩, Below.refl _ _, hr.bd, .inl rfl⟩
    cases da <;> simp [Builtin.append_, run_underlying Tryz.underlying38, sizeOf, typeInfo, hi, Builtin.lenOf, Builtin.firstCells, loadCells, loadCellsFrom]
  · obtain ⟨b, off, rfl, hlt, hc⟩ := hr.lies.resolve_left h0
    obtain ⟨g, cap, w', hrun, hown, hgrow, hat, hlt'⟩ := run_append_lies (P := Tryz.prog) w 38 0 w.heap.size 5 i0 (.int .u8 0) 1 1 Tryz.underlying38 hi hz0 hz1 hz2 rfl (by decide) (.slice none 0 0) 0 [] (World.ownsRow_nil _ _ _ _) ⟨b, off, none⟩ len dc ((List.range len).map fun i => Value.int .u8 (f i)) (by simp)
      (fun j u hu => by
        have hj : j < len := by
          have := (List.getElem?_eq_some_iff.1 hu).1
          simpa using this
        have e : u = .int .u8 (f j) := by simpa [hj] using hu.symm
        subst e
        have := hc j hj
        by_cases hj0 : j = 0
        · subst hj0; simpa [Addr.add] using this
        · simpa [Addr.add, hj0] using this)
      (fun u hu => by simp only [List.mem_map] at hu; obtain ⟨i, _, rfl⟩ := hu; rfl) (by omega) (by unfold maxLen; omega) (by omega) (Nat.le_refl _) w.heap.size rfl
    rw [Nat.zero_add] at hrun hown
    rw [List.nil_append] at hown
    have hg : g = w.heap.size := by
      rcases hat with h | h
      · simp [Value.ownBlock] at h
      · exact h
    subst hg
    have hO : Own w' w.heap.size 0 len f := by
      refine ⟨hr.bd, hlt', fun i hi => ?_, fun i _ => by simpa using hown.frozenAt i⟩
      rw [Nat.zero_add, hown.cellAt i (by omega)]
      simp [hi]
    have hB : Below w.heap.size w w' := (Below.refl _ _).grown hgrow (Nat.le_refl _) (fun k h => by simp [Value.ownBlock] at h)
    exact ⟨_, cap, w', fun ty => hrun, .inr ⟨rfl, hO⟩, hB, hO.row⟩
end Go.Proofs.YtapmbgmmonhdoaaGreatDoor
namespace Go.Proofs.YtapmbgmmonhdoaaGreatDoor
set_option maxRecDepth 100000
open Go.RowKit
open Go.ChangeMaps (setBlock)
set_option linter.unusedSimpArgs false
set_option linter.unusedVariables false

/-- The bytes of those files among the first k that have been told. -/
def seenLen (F : Nat → Fil) (seen : Array Nat) : Nat → Nat
  | 0 => 0
  | k + 1 => seenLen F seen k + if seen.contains k then (F k).len else 0
theorem seenLen_none (F : Nat → Fil) : ∀ n, seenLen F #[] n = 0
  | 0 => rfl
  | n + 1 => by simp [seenLen, seenLen_none F n]
theorem seenLen_over (F : Nat → Fil) (seen : Array Nat) (i : Nat) : ∀ n, n ≤ i → seenLen F (seen.push i) n = seenLen F seen n
  | 0, _ => rfl
  | n + 1, h => by
    have e : (n == i) = false := by simp; omega
    simp only [seenLen, seenLen_over F seen i n (by omega), contains_push, e, Bool.or_false]
theorem seenLen_push (F : Nat → Fil) (seen : Array Nat) {i : Nat} (hs : seen.contains i = false) : ∀ n, i < n → seenLen F (seen.push i) n = seenLen F seen n + (F i).len
  | 0, h => by omega
  | n + 1, h => by
    by_cases e : i = n
    · subst e
      simp only [seenLen, seenLen_over F seen i i (Nat.le_refl _), contains_push, hs, beq_self_eq_true, Bool.or_true, if_true, Bool.false_eq_true, if_false, Nat.add_zero]
    · have e2 : (n == i) = false := by simp; omega
      simp only [seenLen, seenLen_push F seen hs n (by omega), contains_push, e2, Bool.or_false]
      omega
theorem seenLen_all (F : Nat → Fil) (seen : Array Nat) : ∀ n, (∀ i, i < n → seen.contains i = true) → seenLen F seen n = used F n
  | 0, _ => rfl
  | n + 1, h => by simp only [seenLen, used, seenLen_all F seen n (fun i hi => h i (by omega)), h n (by omega), if_true]
theorem seenLen_le (F : Nat → Fil) (seen : Array Nat) : ∀ n, seenLen F seen n ≤ used F n
  | 0 => Nat.le_refl _
  | n + 1 => by
    have := seenLen_le F seen n
    simp only [seenLen, used]
    split <;> omega
theorem none_left {F : Nat → Fil} {S : Nat → Value} {n : Nat} {seen : Array Nat} (h : (leftOf (ents F S n) seen).size = 0) : ∀ i, i < n → seen.contains i = true := fun i hi => by
  have h2 : leftOf (ents F S n) seen = #[] := Array.eq_empty_of_size_eq_zero h
  unfold leftOf at h2
  rw [Array.filter_eq_empty_iff] at h2
  have h3 := h2 (ent F S i) (by simp only [ents, List.mem_toArray, List.mem_map, List.mem_range]; exact ⟨i, hi, rfl⟩)
  cases hc : seen.contains i with
  | true => rfl
  | false => exact absurd (by simp only [ent, hc]; rfl) h3
theorem iter_seen {w : World} {r : Nat} {m : Option Nat} {a c : Nat} {s : Array Nat} (h : w.heap[r]? = some (.mapIter m a s c)) : w.iterSeen r = s := by simp [World.iterSeen, h]

/-- What a step of a range leaves. -/
theorem step_next {w wr w1 : World} {r bm n : Nat} {es : Array MapEntry} {o : Obj} (hw : w1 = wr ∨ w1 = wr.drew) (hr : r < wr.heap.size) (hbm : wr.heap[bm]? = some (.map es n)) (hne : bm ≠ r) (hB : w.heap.size ≤ r) (hbk : Below w.heap.size w wr) :
    (setBlock w1 r o).heap[r]? = some o ∧ (setBlock w1 r o).heap[bm]? = some (.map es n) ∧ Below w.heap.size w (setBlock w1 r o) ∧ (setBlock w1 r o).heap.size = wr.heap.size := by
  have hh : w1.heap = wr.heap := by rcases hw with rfl | rfl <;> rfl
  have hb1 : Below w.heap.size w w1 := by
    rcases hw with rfl | rfl
    · exact hbk
    · exact hbk.drew
  refine ⟨?_, ?_, ⟨hb1.os, hb1.tape, hb1.output, ?_, fun k hk => ?_⟩, ?_⟩
  · simp [setBlock, hh, hr]
  · simp [setBlock, hh, Ne.symm hne, hbm]
  · simp [setBlock, hh]; exact hbk.size
  · simp [setBlock, hh, show ¬ r = k by omega]
    exact hbk.block k hk
  · simp [setBlock, hh]

end Go.Proofs.YtapmbgmmonhdoaaGreatDoor
