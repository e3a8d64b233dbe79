/- slices.Insert over metas where there is no room. / A row with one put in between, as a list. -/
import Derived.Test.YtagkhohglpjjlaaAe
import Derived.Lib.AppendZerosOnto
import Derived.Laws.NewBlocks
namespace Go.Proofs.Ytagkhohglpjjlaa
open Go.RowKit
set_option linter.unusedSimpArgs false
set_option linter.unusedVariables false

theorem wpList_append_is {P : Program} {w : World} {ops : Array Oper} {rest : List Oper} {o : Oper} {a : Act} {Q : Exit → Act → World → Prop} (hgd : o.guard = none) (s x : Operand) (t t' : TypeId)
    (ho : o.op = .call { callee := .builtin .append, args := #[s, x], argTypes := #[t, t'] }) (u v r : Value) (hs : a.eval s = u) (hx : a.eval x = v) (w' : World) (hrun : ∀ ty, (Builtin.append_ #[t, t'] ty #[u, v]).run P w = .ok r w') (h : wpList P ops Q rest (a.put o.dst r) w') : wpList P ops Q (o :: rest) a w := by
  refine wpList_plain hgd fun K hK => ?_
  unfold Oper.wp execOp
  simp only [ho, resolve, invoke, builtin, Sem.run_bind, Sem.run_pure, Result.andThen_ok, List.map_toArray, List.map_cons, List.map_nil, hs, hx, hrun]
  exact hK _ _ h

theorem zeroCells_size (k : Nat) : (Builtin.zeroCells (Value.agg #[.int .i64 0, .string ByteArray.empty, .string ByteArray.empty, .int .i64 0]).cells k).size = k * 4 := by
  simp [Builtin.zeroCells, Value.cells]

set_option maxRecDepth 100000 in
set_option maxHeartbeats 1600000 in
theorem insertM_grow (vb vc g n c i : Nat) (cs vs : List Value) (w : World) (hi : i < n) (hnc : n ≤ c) (hroom : c < n + 1) (hn : n ≤ 1048576) (hcl : cs.length = n * 4) (hvl : vs.length = 4) (hgw : g < w.heap.size) (hvw : vb < w.heap.size)
    (hcs : ∀ j v, cs[j]? = some v → w.cell? ⟨g, j, none⟩ = some v)
    (hvs : ∀ j v, vs[j]? = some v → w.cell? ⟨vb, j, none⟩ = some v) (h1c : ∀ v ∈ cs, v.oneCell' = true) (h1v : ∀ v ∈ vs, v.oneCell' = true) :
    Calls Try.prog 40 #[.slice (some ⟨g, 0, none⟩) n c, .int .i64 i, .slice (some ⟨vb, 0, none⟩) 1 vc] w
      fun e w' => ∃ (G : Nat) (ROW : Array Value), n + 1 ≤ G ∧ G ≤ maxLen ∧ ROW.size = G * 4 ∧ (∀ j, j < i * 4 → ROW[j]? = cs[j]?) ∧ e = .returned (.slice (some ⟨w.heap.size, 0, none⟩) (n + 1) G) ∧ w' = (((w.drew.alloc (.cells ROW 52)).setCells w.heap.size (i * 4) vs).drew).setCells w.heap.size ((i + 1) * 4) (cs.drop (i * 4)) := by
  have hz2 : ¬ ((i : Int) = (n : Int)) := by omega
  have hz3 : (c : Int) < (n : Int) + 1 := by omega
  have hw1 : IntKind.i64.wrap ((i : Int) + 1) = (i : Int) + 1 := by rw [IntKind.wrap_i64]; omega
  have hb1 : (0 : Int) ≤ (i : Int) + 1 := by omega
  have hin : i ≤ n := by omega
  have htn : ((i : Int) + 1).toNat = i + 1 := by omega
  have hb3 : (i : Int) ≤ (n : Int) := by omega
  have hci : ¬ (c = i) := by omega
  obtain ⟨i0, hi0, hz0, hzs, hzb⟩ := info_parts Try.infoM
  have hsz : (Try.prog.info? 52).map (·.size) = some 4 := by rw [hi0]; simp [hzs]
  have hik : i + (n + 1 - i) = n + 1 := by omega
  have hkk : (n : Int) + 1 - (i : Int) = ((n + 1 - i : Nat) : Int) := by omega
  have hold : (Builtin.firstCells i0.size i (.slice (some ⟨g, 0, none⟩) i c)).run Try.prog w.drew = .ok (cs.take (i * 4)).toArray w.drew := by
    rw [hzs]
    exact run_firstCells_some w.drew 4 i ⟨g, 0, none⟩ i c (cs.take (i * 4)) (by rw [List.length_take]; omega) (fun j v hj => by
      rw [Addr.add_lit, Nat.zero_add]
      rw [List.getElem?_take] at hj
      split at hj
      · exact hcs j v hj
      · cases hj)
  have hGn := grownCap_ge w (n + 1) c 52
  have hG63 := grownCap_le_maxLen w (n + 1) c 52 (by unfold maxLen; omega)
  have hrz := fun ty => Lib.run_append_grow_zeros w 71 3 ty 52 i0 _ .i64 .i64 Try.underlying71 Try.underlying3 hi0 hz0 (some ⟨g, 0, none⟩) i c (cs.take (i * 4)) hold (n + 1 - i) (by omega) (by omega) (by omega) (by omega) (by rw [hzb]; omega) (by rw [hzb, hik]; exact growslice_fits hroom (by omega))
  rw [hik, ← hkk] at hrz
  generalize grownCap w (n + 1) c 52 = G at *
  obtain ⟨ROW, hROW⟩ : ∃ ROW : Array Value, ROW = (cs.take (i * 4)).toArray ++ Builtin.zeroCells (Value.agg #[.int .i64 0, .string ByteArray.empty, .string ByteArray.empty, .int .i64 0]).cells (n + 1 - i) ++ Builtin.zeroCells (Value.agg #[.int .i64 0, .string ByteArray.empty, .string ByteArray.empty, .int .i64 0]).cells (G - (n + 1)) := ⟨_, rfl⟩
  rw [← hROW] at hrz
  have hRs : ROW.size = G * 4 := by
    rw [hROW, Array.size_append, Array.size_append, zeroCells_size, zeroCells_size]
    simp only [List.size_toArray, List.length_take, hcl]
    omega
  have hRc : ∀ j, j < i * 4 → ROW[j]? = cs[j]? := fun j hj => by
    have hl : j < (cs.take (i * 4)).toArray.size := by simp only [List.size_toArray, List.length_take, hcl]; omega
    rw [hROW, Array.append_assoc, Array.getElem?_append_left hl]
    simp [List.getElem?_take, hj]
  clear hROW hold hik hkk
  obtain ⟨W1, hW1⟩ : ∃ W1, W1 = w.drew.alloc (.cells ROW 52) := ⟨_, rfl⟩
  rw [← hW1] at hrz
  have hN : ∀ j, j < (n + 1) * 4 → (W1.cell? ⟨w.heap.size, j, none⟩).isSome = true := fun j hj => by
    rw [hW1, World.cell?_alloc_at (w := w.drew) ROW _ w.heap.size j rfl, Array.getElem?_eq_getElem (by omega)]; rfl
  have hNf : ∀ j, W1.frozen? ⟨w.heap.size, j, none⟩ = false := fun j => by rw [hW1]; exact World.frozen?_alloc_at (w := w.drew) ROW _ w.heap.size j rfl
  have hOb : ∀ j v, w.cell? ⟨g, j, none⟩ = some v → W1.cell? ⟨g, j, none⟩ = some v := fun j v h => by rw [hW1, World.cell?_alloc_past (w := w.drew) _ g j hgw]; exact h
  have hOv : ∀ j v, w.cell? ⟨vb, j, none⟩ = some v → W1.cell? ⟨vb, j, none⟩ = some v := fun j v h => by rw [hW1, World.cell?_alloc_past (w := w.drew) _ vb j hvw]; exact h
  obtain ⟨r2, hcp2⟩ : ∃ r2, ∀ ty, (Builtin.copy_ #[71, 71] ty #[.slice (some ⟨w.heap.size, i * 4, none⟩) (n + 1 - i) (G - i), .slice (some ⟨vb, 0, none⟩) 1 vc]).run Try.prog W1 = .ok r2 (W1.setCells w.heap.size (i * 4) vs) :=
    ⟨_, fun ty => run_copyK W1 _ _ ty 52 4 w.heap.size (i * 4) (n + 1 - i) (G - i) ⟨vb, 0, none⟩ 1 vc vs Try.underlying71 hsz (by rw [hvl, show Nat.min 1 (n + 1 - i) = 1 by simp only [Nat.min_def]; split <;> omega])
      (fun j v hj => by rw [Addr.add_lit, Nat.zero_add]; exact hOv j v (hvs j v hj))
      (fun j hj => hN _ (by omega)) (fun j _ => hNf _) h1v⟩
  obtain ⟨W2, hW2⟩ : ∃ W2, W2 = W1.setCells w.heap.size (i * 4) vs := ⟨_, rfl⟩
  have hoth := setCells_others w.heap.size vs (i * 4) W1
  rw [← hW2] at hcp2 hoth
  have hdl : (cs.drop (i * 4)).length = (n - i) * 4 := by rw [List.length_drop, hcl, Nat.sub_mul]
  obtain ⟨r3, hcp3⟩ : ∃ r3, ∀ ty, (Builtin.copy_ #[71, 71] ty #[.slice (some ⟨w.heap.size, (i + 1) * 4, none⟩) (n + 1 - (i + 1)) (G - (i + 1)), .slice (some ⟨g, i * 4, none⟩) (n - i) (c - i)]).run Try.prog W2.drew = .ok r3 (W2.drew.setCells w.heap.size ((i + 1) * 4) (cs.drop (i * 4))) :=
    ⟨_, fun ty => run_copyK W2.drew _ _ ty 52 4 w.heap.size ((i + 1) * 4) (n + 1 - (i + 1)) (G - (i + 1)) ⟨g, i * 4, none⟩ (n - i) (c - i) (cs.drop (i * 4)) Try.underlying71 hsz (by rw [hdl]; congr 1; simp only [Nat.min_def]; split <;> omega)
      (fun j v hj => by
        rw [Addr.add_lit]
        exact (World.cell?_of_block (w := W1) (w' := W2) (a := ⟨g, i * 4 + j, none⟩) (hoth.block g (by omega))).trans (hOb _ v (hcs (i * 4 + j) v (by rwa [List.getElem?_drop] at hj))))
      (fun j hj => by
        rw [hdl] at hj
        show (W2.cell? _).isSome = true
        rw [hW2, World.cell?_setCells_out _ _ _ _ _ (fun _ _ => .inr (by rw [hvl]; show i * 4 + 4 ≤ (i + 1) * 4 + j; omega))]
        exact hN _ (by omega)) (fun j _ => by show W2.frozen? _ = false; rw [hW2, World.frozen?_setCells]; exact hNf _) (fun v hv => h1c v (List.mem_of_mem_drop hv))⟩
  have hfin : Hid (W2.drew.setCells w.heap.size ((i + 1) * 4) (cs.drop (i * 4)) = (((w.drew.alloc (.cells ROW 52)).setCells w.heap.size (i * 4) vs).drew).setCells w.heap.size ((i + 1) * 4) (cs.drop (i * 4))) := by
    unfold Hid; rw [hW2, hW1]
  obtain ⟨W3, hW3⟩ : ∃ W3, W3 = W2.drew.setCells w.heap.size ((i + 1) * 4) (cs.drop (i * 4)) := ⟨_, rfl⟩
  rw [← hW3] at hcp3 hfin
  have hall : Hid (n + 1 ≤ G ∧ G ≤ maxLen ∧ ROW.size = G * 4 ∧ (∀ j, j < i * 4 → ROW[j]? = cs[j]?)) := ⟨hGn, hG63, hRs, hRc⟩
  have hGi : ¬ (G = i) := by omega
  have hGim : ¬ (G = i + 1) := by omega
  have hG9 : G ≤ 9223372036854775807 := by unfold maxLen at hG63; omega
  have hb5 : i ≤ n + 1 := by omega
  have hb6 : (i : Int) ≤ (n : Int) + 1 := by omega
  clear hoth hW1 hW2 hW3 hN hNf hOb hOv hdl hRs hRc hcs hvs h1c h1v hsz hi0 hz0 hzs hzb
  go_enter Try.func40, Try.ntmps40
  go_wp2_with (first
    | (at_builtin; refine wpList_append_is rfl _ _ 71 3 rfl (.slice (some ⟨g, 0, none⟩) i c) (.int .i64 ((n : Int) + 1 - (i : Int))) (.slice (some ⟨w.heap.size, 0, none⟩) (n + 1) G) rfl rfl W1 hrz ?_)
    | (at_builtin; refine wpList_copy_is rfl _ _ 71 rfl (.slice (some ⟨w.heap.size, i * 4, none⟩) (n + 1 - i) (G - i)) (.slice (some ⟨vb, 0, none⟩) 1 vc) r2 rfl rfl W2 hcp2 ?_))
  go_region_law (refine step_copy_is (by rfl) (.tmp 50) (.tmp 53) 71 (by rfl) (.slice (some ⟨w.heap.size, (i + 1) * 4, none⟩) (n + 1 - (i + 1)) (G - (i + 1))) (.slice (some ⟨g, i * 4, none⟩) (n - i) (c - i)) r3 (by simp [Act.eval, Act.put]) (by simp [Act.eval, Act.put]) W3 hcp3 ?_)
  all_goals
    go_wp2
    go_ret
    exact ⟨G, ROW, hall.out.1, hall.out.2.1, hall.out.2.2.1, hall.out.2.2.2, rfl, hfin.out⟩
end Go.Proofs.Ytagkhohglpjjlaa
namespace Go.Proofs.Ytagkhohglpjjlaa
open Go.RowKit
set_option linter.unusedSimpArgs false
set_option linter.unusedVariables false

/-- x put in ahead of the i-th. -/
def putAt (L : List Met) (i : Nat) (x : Met) : List Met := L.take i ++ x :: L.drop i
theorem putAt_len {L : List Met} {i : Nat} {x : Met} (h : i ≤ L.length) : (putAt L i x).length = L.length + 1 := by
  simp [putAt]; omega
theorem putAt_end (L : List Met) (x : Met) : putAt L L.length x = L ++ [x] := by simp [putAt]
theorem mf_take (L : List Met) (i : Nat) (h : i ≤ L.length) : (L.take i).flatMap mc = (L.flatMap mc).take (i * 4) ∧ (L.drop i).flatMap mc = (L.flatMap mc).drop (i * 4) := by
  have e : L.flatMap mc = (L.take i).flatMap mc ++ (L.drop i).flatMap mc := by
    rw [← List.flatMap_append, List.take_append_drop]
  have hl : ((L.take i).flatMap mc).length = i * 4 := by rw [mf_len, List.length_take]; congr 1; omega
  rw [e]
  exact ⟨(List.take_left' hl).symm, (List.drop_left' hl).symm⟩
theorem mf_put (L : List Met) (i : Nat) (x : Met) (h : i ≤ L.length) : (putAt L i x).flatMap mc = (L.flatMap mc).take (i * 4) ++ (mc x ++ (L.flatMap mc).drop (i * 4)) := by
  obtain ⟨h1, h2⟩ := mf_take L i h
  rw [putAt, List.flatMap_append, List.flatMap_cons, h1, h2]

theorem own_of_cells {w : World} {base g cap : Nat} {cur : Array Value} {L : List Met} (hb : base ≤ g) (hg : w.heap[g]? = some (.cells cur 52 (0, 0))) (hs : cur.size = cap * 4) (hn : L.length ≤ cap) (hm : cap ≤ maxLen) (hbd : ∀ x ∈ L, MB x)
    (hc : ∀ j v, (L.flatMap mc)[j]? = some v → w.cell? ⟨g, j, none⟩ = some v) : OwnM w base (.slice (some ⟨g, 0, none⟩) L.length cap) L := by
  refine ⟨hbd, mf_len L, .inr ⟨g, cap, cur, rfl, hb, hg, hn, hm, hs, ?_⟩⟩
  apply List.ext_getElem?
  intro j
  rw [List.getElem?_take]
  split
  · next h =>
    have hj : j < (L.flatMap mc).length := by rw [mf_len]; exact h
    have h1 := hc j _ (List.getElem?_eq_getElem hj)
    rw [List.getElem?_eq_getElem hj, ← h1]
    simp [World.cell?, hg]
  · next h =>
    rw [List.getElem?_eq_none (by rw [mf_len]; omega)]

theorem setCells_heap (g : Nat) (e : TypeId) : ∀ (vs : List Value) (o : Nat) (w : World) (cur : Array Value), w.heap[g]? = some (.cells cur e (0, 0)) → ∃ cur', (w.setCells g o vs).heap[g]? = some (.cells cur' e (0, 0)) ∧ cur'.size = cur.size
  | [], o, w, cur, h => ⟨cur, h, rfl⟩
  | v :: vs, o, w, cur, h => by
    obtain ⟨cur', h1, h2⟩ := setCells_heap g e vs (o + 1) (w.setCell ⟨g, o, none⟩ v) (cur.setIfInBounds o v) (heap_setCell_same w g o cur e v h)
    exact ⟨cur', h1, by rw [h2]; simp⟩

theorem lay3 {W : World} {B i n : Nat} {cs vs : List Value} (hvl : vs.length = 4) (hcl : cs.length = n * 4) (hi : i ≤ n)
    (hA : ∀ j v, j < i * 4 → cs[j]? = some v → W.cell? ⟨B, j, none⟩ = some v) (hV : ∀ j v, vs[j]? = some v → W.cell? ⟨B, i * 4 + j, none⟩ = some v) (hC : ∀ j v, (cs.drop (i * 4))[j]? = some v → W.cell? ⟨B, (i + 1) * 4 + j, none⟩ = some v) :
    ∀ j v, (cs.take (i * 4) ++ (vs ++ cs.drop (i * 4)))[j]? = some v → W.cell? ⟨B, j, none⟩ = some v := by
  intro j v hj
  have hl : (cs.take (i * 4)).length = i * 4 := by rw [List.length_take, hcl]; omega
  by_cases h1 : j < i * 4
  · rw [List.getElem?_append_left (by omega), List.getElem?_take, if_pos h1] at hj
    exact hA j v h1 hj
  · rw [List.getElem?_append_right (by omega), hl] at hj
    by_cases h2 : j - i * 4 < 4
    · rw [List.getElem?_append_left (by omega)] at hj
      have := hV _ v hj
      rwa [show i * 4 + (j - i * 4) = j by omega] at this
    · rw [List.getElem?_append_right (by omega), hvl] at hj
      have := hC _ v hj
      rwa [show (i + 1) * 4 + (j - i * 4 - 4) = j by omega] at this
end Go.Proofs.Ytagkhohglpjjlaa
