/- slices.Insert of one window, told by its cells. -/
import Derived.Test.YtpggmgmdcccmeaaWr
import Derived.Maps.AppendAt
import Derived.Lib.Overlaps
import Derived.Laws.Externs
import Derived.Laws.IdiomCopy
import Derived.Lib.AppendZerosOnto
import Derived.Laws.NewBlocks
import Derived.Deep.RegionLaw
import Derived.Deep.RegionHeld3
namespace Go.Proofs.Ytpggmgmdcccmeaa
open Go.RowKit
set_option linter.unusedSimpArgs false
set_option linter.unusedVariables false

theorem wpList_append_eqW {P : Program} {w : World} {ops : Array Oper} {rest : List Oper} {o : Oper} {a : Act} {Q : Exit → Act → World → Prop}
    (hg : o.guard = none) (s x : Operand) (t ty : TypeId) (hop : o.op = .call { callee := .builtin .append, args := #[s, x], argTypes := #[t, t] }) (hty : o.type = ty) (u v r : Value) (hs : a.eval s = u) (hx : a.eval x = v) (w' : World)
    (hrun : (Builtin.append_ #[t, t] ty #[u, v]).run P w = .ok r w') (hK : wpList P ops Q rest (a.put o.dst r) w') : wpList P ops Q (o :: rest) a w := by
  refine wpList_plain hg fun K' hK' => ?_
  subst hty
  unfold Oper.wp execOp
  simp only [hop, resolve, invoke, builtin, Sem.run_bind, Sem.run_pure, Result.andThen_ok, List.map_toArray, List.map_cons, List.map_nil, hs, hx, hrun]
  exact hK' _ _ hK
/-- copy, where an element has k cells. -/
theorem run_copyK {P : Program} (w : World) (dT sT ty elem : TypeId) (k b o dLen dCap : Nat) (a : Addr) (sLen sCap : Nat) (cs : List Value)
    (hu : P.underlying dT = some (.slice elem)) (hs : (P.info? elem).map (·.size) = some k) (hn : cs.length = Nat.min sLen dLen * k)
    (hsrc : ∀ j v, cs[j]? = some v → w.cell? (a.add j) = some v) (hc : ∀ j, j < cs.length → (w.cell? ⟨b, o + j, none⟩).isSome = true) (hf : ∀ j, j < cs.length → w.frozen? ⟨b, o + j, none⟩ = false) (h1 : ∀ v ∈ cs, v.oneCell' = true) :
    (Builtin.copy_ #[dT, sT] ty #[.slice (some ⟨b, o, none⟩) dLen dCap, .slice (some a) sLen sCap]).run P w = .ok (goInt (Nat.min sLen dLen)) (w.setCells b o cs) := by
  have hl := run_loadCells_list (P := P) w a cs hsrc
  have hst := run_storeCells_cells (P := P) b o cs 0 w (by simpa using hc) (by simpa using hf) h1
  cases hq : P.info? elem with
  | none => simp [hq] at hs
  | some i =>
    have hi : i.size = k := by simpa [hq] using hs
    simp [Builtin.copy_, run_underlying hu, Builtin.lenOf, Builtin.firstCells, sizeOf, typeInfo, hq, hi, ← hn, hl, hst]

theorem overlapsW (w : World) (vb g o lb cb vc : Nat) (hne : vb ≠ g) (tA tB : TypeId) (kA kB : Nat) (hsa : w.shape? vb = some (tA, kA)) (hsb : w.shape? g = some (tB, kB)) (hkB : kB ≠ 0) (hfa : w.frozen? ⟨vb, 0, none⟩ = false) (hfe : w.frozen? ⟨vb, kA, none⟩ = false) :
    (callFunc 76 #[.slice (some ⟨vb, 0, none⟩) 1 vc, .slice (some ⟨g, o, none⟩) lb cb]).run Try.prog w = .ok (.value (.bool false)) w := by
  obtain ⟨i0, hi, hz0, hz1, hz2⟩ := info_parts Try.infoWi
  have hz : ∀ w, (Go.sizeOf 39).run Try.prog w = .ok 11 w := fun w => by simp [Go.sizeOf, typeInfo, hi, hz1]
  rw [run_callFunc_extern Try.func76 (by kernel_rfl) (by kernel_rfl) (by kernel_rfl) (e := Extern.SlicesOverlaps.overlaps #[23, 23] #[11]) (by kernel_rfl),
    Lib.run_overlaps_apart w 23 11 39 Try.underlying23 11 hz ⟨vb, 0, none⟩ ⟨g, o, none⟩ 1 vc lb cb hne tA tB kA kB hsa hsb hkB hfa hfe]
  rfl

theorem step_copy_is {P : Program} {w : World} {ops : Array Oper} {o : Oper} {a : Act} {K : Act → World → Prop} {Q : Exit → Act → World → Prop} {E : Prop} (hgd : o.guard = none) (s x : Operand) (t : TypeId)
    (ho : o.op = .call { callee := .builtin .copy, args := #[s, x], argTypes := #[t, t] }) (u v r : Value) (hs : a.eval s = u) (hx : a.eval x = v) (w' : World) (hrun : ∀ ty, (Builtin.copy_ #[t, t] ty #[u, v]).run P w = .ok r w') (h : K (a.put o.dst r) w') :
    if Region.wanted o (yielded ops a.tmps) = true then Oper.wp P o a w K Q else E := by
  have hw : Region.wanted o (yielded ops a.tmps) = true := by simp [Region.wanted, hgd]
  rw [if_pos hw]
  unfold Oper.wp execOp
  simp only [ho, resolve, invoke, builtin, Sem.run_bind, Sem.run_pure, Result.andThen_ok, List.map_toArray, List.map_cons, List.map_nil, hs, hx, hrun]
  exact h
theorem wpList_copy_is {P : Program} {w : World} {ops : Array Oper} {rest : List Oper} {o : Oper} {a : Act} {Q : Exit → Act → World → Prop} (hgd : o.guard = none) (s x : Operand) (t : TypeId)
    (ho : o.op = .call { callee := .builtin .copy, args := #[s, x], argTypes := #[t, t] }) (u v r : Value) (hs : a.eval s = u) (hx : a.eval x = v) (w' : World) (hrun : ∀ ty, (Builtin.copy_ #[t, t] ty #[u, v]).run P w = .ok r w') (h : wpList P ops Q rest (a.put o.dst r) w') : wpList P ops Q (o :: rest) a w := by
  refine wpList_plain hgd fun K hK => ?_
  unfold Oper.wp execOp
  simp only [ho, resolve, invoke, builtin, Sem.run_bind, Sem.run_pure, Result.andThen_ok, List.map_toArray, List.map_cons, List.map_nil, hs, hx, hrun]
  exact hK _ _ h

set_option maxRecDepth 100000 in
set_option maxHeartbeats 1600000 in
theorem insertW_shift (vb vc g n c i : Nat) (cs vs : List Value) (w : World) (hi : i < n) (hroom : n + 1 ≤ c) (hc63 : c ≤ 9223372036854775807) (hvb : vb ≠ g) (hcl : cs.length = n * 11) (hvl : vs.length = 11)
    (hcs : ∀ j v, cs[j]? = some v → w.cell? ⟨g, j, none⟩ = some v) (hsp : ∀ j, j < (n + 1) * 11 → (w.cell? ⟨g, j, none⟩).isSome = true) (hfz : ∀ j, w.frozen? ⟨g, j, none⟩ = false)
    (hvs : ∀ j v, vs[j]? = some v → w.cell? ⟨vb, j, none⟩ = some v) (h1c : ∀ v ∈ cs, v.oneCell' = true) (h1v : ∀ v ∈ vs, v.oneCell' = true)
    (hov : ∀ o lb cb, (callFunc 76 #[.slice (some ⟨vb, 0, none⟩) 1 vc, .slice (some ⟨g, o, none⟩) lb cb]).run Try.prog w = .ok (.value (.bool false)) w) :
    Calls Try.prog 59 #[.slice (some ⟨g, 0, none⟩) n c, .int .i64 i, .slice (some ⟨vb, 0, none⟩) 1 vc] w
      fun e w' => e = .returned (.slice (some ⟨g, 0, none⟩) (n + 1) c) ∧ w' = (w.drew.setCells g ((i + 1) * 11) (cs.drop (i * 11))).setCells g (i * 11) vs := by
  have hz2 : ¬ ((i : Int) = (n : Int)) := by omega
  have hw1 : IntKind.i64.wrap ((i : Int) + 1) = (i : Int) + 1 := by rw [IntKind.wrap_i64]; omega
  have hb1 : (0 : Int) ≤ (i : Int) + 1 := by omega
  have hin : i ≤ n := by omega
  have htn : ((i : Int) + 1).toNat = i + 1 := by omega
  have hb2 : ¬ (c = i + 1) := by omega
  have hb4 : ¬ (c = i) := by omega
  have hb3 : (i : Int) ≤ (n : Int) + 1 := by omega
  have hb5 : i ≤ n + 1 := by omega
  have hsz : (Try.prog.info? 39).map (·.size) = some 11 := by
    obtain ⟨i0, hi0, _, hz1, _⟩ := info_parts Try.infoWi
    rw [hi0]; simp [hz1]
  have hdl : (cs.drop (i * 11)).length = (n - i) * 11 := by rw [List.length_drop, hcl, Nat.sub_mul]
  have hin4 : (i + 1) * 11 + (n - i) * 11 = (n + 1) * 11 := by omega
  obtain ⟨r1, hcp1⟩ : ∃ r1, ∀ ty, (Builtin.copy_ #[23, 23] ty #[.slice (some ⟨g, (i + 1) * 11, none⟩) (n + 1 - (i + 1)) (c - (i + 1)), .slice (some ⟨g, i * 11, none⟩) (n + 1 - i) (c - i)]).run Try.prog w.drew = .ok r1 (w.drew.setCells g ((i + 1) * 11) (cs.drop (i * 11))) :=
    ⟨_, fun ty => run_copyK w.drew _ _ ty 39 11 g ((i + 1) * 11) (n + 1 - (i + 1)) (c - (i + 1)) ⟨g, i * 11, none⟩ (n + 1 - i) (c - i) (cs.drop (i * 11)) Try.underlying23 hsz (by rw [hdl]; congr 1; simp only [Nat.min_def]; split <;> omega)
      (fun j v hj => by rw [Addr.add_lit]; exact hcs (i * 11 + j) v (by rwa [List.getElem?_drop] at hj))
      (fun j hj => by rw [hdl] at hj; exact hsp _ (by omega)) (fun j _ => hfz _) (fun v hv => h1c v (List.mem_of_mem_drop hv))⟩
  obtain ⟨W1, hW1⟩ : ∃ W1, W1 = w.drew.setCells g ((i + 1) * 11) (cs.drop (i * 11)) := ⟨_, rfl⟩
  have hoth := setCells_others g (cs.drop (i * 11)) ((i + 1) * 11) w.drew
  rw [← hW1] at hcp1 hoth
  have hsp1 : ∀ k, k < (i + 1) * 11 → (W1.cell? ⟨g, k, none⟩).isSome = true := fun k hk => by
    rw [hW1, World.cell?_setCells_out g _ _ _ ⟨g, k, none⟩ (fun _ _ => .inl hk)]
    exact hsp k (by omega)
  obtain ⟨r2, hcp2⟩ : ∃ r2, ∀ ty, (Builtin.copy_ #[23, 23] ty #[.slice (some ⟨g, i * 11, none⟩) (n + 1 - i) (c - i), .slice (some ⟨vb, 0, none⟩) 1 vc]).run Try.prog W1 = .ok r2 (W1.setCells g (i * 11) vs) :=
    ⟨_, fun ty => run_copyK W1 _ _ ty 39 11 g (i * 11) (n + 1 - i) (c - i) ⟨vb, 0, none⟩ 1 vc vs Try.underlying23 hsz (by rw [hvl, show Nat.min 1 (n + 1 - i) = 1 by simp only [Nat.min_def]; split <;> omega])
      (fun j v hj => by
        rw [Addr.add_lit, Nat.zero_add]
        exact (World.cell?_of_block (w := w.drew) (a := ⟨vb, j, none⟩) (hoth.block vb hvb)).trans (hvs j v hj))
      (fun j hj => hsp1 _ (by omega)) (fun j _ => by rw [hW1, World.frozen?_setCells]; exact hfz _) h1v⟩
  have hfin : Hid (W1.setCells g (i * 11) vs = (w.drew.setCells g ((i + 1) * 11) (cs.drop (i * 11))).setCells g (i * 11) vs) := by
    unfold Hid; rw [hW1]
  clear hoth hW1 hsp hsp1 hcs hvs hfz h1c h1v hdl hin4 hsz
  go_enter Try.func59, Try.ntmps59
  go_wp2_with (simp only [hov])
  go_region_law (refine step_copy_is (by rfl) (.tmp 73) (.tmp 76) 23 (by rfl) (.slice (some ⟨g, (i + 1) * 11, none⟩) (n + 1 - (i + 1)) (c - (i + 1))) (.slice (some ⟨g, i * 11, none⟩) (n + 1 - i) (c - i)) r1 (by simp [Act.eval, Act.put]) (by simp [Act.eval, Act.put]) W1 hcp1 ?_)
  all_goals
    go_wp2_with (at_builtin; refine wpList_copy_is rfl _ _ 23 rfl (.slice (some ⟨g, i * 11, none⟩) (n + 1 - i) (c - i)) (.slice (some ⟨vb, 0, none⟩) 1 vc) r2 rfl rfl (W1.setCells g (i * 11) vs) hcp2 ?_)
    go_ret
    exact ⟨rfl, hfin.out⟩

theorem wpList_append_is {P : Program} {w : World} {ops : Array Oper} {rest : List Oper} {o : Oper} {a : Act} {Q : Exit → Act → World → Prop} (hgd : o.guard = none) (s x : Operand) (t t' : TypeId)
    (ho : o.op = .call { callee := .builtin .append, args := #[s, x], argTypes := #[t, t'] }) (u v r : Value) (hs : a.eval s = u) (hx : a.eval x = v) (w' : World) (hrun : ∀ ty, (Builtin.append_ #[t, t'] ty #[u, v]).run P w = .ok r w') (h : wpList P ops Q rest (a.put o.dst r) w') : wpList P ops Q (o :: rest) a w := by
  refine wpList_plain hgd fun K hK => ?_
  unfold Oper.wp execOp
  simp only [ho, resolve, invoke, builtin, Sem.run_bind, Sem.run_pure, Result.andThen_ok, List.map_toArray, List.map_cons, List.map_nil, hs, hx, hrun]
  exact hK _ _ h

theorem zeroCells_size (k : Nat) : (Builtin.zeroCells (Value.agg #[.string ByteArray.empty, .slice none 0 0, .int .i64 0, .int .i64 0, .int .i64 0, .int .i64 0, .int .i64 0, .slice none 0 0, .bool false, .int .i64 0, .bool false]).cells k).size = k * 11 := by
  simp [Builtin.zeroCells, Value.cells]

set_option maxRecDepth 100000 in
set_option maxHeartbeats 1600000 in
theorem insertW_grow (vb vc g n c i : Nat) (cs vs : List Value) (w : World) (hi : i < n) (hnc : n ≤ c) (hroom : c < n + 1) (hn : n ≤ 1048576) (hcl : cs.length = n * 11) (hvl : vs.length = 11) (hgw : g < w.heap.size) (hvw : vb < w.heap.size)
    (hcs : ∀ j v, cs[j]? = some v → w.cell? ⟨g, j, none⟩ = some v)
    (hvs : ∀ j v, vs[j]? = some v → w.cell? ⟨vb, j, none⟩ = some v) (h1c : ∀ v ∈ cs, v.oneCell' = true) (h1v : ∀ v ∈ vs, v.oneCell' = true) :
    Calls Try.prog 59 #[.slice (some ⟨g, 0, none⟩) n c, .int .i64 i, .slice (some ⟨vb, 0, none⟩) 1 vc] w
      fun e w' => ∃ (G : Nat) (ROW : Array Value), n + 1 ≤ G ∧ G ≤ maxLen ∧ ROW.size = G * 11 ∧ (∀ j, j < i * 11 → ROW[j]? = cs[j]?) ∧ e = .returned (.slice (some ⟨w.heap.size, 0, none⟩) (n + 1) G) ∧ w' = (((w.drew.alloc (.cells ROW 39)).setCells w.heap.size (i * 11) vs).drew).setCells w.heap.size ((i + 1) * 11) (cs.drop (i * 11)) := by
  have hz2 : ¬ ((i : Int) = (n : Int)) := by omega
  have hz3 : (c : Int) < (n : Int) + 1 := by omega
  have hw1 : IntKind.i64.wrap ((i : Int) + 1) = (i : Int) + 1 := by rw [IntKind.wrap_i64]; omega
  have hb1 : (0 : Int) ≤ (i : Int) + 1 := by omega
  have hin : i ≤ n := by omega
  have htn : ((i : Int) + 1).toNat = i + 1 := by omega
  have hb3 : (i : Int) ≤ (n : Int) := by omega
  have hci : ¬ (c = i) := by omega
  obtain ⟨i0, hi0, hz0, hzs, hzb⟩ := info_parts Try.infoWi
  have hsz : (Try.prog.info? 39).map (·.size) = some 11 := by rw [hi0]; simp [hzs]
  have hik : i + (n + 1 - i) = n + 1 := by omega
  have hkk : (n : Int) + 1 - (i : Int) = ((n + 1 - i : Nat) : Int) := by omega
  have hold : (Builtin.firstCells i0.size i (.slice (some ⟨g, 0, none⟩) i c)).run Try.prog w.drew = .ok (cs.take (i * 11)).toArray w.drew := by
    rw [hzs]
    exact run_firstCells_some w.drew 11 i ⟨g, 0, none⟩ i c (cs.take (i * 11)) (by rw [List.length_take]; omega) (fun j v hj => by
      rw [Addr.add_lit, Nat.zero_add]
      rw [List.getElem?_take] at hj
      split at hj
      · exact hcs j v hj
      · cases hj)
  have hGn := grownCap_ge w (n + 1) c 39
  have hG63 := grownCap_le_maxLen w (n + 1) c 39 (by unfold maxLen; omega)
  have hrz := fun ty => Lib.run_append_grow_zeros w 23 3 ty 39 i0 _ .i64 .i64 Try.underlying23 Try.underlying3 hi0 hz0 (some ⟨g, 0, none⟩) i c (cs.take (i * 11)) hold (n + 1 - i) (by omega) (by omega) (by omega) (by omega) (by rw [hzb]; omega) (by rw [hzb, hik]; exact growslice_fits hroom (by omega))
  rw [hik, ← hkk] at hrz
  generalize grownCap w (n + 1) c 39 = G at *
  obtain ⟨ROW, hROW⟩ : ∃ ROW : Array Value, ROW = (cs.take (i * 11)).toArray ++ Builtin.zeroCells (Value.agg #[.string ByteArray.empty, .slice none 0 0, .int .i64 0, .int .i64 0, .int .i64 0, .int .i64 0, .int .i64 0, .slice none 0 0, .bool false, .int .i64 0, .bool false]).cells (n + 1 - i) ++ Builtin.zeroCells (Value.agg #[.string ByteArray.empty, .slice none 0 0, .int .i64 0, .int .i64 0, .int .i64 0, .int .i64 0, .int .i64 0, .slice none 0 0, .bool false, .int .i64 0, .bool false]).cells (G - (n + 1)) := ⟨_, rfl⟩
  rw [← hROW] at hrz
  have hRs : ROW.size = G * 11 := by
    rw [hROW, Array.size_append, Array.size_append, zeroCells_size, zeroCells_size]
    simp only [List.size_toArray, List.length_take, hcl]
    omega
  have hRc : ∀ j, j < i * 11 → ROW[j]? = cs[j]? := fun j hj => by
    have hl : j < (cs.take (i * 11)).toArray.size := by simp only [List.size_toArray, List.length_take, hcl]; omega
    rw [hROW, Array.append_assoc, Array.getElem?_append_left hl]
    simp [List.getElem?_take, hj]
  clear hROW hold hik hkk
  obtain ⟨W1, hW1⟩ : ∃ W1, W1 = w.drew.alloc (.cells ROW 39) := ⟨_, rfl⟩
  rw [← hW1] at hrz
  have hN : ∀ j, j < (n + 1) * 11 → (W1.cell? ⟨w.heap.size, j, none⟩).isSome = true := fun j hj => by
    rw [hW1, World.cell?_alloc_at (w := w.drew) ROW _ w.heap.size j rfl, Array.getElem?_eq_getElem (by omega)]; rfl
  have hNf : ∀ j, W1.frozen? ⟨w.heap.size, j, none⟩ = false := fun j => by rw [hW1]; exact World.frozen?_alloc_at (w := w.drew) ROW _ w.heap.size j rfl
  have hOb : ∀ j v, w.cell? ⟨g, j, none⟩ = some v → W1.cell? ⟨g, j, none⟩ = some v := fun j v h => by rw [hW1, World.cell?_alloc_past (w := w.drew) _ g j hgw]; exact h
  have hOv : ∀ j v, w.cell? ⟨vb, j, none⟩ = some v → W1.cell? ⟨vb, j, none⟩ = some v := fun j v h => by rw [hW1, World.cell?_alloc_past (w := w.drew) _ vb j hvw]; exact h
  obtain ⟨r2, hcp2⟩ : ∃ r2, ∀ ty, (Builtin.copy_ #[23, 23] ty #[.slice (some ⟨w.heap.size, i * 11, none⟩) (n + 1 - i) (G - i), .slice (some ⟨vb, 0, none⟩) 1 vc]).run Try.prog W1 = .ok r2 (W1.setCells w.heap.size (i * 11) vs) :=
    ⟨_, fun ty => run_copyK W1 _ _ ty 39 11 w.heap.size (i * 11) (n + 1 - i) (G - i) ⟨vb, 0, none⟩ 1 vc vs Try.underlying23 hsz (by rw [hvl, show Nat.min 1 (n + 1 - i) = 1 by simp only [Nat.min_def]; split <;> omega])
      (fun j v hj => by rw [Addr.add_lit, Nat.zero_add]; exact hOv j v (hvs j v hj))
      (fun j hj => hN _ (by omega)) (fun j _ => hNf _) h1v⟩
  obtain ⟨W2, hW2⟩ : ∃ W2, W2 = W1.setCells w.heap.size (i * 11) vs := ⟨_, rfl⟩
  have hoth := setCells_others w.heap.size vs (i * 11) W1
  rw [← hW2] at hcp2 hoth
  have hdl : (cs.drop (i * 11)).length = (n - i) * 11 := by rw [List.length_drop, hcl, Nat.sub_mul]
  obtain ⟨r3, hcp3⟩ : ∃ r3, ∀ ty, (Builtin.copy_ #[23, 23] ty #[.slice (some ⟨w.heap.size, (i + 1) * 11, none⟩) (n + 1 - (i + 1)) (G - (i + 1)), .slice (some ⟨g, i * 11, none⟩) (n - i) (c - i)]).run Try.prog W2.drew = .ok r3 (W2.drew.setCells w.heap.size ((i + 1) * 11) (cs.drop (i * 11))) :=
    ⟨_, fun ty => run_copyK W2.drew _ _ ty 39 11 w.heap.size ((i + 1) * 11) (n + 1 - (i + 1)) (G - (i + 1)) ⟨g, i * 11, none⟩ (n - i) (c - i) (cs.drop (i * 11)) Try.underlying23 hsz (by rw [hdl]; congr 1; simp only [Nat.min_def]; split <;> omega)
      (fun j v hj => by
        rw [Addr.add_lit]
        exact (World.cell?_of_block (w := W1) (w' := W2) (a := ⟨g, i * 11 + j, none⟩) (hoth.block g (by omega))).trans (hOb _ v (hcs (i * 11 + j) v (by rwa [List.getElem?_drop] at hj))))
      (fun j hj => by
        rw [hdl] at hj
        show (W2.cell? _).isSome = true
        rw [hW2, World.cell?_setCells_out _ _ _ _ _ (fun _ _ => .inr (by rw [hvl]; show i * 11 + 11 ≤ (i + 1) * 11 + j; omega))]
        exact hN _ (by omega)) (fun j _ => by show W2.frozen? _ = false; rw [hW2, World.frozen?_setCells]; exact hNf _) (fun v hv => h1c v (List.mem_of_mem_drop hv))⟩
  have hfin : Hid (W2.drew.setCells w.heap.size ((i + 1) * 11) (cs.drop (i * 11)) = (((w.drew.alloc (.cells ROW 39)).setCells w.heap.size (i * 11) vs).drew).setCells w.heap.size ((i + 1) * 11) (cs.drop (i * 11))) := by
    unfold Hid; rw [hW2, hW1]
  obtain ⟨W3, hW3⟩ : ∃ W3, W3 = W2.drew.setCells w.heap.size ((i + 1) * 11) (cs.drop (i * 11)) := ⟨_, rfl⟩
  rw [← hW3] at hcp3 hfin
  have hall : Hid (n + 1 ≤ G ∧ G ≤ maxLen ∧ ROW.size = G * 11 ∧ (∀ j, j < i * 11 → ROW[j]? = cs[j]?)) := ⟨hGn, hG63, hRs, hRc⟩
  have hGi : ¬ (G = i) := by omega
  have hGim : ¬ (G = i + 1) := by omega
  have hG9 : G ≤ 9223372036854775807 := by unfold maxLen at hG63; omega
  have hb5 : i ≤ n + 1 := by omega
  have hb6 : (i : Int) ≤ (n : Int) + 1 := by omega
  clear hoth hW1 hW2 hW3 hN hNf hOb hOv hdl hRs hRc hcs hvs h1c h1v hsz hi0 hz0 hzs hzb
  go_enter Try.func59, Try.ntmps59
  go_wp2_with (first
    | (at_builtin; refine wpList_append_is rfl _ _ 23 3 rfl (.slice (some ⟨g, 0, none⟩) i c) (.int .i64 ((n : Int) + 1 - (i : Int))) (.slice (some ⟨w.heap.size, 0, none⟩) (n + 1) G) rfl rfl W1 hrz ?_)
    | (at_builtin; refine wpList_copy_is rfl _ _ 23 rfl (.slice (some ⟨w.heap.size, i * 11, none⟩) (n + 1 - i) (G - i)) (.slice (some ⟨vb, 0, none⟩) 1 vc) r2 rfl rfl W2 hcp2 ?_))
  go_region_law (refine step_copy_is (by rfl) (.tmp 50) (.tmp 53) 23 (by rfl) (.slice (some ⟨w.heap.size, (i + 1) * 11, none⟩) (n + 1 - (i + 1)) (G - (i + 1))) (.slice (some ⟨g, i * 11, none⟩) (n - i) (c - i)) r3 (by simp [Act.eval, Act.put]) (by simp [Act.eval, Act.put]) W3 hcp3 ?_)
  all_goals
    go_wp2
    go_ret
    exact ⟨G, ROW, hall.out.1, hall.out.2.1, hall.out.2.2.1, hall.out.2.2.2, rfl, hfin.out⟩


theorem own_of_cells {w : World} {base g cap n : Nat} {cur : Array Value} {ys : List Value} (hb : base ≤ g) (hg : w.heap[g]? = some (.cells cur 39 (0, 0))) (hs : cur.size = cap * 11) (hn : n ≤ cap) (hm : cap ≤ maxLen) (hl : ys.length = n * 11)
    (hc : ∀ j v, ys[j]? = some v → w.cell? ⟨g, j, none⟩ = some v) : w.ownsRow base 39 11 (.slice (some ⟨g, 0, none⟩) n cap) n ys := by
  refine ⟨hl, .inr ⟨g, cap, cur, rfl, hb, hg, hn, hm, hs, ?_⟩⟩
  apply List.ext_getElem?
  intro j
  rw [List.getElem?_take]
  split
  · next h =>
    have hj : j < ys.length := by omega
    have h1 := hc j _ (List.getElem?_eq_getElem hj)
    rw [List.getElem?_eq_getElem hj, ← h1]
    simp [World.cell?, hg]
  · next h =>
    rw [List.getElem?_eq_none (by omega)]

theorem setCells_heap (g : Nat) (e : TypeId) : ∀ (vs : List Value) (o : Nat) (w : World) (cur : Array Value), w.heap[g]? = some (.cells cur e (0, 0)) → ∃ cur', (w.setCells g o vs).heap[g]? = some (.cells cur' e (0, 0)) ∧ cur'.size = cur.size
  | [], o, w, cur, h => ⟨cur, h, rfl⟩
  | v :: vs, o, w, cur, h => by
    obtain ⟨cur', h1, h2⟩ := setCells_heap g e vs (o + 1) (w.setCell ⟨g, o, none⟩ v) (cur.setIfInBounds o v) (heap_setCell_same w g o cur e v h)
    exact ⟨cur', h1, by rw [h2]; simp⟩

theorem lay3 {W : World} {B i n : Nat} {cs vs : List Value} (hvl : vs.length = 11) (hcl : cs.length = n * 11) (hi : i ≤ n)
    (hA : ∀ j v, j < i * 11 → cs[j]? = some v → W.cell? ⟨B, j, none⟩ = some v) (hV : ∀ j v, vs[j]? = some v → W.cell? ⟨B, i * 11 + j, none⟩ = some v) (hC : ∀ j v, (cs.drop (i * 11))[j]? = some v → W.cell? ⟨B, (i + 1) * 11 + j, none⟩ = some v) :
    ∀ j v, (cs.take (i * 11) ++ (vs ++ cs.drop (i * 11)))[j]? = some v → W.cell? ⟨B, j, none⟩ = some v := by
  intro j v hj
  have hl : (cs.take (i * 11)).length = i * 11 := by rw [List.length_take, hcl]; omega
  by_cases h1 : j < i * 11
  · rw [List.getElem?_append_left (by omega), List.getElem?_take, if_pos h1] at hj
    exact hA j v h1 hj
  · rw [List.getElem?_append_right (by omega), hl] at hj
    by_cases h2 : j - i * 11 < 11
    · rw [List.getElem?_append_left (by omega)] at hj
      have := hV _ v hj
      rwa [show i * 11 + (j - i * 11) = j by omega] at this
    · rw [List.getElem?_append_right (by omega), hvl] at hj
      have := hC _ v hj
      rwa [show (i + 1) * 11 + (j - i * 11 - 11) = j by omega] at this


set_option maxRecDepth 100000 in
set_option maxHeartbeats 1600000 in
theorem insertW_end (base vb vc : Nat) (so : Option Addr) (sc n : Nat) (xs vs : List Value) (w : World) (hO : w.ownsRow base 39 11 (.slice so n sc) n xs) (hvl : vs.length = 11) (hvs : ∀ j v, vs[j]? = some v → w.cell? ⟨vb, j, none⟩ = some v) (h1v : ∀ v ∈ vs, v.oneCell' = true) (hn : n ≤ 1048576) (hb : base ≤ w.heap.size) :
    Calls Try.prog 59 #[.slice so n sc, .int .i64 (n : Nat), .slice (some ⟨vb, 0, none⟩) 1 vc] w
      fun e w' => ∃ v' , e = .returned v' ∧ w'.ownsRow base 39 11 v' (n + 1) (xs ++ vs) ∧ w.grownBy w' (Value.slice so n sc).ownBlock ∧ (v'.ownBlock = (Value.slice so n sc).ownBlock ∨ v'.ownBlock = some w.heap.size) := by
  obtain ⟨i0, hi, hz0, hz1, hz2⟩ := info_parts Try.infoWi
  obtain ⟨v', w', hrun, hown, hgr, _, hat⟩ := run_append_own_at (P := Try.prog) w base 23 23 39 i0 _ 11 128 Try.underlying23 hi hz0 hz1 hz2 rfl (by decide) (.slice so n sc) n xs hO ⟨vb, 0, none⟩ 1 vc vs (by rw [hvl]) (fun j u hu => by rw [Addr.add_lit, Nat.zero_add]; exact hvs j u hu) h1v (by unfold maxLen; omega) (by omega) hb
  have hcap : n ≤ sc := by
    rcases hO.2 with ⟨e, h0⟩ | ⟨g, cap, cur, e, _, _, h, _⟩
    · omega
    · injection e with _ _ e3
      omega
  rcases hO.2 with ⟨hv, h0⟩ | ⟨g, cap, cur, hv, hbg, hg, hnc, hcm, _⟩
  · injection hv with e1 e2 e3
    subst e1 e2 e3
    go_enter Try.func59, Try.ntmps59
    go_wp2_with (at_builtin; refine wpList_append_eqW rfl (.tmp 23) (.tmp 24) 23 23 rfl rfl _ _ v' rfl rfl w' hrun ?_)
    go_ret
    exact ⟨_, rfl, hown, hgr, hat⟩
  · injection hv with e1 e2 e3
    subst e1 e3
    have hcm' : sc ≤ 9223372036854775807 := by unfold maxLen at hcm; omega
    clear hg
    by_cases hc : sc = n
    · subst hc
      go_enter Try.func59, Try.ntmps59
      go_wp2_with (at_builtin; refine wpList_append_eqW rfl (.tmp 23) (.tmp 24) 23 23 rfl rfl _ _ v' rfl rfl w' hrun ?_)
      go_ret
      exact ⟨_, rfl, hown, hgr, hat⟩
    · go_enter Try.func59, Try.ntmps59
      go_wp2_with (at_builtin; refine wpList_append_eqW rfl (.tmp 23) (.tmp 24) 23 23 rfl rfl _ _ v' rfl rfl w' hrun ?_)
      go_ret
      exact ⟨_, rfl, hown, hgr, hat⟩

/-- What Insert of one window does. -/
def InsW (w : World) (base : Nat) (v : Value) (n : Nat) (xs vs : List Value) (i : Nat) (e : Ending) (w' : World) : Prop :=
  ∃ v', e = .returned v' ∧ w'.ownsRow base 39 11 v' (n + 1) (xs.take (i * 11) ++ (vs ++ xs.drop (i * 11))) ∧ w.grownBy w' v.ownBlock ∧ (v'.ownBlock = v.ownBlock ∨ v'.ownBlock = some w.heap.size)

set_option maxHeartbeats 1600000 in
theorem insertW_any (base vb vc : Nat) (so : Option Addr) (sc n : Nat) (xs vs : List Value) (i : Nat) (w : World) (hO : w.ownsRow base 39 11 (.slice so n sc) n xs) (hvb : w.heap[vb]? = some (.cells vs.toArray 39 (0, 0))) (hvl : vs.length = 11) (h1c : ∀ v ∈ xs, v.oneCell' = true) (h1v : ∀ v ∈ vs, v.oneCell' = true)
    (hne : ∀ c, (Value.slice so n sc).ownBlock = some c → vb ≠ c) (hi : i ≤ n) (hn : n ≤ 1048576) (hb : base ≤ w.heap.size) :
    Calls Try.prog 59 #[.slice so n sc, .int .i64 (i : Nat), .slice (some ⟨vb, 0, none⟩) 1 vc] w fun e w' => InsW w base (.slice so n sc) n xs vs i e w' := by
  have hvlt : vb < w.heap.size := (Array.getElem?_eq_some_iff.1 hvb).1
  have hvs : ∀ j v, vs[j]? = some v → w.cell? ⟨vb, j, none⟩ = some v := fun j v hj => by
    simp only [World.cell?, hvb]
    simpa using hj
  have hpl : (xs.take (i * 11) ++ (vs ++ xs.drop (i * 11))).length = (n + 1) * 11 := by
    have := hO.1
    simp only [List.length_append, List.length_take, List.length_drop]
    omega
  by_cases hend : i = n
  · subst hend
    refine (insertW_end base vb vc so sc i xs vs w hO hvl hvs h1v hn hb).mono ?_
    rintro e w' ⟨v', h1, h2, h3, h4⟩
    have hx := hO.1
    exact ⟨v', h1, by rw [← hx, List.take_length, List.drop_length, List.append_nil]; exact h2, h3, h4⟩
  · have hi2 : i < n := by omega
    have hown := hO
    have hcl : xs.length = n * 11 := hO.1
    rcases hO.2 with ⟨_, h0⟩ | ⟨g, cap, cur, hv, hbg, hg, hnc, hcm, hcs, htake⟩
    · omega
    · injection hv with e1 e2 e3
      subst e1 e3
      have hglt : g < w.heap.size := (Array.getElem?_eq_some_iff.1 hg).1
      have hvg : vb ≠ g := hne g rfl
      have hcc : ∀ j v, xs[j]? = some v → w.cell? ⟨g, j, none⟩ = some v := fun j v hj => by
        have hlt := (List.getElem?_eq_some_iff.1 hj).1
        rw [hcl] at hlt
        rw [hown.cellAt j hlt]; exact hj
      have hfz : ∀ j, w.frozen? ⟨g, j, none⟩ = false := fun j => hown.frozenAt j
      have hsm : ∀ j, j < cur.size → (w.cell? ⟨g, j, none⟩).isSome = true := fun j hj => by simp [World.cell?, hg, hj]
      have hdl : (xs.drop (i * 11)).length = (n - i) * 11 := by rw [List.length_drop, hcl, Nat.sub_mul]
      by_cases hroom : n + 1 ≤ sc
      · refine (insertW_shift vb vc g n sc i xs vs w hi2 hroom (by unfold maxLen at hcm; omega) hvg hcl hvl hcc (fun j hj => hsm j (by omega)) hfz hvs h1c h1v (fun o lb cb => overlapsW w vb g o lb cb vc hvg 39 39 11 cur.size (by simp [World.shape?, hvb, hvl]) (by simp [World.shape?, hg]) (by omega) (by simp [World.frozen?, hvb]) (by simp [World.frozen?, hvb]))).mono ?_
        rintro e w' ⟨rfl, rfl⟩
        obtain ⟨c1, k1, s1⟩ := setCells_heap g 39 (xs.drop (i * 11)) ((i + 1) * 11) w.drew cur hg
        obtain ⟨c2, k2, s2⟩ := setCells_heap g 39 vs (i * 11) _ c1 k1
        have o1 := setCells_others g (xs.drop (i * 11)) ((i + 1) * 11) w.drew
        have o2 := setCells_others g vs (i * 11) (w.drew.setCells g ((i + 1) * 11) (xs.drop (i * 11)))
        have hsm1 : ∀ j, j < cur.size → ((w.drew.setCells g ((i + 1) * 11) (xs.drop (i * 11))).cell? ⟨g, j, none⟩).isSome = true := fun j hj => by simp [World.cell?, k1, s1, hj]
        have hin := World.cell?_setCells_in g vs (i * 11) (w.drew.setCells g ((i + 1) * 11) (xs.drop (i * 11))) (fun j hj => hsm1 _ (by rw [hvl] at hj; omega))
        have hin1 := World.cell?_setCells_in g (xs.drop (i * 11)) ((i + 1) * 11) w.drew (fun j hj => hsm _ (by rw [hdl] at hj; omega))
        refine ⟨_, rfl, ?_, ⟨o2.os.trans o1.os, o2.tape.trans o1.tape, o2.output.trans o1.output, by rw [o2.size, o1.size]; exact Nat.le_refl _, fun k _ hk => (o2.block k (fun e => hk (by rw [e]; rfl))).trans (o1.block k (fun e => hk (by rw [e]; rfl)))⟩, .inl rfl⟩
        refine own_of_cells hbg k2 (by rw [s2, s1]; exact hcs) hroom hcm hpl ?_
        refine lay3 hvl hcl hi (fun j v hj hv => ?_) (fun j v hj => ?_) (fun j v hj => ?_)
        · rw [World.cell?_setCells_out g _ _ _ ⟨g, j, none⟩ (fun _ _ => .inl hj), World.cell?_setCells_out g _ _ _ ⟨g, j, none⟩ (fun _ _ => .inl (by show j < (i + 1) * 11; omega))]
          exact hcc j v hv
        · obtain ⟨h1, h2⟩ := List.getElem?_eq_some_iff.1 hj
          rw [hin j h1, h2]
        · obtain ⟨h1, h2⟩ := List.getElem?_eq_some_iff.1 hj
          rw [World.cell?_setCells_out g _ _ _ ⟨g, (i + 1) * 11 + j, none⟩ (fun _ _ => .inr (by rw [hvl]; show i * 11 + 11 ≤ (i + 1) * 11 + j; omega)), hin1 j h1, h2]
      · refine (insertW_grow vb vc g n sc i xs vs w hi2 hnc (by omega) hn hcl hvl hglt hvlt hcc hvs h1c h1v).mono ?_
        rintro e w' ⟨G, ROW, hG1, hG2, hR1, hR2, rfl, rfl⟩
        have k0 : (w.drew.alloc (.cells ROW 39)).heap[w.heap.size]? = some (.cells ROW 39 (0, 0)) := heap_alloc_new w.drew _
        obtain ⟨c1, k1, s1⟩ := setCells_heap w.heap.size 39 vs (i * 11) (w.drew.alloc (.cells ROW 39)) ROW k0
        obtain ⟨c2, k2, s2⟩ := setCells_heap w.heap.size 39 (xs.drop (i * 11)) ((i + 1) * 11) ((w.drew.alloc (.cells ROW 39)).setCells w.heap.size (i * 11) vs).drew c1 k1
        have o1 := setCells_others w.heap.size vs (i * 11) (w.drew.alloc (.cells ROW 39))
        have o2 := setCells_others w.heap.size (xs.drop (i * 11)) ((i + 1) * 11) ((w.drew.alloc (.cells ROW 39)).setCells w.heap.size (i * 11) vs).drew
        have hB : Below w.heap.size w (w.drew.alloc (.cells ROW 39)) := (Below.refl _ w).drew.alloc (Nat.le_refl _) _
        have hsm0 : ∀ j, j < ROW.size → ((w.drew.alloc (.cells ROW 39)).cell? ⟨w.heap.size, j, none⟩) = ROW[j]? := fun j hj => by simp only [World.cell?, k0]; rfl
        have hsm1 : ∀ j, j < ROW.size → (((w.drew.alloc (.cells ROW 39)).setCells w.heap.size (i * 11) vs).drew.cell? ⟨w.heap.size, j, none⟩).isSome = true := fun j hj => by
          show (((w.drew.alloc (.cells ROW 39)).setCells w.heap.size (i * 11) vs).cell? ⟨w.heap.size, j, none⟩).isSome = true
          simp [World.cell?, k1, s1, hj]
        have hin := World.cell?_setCells_in w.heap.size vs (i * 11) (w.drew.alloc (.cells ROW 39)) (fun j hj => by rw [hvl] at hj; rw [hsm0 _ (by omega), Array.getElem?_eq_getElem (by omega)]; rfl)
        have hin1 := World.cell?_setCells_in w.heap.size (xs.drop (i * 11)) ((i + 1) * 11) ((w.drew.alloc (.cells ROW 39)).setCells w.heap.size (i * 11) vs).drew (fun j hj => hsm1 _ (by rw [hdl] at hj; omega))
        refine ⟨_, rfl, ?_, ⟨o2.os.trans (o1.os.trans hB.os), o2.tape.trans (o1.tape.trans hB.tape), o2.output.trans (o1.output.trans hB.output), by rw [o2.size]; show _ ≤ ((w.drew.alloc (.cells ROW 39)).setCells w.heap.size (i * 11) vs).heap.size; rw [o1.size]; exact hB.size, fun k hk _ => (o2.block k (by omega)).trans ((o1.block k (by omega)).trans (hB.block k hk))⟩, .inr rfl⟩
        refine own_of_cells hb k2 (by rw [s2, s1]; exact hR1) hG1 hG2 hpl ?_
        refine lay3 hvl hcl hi (fun j v hj hv => ?_) (fun j v hj => ?_) (fun j v hj => ?_)
        · rw [World.cell?_setCells_out w.heap.size _ _ _ ⟨w.heap.size, j, none⟩ (fun _ _ => .inl (by show j < (i + 1) * 11; omega))]
          show ((w.drew.alloc (.cells ROW 39)).setCells w.heap.size (i * 11) vs).cell? ⟨w.heap.size, j, none⟩ = some v
          rw [World.cell?_setCells_out w.heap.size _ _ _ ⟨w.heap.size, j, none⟩ (fun _ _ => .inl hj), hsm0 j (by omega), hR2 j hj]
          exact hv
        · obtain ⟨h1, h2⟩ := List.getElem?_eq_some_iff.1 hj
          rw [World.cell?_setCells_out w.heap.size _ _ _ ⟨w.heap.size, i * 11 + j, none⟩ (fun _ _ => .inl (by rw [hvl] at h1; show i * 11 + j < (i + 1) * 11; omega))]
          show ((w.drew.alloc (.cells ROW 39)).setCells w.heap.size (i * 11) vs).cell? ⟨w.heap.size, i * 11 + j, none⟩ = some v
          rw [hin j h1, h2]
        · obtain ⟨h1, h2⟩ := List.getElem?_eq_some_iff.1 hj
          rw [hin1 j h1, h2]
end Go.Proofs.Ytpggmgmdcccmeaa
