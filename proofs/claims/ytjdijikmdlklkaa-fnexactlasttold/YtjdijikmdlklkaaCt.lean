/- copyTold: a told window copied. -/
import Derived.Test.YtjdijikmdlklkaaOt
import Derived.Test.YtjdijikmdlklkaaOp
namespace Go.Proofs.Ytjdijikmdlklkaa
open Go.RowKit
set_option linter.unusedSimpArgs false
set_option linter.unusedVariables false

/-- What a copied told window is. -/
def TCo (x : Wn) (w : World) (e : Ending) (w' : World) : Prop :=
  ∃ a0 c0 a1 c1, e = .returned (.agg #[.string x.m, .slice a0 x.tn c0, .int .i64 x.st, .int .i64 x.ver, .int .i64 x.c, .int .i64 x.s, .int .i64 x.lo, .int .i64 x.hi, .slice a1 x.n c1, .bool x.fu]) ∧ TV w' w.heap.size (.slice a0 x.tn c0) x ∧ HV w' w.heap.size (.slice a1 x.n c1) x ∧ (∀ k, (Value.slice a1 x.n c1).ownBlock = some k → (Value.slice a0 x.tn c0).ownBlock ≠ some k) ∧ Below w.heap.size w w'

/-- A key stored in a region that draws. -/
theorem step_storeK {w : World} {ops : Array Oper} {o : Oper} {a : Act} {K : Act → World → Prop} {Q : Exit → Act → World → Prop} {E : Prop} (hgd : o.guard = none) (k j : Nat)
    (ho : o.op = .store 42 (.tmp k) (.tmp j)) (b q : Nat) (x : Wn) (ao : Option Addr) (c : Nat) (u0 u1 u2 : Value) (hx : a.eval (.tmp k) = .pointer (some ⟨b, q, none⟩)) (hv : a.eval (.tmp j) = .agg #[.string x.m, .slice ao x.tn c, .int .i64 x.st]) (h0 : w.cell? ⟨b, q, none⟩ = some u0) (h1 : w.cell? ⟨b, q + 1, none⟩ = some u1) (h2 : w.cell? ⟨b, q + 2, none⟩ = some u2) (hf : ∀ i, w.frozen? ⟨b, i, none⟩ = false)
    (h : K (a.put o.dst undef) (((w.setCell ⟨b, q, none⟩ (.string x.m)).setCell ⟨b, q + 1, none⟩ (.slice ao x.tn c)).setCell ⟨b, q + 2, none⟩ (.int .i64 x.st))) :
    if Region.wanted o (yielded ops a.tmps) = true then Oper.wp Try.prog o a w K Q else E := by
  have hw : Region.wanted o (yielded ops a.tmps) = true := by simp [Region.wanted, hgd]
  rw [if_pos hw]
  have hx' : a.tmps.getD k undef = .pointer (some ⟨b, q, none⟩) := hx
  have hv' : a.tmps.getD j undef = .agg #[.string x.m, .slice ao x.tn c, .int .i64 x.st] := hv
  have f0 := hf q
  have f1 := hf (q + 1)
  have f2 := hf (q + 2)
  unfold Oper.wp execOp
  simp only [ho, Act.eval, hx', hv']
  go_simp
  exact h
/-- An agg stored in a region that draws. -/
theorem step_storeA {w : World} {ops : Array Oper} {o : Oper} {a : Act} {K : Act → World → Prop} {Q : Exit → Act → World → Prop} {E : Prop} (hgd : o.guard = none) (k j : Nat)
    (ho : o.op = .store 43 (.tmp k) (.tmp j)) (b q : Nat) (x : Wn) (ao : Option Addr) (c : Nat) (u0 u1 u2 u3 u4 u5 : Value) (hx : a.eval (.tmp k) = .pointer (some ⟨b, q, none⟩)) (hv : a.eval (.tmp j) = .agg #[.int .i64 x.c, .int .i64 x.s, .int .i64 x.lo, .int .i64 x.hi, .slice ao x.n c, .bool x.fu]) (h0 : w.cell? ⟨b, q, none⟩ = some u0) (h1 : w.cell? ⟨b, q + 1, none⟩ = some u1) (h2 : w.cell? ⟨b, q + 2, none⟩ = some u2) (h3 : w.cell? ⟨b, q + 3, none⟩ = some u3) (h4 : w.cell? ⟨b, q + 4, none⟩ = some u4) (h5 : w.cell? ⟨b, q + 5, none⟩ = some u5) (hf : ∀ i, w.frozen? ⟨b, i, none⟩ = false)
    (h : K (a.put o.dst undef) ((((((w.setCell ⟨b, q, none⟩ (.int .i64 x.c)).setCell ⟨b, q + 1, none⟩ (.int .i64 x.s)).setCell ⟨b, q + 2, none⟩ (.int .i64 x.lo)).setCell ⟨b, q + 3, none⟩ (.int .i64 x.hi)).setCell ⟨b, q + 4, none⟩ (.slice ao x.n c)).setCell ⟨b, q + 5, none⟩ (.bool x.fu))) :
    if Region.wanted o (yielded ops a.tmps) = true then Oper.wp Try.prog o a w K Q else E := by
  have hw : Region.wanted o (yielded ops a.tmps) = true := by simp [Region.wanted, hgd]
  rw [if_pos hw]
  have hx' : a.tmps.getD k undef = .pointer (some ⟨b, q, none⟩) := hx
  have hv' : a.tmps.getD j undef = .agg #[.int .i64 x.c, .int .i64 x.s, .int .i64 x.lo, .int .i64 x.hi, .slice ao x.n c, .bool x.fu] := hv
  have f0 := hf q
  have f1 := hf (q + 1)
  have f2 := hf (q + 2)
  have f3 := hf (q + 3)
  have f4 := hf (q + 4)
  have f5 := hf (q + 5)
  unfold Oper.wp execOp
  simp only [ho, Act.eval, hx', hv']
  go_simp
  exact h

theorem step_fT2 {w : World} {ops : Array Oper} {o : Oper} {a : Act} {K : Act → World → Prop} {Q : Exit → Act → World → Prop} {E : Prop} (hgd : o.guard = none) (k : Nat)
    (ho : o.op = .fieldAddr 45 (.tmp k) 2) (b q : Nat) (hx : a.eval (.tmp k) = .pointer (some ⟨b, q, none⟩)) (h : K (a.put o.dst (.pointer (some ⟨b, q + 4, none⟩))) w) :
    if Region.wanted o (yielded ops a.tmps) = true then Oper.wp Try.prog o a w K Q else E := by
  have hw : Region.wanted o (yielded ops a.tmps) = true := by simp [Region.wanted, hgd]
  rw [if_pos hw]
  have hx' : a.tmps.getD k undef = .pointer (some ⟨b, q, none⟩) := hx
  unfold Oper.wp execOp
  simp only [ho, Act.eval, hx']
  go_simp
  exact h

set_option maxRecDepth 100000 in
set_option maxHeartbeats 8000000 in
theorem copyTold_any (x : Wn) (a0 a1 : Option Addr) (c0 c1 : Nat) (w : World) (r0 : TRow w a0 x.tn x.nm x.vl) (r1 : IRow w a1 x.n x.f) (ht : x.tn ≤ 1048576) (hn : x.n ≤ 1048576) :
    Calls Try.prog 21 #[.agg #[.string x.m, .slice a0 x.tn c0, .int .i64 x.st, .int .i64 x.ver, .int .i64 x.c, .int .i64 x.s, .int .i64 x.lo, .int .i64 x.hi, .slice a1 x.n c1, .bool x.fu]] w fun e w' => TCo x w e w' := by
  obtain ⟨W1, hW1⟩ : ∃ W1, W1 = (w.alloc (.cells #[.string x.m, .slice a0 x.tn c0, .int .i64 x.st, .int .i64 x.ver, .int .i64 x.c, .int .i64 x.s, .int .i64 x.lo, .int .i64 x.hi, .slice a1 x.n c1, .bool x.fu] 45)).alloc (.cells #[.string ⟨#[]⟩, .slice none 0 0, .int .i64 0, .int .i64 0, .int .i64 0, .int .i64 0, .int .i64 0, .int .i64 0, .slice none 0 0, .bool false] 45) := ⟨_, rfl⟩
  have hB : Below w.heap.size w W1 := by rw [hW1]; exact (below_new w _).alloc (by simp) _
  have A : ToAt W1 w.heap.size 0 x a0 a1 c0 c1 := by rw [hW1]; exact (ToAt.new w x a0 a1 c0 c1 45).keep (below_new _ _)
  have fA : ∀ j, W1.frozen? ⟨w.heap.size, j, none⟩ = false := by rw [hW1]; intro j; simp [go_sem]
  have fR : ∀ j, W1.frozen? ⟨w.heap.size + 1, j, none⟩ = false := by rw [hW1]; intro j; simp [go_sem]
  have R : ∃ x' : Wn, ToAt W1 (w.heap.size + 1) 0 x' none none 0 0 := ⟨⟨⟨#[]⟩, 0, fun _ => ByteArray.empty, fun _ => ByteArray.empty, 0, 0, 0, 0, 0, 0, fun _ => 0, false, 0, false⟩, by rw [hW1]; refine ⟨by simp, ?_, ?_, ?_, ?_, ?_, ?_, ?_, ?_, ?_, ?_⟩ <;> simp [go_sem]⟩
  obtain ⟨x', R⟩ := R
  have szW : w.heap.size + 2 ≤ W1.heap.size := by rw [hW1]; simp
  have r0 := r0.keep hB
  have r1 := r1.keep hB
  have Ad := A.keep (Below.refl _ W1).drew
  have r0d := r0.keep (Below.refl _ W1).drew
  have r1d := r1.keep (Below.refl _ W1).drew
  have szd : W1.drew.heap.size = W1.heap.size := rfl
  obtain ⟨_, y0, y1, y2, y3, y4, y5, y6, y7, y8, y9⟩ := id Ad
  simp only [Nat.zero_add] at y1 y2 y3 y4 y5 y6 y7 y8 y9
  go_enter Try.func21, Try.ntmps21
  go_wp2
  rw [← hW1]
  refine wp_region_w (fun w' => w'.cell? ⟨w.heap.size, 0, none⟩ = some (.string x.m) ∧ w'.cell? ⟨w.heap.size, 1, none⟩ = some (.slice a0 x.tn c0) ∧ w'.cell? ⟨w.heap.size, 2, none⟩ = some (.int .i64 x.st) ∧ w'.cell? ⟨w.heap.size, 3, none⟩ = some (.int .i64 x.ver) ∧ w'.cell? ⟨w.heap.size, 4, none⟩ = some (.int .i64 x.c) ∧ w'.cell? ⟨w.heap.size, 5, none⟩ = some (.int .i64 x.s) ∧ w'.cell? ⟨w.heap.size, 6, none⟩ = some (.int .i64 x.lo) ∧ w'.cell? ⟨w.heap.size, 7, none⟩ = some (.int .i64 x.hi) ∧ w'.cell? ⟨w.heap.size, 8, none⟩ = some (.slice a1 x.n c1) ∧ w'.cell? ⟨w.heap.size, 9, none⟩ = some (.bool x.fu)) (fun j => j != 7 && j != 8 && j != 9) (by kernel_rfl) ?_
  change wpW _ _ _ _ _ _ 10 _ _ W1.drew
  have hS0 := (⟨y0, y1, y2, y3, y4, y5, y6, y7, y8, y9⟩ : (fun w' : World => w'.cell? ⟨w.heap.size, 0, none⟩ = some (.string x.m) ∧ w'.cell? ⟨w.heap.size, 1, none⟩ = some (.slice a0 x.tn c0) ∧ w'.cell? ⟨w.heap.size, 2, none⟩ = some (.int .i64 x.st) ∧ w'.cell? ⟨w.heap.size, 3, none⟩ = some (.int .i64 x.ver) ∧ w'.cell? ⟨w.heap.size, 4, none⟩ = some (.int .i64 x.c) ∧ w'.cell? ⟨w.heap.size, 5, none⟩ = some (.int .i64 x.s) ∧ w'.cell? ⟨w.heap.size, 6, none⟩ = some (.int .i64 x.lo) ∧ w'.cell? ⟨w.heap.size, 7, none⟩ = some (.int .i64 x.hi) ∧ w'.cell? ⟨w.heap.size, 8, none⟩ = some (.slice a1 x.n c1) ∧ w'.cell? ⟨w.heap.size, 9, none⟩ = some (.bool x.fu)) W1.drew)
  refine wpW_take 0 _ (.pointer (some ⟨w.heap.size, 0, none⟩)) rfl (by kernel_rfl) (by kernel_rfl) (by kernel_rfl) (fun _ _ _ h => h) (by kernel_rfl) (.inl ⟨rfl, fun w' hS' => by obtain ⟨s0, s1, s2, s3, s4, s5, s6, s7, s8, s9⟩ := hS'; go_simp⟩) hS0 ?_
  refine wpW_take 1 _ (.agg #[.string x.m, .slice a0 x.tn c0, .int .i64 x.st]) rfl (by kernel_rfl) (by kernel_rfl) (by kernel_rfl) (fun _ _ _ h => h) (by kernel_rfl) (.inl ⟨rfl, fun w' hS' => by obtain ⟨s0, s1, s2, s3, s4, s5, s6, s7, s8, s9⟩ := hS'; go_simp⟩) hS0 ?_
  refine wpW_take 3 _ (.pointer (some ⟨w.heap.size, 4, none⟩)) rfl (by kernel_rfl) (by kernel_rfl) (by kernel_rfl) (fun _ _ _ h => h) (by kernel_rfl) (.inl ⟨rfl, fun w' hS' => by obtain ⟨s0, s1, s2, s3, s4, s5, s6, s7, s8, s9⟩ := hS'; go_simp⟩) hS0 ?_
  refine wpW_take 4 _ (.agg #[.int .i64 x.c, .int .i64 x.s, .int .i64 x.lo, .int .i64 x.hi, .slice a1 x.n c1, .bool x.fu]) rfl (by kernel_rfl) (by kernel_rfl) (by kernel_rfl) (fun _ _ _ h => h) (by kernel_rfl) (.inl ⟨rfl, fun w' hS' => by obtain ⟨s0, s1, s2, s3, s4, s5, s6, s7, s8, s9⟩ := hS'; go_simp⟩) hS0 ?_
  simp only [Act.put, List.getElem_toArray, List.getElem_cons_succ, List.getElem_cons_zero, List.setIfInBounds_toArray, List.set_cons_zero, List.set_cons_succ]
  refine wpW_one 2 _ rfl (by kernel_rfl) (step_copyKey rfl 4 rfl x a0 c0 (by simp [Act.eval, Act.put]) r0d ht ?_)
  intro ha0 hc0 u1 T0 q1
  have A1s := Ad.keep q1
  have r1s := r1d.keep q1
  obtain ⟨_, y0, y1, y2, y3, y4, y5, y6, y7, y8, y9⟩ := id A1s
  simp only [Nat.zero_add] at y1 y2 y3 y4 y5 y6 y7 y8 y9
  have hS1 := (⟨y0, y1, y2, y3, y4, y5, y6, y7, y8, y9⟩ : (fun w' : World => w'.cell? ⟨w.heap.size, 0, none⟩ = some (.string x.m) ∧ w'.cell? ⟨w.heap.size, 1, none⟩ = some (.slice a0 x.tn c0) ∧ w'.cell? ⟨w.heap.size, 2, none⟩ = some (.int .i64 x.st) ∧ w'.cell? ⟨w.heap.size, 3, none⟩ = some (.int .i64 x.ver) ∧ w'.cell? ⟨w.heap.size, 4, none⟩ = some (.int .i64 x.c) ∧ w'.cell? ⟨w.heap.size, 5, none⟩ = some (.int .i64 x.s) ∧ w'.cell? ⟨w.heap.size, 6, none⟩ = some (.int .i64 x.lo) ∧ w'.cell? ⟨w.heap.size, 7, none⟩ = some (.int .i64 x.hi) ∧ w'.cell? ⟨w.heap.size, 8, none⟩ = some (.slice a1 x.n c1) ∧ w'.cell? ⟨w.heap.size, 9, none⟩ = some (.bool x.fu)) u1)
  refine ⟨fun _ => hS1, ?_⟩
  refine wpW_take 6 _ (.pointer (some ⟨w.heap.size, 0, none⟩)) rfl (by kernel_rfl) (by kernel_rfl) (by kernel_rfl) (fun _ _ _ h => h) (by kernel_rfl) (.inl ⟨rfl, fun w' hS' => by obtain ⟨s0, s1, s2, s3, s4, s5, s6, s7, s8, s9⟩ := hS'; go_simp⟩) hS1 ?_
  simp only [Act.put, List.getElem_toArray, List.getElem_cons_succ, List.getElem_cons_zero, List.setIfInBounds_toArray, List.set_cons_zero, List.set_cons_succ]
  refine wpW_one 5 _ rfl (by kernel_rfl) (step_copyAgg rfl 7 rfl x a1 c1 (by simp [Act.eval, Act.put]) r1s hn ?_)
  intro ha1 hc1 u2 T1 q2
  have A2s := A1s.keep q2
  obtain ⟨_, y0, y1, y2, y3, y4, y5, y6, y7, y8, y9⟩ := id A2s
  simp only [Nat.zero_add] at y1 y2 y3 y4 y5 y6 y7 y8 y9
  refine ⟨fun _ => ⟨y0, y1, y2, y3, y4, y5, y6, y7, y8, y9⟩, ?_⟩
  simp only [Act.put, List.getElem_toArray, List.getElem_cons_succ, List.getElem_cons_zero, List.setIfInBounds_toArray, List.set_cons_zero, List.set_cons_succ]
  have f2 : ∀ j, u2.frozen? ⟨w.heap.size, j, none⟩ = false := fun j => (q2.frozen (p := ⟨w.heap.size, j, none⟩) A1s.lt).trans ((q1.frozen (p := ⟨w.heap.size, j, none⟩) Ad.lt).trans (((Below.refl _ W1).drew.frozen (p := ⟨w.heap.size, j, none⟩) A.lt).trans (fA j)))
  refine wpW_one 7 _ rfl (by kernel_rfl) (step_storeK rfl 9 5 rfl w.heap.size 0 x ha0 hc0 _ _ _ rfl rfl y0 y1 y2 f2 ?_)
  refine ⟨fun h => absurd h (by decide), ?_⟩
  simp only [Act.put, List.getElem_toArray, List.getElem_cons_succ, List.getElem_cons_zero, List.setIfInBounds_toArray, List.set_cons_zero, List.set_cons_succ]
  refine wpW_one 8 _ rfl (by kernel_rfl) (step_fT2 rfl 1 rfl w.heap.size 0 rfl ?_)
  refine ⟨fun h => absurd h (by decide), ?_⟩
  simp only [Act.put, List.getElem_toArray, List.getElem_cons_succ, List.getElem_cons_zero, List.setIfInBounds_toArray, List.set_cons_zero, List.set_cons_succ]
  have s1 := q1.size
  have s2 := q2.size
  have f3 : ∀ j, (((u2.setCell ⟨w.heap.size, 0, none⟩ (.string x.m)).setCell ⟨w.heap.size, 0 + 1, none⟩ (.slice ha0 x.tn hc0)).setCell ⟨w.heap.size, 0 + 2, none⟩ (.int .i64 x.st)).frozen? ⟨w.heap.size, j, none⟩ = false := fun j => by simp only [World.frozen?_setCell]; exact f2 j
  have ne : ∀ i j, i ≠ j → (⟨w.heap.size, i, none⟩ : Addr) ≠ ⟨w.heap.size, j, none⟩ := fun i j hij hh => by injection hh with _ h2 _; exact hij h2
  have z3 : ∀ j, 3 ≤ j → (((u2.setCell ⟨w.heap.size, 0, none⟩ (.string x.m)).setCell ⟨w.heap.size, 0 + 1, none⟩ (.slice ha0 x.tn hc0)).setCell ⟨w.heap.size, 0 + 2, none⟩ (.int .i64 x.st)).cell? ⟨w.heap.size, j, none⟩ = u2.cell? ⟨w.heap.size, j, none⟩ := fun j hj => by
    rw [World.cell?_setCell_other _ _ _ _ (by intro hh; injection hh with _ h2 _; omega), World.cell?_setCell_other _ _ _ _ (by intro hh; injection hh with _ h2 _; omega), World.cell?_setCell_other _ _ _ _ (by intro hh; injection hh with _ h2 _; omega)]
  refine wpW_one 9 _ rfl (by kernel_rfl) (step_storeA rfl 10 8 rfl w.heap.size (0 + 4) x ha1 hc1 _ _ _ _ _ _ rfl rfl ((z3 _ (by omega)).trans y4) ((z3 _ (by omega)).trans y5) ((z3 _ (by omega)).trans y6) ((z3 _ (by omega)).trans y7) ((z3 _ (by omega)).trans y8) ((z3 _ (by omega)).trans y9) f3 ?_)
  refine ⟨fun h => absurd h (by decide), ?_⟩
  refine wpW_done (by kernel_rfl) ?_
  simp only [Act.put, List.getElem_toArray, List.getElem_cons_succ, List.getElem_cons_zero, List.setIfInBounds_toArray, List.set_cons_zero, List.set_cons_succ]
  have T0s := ownsRow_keep T0 q2
  have n0 : ∀ q, (Value.slice ha0 x.tn hc0).ownBlock = some q → W1.heap.size ≤ q ∧ q < u1.heap.size := fun q hq => T0.lt q hq
  have n1 : ∀ q, (Value.slice ha1 x.n hc1).ownBlock = some q → u1.heap.size ≤ q := fun q hq => (T1.lt q hq).1
  have bw2 : Below w.heap.size w u2 := ((hB.trans ((Below.refl _ W1).drew.mono hB.size)).trans (q1.mono (by omega))).trans (q2.mono (by omega))
  have R2 := ((R.keep (Below.refl _ W1).drew).keep q1).keep q2
  have g2 : ∀ j, u2.frozen? ⟨w.heap.size + 1, j, none⟩ = false := fun j => (q2.frozen (p := ⟨w.heap.size + 1, j, none⟩) (by show w.heap.size + 1 < u1.heap.size; omega)).trans ((q1.frozen (p := ⟨w.heap.size + 1, j, none⟩) (by show w.heap.size + 1 < W1.heap.size; omega)).trans (((Below.refl _ W1).drew.frozen (p := ⟨w.heap.size + 1, j, none⟩) (by show w.heap.size + 1 < W1.heap.size; omega)).trans (fR j)))
  obtain ⟨U, hU⟩ : ∃ U, U = (((((((((u2.setCell ⟨w.heap.size, 0, none⟩ (.string x.m)).setCell ⟨w.heap.size, 0 + 1, none⟩ (.slice ha0 x.tn hc0)).setCell ⟨w.heap.size, 0 + 2, none⟩ (.int .i64 x.st)).setCell ⟨w.heap.size, 0 + 4, none⟩ (.int .i64 x.c)).setCell ⟨w.heap.size, 0 + 4 + 1, none⟩ (.int .i64 x.s)).setCell ⟨w.heap.size, 0 + 4 + 2, none⟩ (.int .i64 x.lo)).setCell ⟨w.heap.size, 0 + 4 + 3, none⟩ (.int .i64 x.hi)).setCell ⟨w.heap.size, 0 + 4 + 4, none⟩ (.slice ha1 x.n hc1)).setCell ⟨w.heap.size, 0 + 4 + 5, none⟩ (.bool x.fu)) := ⟨_, rfl⟩
  rw [← hU]
  have sU : U.heap.size = u2.heap.size := by rw [hU]; simp
  have AU : ToAt U w.heap.size 0 x ha0 ha1 hc0 hc1 := by
    rw [hU]
    refine ⟨by simp; omega, ?_, ?_, ?_, ?_, ?_, ?_, ?_, ?_, ?_, ?_⟩ <;> simp [go_sem, y0, y1, y2, y3, y4, y5, y6, y7, y8, y9]
  have RU : ToAt U (w.heap.size + 1) 0 x' none none 0 0 := by
    refine R2.move (by omega) fun j => ?_
    rw [hU]
    repeat rw [World.cell?_setCell_other _ _ _ _ (by intro hh; injection hh with h1 _ _; omega)]
  have gU : ∀ j, U.frozen? ⟨w.heap.size + 1, j, none⟩ = false := fun j => by rw [hU]; simp only [World.frozen?_setCell]; exact g2 j
  have TU : U.ownsRow W1.heap.size 63 2 (.slice ha0 x.tn hc0) x.tn (tcells x.nm x.vl x.tn) := by
    rw [hU]
    repeat' refine ownsRow_others ?_ (Others.setCell _ _ _ _) (fun hk => by have := n0 _ hk; omega)
    exact T0s
  have IU : U.ownsRow W1.heap.size 3 1 (.slice ha1 x.n hc1) x.n (icells x.f x.n) := by
    rw [hU]
    repeat' refine ownsRow_others ?_ (Others.setCell _ _ _ _) (fun hk => by have := n1 _ hk; omega)
    exact ownsRow_mono T1 (by omega)
  have bU : Below w.heap.size w U := by
    rw [hU]
    repeat' refine Below.setCell ?_ (by first | (simp; done) | (simp; omega)) _
    exact bw2
  have HD : Hid (∀ k, (Value.slice ha1 x.n hc1).ownBlock = some k → (Value.slice ha0 x.tn hc0).ownBlock ≠ some k) := fun k h1 h2 => by have := n1 k h1; have := n0 k h2; omega
  clear hU f3 z3 f2 g2 T0 T0s T1 q1 q2 A A1s A2s Ad r0 r1 r0d r1d r1s R R2 y0 y1 y2 y3 y4 y5 y6 y7 y8 y9 n0 n1 hS0 hS1 bw2 fA fR
  obtain ⟨_, y0, y1, y2, y3, y4, y5, y6, y7, y8, y9⟩ := AU
  obtain ⟨_, d0, d1, d2, d3, d4, d5, d6, d7, d8, d9⟩ := RU
  simp only [Nat.zero_add] at y1 y2 y3 y4 y5 y6 y7 y8 y9 d1 d2 d3 d4 d5 d6 d7 d8 d9
  go_wp2
  refine bodyPost_ret (v := .agg #[.string x.m, .slice ha0 x.tn hc0, .int .i64 x.st, .int .i64 x.ver, .int .i64 x.c, .int .i64 x.s, .int .i64 x.lo, .int .i64 x.hi, .slice ha1 x.n hc1, .bool x.fu]) (by simp [results, Try.results21, go_sem, d0, d1, d2, d3, d4, d5, d6, d7, d8, d9]) rfl ⟨ha0, hc0, ha1, hc1, rfl, ?_, ?_, HD.out, ?_⟩
  · refine ownsRow_mono (base := W1.heap.size) ?_ (by omega)
    repeat' refine ownsRow_others ?_ (Others.setCell _ _ _ _) (fun hk => by have := (TU.lt _ hk).1; omega)
    exact TU
  · refine ownsRow_mono (base := W1.heap.size) ?_ (by omega)
    repeat' refine ownsRow_others ?_ (Others.setCell _ _ _ _) (fun hk => by have := (IU.lt _ hk).1; omega)
    exact IU
  · repeat' refine Below.setCell ?_ (by first | (simp; done) | (simp; omega)) _
    exact bU
end Go.Proofs.Ytjdijikmdlklkaa
