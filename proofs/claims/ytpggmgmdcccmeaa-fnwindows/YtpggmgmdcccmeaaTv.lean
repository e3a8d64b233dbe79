/- copyTold: a told window copied. / wornOut: whether a dirty window has the last version, in the program. / TellDirty, in numbers: versions risen, what is told; one told window put behind the others. -/
import Derived.Test.YtpggmgmdcccmeaaOt
import Derived.Test.YtpggmgmdcccmeaaOp
import Derived.Test.YtpggmgmdcccmeaaTe
import Derived.Laws.EntriesVeiled
import Derived.Test.YtpggmgmdcccmeaaTb
namespace Go.Proofs.Ytpggmgmdcccmeaa
open Go.RowKit
set_option linter.unusedSimpArgs false
set_option linter.unusedVariables false

/-- What a copied told window is. -/
def TCo (x : Wn) (w : World) (e : Ending) (w' : World) : Prop :=
  ∃ a0 c0 a1 c1, e = .returned (.agg #[.string x.m, .slice a0 x.tn c0, .int .i64 x.st, .int .i64 x.ver, .int .i64 x.c, .int .i64 x.s, .int .i64 x.lo, .int .i64 x.hi, .slice a1 x.n c1, .bool x.fu]) ∧ TV w' w.heap.size (.slice a0 x.tn c0) x ∧ HV w' w.heap.size (.slice a1 x.n c1) x ∧ (∀ k, (Value.slice a1 x.n c1).ownBlock = some k → (Value.slice a0 x.tn c0).ownBlock ≠ some k) ∧ Below w.heap.size w w'

/-- A key stored in a region that draws. -/
theorem step_storeK {w : World} {ops : Array Oper} {o : Oper} {a : Act} {K : Act → World → Prop} {Q : Exit → Act → World → Prop} {E : Prop} (hgd : o.guard = none) (k j : Nat)
    (ho : o.op = .store 32 (.tmp k) (.tmp j)) (b q : Nat) (x : Wn) (ao : Option Addr) (c : Nat) (u0 u1 u2 : Value) (hx : a.eval (.tmp k) = .pointer (some ⟨b, q, none⟩)) (hv : a.eval (.tmp j) = .agg #[.string x.m, .slice ao x.tn c, .int .i64 x.st]) (h0 : w.cell? ⟨b, q, none⟩ = some u0) (h1 : w.cell? ⟨b, q + 1, none⟩ = some u1) (h2 : w.cell? ⟨b, q + 2, none⟩ = some u2) (hf : ∀ i, w.frozen? ⟨b, i, none⟩ = false)
    (h : K (a.put o.dst undef) (((w.setCell ⟨b, q, none⟩ (.string x.m)).setCell ⟨b, q + 1, none⟩ (.slice ao x.tn c)).setCell ⟨b, q + 2, none⟩ (.int .i64 x.st))) :
    if Region.wanted o (yielded ops a.tmps) = true then Oper.wp Try.prog o a w K Q else E := by
  have hw : Region.wanted o (yielded ops a.tmps) = true := by simp [Region.wanted, hgd]
  rw [if_pos hw]
  have hx' : a.tmps.getD k undef = .pointer (some ⟨b, q, none⟩) := hx
  have hv' : a.tmps.getD j undef = .agg #[.string x.m, .slice ao x.tn c, .int .i64 x.st] := hv
  have f0 := hf q
  have f1 := hf (q + 1)
  have f2 := hf (q + 2)
  unfold Oper.wp execOp
  simp only [ho, Act.eval, hx', hv']
  go_simp
  exact h
/-- An agg stored in a region that draws. -/
theorem step_storeA {w : World} {ops : Array Oper} {o : Oper} {a : Act} {K : Act → World → Prop} {Q : Exit → Act → World → Prop} {E : Prop} (hgd : o.guard = none) (k j : Nat)
    (ho : o.op = .store 35 (.tmp k) (.tmp j)) (b q : Nat) (x : Wn) (ao : Option Addr) (c : Nat) (u0 u1 u2 u3 u4 u5 : Value) (hx : a.eval (.tmp k) = .pointer (some ⟨b, q, none⟩)) (hv : a.eval (.tmp j) = .agg #[.int .i64 x.c, .int .i64 x.s, .int .i64 x.lo, .int .i64 x.hi, .slice ao x.n c, .bool x.fu]) (h0 : w.cell? ⟨b, q, none⟩ = some u0) (h1 : w.cell? ⟨b, q + 1, none⟩ = some u1) (h2 : w.cell? ⟨b, q + 2, none⟩ = some u2) (h3 : w.cell? ⟨b, q + 3, none⟩ = some u3) (h4 : w.cell? ⟨b, q + 4, none⟩ = some u4) (h5 : w.cell? ⟨b, q + 5, none⟩ = some u5) (hf : ∀ i, w.frozen? ⟨b, i, none⟩ = false)
    (h : K (a.put o.dst undef) ((((((w.setCell ⟨b, q, none⟩ (.int .i64 x.c)).setCell ⟨b, q + 1, none⟩ (.int .i64 x.s)).setCell ⟨b, q + 2, none⟩ (.int .i64 x.lo)).setCell ⟨b, q + 3, none⟩ (.int .i64 x.hi)).setCell ⟨b, q + 4, none⟩ (.slice ao x.n c)).setCell ⟨b, q + 5, none⟩ (.bool x.fu))) :
    if Region.wanted o (yielded ops a.tmps) = true then Oper.wp Try.prog o a w K Q else E := by
  have hw : Region.wanted o (yielded ops a.tmps) = true := by simp [Region.wanted, hgd]
  rw [if_pos hw]
  have hx' : a.tmps.getD k undef = .pointer (some ⟨b, q, none⟩) := hx
  have hv' : a.tmps.getD j undef = .agg #[.int .i64 x.c, .int .i64 x.s, .int .i64 x.lo, .int .i64 x.hi, .slice ao x.n c, .bool x.fu] := hv
  have f0 := hf q
  have f1 := hf (q + 1)
  have f2 := hf (q + 2)
  have f3 := hf (q + 3)
  have f4 := hf (q + 4)
  have f5 := hf (q + 5)
  unfold Oper.wp execOp
  simp only [ho, Act.eval, hx', hv']
  go_simp
  exact h

theorem step_fT2 {w : World} {ops : Array Oper} {o : Oper} {a : Act} {K : Act → World → Prop} {Q : Exit → Act → World → Prop} {E : Prop} (hgd : o.guard = none) (k : Nat)
    (ho : o.op = .fieldAddr 37 (.tmp k) 2) (b q : Nat) (hx : a.eval (.tmp k) = .pointer (some ⟨b, q, none⟩)) (h : K (a.put o.dst (.pointer (some ⟨b, q + 4, none⟩))) w) :
    if Region.wanted o (yielded ops a.tmps) = true then Oper.wp Try.prog o a w K Q else E := by
  have hw : Region.wanted o (yielded ops a.tmps) = true := by simp [Region.wanted, hgd]
  rw [if_pos hw]
  have hx' : a.tmps.getD k undef = .pointer (some ⟨b, q, none⟩) := hx
  unfold Oper.wp execOp
  simp only [ho, Act.eval, hx']
  go_simp
  exact h

set_option maxRecDepth 100000 in
set_option maxHeartbeats 8000000 in
theorem copyTold_any (x : Wn) (a0 a1 : Option Addr) (c0 c1 : Nat) (w : World) (r0 : TRow w a0 x.tn x.nm x.vl) (r1 : IRow w a1 x.n x.f) (ht : x.tn ≤ 1048576) (hn : x.n ≤ 1048576) :
    Calls Try.prog 19 #[.agg #[.string x.m, .slice a0 x.tn c0, .int .i64 x.st, .int .i64 x.ver, .int .i64 x.c, .int .i64 x.s, .int .i64 x.lo, .int .i64 x.hi, .slice a1 x.n c1, .bool x.fu]] w fun e w' => TCo x w e w' := by
  obtain ⟨W1, hW1⟩ : ∃ W1, W1 = (w.alloc (.cells #[.string x.m, .slice a0 x.tn c0, .int .i64 x.st, .int .i64 x.ver, .int .i64 x.c, .int .i64 x.s, .int .i64 x.lo, .int .i64 x.hi, .slice a1 x.n c1, .bool x.fu] 37)).alloc (.cells #[.string ⟨#[]⟩, .slice none 0 0, .int .i64 0, .int .i64 0, .int .i64 0, .int .i64 0, .int .i64 0, .int .i64 0, .slice none 0 0, .bool false] 37) := ⟨_, rfl⟩
  have hB : Below w.heap.size w W1 := by rw [hW1]; exact (below_new w _).alloc (by simp) _
  have A : ToAt W1 w.heap.size 0 x a0 a1 c0 c1 := by rw [hW1]; exact (ToAt.new w x a0 a1 c0 c1 37).keep (below_new _ _)
  have fA : ∀ j, W1.frozen? ⟨w.heap.size, j, none⟩ = false := by rw [hW1]; intro j; simp [go_sem]
  have fR : ∀ j, W1.frozen? ⟨w.heap.size + 1, j, none⟩ = false := by rw [hW1]; intro j; simp [go_sem]
  have R : ∃ x' : Wn, ToAt W1 (w.heap.size + 1) 0 x' none none 0 0 := ⟨⟨⟨#[]⟩, 0, fun _ => ByteArray.empty, fun _ => ByteArray.empty, 0, 0, 0, 0, 0, 0, fun _ => 0, false, 0, false⟩, by rw [hW1]; refine ⟨by simp, ?_, ?_, ?_, ?_, ?_, ?_, ?_, ?_, ?_, ?_⟩ <;> simp [go_sem]⟩
  obtain ⟨x', R⟩ := R
  have szW : w.heap.size + 2 ≤ W1.heap.size := by rw [hW1]; simp
  have r0 := r0.keep hB
  have r1 := r1.keep hB
  have Ad := A.keep (Below.refl _ W1).drew
  have r0d := r0.keep (Below.refl _ W1).drew
  have r1d := r1.keep (Below.refl _ W1).drew
  have szd : W1.drew.heap.size = W1.heap.size := rfl
  obtain ⟨_, y0, y1, y2, y3, y4, y5, y6, y7, y8, y9⟩ := id Ad
  simp only [Nat.zero_add] at y1 y2 y3 y4 y5 y6 y7 y8 y9
  go_enter Try.func19, Try.ntmps19
  go_wp2
  rw [← hW1]
  refine wp_region_w (fun w' => w'.cell? ⟨w.heap.size, 0, none⟩ = some (.string x.m) ∧ w'.cell? ⟨w.heap.size, 1, none⟩ = some (.slice a0 x.tn c0) ∧ w'.cell? ⟨w.heap.size, 2, none⟩ = some (.int .i64 x.st) ∧ w'.cell? ⟨w.heap.size, 3, none⟩ = some (.int .i64 x.ver) ∧ w'.cell? ⟨w.heap.size, 4, none⟩ = some (.int .i64 x.c) ∧ w'.cell? ⟨w.heap.size, 5, none⟩ = some (.int .i64 x.s) ∧ w'.cell? ⟨w.heap.size, 6, none⟩ = some (.int .i64 x.lo) ∧ w'.cell? ⟨w.heap.size, 7, none⟩ = some (.int .i64 x.hi) ∧ w'.cell? ⟨w.heap.size, 8, none⟩ = some (.slice a1 x.n c1) ∧ w'.cell? ⟨w.heap.size, 9, none⟩ = some (.bool x.fu)) (fun j => j != 7 && j != 8 && j != 9) (by kernel_rfl) ?_
  change wpW _ _ _ _ _ _ 10 _ _ W1.drew
  have hS0 := (⟨y0, y1, y2, y3, y4, y5, y6, y7, y8, y9⟩ : (fun w' : World => w'.cell? ⟨w.heap.size, 0, none⟩ = some (.string x.m) ∧ w'.cell? ⟨w.heap.size, 1, none⟩ = some (.slice a0 x.tn c0) ∧ w'.cell? ⟨w.heap.size, 2, none⟩ = some (.int .i64 x.st) ∧ w'.cell? ⟨w.heap.size, 3, none⟩ = some (.int .i64 x.ver) ∧ w'.cell? ⟨w.heap.size, 4, none⟩ = some (.int .i64 x.c) ∧ w'.cell? ⟨w.heap.size, 5, none⟩ = some (.int .i64 x.s) ∧ w'.cell? ⟨w.heap.size, 6, none⟩ = some (.int .i64 x.lo) ∧ w'.cell? ⟨w.heap.size, 7, none⟩ = some (.int .i64 x.hi) ∧ w'.cell? ⟨w.heap.size, 8, none⟩ = some (.slice a1 x.n c1) ∧ w'.cell? ⟨w.heap.size, 9, none⟩ = some (.bool x.fu)) W1.drew)
  refine wpW_take 0 _ (.pointer (some ⟨w.heap.size, 0, none⟩)) rfl (by kernel_rfl) (by kernel_rfl) (by kernel_rfl) (fun _ _ _ h => h) (by kernel_rfl) (.inl ⟨rfl, fun w' hS' => by obtain ⟨s0, s1, s2, s3, s4, s5, s6, s7, s8, s9⟩ := hS'; go_simp⟩) hS0 ?_
  refine wpW_take 1 _ (.agg #[.string x.m, .slice a0 x.tn c0, .int .i64 x.st]) rfl (by kernel_rfl) (by kernel_rfl) (by kernel_rfl) (fun _ _ _ h => h) (by kernel_rfl) (.inl ⟨rfl, fun w' hS' => by obtain ⟨s0, s1, s2, s3, s4, s5, s6, s7, s8, s9⟩ := hS'; go_simp⟩) hS0 ?_
  refine wpW_take 3 _ (.pointer (some ⟨w.heap.size, 4, none⟩)) rfl (by kernel_rfl) (by kernel_rfl) (by kernel_rfl) (fun _ _ _ h => h) (by kernel_rfl) (.inl ⟨rfl, fun w' hS' => by obtain ⟨s0, s1, s2, s3, s4, s5, s6, s7, s8, s9⟩ := hS'; go_simp⟩) hS0 ?_
  refine wpW_take 4 _ (.agg #[.int .i64 x.c, .int .i64 x.s, .int .i64 x.lo, .int .i64 x.hi, .slice a1 x.n c1, .bool x.fu]) rfl (by kernel_rfl) (by kernel_rfl) (by kernel_rfl) (fun _ _ _ h => h) (by kernel_rfl) (.inl ⟨rfl, fun w' hS' => by obtain ⟨s0, s1, s2, s3, s4, s5, s6, s7, s8, s9⟩ := hS'; go_simp⟩) hS0 ?_
  simp only [Act.put, List.getElem_toArray, List.getElem_cons_succ, List.getElem_cons_zero, List.setIfInBounds_toArray, List.set_cons_zero, List.set_cons_succ]
  refine wpW_one 2 _ rfl (by kernel_rfl) (step_copyKey rfl 4 rfl x a0 c0 (by simp [Act.eval, Act.put]) r0d ht ?_)
  intro ha0 hc0 u1 T0 q1
  have A1s := Ad.keep q1
  have r1s := r1d.keep q1
  obtain ⟨_, y0, y1, y2, y3, y4, y5, y6, y7, y8, y9⟩ := id A1s
  simp only [Nat.zero_add] at y1 y2 y3 y4 y5 y6 y7 y8 y9
  have hS1 := (⟨y0, y1, y2, y3, y4, y5, y6, y7, y8, y9⟩ : (fun w' : World => w'.cell? ⟨w.heap.size, 0, none⟩ = some (.string x.m) ∧ w'.cell? ⟨w.heap.size, 1, none⟩ = some (.slice a0 x.tn c0) ∧ w'.cell? ⟨w.heap.size, 2, none⟩ = some (.int .i64 x.st) ∧ w'.cell? ⟨w.heap.size, 3, none⟩ = some (.int .i64 x.ver) ∧ w'.cell? ⟨w.heap.size, 4, none⟩ = some (.int .i64 x.c) ∧ w'.cell? ⟨w.heap.size, 5, none⟩ = some (.int .i64 x.s) ∧ w'.cell? ⟨w.heap.size, 6, none⟩ = some (.int .i64 x.lo) ∧ w'.cell? ⟨w.heap.size, 7, none⟩ = some (.int .i64 x.hi) ∧ w'.cell? ⟨w.heap.size, 8, none⟩ = some (.slice a1 x.n c1) ∧ w'.cell? ⟨w.heap.size, 9, none⟩ = some (.bool x.fu)) u1)
  refine ⟨fun _ => hS1, ?_⟩
  refine wpW_take 6 _ (.pointer (some ⟨w.heap.size, 0, none⟩)) rfl (by kernel_rfl) (by kernel_rfl) (by kernel_rfl) (fun _ _ _ h => h) (by kernel_rfl) (.inl ⟨rfl, fun w' hS' => by obtain ⟨s0, s1, s2, s3, s4, s5, s6, s7, s8, s9⟩ := hS'; go_simp⟩) hS1 ?_
  simp only [Act.put, List.getElem_toArray, List.getElem_cons_succ, List.getElem_cons_zero, List.setIfInBounds_toArray, List.set_cons_zero, List.set_cons_succ]
  refine wpW_one 5 _ rfl (by kernel_rfl) (step_copyAgg rfl 7 rfl x a1 c1 (by simp [Act.eval, Act.put]) r1s hn ?_)
  intro ha1 hc1 u2 T1 q2
  have A2s := A1s.keep q2
  obtain ⟨_, y0, y1, y2, y3, y4, y5, y6, y7, y8, y9⟩ := id A2s
  simp only [Nat.zero_add] at y1 y2 y3 y4 y5 y6 y7 y8 y9
  refine ⟨fun _ => ⟨y0, y1, y2, y3, y4, y5, y6, y7, y8, y9⟩, ?_⟩
  simp only [Act.put, List.getElem_toArray, List.getElem_cons_succ, List.getElem_cons_zero, List.setIfInBounds_toArray, List.set_cons_zero, List.set_cons_succ]
  have f2 : ∀ j, u2.frozen? ⟨w.heap.size, j, none⟩ = false := fun j => (q2.frozen (p := ⟨w.heap.size, j, none⟩) A1s.lt).trans ((q1.frozen (p := ⟨w.heap.size, j, none⟩) Ad.lt).trans (((Below.refl _ W1).drew.frozen (p := ⟨w.heap.size, j, none⟩) A.lt).trans (fA j)))
  refine wpW_one 7 _ rfl (by kernel_rfl) (step_storeK rfl 9 5 rfl w.heap.size 0 x ha0 hc0 _ _ _ rfl rfl y0 y1 y2 f2 ?_)
  refine ⟨fun h => absurd h (by decide), ?_⟩
  simp only [Act.put, List.getElem_toArray, List.getElem_cons_succ, List.getElem_cons_zero, List.setIfInBounds_toArray, List.set_cons_zero, List.set_cons_succ]
  refine wpW_one 8 _ rfl (by kernel_rfl) (step_fT2 rfl 1 rfl w.heap.size 0 rfl ?_)
  refine ⟨fun h => absurd h (by decide), ?_⟩
  simp only [Act.put, List.getElem_toArray, List.getElem_cons_succ, List.getElem_cons_zero, List.setIfInBounds_toArray, List.set_cons_zero, List.set_cons_succ]
  have s1 := q1.size
  have s2 := q2.size
  have f3 : ∀ j, (((u2.setCell ⟨w.heap.size, 0, none⟩ (.string x.m)).setCell ⟨w.heap.size, 0 + 1, none⟩ (.slice ha0 x.tn hc0)).setCell ⟨w.heap.size, 0 + 2, none⟩ (.int .i64 x.st)).frozen? ⟨w.heap.size, j, none⟩ = false := fun j => by simp only [World.frozen?_setCell]; exact f2 j
  have ne : ∀ i j, i ≠ j → (⟨w.heap.size, i, none⟩ : Addr) ≠ ⟨w.heap.size, j, none⟩ := fun i j hij hh => by injection hh with _ h2 _; exact hij h2
  have z3 : ∀ j, 3 ≤ j → (((u2.setCell ⟨w.heap.size, 0, none⟩ (.string x.m)).setCell ⟨w.heap.size, 0 + 1, none⟩ (.slice ha0 x.tn hc0)).setCell ⟨w.heap.size, 0 + 2, none⟩ (.int .i64 x.st)).cell? ⟨w.heap.size, j, none⟩ = u2.cell? ⟨w.heap.size, j, none⟩ := fun j hj => by
    rw [World.cell?_setCell_other _ _ _ _ (by intro hh; injection hh with _ h2 _; omega), World.cell?_setCell_other _ _ _ _ (by intro hh; injection hh with _ h2 _; omega), World.cell?_setCell_other _ _ _ _ (by intro hh; injection hh with _ h2 _; omega)]
  refine wpW_one 9 _ rfl (by kernel_rfl) (step_storeA rfl 10 8 rfl w.heap.size (0 + 4) x ha1 hc1 _ _ _ _ _ _ rfl rfl ((z3 _ (by omega)).trans y4) ((z3 _ (by omega)).trans y5) ((z3 _ (by omega)).trans y6) ((z3 _ (by omega)).trans y7) ((z3 _ (by omega)).trans y8) ((z3 _ (by omega)).trans y9) f3 ?_)
  refine ⟨fun h => absurd h (by decide), ?_⟩
  refine wpW_done (by kernel_rfl) ?_
  simp only [Act.put, List.getElem_toArray, List.getElem_cons_succ, List.getElem_cons_zero, List.setIfInBounds_toArray, List.set_cons_zero, List.set_cons_succ]
  have T0s := ownsRow_keep T0 q2
  have n0 : ∀ q, (Value.slice ha0 x.tn hc0).ownBlock = some q → W1.heap.size ≤ q ∧ q < u1.heap.size := fun q hq => T0.lt q hq
  have n1 : ∀ q, (Value.slice ha1 x.n hc1).ownBlock = some q → u1.heap.size ≤ q := fun q hq => (T1.lt q hq).1
  have bw2 : Below w.heap.size w u2 := ((hB.trans ((Below.refl _ W1).drew.mono hB.size)).trans (q1.mono (by omega))).trans (q2.mono (by omega))
  have R2 := ((R.keep (Below.refl _ W1).drew).keep q1).keep q2
  have g2 : ∀ j, u2.frozen? ⟨w.heap.size + 1, j, none⟩ = false := fun j => (q2.frozen (p := ⟨w.heap.size + 1, j, none⟩) (by show w.heap.size + 1 < u1.heap.size; omega)).trans ((q1.frozen (p := ⟨w.heap.size + 1, j, none⟩) (by show w.heap.size + 1 < W1.heap.size; omega)).trans (((Below.refl _ W1).drew.frozen (p := ⟨w.heap.size + 1, j, none⟩) (by show w.heap.size + 1 < W1.heap.size; omega)).trans (fR j)))
  obtain ⟨U, hU⟩ : ∃ U, U = (((((((((u2.setCell ⟨w.heap.size, 0, none⟩ (.string x.m)).setCell ⟨w.heap.size, 0 + 1, none⟩ (.slice ha0 x.tn hc0)).setCell ⟨w.heap.size, 0 + 2, none⟩ (.int .i64 x.st)).setCell ⟨w.heap.size, 0 + 4, none⟩ (.int .i64 x.c)).setCell ⟨w.heap.size, 0 + 4 + 1, none⟩ (.int .i64 x.s)).setCell ⟨w.heap.size, 0 + 4 + 2, none⟩ (.int .i64 x.lo)).setCell ⟨w.heap.size, 0 + 4 + 3, none⟩ (.int .i64 x.hi)).setCell ⟨w.heap.size, 0 + 4 + 4, none⟩ (.slice ha1 x.n hc1)).setCell ⟨w.heap.size, 0 + 4 + 5, none⟩ (.bool x.fu)) := ⟨_, rfl⟩
  rw [← hU]
  have sU : U.heap.size = u2.heap.size := by rw [hU]; simp
  have AU : ToAt U w.heap.size 0 x ha0 ha1 hc0 hc1 := by
    rw [hU]
    refine ⟨by simp; omega, ?_, ?_, ?_, ?_, ?_, ?_, ?_, ?_, ?_, ?_⟩ <;> simp [go_sem, y0, y1, y2, y3, y4, y5, y6, y7, y8, y9]
  have RU : ToAt U (w.heap.size + 1) 0 x' none none 0 0 := by
    refine R2.move (by omega) fun j => ?_
    rw [hU]
    repeat rw [World.cell?_setCell_other _ _ _ _ (by intro hh; injection hh with h1 _ _; omega)]
  have gU : ∀ j, U.frozen? ⟨w.heap.size + 1, j, none⟩ = false := fun j => by rw [hU]; simp only [World.frozen?_setCell]; exact g2 j
  have TU : U.ownsRow W1.heap.size 92 2 (.slice ha0 x.tn hc0) x.tn (tcells x.nm x.vl x.tn) := by
    rw [hU]
    repeat' refine ownsRow_others ?_ (Others.setCell _ _ _ _) (fun hk => by have := n0 _ hk; omega)
    exact T0s
  have IU : U.ownsRow W1.heap.size 3 1 (.slice ha1 x.n hc1) x.n (icells x.f x.n) := by
    rw [hU]
    repeat' refine ownsRow_others ?_ (Others.setCell _ _ _ _) (fun hk => by have := n1 _ hk; omega)
    exact ownsRow_mono T1 (by omega)
  have bU : Below w.heap.size w U := by
    rw [hU]
    repeat' refine Below.setCell ?_ (by first | (simp; done) | (simp; omega)) _
    exact bw2
  have HD : Hid (∀ k, (Value.slice ha1 x.n hc1).ownBlock = some k → (Value.slice ha0 x.tn hc0).ownBlock ≠ some k) := fun k h1 h2 => by have := n1 k h1; have := n0 k h2; omega
  clear hU f3 z3 f2 g2 T0 T0s T1 q1 q2 A A1s A2s Ad r0 r1 r0d r1d r1s R R2 y0 y1 y2 y3 y4 y5 y6 y7 y8 y9 n0 n1 hS0 hS1 bw2 fA fR
  obtain ⟨_, y0, y1, y2, y3, y4, y5, y6, y7, y8, y9⟩ := AU
  obtain ⟨_, d0, d1, d2, d3, d4, d5, d6, d7, d8, d9⟩ := RU
  simp only [Nat.zero_add] at y1 y2 y3 y4 y5 y6 y7 y8 y9 d1 d2 d3 d4 d5 d6 d7 d8 d9
  go_wp2
  refine bodyPost_ret (v := .agg #[.string x.m, .slice ha0 x.tn hc0, .int .i64 x.st, .int .i64 x.ver, .int .i64 x.c, .int .i64 x.s, .int .i64 x.lo, .int .i64 x.hi, .slice ha1 x.n hc1, .bool x.fu]) (by simp [results, Try.results19, go_sem, d0, d1, d2, d3, d4, d5, d6, d7, d8, d9]) rfl ⟨ha0, hc0, ha1, hc1, rfl, ?_, ?_, HD.out, ?_⟩
  · refine ownsRow_mono (base := W1.heap.size) ?_ (by omega)
    repeat' refine ownsRow_others ?_ (Others.setCell _ _ _ _) (fun hk => by have := (TU.lt _ hk).1; omega)
    exact TU
  · refine ownsRow_mono (base := W1.heap.size) ?_ (by omega)
    repeat' refine ownsRow_others ?_ (Others.setCell _ _ _ _) (fun hk => by have := (IU.lt _ hk).1; omega)
    exact IU
  · repeat' refine Below.setCell ?_ (by first | (simp; done) | (simp; omega)) _
    exact bU
end Go.Proofs.Ytpggmgmdcccmeaa
namespace Go.Proofs.Ytpggmgmdcccmeaa
open Go.RowKit
set_option linter.unusedSimpArgs false
set_option linter.unusedVariables false

/-- Of the first n windows one that is told in S has the last version. -/
def Worn (Y : Nat → Wn) (n : Nat) (S : ByteArray → Prop) : Prop := ∃ i, i < n ∧ (Y i).ver = 1000000 ∧ S (kS (Y i))

set_option maxRecDepth 100000 in
set_option maxHeartbeats 3200000 in
theorem wornOut1_any (x : Wn) (a0 a1 : Option Addr) (c0 c1 B p r : Nat) (S : ByteArray → Prop) (w : World) (r0 : TRow w a0 x.tn x.nm x.vl) (hG : Hid (gK x = true)) (hS : KSet w r S)
    (hq : w.cell? ⟨B, 0, none⟩ = some (.pointer (some ⟨p, 0, none⟩))) (hB : B < w.heap.size) (h4 : w.cell? ⟨p, 4, none⟩ = some (.map (some r))) (hp : p < w.heap.size) :
    Calls Try.prog 46 #[.agg #[.string x.m, .slice a0 x.tn c0, .int .i64 x.st, .int .i64 x.c, .int .i64 x.s, .int .i64 x.lo, .int .i64 x.hi, .slice a1 x.n c1, .bool x.fu, .int .i64 x.ver, .bool x.di], .pointer (some ⟨B, 0, none⟩)] w fun e w' => Ans (x.ver = 1000000 ∧ S (kS x)) w e w' := by
  have hb := below_new w (.cells #[.string x.m, .slice a0 x.tn c0, .int .i64 x.st, .int .i64 x.c, .int .i64 x.s, .int .i64 x.lo, .int .i64 x.hi, .slice a1 x.n c1, .bool x.fu, .int .i64 x.ver, .bool x.di] 39)
  have q1 : (w.alloc (.cells #[.string x.m, .slice a0 x.tn c0, .int .i64 x.st, .int .i64 x.c, .int .i64 x.s, .int .i64 x.lo, .int .i64 x.hi, .slice a1 x.n c1, .bool x.fu, .int .i64 x.ver, .bool x.di] 39)).cell? ⟨B, 0, none⟩ = some (.pointer (some ⟨p, 0, none⟩)) := (hb.cell (p := ⟨B, 0, none⟩) hB).trans hq
  have q4 : (w.alloc (.cells #[.string x.m, .slice a0 x.tn c0, .int .i64 x.st, .int .i64 x.c, .int .i64 x.s, .int .i64 x.lo, .int .i64 x.hi, .slice a1 x.n c1, .bool x.fu, .int .i64 x.ver, .bool x.di] 39)).cell? ⟨p, 4, none⟩ = some (.map (some r)) := (hb.cell (p := ⟨p, 4, none⟩) hp).trans h4
  have r0 := r0.keep hb
  have hS := hS.keep hb
  obtain ⟨_, d0, d1, d2, d3, d4, d5, d6, d7, d8, d9, d10⟩ := WiAt.new w x a0 a1 c0 c1 39
  simp only [Nat.zero_add] at d1 d2 d3 d4 d5 d6 d7 d8 d9 d10
  by_cases hv : x.ver = 1000000
  rotate_left
  · have e1 : (x.ver == 1000000) = false := beq_eq_false_iff_ne.2 hv
    have H : Hid (¬ (x.ver = 1000000 ∧ S (kS x))) := fun hh => hv hh.1
    clear hv
    go_enter Try.func46, Try.ntmps46
    go_wp2
    go_region
    all_goals go_wp2
    all_goals go_ret
    all_goals exact Ans.mk false (by have := H.out; simp [this]) (by first | exact hb | exact hb.drew)
  have Hv : Hid (x.ver = 1000000) := hv
  have e1 : (x.ver == 1000000) = true := beq_iff_eq.2 hv
  clear hv
  have r0d := r0.keep (Below.refl _ _).drew
  have Sd := hS.keep (Below.refl _ _).drew
  go_enter Try.func46, Try.ntmps46
  go_wp2
  go_region_held3 (fun w' => w'.cell? ⟨B, 0, none⟩ = some (.pointer (some ⟨p, 0, none⟩)) ∧ w'.cell? ⟨p, 4, none⟩ = some (.map (some r)) ∧ w'.cell? ⟨w.heap.size, 9, none⟩ = some (.int .i64 x.ver) ∧ w'.cell? ⟨w.heap.size, 0, none⟩ = some (.string x.m) ∧ w'.cell? ⟨w.heap.size, 1, none⟩ = some (.slice a0 x.tn c0) ∧ w'.cell? ⟨w.heap.size, 2, none⟩ = some (.int .i64 x.st)) (first | exact hSS | go_keep) (first | (go_at_call 18; refine (has_any x r S a0 c0 _ r0d hG Sd).mono ?_; rintro e u ⟨bb, rfl, hbb, q⟩; have Hbb : Hid (bb = true ↔ S (kS x)) := hbb; have q' := (Below.refl _ _).drew.trans q; have hSS : (u.cell? ⟨B, 0, none⟩ = some (.pointer (some ⟨p, 0, none⟩)) ∧ u.cell? ⟨p, 4, none⟩ = some (.map (some r)) ∧ u.cell? ⟨w.heap.size, 9, none⟩ = some (.int .i64 x.ver) ∧ u.cell? ⟨w.heap.size, 0, none⟩ = some (.string x.m) ∧ u.cell? ⟨w.heap.size, 1, none⟩ = some (.slice a0 x.tn c0) ∧ u.cell? ⟨w.heap.size, 2, none⟩ = some (.int .i64 x.st)) := ⟨(q'.cell (p := ⟨B, 0, none⟩) (by simp; omega)).trans q1, (q'.cell (p := ⟨p, 4, none⟩) (by simp; omega)).trans q4, (q'.cell (p := ⟨w.heap.size, 9, none⟩) (by simp)).trans d9, (q'.cell (p := ⟨w.heap.size, 0, none⟩) (by simp)).trans d0, (q'.cell (p := ⟨w.heap.size, 1, none⟩) (by simp)).trans d1, (q'.cell (p := ⟨w.heap.size, 2, none⟩) (by simp)).trans d2⟩; have bw := hb.trans (q'.mono hb.size); clear q q' hbb))
  go_wp2
  go_ret
  exact Ans.mk bb (by have h1 := Hbb.out; have h2 := Hv.out; simp [h1, h2]) bw

set_option maxHeartbeats 1600000 in
theorem indexWin_any (ao : Option Addr) (n cap B p r : Nat) (Y : Nat → Wn) (S : ByteArray → Prop) (w : World) (hr : WiRow w ao n Y) (hn : n ≤ 1048576) (hg : Hid (∀ i, i < n → gK (Y i) = true)) (hS : KSet w r S)
    (hq : w.cell? ⟨B, 0, none⟩ = some (.pointer (some ⟨p, 0, none⟩))) (hB : B < w.heap.size) (h4 : w.cell? ⟨p, 4, none⟩ = some (.map (some r))) (hp : p < w.heap.size) :
    Calls Try.prog 69 #[.slice ao n cap, .func (.func 46) #[] #[.pointer (some ⟨B, 0, none⟩)]] w fun e w' => ∃ k : Int, e = .returned (.int .i64 k) ∧ (0 ≤ k ↔ Worn Y n S) ∧ Below w.heap.size w w' := by
  have hlies := hr.lies
  go_enter Try.func69, Try.ntmps69
  go_wp2
  go_loopw [8] (fun i wr => ∃ k : Nat, k ≤ n ∧ i = .int .i64 k ∧ Hid (∀ i, i < k → ¬ ((Y i).ver = 1000000 ∧ S (kS (Y i)))) ∧ Below w.heap.size w wr) (fun i _ => n - (intOf i).toNat)
  case atStart => exact ⟨0, Nat.zero_le _, rfl, fun i h => by omega, Below.refl _ _⟩
  case round =>
    obtain ⟨k, hk, rfl, HA, hbk⟩ := hrel
    by_cases hlt : k < n
    · obtain ⟨b, off, rfl, hblt, hc⟩ := hlies.resolve_left (by omega)
      obtain ⟨a0, a1, c0, c1, ea, r0, _⟩ := hc k hlt
      obtain ⟨_, d0, d1, d2, d3, d4, d5, d6, d7, d8, d9, d10⟩ := ea.keep hbk
      have hcall := wornOut1_any (Y k) a0 a1 c0 c1 B p r S wr (r0.keep hbk) (hg.out k hlt) (hS.keep hbk) ((hbk.cell (p := ⟨B, 0, none⟩) hB).trans hq) (Nat.lt_of_lt_of_le hB hbk.size) ((hbk.cell (p := ⟨p, 4, none⟩) hp).trans h4) (Nat.lt_of_lt_of_le hp hbk.size)
      clear hc hlies ea hr r0 hS
      go_wp2_with fail
      refine hcall.mono ?_
      rintro e w1 ⟨bb, rfl, hbb, hb1⟩
      have bw1 := hbk.trans (hb1.mono hbk.size)
      cases bb
      · have HH : Hid (∀ i, i < k + 1 → ¬ ((Y i).ver = 1000000 ∧ S (kS (Y i)))) := fun i hi hh => by
          rcases Nat.lt_succ_iff_lt_or_eq.1 hi with h | rfl
          · exact HA.out i h hh
          · exact absurd (hbb.2 hh) (by simp)
        clear hbb hb1 hcall
        go_wp2
        go_roundw
        case rel => exact ⟨k + 1, by omega, by go_num, HH, bw1⟩
        case measure => simp [intOf]; omega
      · have HH : Hid (Worn Y n S) := ⟨k, hlt, hbb.1 rfl⟩
        clear hbb hb1 hcall
        go_wp2
        refine bodyPost_ret (v := .int .i64 k) (by simp [results, Try.results69, go_sem]) rfl ⟨_, rfl, ⟨fun _ => HH.out, fun _ => by omega⟩, bw1⟩
    · obtain rfl : k = n := by omega
      have HH : Hid (¬ Worn Y k S) := fun ⟨i, hi, h⟩ => HA.out i hi h
      clear hlies
      go_wp2
      refine bodyPost_ret (v := .int .i64 (-1)) (by simp [results, Try.results69, go_sem]) rfl ⟨_, rfl, ⟨fun h => by omega, fun h => absurd h HH.out⟩, hbk⟩

set_option maxHeartbeats 1600000 in
theorem wornOut_any (base p r : Nat) (z h mk : Int) (v : Value) (n : Nat) (Y : Nat → Wn) (V : Nat → Value) (S : ByteArray → Prop) (w : World) (H : WSt w base p r z h mk v n Y V S) (hbd : ∀ i, i < n → WiB (Y i)) (hf : FBw n Y) (hg : Hid (∀ i, i < n → gK (Y i) = true)) (hn : n ≤ 1048576) :
    Calls Try.prog 16 #[.pointer (some ⟨p, 0, none⟩)] w fun e w' => Ans (Worn Y n S) w e w' := by
  obtain ⟨va, vc, rfl⟩ := ownsRow_form H.out.own
  have hr := ((ba_of H.out hf).row hbd hf).2
  have hb := below_new w (.cells #[.pointer (some ⟨p, 0, none⟩)] 50)
  have e3 := (hb.cell (p := ⟨p, 3, none⟩) H.box.lt).trans H.box.c3
  have hI := indexWin_any va n vc w.heap.size p r Y S (w.alloc (.cells #[.pointer (some ⟨p, 0, none⟩)] 50)) (hr.keep hb) hn hg (H.set.keep hb) (by simp [go_sem]) (by simp) ((hb.cell (p := ⟨p, 4, none⟩) H.box.lt).trans H.c4) (Nat.lt_of_lt_of_le H.box.lt hb.size)
  have hC : Calls Try.prog 45 #[.slice va n vc, .func (.func 46) #[] #[.pointer (some ⟨w.heap.size, 0, none⟩)]] (w.alloc (.cells #[.pointer (some ⟨p, 0, none⟩)] 50)) fun e w' => Ans (Worn Y n S) w e w' := by
    go_enter Try.func45, Try.ntmps45
    go_wp2_with fail
    refine hI.mono ?_
    rintro e w1 ⟨k, rfl, h1, h2⟩
    have bw := hb.trans (h2.mono (by simp))
    have H1 : Hid (0 ≤ k ↔ Worn Y n S) := h1
    clear h1 h2 hI
    go_wp2
    refine bodyPost_ret (v := .bool (decide (0 ≤ k))) (by simp [results, Try.results45, go_sem]) rfl (Ans.mk _ (by rw [← H1.out]; simp) bw)
  clear hI hr
  go_enter Try.func16, Try.ntmps16
  go_wp2_with fail
  refine hC.mono ?_
  rintro e w1 ⟨b1, rfl, h1, q1⟩
  have H1 : Hid (b1 = true ↔ Worn Y n S) := h1
  clear h1 hC
  go_wp2
  exact bodyPost_ret (v := .bool b1) (by simp [results, Try.results16, go_sem]) rfl (Ans.mk _ H1.out q1)
end Go.Proofs.Ytpggmgmdcccmeaa
namespace Go.Proofs.Ytpggmgmdcccmeaa
open Go.RowKit
set_option linter.unusedSimpArgs false
set_option linter.unusedVariables false

/-- Its version risen by one. -/
def vInc (x : Wn) : Wn := x.w_ver (x.ver + 1)
/-- The versions of the first k's dirty ones risen. -/
def vUp (Y : Nat → Wn) (b : Nat → Bool) (k : Nat) : Nat → Wn := fun i => if i < k ∧ b i = true then vInc (Y i) else Y i
theorem vUp_zero (Y : Nat → Wn) (b : Nat → Bool) : vUp Y b 0 = Y := by funext i; simp [vUp]
theorem vUp_at (Y : Nat → Wn) (b : Nat → Bool) (k : Nat) : vUp Y b k k = Y k := by simp [vUp]
theorem vUp_yes (Y : Nat → Wn) (b : Nat → Bool) (k : Nat) (h : b k = true) : upWi (vUp Y b k) k (vInc (Y k)) = vUp Y b (k + 1) := by
  funext i
  unfold upWi vUp
  by_cases e : i = k
  · subst e; simp [h]
  · by_cases e2 : i < k
    · simp [e, e2, show i < k + 1 by omega]
    · simp [e, e2, show ¬ i < k + 1 by omega]
theorem vUp_no (Y : Nat → Wn) (b : Nat → Bool) (k : Nat) (h : b k = false) : vUp Y b k = vUp Y b (k + 1) := by
  funext i
  unfold vUp
  by_cases e : i = k
  · subst e; simp [h]
  · by_cases e2 : i < k
    · simp [e2, show i < k + 1 by omega]
    · simp [e2, show ¬ i < k + 1 by omega]
/-- How many of the first k are dirty. -/
def tN (b : Nat → Bool) : Nat → Nat
  | 0 => 0
  | k + 1 => if b k = true then tN b k + 1 else tN b k
theorem tN_le (b : Nat → Bool) : ∀ k, tN b k ≤ k
  | 0 => Nat.le_refl _
  | k + 1 => by have := tN_le b k; unfold tN; split <;> omega
/-- What is told of the first k. -/
def tL (Y : Nat → Wn) (b : Nat → Bool) : Nat → Nat → Wn
  | 0 => Y
  | k + 1 => if b k = true then upTo (tL Y b k) (tN b k) (vInc (Y k)) else tL Y b k
theorem tL_of (Y : Nat → Wn) (b : Nat → Bool) : ∀ k j, j < tN b k → ∃ i, i < k ∧ b i = true ∧ tL Y b k j = vInc (Y i)
  | 0, j, h => absurd h (Nat.not_lt_zero _)
  | k + 1, j, h => by
    unfold tN at h
    unfold tL
    cases hb : b k with
    | false =>
      simp only [hb] at h ⊢
      obtain ⟨i, h1, h2, h3⟩ := tL_of Y b k j h
      exact ⟨i, by omega, h2, h3⟩
    | true =>
      simp only [hb, if_true] at h ⊢
      by_cases e : j = tN b k
      · subst e; exact ⟨k, by omega, hb, upTo_at _ _ _⟩
      · rw [upTo_ne _ _ _ e]
        obtain ⟨i, h1, h2, h3⟩ := tL_of Y b k j (by omega)
        exact ⟨i, by omega, h2, h3⟩
theorem dS_iff {z : Int} {X : Nat → Wn} {n i : Nat} (hG : GWs z X n) (hi : i < n) : dS X n (kS (cln X i)) ↔ (X i).di = true := by
  constructor
  · rintro ⟨j, hj, h2, h3⟩
    by_cases e : i = j
    · subst e; exact h2
    · exact absurd h3 (kS_ne hG hi hj e)
  · intro h
    exact ⟨i, hi, h, rfl⟩
theorem worn_iff {z : Int} {X : Nat → Wn} {n : Nat} (hG : GWs z X n) : Worn (cln X) n (dS X n) ↔ ∃ i, i < n ∧ (X i).ver = 1000000 ∧ (X i).di = true := by
  constructor
  · rintro ⟨i, hi, h1, h2⟩; exact ⟨i, hi, h1, (dS_iff hG hi).1 h2⟩
  · rintro ⟨i, hi, h1, h2⟩; exact ⟨i, hi, h1, (dS_iff hG hi).2 h2⟩

/-- A told window put behind the others, its lists made just now. -/
theorem tdPush {ud u : World} {base m : Nat} {va ha0 ha1 : Option Addr} {vc hc0 hc1 : Nat} {T : Nat → Wn} {V : Nat → Value} {x : Wn} (O0 : OutT ud base (.slice va m vc) m T V) (q : Below ud.heap.size ud u)
    (T0 : TV u ud.heap.size (.slice ha0 x.tn hc0) x) (T1 : HV u ud.heap.size (.slice ha1 x.n hc1) x) (hd : ∀ k, (Value.slice ha1 x.n hc1).ownBlock = some k → (Value.slice ha0 x.tn hc0).ownBlock ≠ some k) (hn : m ≤ 1048576) (hbase : base ≤ ud.heap.size) :
    ∃ vb vd V2 u3, (Builtin.append_ #[27, 27] 27 #[.slice va m vc, .slice (some ⟨u.heap.size, 0, none⟩) 1 1]).run Try.prog (u.alloc (.cells #[.string x.m, .slice ha0 x.tn hc0, .int .i64 x.st, .int .i64 x.ver, .int .i64 x.c, .int .i64 x.s, .int .i64 x.lo, .int .i64 x.hi, .slice ha1 x.n hc1, .bool x.fu] 37)) = .ok (.slice vb (m + 1) vd) u3 ∧ OutT u3 base (.slice vb (m + 1) vd) (m + 1) (upTo T m x) V2 ∧ Below base u u3 := by
  have s1 := q.size
  have O1 := O0.keep q
  have vl : ∀ c, (Value.slice va m vc).ownBlock = some c → base ≤ c ∧ c < ud.heap.size := fun c hc => O0.own.lt c hc
  have Vl : ∀ p c, p < m * 2 → (V p).ownBlock = some c → c < ud.heap.size := fun p c hp hc => (O0.lt hp hc).2
  have l0 : ∀ c, (Value.slice ha0 x.tn hc0).ownBlock = some c → ud.heap.size ≤ c := fun c hc => (T0.lt c hc).1
  have l1 : ∀ c, (Value.slice ha1 x.n hc1).ownBlock = some c → ud.heap.size ≤ c := fun c hc => (T1.lt c hc).1
  obtain ⟨v', u3, hrun, O3, G3⟩ := pushT_run (x := x) O1 (h0 := .slice ha0 x.tn hc0) (h1 := .slice ha1 x.n hc1) (show TV u base (.slice ha0 x.tn hc0) x from ownsRow_mono T0 hbase) (show HV u base (.slice ha1 x.n hc1) x from ownsRow_mono T1 hbase)
    (fun c hc => ⟨fun hh => by have := l0 c hc; have := vl c hh; omega, fun p hp hh => by have := l0 c hc; have := Vl p c hp hh; omega⟩)
    (fun c hc => ⟨fun hh => by have := l1 c hc; have := vl c hh; omega, fun p hp hh => by have := l1 c hc; have := Vl p c hp hh; omega, hd c hc⟩) hn (by omega) 27
  obtain ⟨vb, vd, rfl⟩ := ownsRow_form O3.own
  exact ⟨vb, vd, _, u3, hrun, O3, (below_new u _).mono (by omega) |>.grown G3 (by simp; omega) (fun c hc => (vl c hc).1)⟩
/-- A call of copyTold in a region that draws. -/
theorem step_copyTold {w : World} {ops : Array Oper} {o : Oper} {a : Act} {K : Act → World → Prop} {Q : Exit → Act → World → Prop} {E : Prop} (hgd : o.guard = none) (k : Nat)
    (ho : o.op = .call { callee := .value (.func 19), args := #[.tmp k], argTypes := #[37] }) (x : Wn) (a0 a1 : Option Addr) (c0 c1 : Nat) (hx : a.eval (.tmp k) = .agg #[.string x.m, .slice a0 x.tn c0, .int .i64 x.st, .int .i64 x.ver, .int .i64 x.c, .int .i64 x.s, .int .i64 x.lo, .int .i64 x.hi, .slice a1 x.n c1, .bool x.fu]) (r0 : TRow w a0 x.tn x.nm x.vl) (r1 : IRow w a1 x.n x.f) (ht : x.tn ≤ 1048576) (hn : x.n ≤ 1048576)
    (h : ∀ (ha0 ha1 : Option Addr) (hc0 hc1 : Nat) (w' : World), TV w' w.heap.size (.slice ha0 x.tn hc0) x → HV w' w.heap.size (.slice ha1 x.n hc1) x → (∀ k, (Value.slice ha1 x.n hc1).ownBlock = some k → (Value.slice ha0 x.tn hc0).ownBlock ≠ some k) → Below w.heap.size w w' → K (a.put o.dst (.agg #[.string x.m, .slice ha0 x.tn hc0, .int .i64 x.st, .int .i64 x.ver, .int .i64 x.c, .int .i64 x.s, .int .i64 x.lo, .int .i64 x.hi, .slice ha1 x.n hc1, .bool x.fu])) w') :
    if Region.wanted o (yielded ops a.tmps) = true then Oper.wp Try.prog o a w K Q else E := by
  have hw : Region.wanted o (yielded ops a.tmps) = true := by simp [Region.wanted, hgd]
  rw [if_pos hw]
  have hx' : a.tmps.getD k undef = .agg #[.string x.m, .slice a0 x.tn c0, .int .i64 x.st, .int .i64 x.ver, .int .i64 x.c, .int .i64 x.s, .int .i64 x.lo, .int .i64 x.hi, .slice a1 x.n c1, .bool x.fu] := hx
  unfold Oper.wp execOp
  simp only [ho, resolve, Act.eval, hx']
  go_simp
  refine (copyTold_any x a0 a1 c0 c1 w r0 r1 ht hn).mono ?_
  rintro e w' ⟨ha0, hc0, ha1, hc1, rfl, h1, h2, h3, h4⟩
  exact h ha0 ha1 hc0 hc1 w' h1 h2 h3 h4
/-- A slice of one told window made in a region that draws. -/
theorem step_buildT {w : World} {ops : Array Oper} {o : Oper} {a : Act} {K : Act → World → Prop} {Q : Exit → Act → World → Prop} {E : Prop} (hgd : o.guard = none) (k : Nat)
    (ho : o.op = .buildSlice 27 1 #[(0, .tmp k)]) (x : Wn) (a0 a1 : Option Addr) (c0 c1 : Nat) (hx : a.eval (.tmp k) = .agg #[.string x.m, .slice a0 x.tn c0, .int .i64 x.st, .int .i64 x.ver, .int .i64 x.c, .int .i64 x.s, .int .i64 x.lo, .int .i64 x.hi, .slice a1 x.n c1, .bool x.fu]) (h : K (a.put o.dst (.slice (some ⟨w.heap.size, 0, none⟩) 1 1)) (w.alloc (.cells #[.string x.m, .slice a0 x.tn c0, .int .i64 x.st, .int .i64 x.ver, .int .i64 x.c, .int .i64 x.s, .int .i64 x.lo, .int .i64 x.hi, .slice a1 x.n c1, .bool x.fu] 37))) :
    if Region.wanted o (yielded ops a.tmps) = true then Oper.wp Try.prog o a w K Q else E := by
  have hw : Region.wanted o (yielded ops a.tmps) = true := by simp [Region.wanted, hgd]
  rw [if_pos hw]
  have hx' : a.tmps.getD k undef = .agg #[.string x.m, .slice a0 x.tn c0, .int .i64 x.st, .int .i64 x.ver, .int .i64 x.c, .int .i64 x.s, .int .i64 x.lo, .int .i64 x.hi, .slice a1 x.n c1, .bool x.fu] := hx
  unfold Oper.wp execOp
  simp only [ho, Act.eval, hx', List.map_toArray, List.map_cons, List.map_nil]
  go_simp
  exact h
end Go.Proofs.Ytpggmgmdcccmeaa
