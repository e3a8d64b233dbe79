/- Steps of addEvent's regions; what is read of a window and written into it. -/
import Derived.Test.YtpggmgmdcccmeaaAeG
import Derived.Test.YtpggmgmdcccmeaaIo
import Derived.Test.YtpggmgmdcccmeaaKa
import Derived.Test.YtpggmgmdcccmeaaTb
namespace Go.Proofs.Ytpggmgmdcccmeaa
open Go.RowKit
set_option linter.unusedSimpArgs false
set_option linter.unusedVariables false

/-- A window's agg. -/
def agE (x : Wn) : Ent := ⟨.empty, 0, 0, x.c, x.s, x.lo, x.hi, x.n, x.f, x.fu⟩
/-- A window with the agg y. -/
def agY (x : Wn) (y : Ent) : Wn := agW x y.c y.s y.lo y.hi y.f y.fu
section
variable {w : World} {ops : Array Oper} {o : Oper} {a : Act} {K : Act → World → Prop} {Q : Exit → Act → World → Prop} {E : Prop}
theorem step_c0 (hgd : o.guard = none) (f : Nat) (ho : o.op = .call { callee := .value (.func f), args := #[], argTypes := #[] }) (hcf : ∀ (args : Array Value) (w : World), Sem.run Try.prog (callFunc f args) w = .ok (.enter f args) w) {post : Ending → World → Prop} (hc : Calls Try.prog f #[] w post)
    (h : ∀ e w', post e w' → ∃ v', e = .returned v' ∧ K (a.put o.dst v') w') :
    if Region.wanted o (yielded ops a.tmps) = true then Oper.wp Try.prog o a w K Q else E := by
  have hw : Region.wanted o (yielded ops a.tmps) = true := by simp [Region.wanted, hgd]
  rw [if_pos hw]
  unfold Oper.wp execOp
  simp only [ho, resolve, Act.eval, List.map_toArray, List.map_nil]
  go_simp
  refine hc.mono ?_
  intro e w' hp
  obtain ⟨v', rfl, hK⟩ := h e w' hp
  exact hK
theorem step_c1 (hgd : o.guard = none) (k f ty : Nat) (ho : o.op = .call { callee := .value (.func f), args := #[.tmp k], argTypes := #[ty] }) (l : Value) (hx : a.eval (.tmp k) = l) (hcf : ∀ (args : Array Value) (w : World), Sem.run Try.prog (callFunc f args) w = .ok (.enter f args) w) {post : Ending → World → Prop} (hc : Calls Try.prog f #[l] w post)
    (h : ∀ e w', post e w' → ∃ v', e = .returned v' ∧ K (a.put o.dst v') w') :
    if Region.wanted o (yielded ops a.tmps) = true then Oper.wp Try.prog o a w K Q else E := by
  have hw : Region.wanted o (yielded ops a.tmps) = true := by simp [Region.wanted, hgd]
  rw [if_pos hw]
  have hx' : a.tmps.getD k undef = l := hx
  unfold Oper.wp execOp
  simp only [ho, resolve, Act.eval, hx', List.map_toArray, List.map_cons, List.map_nil]
  go_simp
  refine hc.mono ?_
  intro e w' hp
  obtain ⟨v', rfl, hK⟩ := h e w' hp
  exact hK
theorem step_c2 (hgd : o.guard = none) (k k2 f ty ty2 : Nat) (ho : o.op = .call { callee := .value (.func f), args := #[.tmp k, .tmp k2], argTypes := #[ty, ty2] }) (l l2 : Value) (hx : a.eval (.tmp k) = l) (hx2 : a.eval (.tmp k2) = l2) (hcf : ∀ (args : Array Value) (w : World), Sem.run Try.prog (callFunc f args) w = .ok (.enter f args) w) {post : Ending → World → Prop} (hc : Calls Try.prog f #[l, l2] w post)
    (h : ∀ e w', post e w' → ∃ v', e = .returned v' ∧ K (a.put o.dst v') w') :
    if Region.wanted o (yielded ops a.tmps) = true then Oper.wp Try.prog o a w K Q else E := by
  have hw : Region.wanted o (yielded ops a.tmps) = true := by simp [Region.wanted, hgd]
  rw [if_pos hw]
  have hx' : a.tmps.getD k undef = l := hx
  have hx2' : a.tmps.getD k2 undef = l2 := hx2
  unfold Oper.wp execOp
  simp only [ho, resolve, Act.eval, hx', hx2', List.map_toArray, List.map_cons, List.map_nil]
  go_simp
  refine hc.mono ?_
  intro e w' hp
  obtain ⟨v', rfl, hK⟩ := h e w' hp
  exact hK
theorem step_c3 (hgd : o.guard = none) (k k2 k3 f ty ty2 ty3 : Nat) (ho : o.op = .call { callee := .value (.func f), args := #[.tmp k, .tmp k2, .tmp k3], argTypes := #[ty, ty2, ty3] }) (l l2 l3 : Value) (hx : a.eval (.tmp k) = l) (hx2 : a.eval (.tmp k2) = l2) (hx3 : a.eval (.tmp k3) = l3) (hcf : ∀ (args : Array Value) (w : World), Sem.run Try.prog (callFunc f args) w = .ok (.enter f args) w) {post : Ending → World → Prop} (hc : Calls Try.prog f #[l, l2, l3] w post)
    (h : ∀ e w', post e w' → ∃ v', e = .returned v' ∧ K (a.put o.dst v') w') :
    if Region.wanted o (yielded ops a.tmps) = true then Oper.wp Try.prog o a w K Q else E := by
  have hw : Region.wanted o (yielded ops a.tmps) = true := by simp [Region.wanted, hgd]
  rw [if_pos hw]
  have hx' : a.tmps.getD k undef = l := hx
  have hx2' : a.tmps.getD k2 undef = l2 := hx2
  have hx3' : a.tmps.getD k3 undef = l3 := hx3
  unfold Oper.wp execOp
  simp only [ho, resolve, Act.eval, hx', hx2', hx3', List.map_toArray, List.map_cons, List.map_nil]
  go_simp
  refine hc.mono ?_
  intro e w' hp
  obtain ⟨v', rfl, hK⟩ := h e w' hp
  exact hK
/-- A slice of two aggs made. -/
theorem step_buildA (hgd : o.guard = none) (k j : Nat) (ho : o.op = .buildSlice 115 2 #[(0, .tmp k), (1, .tmp j)]) (x y : Ent) (a0 a1 : Option Addr) (c0 c1 : Nat) (hx : a.eval (.tmp k) = .agg #[.int .i64 x.c, .int .i64 x.s, .int .i64 x.lo, .int .i64 x.hi, .slice a0 x.n c0, .bool x.fu]) (hy : a.eval (.tmp j) = .agg #[.int .i64 y.c, .int .i64 y.s, .int .i64 y.lo, .int .i64 y.hi, .slice a1 y.n c1, .bool y.fu])
    (h : K (a.put o.dst (.slice (some ⟨w.heap.size, 0, none⟩) 2 2)) (w.alloc (.cells #[.int .i64 x.c, .int .i64 x.s, .int .i64 x.lo, .int .i64 x.hi, .slice a0 x.n c0, .bool x.fu, .int .i64 y.c, .int .i64 y.s, .int .i64 y.lo, .int .i64 y.hi, .slice a1 y.n c1, .bool y.fu] 35))) :
    if Region.wanted o (yielded ops a.tmps) = true then Oper.wp Try.prog o a w K Q else E := by
  have hw : Region.wanted o (yielded ops a.tmps) = true := by simp [Region.wanted, hgd]
  rw [if_pos hw]
  have hx' : a.tmps.getD k undef = .agg #[.int .i64 x.c, .int .i64 x.s, .int .i64 x.lo, .int .i64 x.hi, .slice a0 x.n c0, .bool x.fu] := hx
  have hy' : a.tmps.getD j undef = .agg #[.int .i64 y.c, .int .i64 y.s, .int .i64 y.lo, .int .i64 y.hi, .slice a1 y.n c1, .bool y.fu] := hy
  unfold Oper.wp execOp
  simp only [ho, Act.eval, hx', hy', List.map_toArray, List.map_cons, List.map_nil]
  go_simp
  exact h
/-- An agg stored. -/
theorem step_stA (hgd : o.guard = none) (k j : Nat) (ho : o.op = .store 35 (.tmp k) (.tmp j)) (b q : Nat) (y : Ent) (ao : Option Addr) (m c : Nat) (u0 u1 u2 u3 u4 u5 : Value) (hx : a.eval (.tmp k) = .pointer (some ⟨b, q, none⟩)) (hv : a.eval (.tmp j) = .agg #[.int .i64 y.c, .int .i64 y.s, .int .i64 y.lo, .int .i64 y.hi, .slice ao m c, .bool y.fu]) (h0 : w.cell? ⟨b, q, none⟩ = some u0) (h1 : w.cell? ⟨b, q + 1, none⟩ = some u1) (h2 : w.cell? ⟨b, q + 2, none⟩ = some u2) (h3 : w.cell? ⟨b, q + 3, none⟩ = some u3) (h4 : w.cell? ⟨b, q + 4, none⟩ = some u4) (h5 : w.cell? ⟨b, q + 5, none⟩ = some u5) (hf : ∀ i, i < 6 → w.frozen? ⟨b, q + i, none⟩ = false)
    (h : K (a.put o.dst undef) ((((((w.setCell ⟨b, q, none⟩ (.int .i64 y.c)).setCell ⟨b, q + 1, none⟩ (.int .i64 y.s)).setCell ⟨b, q + 2, none⟩ (.int .i64 y.lo)).setCell ⟨b, q + 3, none⟩ (.int .i64 y.hi)).setCell ⟨b, q + 4, none⟩ (.slice ao m c)).setCell ⟨b, q + 5, none⟩ (.bool y.fu))) :
    if Region.wanted o (yielded ops a.tmps) = true then Oper.wp Try.prog o a w K Q else E := by
  have hw : Region.wanted o (yielded ops a.tmps) = true := by simp [Region.wanted, hgd]
  rw [if_pos hw]
  have hx' : a.tmps.getD k undef = .pointer (some ⟨b, q, none⟩) := hx
  have hv' : a.tmps.getD j undef = .agg #[.int .i64 y.c, .int .i64 y.s, .int .i64 y.lo, .int .i64 y.hi, .slice ao m c, .bool y.fu] := hv
  have f0 : w.frozen? ⟨b, q, none⟩ = false := hf 0 (by omega)
  have f1 := hf 1 (by omega)
  have f2 := hf 2 (by omega)
  have f3 := hf 3 (by omega)
  have f4 := hf 4 (by omega)
  have f5 := hf 5 (by omega)
  unfold Oper.wp execOp
  simp only [ho, Act.eval, hx', hv']
  go_simp
  exact h
/-- The address of one of the windows. -/
theorem step_idxW (hgd : o.guard = none) (k j : Nat) (ho : o.op = .indexAddr 23 (.tmp k) (.tmp j)) (b n c i : Nat) (hx : a.eval (.tmp k) = .slice (some ⟨b, 0, none⟩) n c) (hy : a.eval (.tmp j) = .int .i64 (i : Int)) (hi : i < n) (h : K (a.put o.dst (.pointer (some ⟨b, i * 11, none⟩))) w) :
    if Region.wanted o (yielded ops a.tmps) = true then Oper.wp Try.prog o a w K Q else E := by
  have hw : Region.wanted o (yielded ops a.tmps) = true := by simp [Region.wanted, hgd]
  rw [if_pos hw]
  have hx' : a.tmps.getD k undef = .slice (some ⟨b, 0, none⟩) n c := hx
  have hy' : a.tmps.getD j undef = .int .i64 (i : Int) := hy
  unfold Oper.wp execOp
  simp only [ho, Act.eval, hx', hy']
  go_simp
  exact h
/-- The address of a window's agg. -/
theorem step_fAg (hgd : o.guard = none) (k : Nat) (ho : o.op = .fieldAddr 39 (.tmp k) 1) (b q : Nat) (hx : a.eval (.tmp k) = .pointer (some ⟨b, q, none⟩)) (h : K (a.put o.dst (.pointer (some ⟨b, q + 3, none⟩))) w) :
    if Region.wanted o (yielded ops a.tmps) = true then Oper.wp Try.prog o a w K Q else E := by
  have hw : Region.wanted o (yielded ops a.tmps) = true := by simp [Region.wanted, hgd]
  rw [if_pos hw]
  have hx' : a.tmps.getD k undef = .pointer (some ⟨b, q, none⟩) := hx
  unfold Oper.wp execOp
  simp only [ho, Act.eval, hx']
  go_simp
  exact h
end
theorem cf_zero (args : Array Value) (w : World) : Sem.run Try.prog (callFunc 60 args) w = .ok (.enter 60 args) w := by go_simp
theorem cf_join (args : Array Value) (w : World) : Sem.run Try.prog (callFunc 61 args) w = .ok (.enter 61 args) w := by go_simp
theorem cf_ins (args : Array Value) (w : World) : Sem.run Try.prog (callFunc 59 args) w = .ok (.enter 59 args) w := by go_simp
theorem cf_l4Of (args : Array Value) (w : World) : Sem.run Try.prog (callFunc 35 args) w = .ok (.enter 35 args) w := by go_simp
theorem cf_l4Join (args : Array Value) (w : World) : Sem.run Try.prog (callFunc 34 args) w = .ok (.enter 34 args) w := by go_simp

end Go.Proofs.Ytpggmgmdcccmeaa
