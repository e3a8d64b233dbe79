/- errors.Is against the kind of what is not good. / The code of an error. -/
import Derived.Test.YtgedpjabjoodjaaDoorAsFault
namespace Go.Proofs.YtgedpjabjoodjaaDoor
open Go.RowKit Go.Extern.Stop Go.Stop Go.Extern
set_option linter.unusedSimpArgs false
set_option linter.unusedVariables false

theorem Tryd.noIsK (v : Value) (xT : TypeId) (w : World) : (Instr.typeAssert (.iface 88 v) xT 121 true).run Tryd.prog w = .ok (.tuple #[.nilIface, .bool false]) w := run_typeAssert_lacksB Tryd.underlying121 (by kernel_rfl) (by kernel_rfl) v xT w
theorem Tryd.noUnwrapK (v : Value) (xT : TypeId) (w : World) : (Instr.typeAssert (.iface 88 v) xT 124 true).run Tryd.prog w = .ok (.tuple #[.nilIface, .bool false]) w := run_typeAssert_lacksB Tryd.underlying124 (by kernel_rfl) (by kernel_rfl) v xT w
theorem Tryd.noUnwrapsK (v : Value) (xT : TypeId) (w : World) : (Instr.typeAssert (.iface 88 v) xT 126 true).run Tryd.prog w = .ok (.tuple #[.nilIface, .bool false]) w := run_typeAssert_lacksB Tryd.underlying126 (by kernel_rfl) (by kernel_rfl) v xT w
theorem Tryd.noIsF (v : Value) (xT : TypeId) (w : World) : (Instr.typeAssert (.iface 90 v) xT 121 true).run Tryd.prog w = .ok (.tuple #[.nilIface, .bool false]) w := run_typeAssert_lacksB Tryd.underlying121 (by kernel_rfl) (by kernel_rfl) v xT w
theorem Tryd.hasUnwrapF (v : Value) (xT : TypeId) (w : World) : (Instr.typeAssert (.iface 90 v) xT 124 true).run Tryd.prog w = .ok (.tuple #[.iface 90 v, .bool true]) w := run_typeAssert_hasB Tryd.underlying124 (by kernel_rfl) v xT w
theorem Tryd.compK : (Tryd.prog.info? 88).map (·.comparable) = some true := by kernel_rfl
/-- Two kinds in interfaces. -/
theorem eqlK (a b : Int) (w : World) : (binOp .eql 62 (.iface 88 (.int .i64 a)) (.iface 88 (.int .i64 b))).run Tryd.prog w = .ok (.bool (a == b)) w := by
  obtain ⟨i, hi, hcmp⟩ := Option.map_eq_some_iff.1 Tryd.compK
  have h : ∀ d : Nat, (Op.equalIn (d + 1 + 1) 62 (.iface 88 (.int .i64 a)) (.iface 88 (.int .i64 b))).run Tryd.prog w = .ok (a == b) w := fun d => by
    simp [Op.equalIn, run_underlying Tryd.underlying62, run_underlying Tryd.underlying88, typeInfo, hi, hcmp]
  simp only [binOp]
  simp [Op.equal, Op.maxDepth, h 9998]

/-- errors.Is(nil, the kind). -/
theorem is_nil (w : World) : Calls Tryd.prog 68 #[.nilIface, .iface 88 (.int .i64 1)] w fun e w' => e = .returned (.bool false) ∧ w' = w := by
  have hn := run_eql_iface_nil_left (P := Tryd.prog) w 88 (.int .i64 1) Tryd.underlying62
  go_enter Tryd.func68, Tryd.ntmps68
  go_wp2
  go_ret
  exact ⟨rfl, rfl⟩
theorem Tryd.comparableK (w : World) : ((ReflectliteType.method fun t => do Rtype.noPackHeld "Comparable" t; (fun a => Value.bool a.comparable) <$> typeInfo t) #[.agg #[.pointer (some ⟨1, 88, none⟩)]]).run Tryd.prog w = .ok (.bool true) w := by kernel_rfl

set_option maxHeartbeats 1000000 in
/-- errors.Is(the kind, the kind). -/
theorem is_kind (w : World) : Calls Tryd.prog 68 #[.iface 88 (.int .i64 1), .iface 88 (.int .i64 1)] w fun e w' => e = .returned (.bool true) ∧ w' = w := by
  have h8 := @run_callFunc_extern Tryd.prog 78 _ ReflectliteType.typeOf Tryd.func78 (by kernel_rfl) (by kernel_rfl) (by kernel_rfl) (by kernel_rfl)
  have h32 := @run_callFunc_extern Tryd.prog 133 _ (ReflectliteType.method fun t => do Rtype.noPackHeld "Comparable" t; pure (.bool (← typeInfo t).comparable)) Tryd.func133 (by kernel_rfl) (by kernel_rfl) (by kernel_rfl) (by kernel_rfl)
  have tT := Tryd.typeOfK
  have cT := Tryd.comparableK
  have mR : ∀ (h : Value) (w : World), (Go.method 287 119 (.agg #[h]) "Comparable").run Tryd.prog w = .ok (133, .agg #[h]) w := fun h w => by kernel_rfl
  have heq := eqlK
  go_enter Tryd.func68, Tryd.ntmps68
  go_wp2
  refine wp_loop_rounds 1 ?_
  rw [rounds_succ]
  go_wp2
  go_ret
  exact ⟨rfl, rfl⟩

set_option maxHeartbeats 1000000 in
/-- errors.Is(a fault of kind k, the kind). -/
theorem is_fault (s : ByteArray) (k : Int) (B : Bool) (hB : (k == 1) = B) (w : World) : Calls Tryd.prog 68 #[.iface 90 (.agg #[.string s, .int .i64 k]), .iface 88 (.int .i64 1)] w fun e w' => e = .returned (.bool B) ∧ Below w.heap.size w w' := by
  have h8 := @run_callFunc_extern Tryd.prog 78 _ ReflectliteType.typeOf Tryd.func78 (by kernel_rfl) (by kernel_rfl) (by kernel_rfl) (by kernel_rfl)
  have h32 := @run_callFunc_extern Tryd.prog 133 _ (ReflectliteType.method fun t => do Rtype.noPackHeld "Comparable" t; pure (.bool (← typeInfo t).comparable)) Tryd.func133 (by kernel_rfl) (by kernel_rfl) (by kernel_rfl) (by kernel_rfl)
  have tT := Tryd.typeOfK
  have cT := Tryd.comparableK
  have mR : ∀ (h : Value) (w : World), (Go.method 287 119 (.agg #[h]) "Comparable").run Tryd.prog w = .ok (133, .agg #[h]) w := fun h w => by kernel_rfl
  have heq := eqlK
  have nE := Tryd.noIsK
  have uE := Tryd.noUnwrapK
  have vE := Tryd.noUnwrapsK
  have nW := Tryd.noIsF
  have uW := Tryd.hasUnwrapF
  have mU : ∀ (v : Value) (w : World), (Go.method 287 90 v "Unwrap").run Tryd.prog w = .ok (127, v) w := fun v w => by kernel_rfl
  have hty := fun (v u : Value) (w : World) => run_eql_iface_types (P := Tryd.prog) 90 88 v u Tryd.underlying62 (by decide) w
  cases B
  · go_enter Tryd.func68, Tryd.ntmps68
    go_wp2
    refine wp_loop_rounds 2 ?_
    rw [rounds_succ]
    go_wp2_with (go_at_call 127; refine (unwrap_any s k _).mono ?_; rintro e w' ⟨rfl, rfl⟩)
    rw [rounds_succ]
    go_wp2
    go_ret
    exact ⟨rfl, (Below.refl _ _).alloc (Nat.le_refl _) _⟩
  · go_enter Tryd.func68, Tryd.ntmps68
    go_wp2
    refine wp_loop_rounds 2 ?_
    rw [rounds_succ]
    go_wp2_with (go_at_call 127; refine (unwrap_any s k _).mono ?_; rintro e w' ⟨rfl, rfl⟩)
    rw [rounds_succ]
    go_wp2
    go_ret
    exact ⟨rfl, (Below.refl _ _).alloc (Nat.le_refl _) _⟩
end Go.Proofs.YtgedpjabjoodjaaDoor
namespace Go.Proofs.YtgedpjabjoodjaaDoor
open Go.RowKit
set_option linter.unusedSimpArgs false
set_option linter.unusedVariables false

/-- errors.errorType holds the handle of the type error. -/
def ET (w : World) : Prop := w.cell? ⟨0, 0, none⟩ = some (.iface 119 (.agg #[.pointer (some ⟨1, 62, none⟩)]))
theorem ET.lt {w : World} (h : ET w) : 0 < w.heap.size := by
  rcases Nat.eq_zero_or_pos w.heap.size with h0 | h1
  · simp [ET, World.cell?, h0] at h
  · exact h1
theorem ET.keep {w w' : World} (h : ET w) (hb : Below w.heap.size w w') : ET w' := (hb.cell (p := ⟨0, 0, none⟩) h.lt).trans h

theorem code_nil (w : World) : Calls Tryd.prog 58 #[.nilIface] w fun e w' => e = .returned (.int .i64 0) ∧ Below w.heap.size w w' := by
  go_enter Tryd.func58, Tryd.ntmps58
  go_wp2_with fail
  refine (as_nil _ _).mono ?_
  rintro e w1 ⟨rfl, rfl⟩
  go_wp2
  go_ret
  exact ⟨rfl, (Below.refl _ _).alloc (Nat.le_refl _) _⟩

set_option maxHeartbeats 1000000 in
theorem code_kind (k : Int) (w : World) (hg : ET w) : Calls Tryd.prog 58 #[.iface 88 (.int .i64 k)] w fun e w' => e = .returned (.int .i64 k) ∧ Below w.heap.size w w' := by
  have hB : Below w.heap.size w (w.alloc (.cells #[.int .i64 0] 88)) := (Below.refl _ _).alloc (Nat.le_refl _) _
  have hgA := hg.keep hB
  have hc : (w.alloc (.cells #[.int .i64 0] 88)).cell? ⟨w.heap.size, 0, none⟩ = some (.int .i64 0) := by simp [go_sem]
  have hf : (w.alloc (.cells #[.int .i64 0] 88)).frozen? ⟨w.heap.size, 0, none⟩ = false := by simp [go_sem]
  go_enter Tryd.func58, Tryd.ntmps58
  go_wp2_with fail
  refine (as_kind k _ _ _ hgA hc hf).mono ?_
  rintro e w' ⟨rfl, w1, hb1, rfl⟩
  have hc1 := (hb1.cell (p := ⟨w.heap.size, 0, none⟩) (by simp)).trans hc
  have hc2 : (w1.setCell ⟨w.heap.size, 0, none⟩ (.int .i64 k)).cell? ⟨w.heap.size, 0, none⟩ = some (.int .i64 k) := World.cell?_setCell_same _ _ _ hc1
  have bw1 : Below w.heap.size w w1 := hB.trans (hb1.mono (by simp))
  clear hgA hc hf hb1 hB
  go_wp2
  go_ret
  exact ⟨rfl, bw1.setCell (Nat.le_refl _) _⟩

set_option maxHeartbeats 1000000 in
theorem code_fault (s : ByteArray) (k : Int) (w : World) (hg : ET w) : Calls Tryd.prog 58 #[.iface 90 (.agg #[.string s, .int .i64 k])] w fun e w' => e = .returned (.int .i64 k) ∧ Below w.heap.size w w' := by
  have hB : Below w.heap.size w (w.alloc (.cells #[.int .i64 0] 88)) := (Below.refl _ _).alloc (Nat.le_refl _) _
  have hgA := hg.keep hB
  have hc : (w.alloc (.cells #[.int .i64 0] 88)).cell? ⟨w.heap.size, 0, none⟩ = some (.int .i64 0) := by simp [go_sem]
  have hf : (w.alloc (.cells #[.int .i64 0] 88)).frozen? ⟨w.heap.size, 0, none⟩ = false := by simp [go_sem]
  go_enter Tryd.func58, Tryd.ntmps58
  go_wp2_with fail
  refine (as_fault s k _ _ _ hgA hc hf).mono ?_
  rintro e w' ⟨rfl, w1, hb1, rfl⟩
  have hc1 := (hb1.cell (p := ⟨w.heap.size, 0, none⟩) (by simp)).trans hc
  have hc2 : (w1.setCell ⟨w.heap.size, 0, none⟩ (.int .i64 k)).cell? ⟨w.heap.size, 0, none⟩ = some (.int .i64 k) := World.cell?_setCell_same _ _ _ hc1
  have bw1 : Below w.heap.size w w1 := hB.trans (hb1.mono (by simp))
  clear hgA hc hf hb1 hB
  go_wp2
  go_ret
  exact ⟨rfl, bw1.setCell (Nat.le_refl _) _⟩
end Go.Proofs.YtgedpjabjoodjaaDoor
