/- errors.Is against the kind of what is not good. / tell: what a disk holds, rising, with a code. -/
import Derived.Test.YtiojjihonmonkaaDoorAsFault
import Derived.Test.YtiojjihonmonkaaDoorSortL
import Derived.Test.YtiojjihonmonkaaDoorRising
namespace Go.Proofs.YtiojjihonmonkaaDoor
open Go.RowKit Go.Extern.Stop Go.Stop Go.Extern
set_option linter.unusedSimpArgs false
set_option linter.unusedVariables false

theorem Tryd.noIsK (v : Value) (xT : TypeId) (w : World) : (Instr.typeAssert (.iface 66 v) xT 95 true).run Tryd.prog w = .ok (.tuple #[.nilIface, .bool false]) w := run_typeAssert_lacksB Tryd.underlying95 (by kernel_rfl) (by kernel_rfl) v xT w
theorem Tryd.noUnwrapK (v : Value) (xT : TypeId) (w : World) : (Instr.typeAssert (.iface 66 v) xT 98 true).run Tryd.prog w = .ok (.tuple #[.nilIface, .bool false]) w := run_typeAssert_lacksB Tryd.underlying98 (by kernel_rfl) (by kernel_rfl) v xT w
theorem Tryd.noUnwrapsK (v : Value) (xT : TypeId) (w : World) : (Instr.typeAssert (.iface 66 v) xT 100 true).run Tryd.prog w = .ok (.tuple #[.nilIface, .bool false]) w := run_typeAssert_lacksB Tryd.underlying100 (by kernel_rfl) (by kernel_rfl) v xT w
theorem Tryd.noIsF (v : Value) (xT : TypeId) (w : World) : (Instr.typeAssert (.iface 68 v) xT 95 true).run Tryd.prog w = .ok (.tuple #[.nilIface, .bool false]) w := run_typeAssert_lacksB Tryd.underlying95 (by kernel_rfl) (by kernel_rfl) v xT w
theorem Tryd.hasUnwrapF (v : Value) (xT : TypeId) (w : World) : (Instr.typeAssert (.iface 68 v) xT 98 true).run Tryd.prog w = .ok (.tuple #[.iface 68 v, .bool true]) w := run_typeAssert_hasB Tryd.underlying98 (by kernel_rfl) v xT w
theorem Tryd.compK : (Tryd.prog.info? 66).map (·.comparable) = some true := by kernel_rfl
/-- Two kinds in interfaces. -/
theorem eqlK (a b : Int) (w : World) : (binOp .eql 48 (.iface 66 (.int .i64 a)) (.iface 66 (.int .i64 b))).run Tryd.prog w = .ok (.bool (a == b)) w := by
  obtain ⟨i, hi, hcmp⟩ := Option.map_eq_some_iff.1 Tryd.compK
  have h : ∀ d : Nat, (Op.equalIn (d + 1 + 1) 48 (.iface 66 (.int .i64 a)) (.iface 66 (.int .i64 b))).run Tryd.prog w = .ok (a == b) w := fun d => by
    simp [Op.equalIn, run_underlying Tryd.underlying48, run_underlying Tryd.underlying66, typeInfo, hi, hcmp]
  simp only [binOp]
  simp [Op.equal, Op.maxDepth, h 9998]

/-- errors.Is(nil, the kind). -/
theorem is_nil (w : World) : Calls Tryd.prog 33 #[.nilIface, .iface 66 (.int .i64 1)] w fun e w' => e = .returned (.bool false) ∧ w' = w := by
  have hn := run_eql_iface_nil_left (P := Tryd.prog) w 66 (.int .i64 1) Tryd.underlying48
  go_enter Tryd.func33, Tryd.ntmps33
  go_wp2
  go_ret
  exact ⟨rfl, rfl⟩
theorem Tryd.comparableK (w : World) : ((ReflectliteType.method fun t => do Rtype.noPackHeld "Comparable" t; (fun a => Value.bool a.comparable) <$> typeInfo t) #[.agg #[.pointer (some ⟨1, 66, none⟩)]]).run Tryd.prog w = .ok (.bool true) w := by kernel_rfl

set_option maxHeartbeats 1000000 in
/-- errors.Is(the kind, the kind). -/
theorem is_kind (w : World) : Calls Tryd.prog 33 #[.iface 66 (.int .i64 1), .iface 66 (.int .i64 1)] w fun e w' => e = .returned (.bool true) ∧ w' = w := by
  have h8 := @run_callFunc_extern Tryd.prog 46 _ ReflectliteType.typeOf Tryd.func46 (by kernel_rfl) (by kernel_rfl) (by kernel_rfl) (by kernel_rfl)
  have h32 := @run_callFunc_extern Tryd.prog 99 _ (ReflectliteType.method fun t => do Rtype.noPackHeld "Comparable" t; pure (.bool (← typeInfo t).comparable)) Tryd.func99 (by kernel_rfl) (by kernel_rfl) (by kernel_rfl) (by kernel_rfl)
  have tT := Tryd.typeOfK
  have cT := Tryd.comparableK
  have mR : ∀ (h : Value) (w : World), (Go.method 264 93 (.agg #[h]) "Comparable").run Tryd.prog w = .ok (99, .agg #[h]) w := fun h w => by kernel_rfl
  have heq := eqlK
  go_enter Tryd.func33, Tryd.ntmps33
  go_wp2
  refine wp_loop_rounds 1 ?_
  rw [rounds_succ]
  go_wp2
  go_ret
  exact ⟨rfl, rfl⟩

set_option maxHeartbeats 1000000 in
/-- errors.Is(a fault of kind k, the kind). -/
theorem is_fault (s : ByteArray) (k : Int) (B : Bool) (hB : (k == 1) = B) (w : World) : Calls Tryd.prog 33 #[.iface 68 (.agg #[.string s, .int .i64 k]), .iface 66 (.int .i64 1)] w fun e w' => e = .returned (.bool B) ∧ Below w.heap.size w w' := by
  have h8 := @run_callFunc_extern Tryd.prog 46 _ ReflectliteType.typeOf Tryd.func46 (by kernel_rfl) (by kernel_rfl) (by kernel_rfl) (by kernel_rfl)
  have h32 := @run_callFunc_extern Tryd.prog 99 _ (ReflectliteType.method fun t => do Rtype.noPackHeld "Comparable" t; pure (.bool (← typeInfo t).comparable)) Tryd.func99 (by kernel_rfl) (by kernel_rfl) (by kernel_rfl) (by kernel_rfl)
  have tT := Tryd.typeOfK
  have cT := Tryd.comparableK
  have mR : ∀ (h : Value) (w : World), (Go.method 264 93 (.agg #[h]) "Comparable").run Tryd.prog w = .ok (99, .agg #[h]) w := fun h w => by kernel_rfl
  have heq := eqlK
  have nE := Tryd.noIsK
  have uE := Tryd.noUnwrapK
  have vE := Tryd.noUnwrapsK
  have nW := Tryd.noIsF
  have uW := Tryd.hasUnwrapF
  have mU : ∀ (v : Value) (w : World), (Go.method 264 68 v "Unwrap").run Tryd.prog w = .ok (96, v) w := fun v w => by kernel_rfl
  have hty := fun (v u : Value) (w : World) => run_eql_iface_types (P := Tryd.prog) 68 66 v u Tryd.underlying48 (by decide) w
  cases B
  · go_enter Tryd.func33, Tryd.ntmps33
    go_wp2
    refine wp_loop_rounds 2 ?_
    rw [rounds_succ]
    go_wp2_with (go_at_call 96; refine (unwrap_any s k _).mono ?_; rintro e w' ⟨rfl, rfl⟩)
    rw [rounds_succ]
    go_wp2
    go_ret
    exact ⟨rfl, (Below.refl _ _).alloc (Nat.le_refl _) _⟩
  · go_enter Tryd.func33, Tryd.ntmps33
    go_wp2
    refine wp_loop_rounds 2 ?_
    rw [rounds_succ]
    go_wp2_with (go_at_call 96; refine (unwrap_any s k _).mono ?_; rintro e w' ⟨rfl, rfl⟩)
    rw [rounds_succ]
    go_wp2
    go_ret
    exact ⟨rfl, (Below.refl _ _).alloc (Nat.le_refl _) _⟩
end Go.Proofs.YtiojjihonmonkaaDoor
namespace Go.Proofs.YtiojjihonmonkaaDoor
open Go.RowKit
set_option linter.unusedSimpArgs false
set_option linter.unusedVariables false

set_option maxHeartbeats 1000000 in
theorem tell_bad (d E : Value) (w : World) (Q : Int) (mo : Option Nat) (hd : d = .agg #[.int .i64 Q, .map mo])
    (hIs : ∀ w, Calls Tryd.prog 33 #[E, .iface 66 (.int .i64 1)] w fun e w' => e = .returned (.bool true) ∧ Below w.heap.size w w') :
    Calls Tryd.prog 14 #[d, E] w fun e w' => e = .returned (.tuple #[.agg #[.int .i64 0, .slice none 0 0], .int .i64 1]) ∧ Below w.heap.size w w' := by
  subst hd
  have hB : Below w.heap.size w ((w.alloc (.cells #[.int .i64 Q, .map mo] 46)).alloc (.cells #[.int .i64 0, .slice none 0 0] 25)) := ((Below.refl _ _).alloc (Nat.le_refl _) _).alloc (by simp) _
  have Z0 := QAt.new (w.alloc (.cells #[.int .i64 Q, .map mo] 46)) 0 (.slice none 0 0) 25
  rw [World.size_alloc] at Z0
  have zf : ∀ j, ((w.alloc (.cells #[.int .i64 Q, .map mo] 46)).alloc (.cells #[.int .i64 0, .slice none 0 0] 25)).frozen? ⟨w.heap.size + 1, j, none⟩ = false := fun j => by simp [go_sem]
  go_enter Tryd.func14, Tryd.ntmps14
  go_wp2_with fail
  refine (hIs _).mono ?_
  rintro e w1 ⟨rfl, hb1⟩
  have zf1 : ∀ j, w1.frozen? ⟨w.heap.size + 1, j, none⟩ = false := fun j => (hb1.frozen (p := ⟨w.heap.size + 1, j, none⟩) (by simp)).trans (zf j)
  obtain ⟨lz, z0, z1⟩ := Z0.keep hb1
  have bw1 : Below w.heap.size w w1 := hB.trans (hb1.mono (by simp; omega))
  clear hb1 hB Z0 zf
  go_wp2
  refine bodyPost_ret (v := .tuple #[.agg #[.int .i64 0, .slice none 0 0], .int .i64 1]) (by simp [results, Tryd.results14, go_sem, z0, z1]) rfl ⟨rfl, ?_⟩
  exact (bw1.setCell (Nat.le_succ _) _).setCell (Nat.le_succ _) _

theorem row_slice {w : World} {base n : Nat} {v : Value} {xs : List Value} (h : w.ownsRow base 35 3 v n xs) : ∃ p c, v = .slice p n c := by
  rcases h.2 with ⟨rfl, rfl⟩ | ⟨g, cap, cur, rfl, _⟩
  · exact ⟨none, 0, rfl⟩
  · exact ⟨_, cap, rfl⟩
theorem row_base {w : World} {base base' n : Nat} {v : Value} {xs : List Value} (h : w.ownsRow base' 35 3 v n xs) (hb : base ≤ base') : w.ownsRow base 35 3 v n xs := by
  rcases h with ⟨h0, h1 | ⟨g, cap, cur, rfl, hbg, h2⟩⟩
  · exact ⟨h0, .inl h1⟩
  · exact ⟨h0, .inr ⟨g, cap, cur, rfl, Nat.le_trans hb hbg, h2⟩⟩
/-- What tell leaves behind what is not a fault of goodness. -/
def TellOut (Q c : Int) (L : List (FT × Nat)) (w : World) (e : Ending) (w' : World) : Prop :=
  ∃ (v : Value) (ys : List FT), e = .returned (.tuple #[.agg #[.int .i64 Q, v], .int .i64 c]) ∧ ys.Perm (L.map (·.1)) ∧ ys.Pairwise (fun x y => Op.bytesLess x.1.toList y.1.toList = true) ∧ w'.ownsRow (w.heap.size + 2) 35 3 v ys.length (ys.flatMap fenc) ∧ Below w.heap.size w w'

set_option maxHeartbeats 2000000 in
theorem tell_any (Q c : Int) (bm clock : Nat) (L : List (FT × Nat)) (E : Value) (w : World) (hE : ET w) (hM : MHas w bm L clock) (hL : L.length ≤ 1048576) (hsort : ∀ base, SortC base)
    (hIs : ∀ w, Calls Tryd.prog 33 #[E, .iface 66 (.int .i64 1)] w fun e w' => e = .returned (.bool false) ∧ Below w.heap.size w w')
    (hCo : ∀ w, ET w → Calls Tryd.prog 34 #[E] w fun e w' => e = .returned (.int .i64 c) ∧ Below w.heap.size w w') :
    Calls Tryd.prog 14 #[.agg #[.int .i64 Q, .map (some bm)], E] w fun e w' => TellOut Q c L w e w' := by
  have hB : Below w.heap.size w ((w.alloc (.cells #[.int .i64 Q, .map (some bm)] 46)).alloc (.cells #[.int .i64 0, .slice none 0 0] 25)) := ((Below.refl _ _).alloc (Nat.le_refl _) _).alloc (by simp) _
  have X0 : QAt ((w.alloc (.cells #[.int .i64 Q, .map (some bm)] 46)).alloc (.cells #[.int .i64 0, .slice none 0 0] 25)) w.heap.size Q (.map (some bm)) := (QAt.new w Q (.map (some bm)) 46).keep ((Below.refl _ _).alloc (Nat.le_refl _) _)
  have Z0 := QAt.new (w.alloc (.cells #[.int .i64 Q, .map (some bm)] 46)) 0 (.slice none 0 0) 25
  rw [World.size_alloc] at Z0
  have zf : ∀ j, ((w.alloc (.cells #[.int .i64 Q, .map (some bm)] 46)).alloc (.cells #[.int .i64 0, .slice none 0 0] 25)).frozen? ⟨w.heap.size + 1, j, none⟩ = false := fun j => by simp [go_sem]
  go_enter Tryd.func14, Tryd.ntmps14
  go_wp2_with fail
  refine (hIs _).mono ?_
  rintro e w1 ⟨rfl, hb1⟩
  have X1 := X0.keep hb1
  have Z1 := Z0.keep hb1
  have zf1 : ∀ j, w1.frozen? ⟨w.heap.size + 1, j, none⟩ = false := fun j => (hb1.frozen (p := ⟨w.heap.size + 1, j, none⟩) (by simp)).trans (zf j)
  have bw1 : Below w.heap.size w w1 := hB.trans (hb1.mono (by simp; omega))
  clear hb1 hB X0 Z0 zf
  have hM1 := hM.keep bw1
  have hE1 := hE.keep bw1
  obtain ⟨lx, x0, x1⟩ := id X1
  have lz := Z1.lt
  go_wp2
  go_region_held3 (fun w' => w'.cell? ⟨w.heap.size, 0, none⟩ = some (.int .i64 Q) ∧ w'.cell? ⟨w.heap.size, 1, none⟩ = some (.map (some bm))) (go_keep) (first | (go_at_call 31; refine (rising_any Q bm clock L _ (hM1.keep (Below.refl _ _).drew) hL (hsort _)).mono ?_; rintro e w2 ⟨v, ys, rfl, hp, hs, ho, hb2⟩; obtain ⟨vp, vc, rfl⟩ := row_slice ho; have hb2' := (Below.refl _ w1).drew.trans hb2; have X2 := X1.keep hb2'; have Z2 := Z1.keep hb2'; have zf2 : ∀ j, w2.frozen? ⟨w.heap.size + 1, j, none⟩ = false := fun j => (hb2'.frozen (p := ⟨w.heap.size + 1, j, none⟩) lz).trans (zf1 j); have bw2 : Below w.heap.size w w2 := bw1.trans (hb2'.mono bw1.size); have hE2 := hE1.keep hb2'; obtain ⟨lx2, y0, y1⟩ := id X2; clear hb2') | (go_at_call 34; refine (hCo _ hE2).mono ?_; rintro e w3 ⟨rfl, hb3⟩; have X3 := X2.keep hb3; have Z3 := Z2.keep hb3; have zf3 : ∀ j, w3.frozen? ⟨w.heap.size + 1, j, none⟩ = false := fun j => (hb3.frozen (p := ⟨w.heap.size + 1, j, none⟩) Z2.lt).trans (zf2 j); have bw3 : Below w.heap.size w w3 := bw2.trans (hb3.mono bw2.size); obtain ⟨lx3, u0, u1⟩ := id X3; obtain ⟨lz3, v0, v1⟩ := id Z3))
  have ho3 := row_low (row_base ho (show w.heap.size + 2 ≤ w1.drew.heap.size + 2 by have := bw1.size; show w.heap.size + 2 ≤ w1.heap.size + 2; omega)) (fun j h1 h2 => hb3.block j h2)
  have ho4 : ((w3.setCell ⟨w.heap.size + 1, 0, none⟩ (.int .i64 Q)).setCell ⟨w.heap.size + 1, 1, none⟩ (.slice vp ys.length vc)).ownsRow (w.heap.size + 2) 35 3 (.slice vp ys.length vc) ys.length (ys.flatMap fenc) := row_low ho3 (fun j h1 h2 => by rw [Below.heap_setCell _ _ _ _ (by show j ≠ w.heap.size + 1; omega), Below.heap_setCell _ _ _ _ (by show j ≠ w.heap.size + 1; omega)])
  go_wp2
  refine bodyPost_ret (v := .tuple #[.agg #[.int .i64 Q, .slice vp ys.length vc], .int .i64 c]) (by simp [results, Tryd.results14, go_sem, v0, v1]) rfl ?_
  exact ⟨_, ys, rfl, hp, hs, ho4, (bw3.setCell (Nat.le_succ _) _).setCell (Nat.le_succ _) _⟩
end Go.Proofs.YtiojjihonmonkaaDoor
