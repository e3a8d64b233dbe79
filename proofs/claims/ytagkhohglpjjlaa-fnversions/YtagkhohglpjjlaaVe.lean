/- A version and an edit, drawn. -/
import Derived.Test.YtagkhohglpjjlaaVd
namespace Go.Proofs.Ytagkhohglpjjlaa
open Go.RowKit
set_option linter.unusedSimpArgs false
set_option linter.unusedVariables false

theorem step_storeE2 {w : World} {ops : Array Oper} {o : Oper} {a : Act} {K : Act → World → Prop} {Q : Exit → Act → World → Prop} {E : Prop} (hgd : o.guard = none) (k j : Nat)
    (ho : o.op = .store 29 (.tmp k) (.tmp j)) (b : Nat) (nx lg sq : Int) (da : Option Addr) (dn dc : Nat) (aa : Option Addr) (an ac : Nat) (hx : a.eval (.tmp k) = .pointer (some ⟨b, 0, none⟩)) (hv : a.eval (.tmp j) = .agg #[.int .i64 nx, .int .i64 lg, .int .i64 sq, .slice da dn dc, .slice aa an ac]) (hz : EX w b 0 0 0 (.slice none 0 0) (.slice none 0 0)) (hf : ∀ i, w.frozen? ⟨b, i, none⟩ = false)
    (h : K (a.put o.dst undef) (((((w.setCell ⟨b, 0, none⟩ (.int .i64 nx)).setCell ⟨b, 1, none⟩ (.int .i64 lg)).setCell ⟨b, 2, none⟩ (.int .i64 sq)).setCell ⟨b, 3, none⟩ (.slice da dn dc)).setCell ⟨b, 4, none⟩ (.slice aa an ac))) :
    if Region.wanted o (yielded ops a.tmps) = true then Oper.wp Try.prog o a w K Q else E := by
  have hw : Region.wanted o (yielded ops a.tmps) = true := by simp [Region.wanted, hgd]
  rw [if_pos hw]
  have hx' : a.tmps.getD k undef = .pointer (some ⟨b, 0, none⟩) := hx
  have hv' : a.tmps.getD j undef = .agg #[.int .i64 nx, .int .i64 lg, .int .i64 sq, .slice da dn dc, .slice aa an ac] := hv
  obtain ⟨_, h0, h1, h2, h3, h4⟩ := hz
  have f0 := hf 0
  have f1 := hf 1
  have f2 := hf 2
  have f3 := hf 3
  have f4 := hf 4
  unfold Oper.wp execOp
  simp only [ho, Act.eval, hx', hv']
  go_simp
  exact h
theorem ex_put {w : World} {b : Nat} (hz : EX w b 0 0 0 (.slice none 0 0) (.slice none 0 0)) (nx lg sq : Int) (da : Option Addr) (dn dc : Nat) (aa : Option Addr) (an ac : Nat) : EX (((((w.setCell ⟨b, 0, none⟩ (.int .i64 nx)).setCell ⟨b, 1, none⟩ (.int .i64 lg)).setCell ⟨b, 2, none⟩ (.int .i64 sq)).setCell ⟨b, 3, none⟩ (.slice da dn dc)).setCell ⟨b, 4, none⟩ (.slice aa an ac)) b nx lg sq (.slice da dn dc) (.slice aa an ac) := by
  obtain ⟨l, h0, h1, h2, h3, h4⟩ := hz
  refine ⟨by simpa using l, ?_, ?_, ?_, ?_, ?_⟩ <;> simp [go_sem, h0, h1, h2, h3, h4]
theorem oth5 (w : World) (b : Nat) (v0 v1 v2 v3 v4 : Value) : Others b w (((((w.setCell ⟨b, 0, none⟩ v0).setCell ⟨b, 1, none⟩ v1).setCell ⟨b, 2, none⟩ v2).setCell ⟨b, 3, none⟩ v3).setCell ⟨b, 4, none⟩ v4) := (oth4 w b v0 v1 v2 v3).trans (Others.setCell _ _ _ _)
/-- A version and an edit, drawn. -/
def DaO (w : World) (e : Ending) (w' : World) : Prop :=
  ∃ (vx vl vs : Int) (lo : Option Addr) (N lc : Nat) (LL : Nat → List Met) (nx lg sq : Int) (da aa : Option Addr) (dc ac : Nat) (Dl : List Int) (Al : List Adm) (b7 : Nat), e = .returned (.tuple #[.agg #[.int .i64 vx, .int .i64 vl, .int .i64 vs, .slice lo N lc], .agg #[.int .i64 nx, .int .i64 lg, .int .i64 sq, .slice da Dl.length dc, .slice aa Al.length ac]]) ∧ N ≤ 3 ∧ VRow w' lo N (fun i => mL (LL i)) (fun i => (LL i).length) ∧ (∀ i, i < N → (LL i).length ≤ 20) ∧ (-2000000000 ≤ vx ∧ vx ≤ 2000000000) ∧ Dl.length ≤ 4000 ∧ Al.length ≤ 10 ∧ OwnI w' b7 (.slice da Dl.length dc) Dl ∧ OwnD w' b7 (.slice aa Al.length ac) Al ∧ Below w.heap.size w w'

set_option maxRecDepth 100000 in
set_option maxHeartbeats 8000000 in
theorem drawApplyEdit_any (ao : Option Addr) (n cap : Nat) (f : Nat → Int) (w : World) (hr : Row w ao n f) (hn : n ≤ 1048576) :
    Calls Try.prog 4 #[.slice ao n cap] w fun e w' => DaO w e w' := by
  have b1 := below_new w (.cells #[.int .i64 0, .int .i64 0, .int .i64 0, .slice none 0 0] 25)
  have A1 := VX.new w 0 0 0 none 0 0 25
  have F1 : ∀ j, (w.alloc (.cells #[.int .i64 0, .int .i64 0, .int .i64 0, .slice none 0 0] 25)).frozen? ⟨w.heap.size, j, none⟩ = false := fun j => by simp [go_sem]
  have s1 : (w.alloc (.cells #[.int .i64 0, .int .i64 0, .int .i64 0, .slice none 0 0] 25)).heap.size = w.heap.size + 1 := by simp
  go_enter Try.func4, Try.ntmps4
  go_wp2_with fail
  generalize w.alloc (.cells #[.int .i64 0, .int .i64 0, .int .i64 0, .slice none 0 0] 25) = wa at *
  have b2 := below_new wa (.cells #[.int .i64 0, .int .i64 0, .int .i64 0, .slice none 0 0, .slice none 0 0] 29)
  have X2 := EX.new wa 0 0 0 (.slice none 0 0) (.slice none 0 0) 29
  have Y2 : ∀ j, (wa.alloc (.cells #[.int .i64 0, .int .i64 0, .int .i64 0, .slice none 0 0, .slice none 0 0] 29)).frozen? ⟨wa.heap.size, j, none⟩ = false := fun j => by simp [go_sem]
  have s2 : (wa.alloc (.cells #[.int .i64 0, .int .i64 0, .int .i64 0, .slice none 0 0, .slice none 0 0] 29)).heap.size = w.heap.size + 2 := by simp [s1]
  rw [s1] at X2 Y2
  have A2 := A1.keep b2
  have F2 := froz_keep F1 A1.lt b2
  have bw2 := b1.trans (b2.mono b1.size)
  clear A1 F1 b1 b2
  generalize wa.alloc (.cells #[.int .i64 0, .int .i64 0, .int .i64 0, .slice none 0 0, .slice none 0 0] 29) = wb at *
  have b3 := below_new wb (.cells #[.slice ao n cap, .int .i64 0, .int .u64 0] 43)
  have C3 : CS (wb.alloc (.cells #[.slice ao n cap, .int .i64 0, .int .u64 0] 43)) (wb.alloc (.cells #[.slice ao n cap, .int .i64 0, .int .u64 0] 43)) wb.heap.size ao n cap f 0 := ⟨⟨0, 0, Nat.le_refl _, cu_new wb _ 43⟩, cb_new (hr.keep bw2) _, grown_refl _ _, by simp, hn⟩
  have s3 : (wb.alloc (.cells #[.slice ao n cap, .int .i64 0, .int .u64 0] 43)).heap.size = w.heap.size + 3 := by simp [s2]
  rw [s2] at C3
  have A3 := A2.keep b3
  have F3 := froz_keep F2 A2.lt b3
  have X3 := X2.keep b3
  have Y3 := froz_keep Y2 X2.lt b3
  have bw3 := bw2.trans (b3.mono bw2.size)
  clear A2 F2 X2 Y2 bw2 b3 s1
  generalize wb.alloc (.cells #[.slice ao n cap, .int .i64 0, .int .u64 0] 43) = w1 at *
  clear s2
  refine (version_any C3 (by omega)).mono ?_
  rintro e w3 ⟨vx, vl, vs, lo, N, lc, LL, rfl, hN, L3, hf, hb, K3⟩
  have A4 := vx_grown A3 K3.gr (by omega)
  have F4 := froz_grown F3 A3.lt K3.gr (by omega)
  have X4 := ex_grown X3 K3.gr (by omega)
  have Y4 := froz_grown Y3 X3.lt K3.gr (by omega)
  have z3 := K3.gr.size
  have bw4 : Below w.heap.size w w3 := bw3.grown K3.gr (by omega) (fun k e => by injection e with e; omega)
  have b5 := below_new w3 (.cells #[.int .i64 vx, .int .i64 vl, .int .i64 vs, .slice lo N lc] 25)
  have V5 := VX.new w3 vx vl vs lo N lc 25
  have s5 : (w3.alloc (.cells #[.int .i64 vx, .int .i64 vl, .int .i64 vs, .slice lo N lc] 25)).heap.size = w3.heap.size + 1 := by simp
  have A5 := A4.keep b5
  have F5 := froz_keep F4 A4.lt b5
  have X5 := X4.keep b5
  have Y5 := froz_keep Y4 X4.lt b5
  have L5 := L3.keep b5
  have C5 := K3.keep b5
  have bw5 := bw4.trans (b5.mono bw4.size)
  clear A3 F3 X3 Y3 A4 F4 X4 Y4 L3 K3 C3 b5 bw4 bw3
  go_upto_region 3 with fail
  generalize w3.alloc (.cells #[.int .i64 vx, .int .i64 vl, .int .i64 vs, .slice lo N lc] 25) = w4 at *
  generalize w3.heap.size = Vb at *
  have Vd := V5.keep (Below.refl _ w4).drew
  have Ad := A5.keep (Below.refl _ w4).drew
  have Fd := froz_keep F5 A5.lt (Below.refl _ w4).drew
  have Xd := X5.keep (Below.refl _ w4).drew
  have Yd := froz_keep Y5 X5.lt (Below.refl _ w4).drew
  have Ld := L5.keep (Below.refl _ w4).drew
  have Cd := C5.keep (Below.refl _ w4).drew
  have bwd : Below w.heap.size w w4.drew := bw5.drew
  clear V5 A5 F5 X5 Y5 L5 C5 bw5
  refine wp_region_w (fun W : World => W.cell? ⟨Vb, 0, none⟩ = some (.int .i64 vx) ∧ W.cell? ⟨Vb, 1, none⟩ = some (.int .i64 vl) ∧ W.cell? ⟨Vb, 2, none⟩ = some (.int .i64 vs) ∧ W.cell? ⟨Vb, 3, none⟩ = some (.slice lo N lc)) (fun _ => true) (by kernel_rfl) ?_
  change wpW _ _ _ _ _ _ 6 _ _ w4.drew
  obtain ⟨_, u0, u1, u2, u3⟩ := id Vd
  refine wpW_take 0 _ (.agg #[.int .i64 vx, .int .i64 vl, .int .i64 vs, .slice lo N lc]) rfl (by kernel_rfl) (by kernel_rfl) (by kernel_rfl) (fun _ _ _ h => h) (by kernel_rfl) (.inl ⟨rfl, fun w' hS' => by obtain ⟨s0, s1, s2, s3⟩ := hS'; go_simp⟩) ⟨u0, u1, u2, u3⟩ ?_
  simp only [Act.put, List.getElem_toArray, List.getElem_cons_succ, List.getElem_cons_zero, List.setIfInBounds_toArray, List.set_cons_zero, List.set_cons_succ]
  refine wpW_take 1 _ (.pointer (some ⟨w.heap.size + 2, 0, none⟩)) rfl (by kernel_rfl) (by kernel_rfl) (by kernel_rfl) (fun _ _ _ h => h) (by kernel_rfl) (.inl ⟨rfl, fun w' hS' => by go_simp⟩) ⟨u0, u1, u2, u3⟩ ?_
  simp only [Act.put, List.getElem_toArray, List.getElem_cons_succ, List.getElem_cons_zero, List.setIfInBounds_toArray, List.set_cons_zero, List.set_cons_succ]
  refine wpW_take 2 _ (.agg #[.int .i64 vx, .int .i64 vl, .int .i64 vs, .slice lo N lc]) rfl (by kernel_rfl) (by kernel_rfl) (by kernel_rfl) (fun _ _ _ h => h) (by kernel_rfl) (.inl ⟨rfl, fun w' hS' => by obtain ⟨s0, s1, s2, s3⟩ := hS'; go_simp⟩) ⟨u0, u1, u2, u3⟩ ?_
  simp only [Act.put, List.getElem_toArray, List.getElem_cons_succ, List.getElem_cons_zero, List.setIfInBounds_toArray, List.set_cons_zero, List.set_cons_succ]
  refine wpW_one 3 _ rfl (by kernel_rfl) (step_call rfl 12 #[.pointer (some ⟨w.heap.size + 2, 0, none⟩), .agg #[.int .i64 vx, .int .i64 vl, .int .i64 vs, .slice lo N lc]] _ (by go_simp) (edit_any vx vl vs lo N lc w1.heap.size LL Ld hN (by omega) hb.1 hb.2.1 hb.2.2 Cd.self (by omega)) ?_)
  rintro e w7 ⟨nx, lg, sq, da, aa, dc, ac, Dl, Al, rfl, hDl, hAl, hOI, hOD, K7⟩
  have V7 := vx_grown Vd K7.gr (by omega)
  have A7 := vx_grown Ad K7.gr (by omega)
  have F7 := froz_grown Fd Ad.lt K7.gr (by omega)
  have X7 := ex_grown Xd K7.gr (by omega)
  have Y7 := froz_grown Yd Xd.lt K7.gr (by omega)
  have L7 := Ld.grown K7.gr (fun k e => by injection e with e; omega)
  have s7 := K7.gr.size
  have bw7 : Below w.heap.size w w7 := bwd.grown K7.gr (by show w.heap.size ≤ w4.heap.size; omega) (fun k e => by injection e with e; omega)
  clear u0 u1 u2 u3
  obtain ⟨_, u0, u1, u2, u3⟩ := id V7
  refine ⟨_, rfl, fun _ => ⟨u0, u1, u2, u3⟩, ?_⟩
  simp only [Act.put, List.getElem_toArray, List.getElem_cons_succ, List.getElem_cons_zero, List.setIfInBounds_toArray, List.set_cons_zero, List.set_cons_succ]
  refine wpW_one 4 _ rfl (by kernel_rfl) (step_storeV rfl 2 11 rfl w.heap.size vx vl vs lo N lc rfl rfl A7 F7 ?_)
  have o8 := oth4 w7 w.heap.size (.int .i64 vx) (.int .i64 vl) (.int .i64 vs) (.slice lo N lc)
  have A8 := vx_put A7 vx vl vs lo N lc
  have V8 := vx_others V7 o8 (by omega)
  have X8 := ex_others X7 o8 (by omega)
  have Y8 := froz_others Y7 o8 (by omega)
  have L8 := L7.grown (others_gr o8) (fun k e => by injection e with e; omega)
  have OI8 := ownI_grown hOI (others_gr o8) (fun q e h2 => by injection e with e; have h3 := (hOI.own.lt q h2).1; have : w4.drew.heap.size = w4.heap.size := rfl; omega)
  have OD8 := ownD_grown hOD (others_gr o8) (fun q e h2 => by injection e with e; have h3 := (hOD.own.lt q h2).1; have : w4.drew.heap.size = w4.heap.size := rfl; omega)
  have bw8 : Below w.heap.size w ((((w7.setCell ⟨w.heap.size, 0, none⟩ (.int .i64 vx)).setCell ⟨w.heap.size, 1, none⟩ (.int .i64 vl)).setCell ⟨w.heap.size, 2, none⟩ (.int .i64 vs)).setCell ⟨w.heap.size, 3, none⟩ (.slice lo N lc)) := (((bw7.setCell (Nat.le_refl _) _).setCell (Nat.le_refl _) _).setCell (Nat.le_refl _) _).setCell (Nat.le_refl _) _
  have s8 := o8.size
  clear u0 u1 u2 u3
  obtain ⟨_, u0, u1, u2, u3⟩ := id V8
  refine ⟨fun _ => ⟨u0, u1, u2, u3⟩, ?_⟩
  simp only [Act.put, List.getElem_toArray, List.getElem_cons_succ, List.getElem_cons_zero, List.setIfInBounds_toArray, List.set_cons_zero, List.set_cons_succ]
  generalize (((w7.setCell ⟨w.heap.size, 0, none⟩ (.int .i64 vx)).setCell ⟨w.heap.size, 1, none⟩ (.int .i64 vl)).setCell ⟨w.heap.size, 2, none⟩ (.int .i64 vs)).setCell ⟨w.heap.size, 3, none⟩ (.slice lo N lc) = w8 at *
  refine wpW_one 5 _ rfl (by kernel_rfl) (step_storeE2 rfl 3 14 rfl (w.heap.size + 1) nx lg sq da Dl.length dc aa Al.length ac rfl rfl X8 Y8 ?_)
  have o9 := oth5 w8 (w.heap.size + 1) (.int .i64 nx) (.int .i64 lg) (.int .i64 sq) (.slice da Dl.length dc) (.slice aa Al.length ac)
  have X9 := ex_put X8 nx lg sq da Dl.length dc aa Al.length ac
  have A9 := vx_others A8 o9 (by omega)
  have V9 := vx_others V8 o9 (by omega)
  have L9 := L8.grown (others_gr o9) (fun k e => by injection e with e; omega)
  have OI9 := ownI_grown OI8 (others_gr o9) (fun q e h2 => by injection e with e; have h3 := (OI8.own.lt q h2).1; have : w4.drew.heap.size = w4.heap.size := rfl; omega)
  have OD9 := ownD_grown OD8 (others_gr o9) (fun q e h2 => by injection e with e; have h3 := (OD8.own.lt q h2).1; have : w4.drew.heap.size = w4.heap.size := rfl; omega)
  have bw9 : Below w.heap.size w (((((w8.setCell ⟨w.heap.size + 1, 0, none⟩ (.int .i64 nx)).setCell ⟨w.heap.size + 1, 1, none⟩ (.int .i64 lg)).setCell ⟨w.heap.size + 1, 2, none⟩ (.int .i64 sq)).setCell ⟨w.heap.size + 1, 3, none⟩ (.slice da Dl.length dc)).setCell ⟨w.heap.size + 1, 4, none⟩ (.slice aa Al.length ac)) := ((((bw8.setCell (Nat.le_succ _) _).setCell (Nat.le_succ _) _).setCell (Nat.le_succ _) _).setCell (Nat.le_succ _) _).setCell (Nat.le_succ _) _
  clear u0 u1 u2 u3
  obtain ⟨_, u0, u1, u2, u3⟩ := id V9
  refine ⟨fun _ => ⟨u0, u1, u2, u3⟩, ?_⟩
  refine wpW_done (by kernel_rfl) ?_
  simp only [Act.put, List.getElem_toArray, List.getElem_cons_succ, List.getElem_cons_zero, List.setIfInBounds_toArray, List.set_cons_zero, List.set_cons_succ]
  generalize ((((w8.setCell ⟨w.heap.size + 1, 0, none⟩ (.int .i64 nx)).setCell ⟨w.heap.size + 1, 1, none⟩ (.int .i64 lg)).setCell ⟨w.heap.size + 1, 2, none⟩ (.int .i64 sq)).setCell ⟨w.heap.size + 1, 3, none⟩ (.slice da Dl.length dc)).setCell ⟨w.heap.size + 1, 4, none⟩ (.slice aa Al.length ac) = w9 at *
  obtain ⟨_, a0, a1, a2, a3⟩ := id A9
  obtain ⟨_, x0, x1, x2, x3, x4⟩ := id X9
  go_wp2
  refine bodyPost_ret (v := .tuple #[.agg #[.int .i64 vx, .int .i64 vl, .int .i64 vs, .slice lo N lc], .agg #[.int .i64 nx, .int .i64 lg, .int .i64 sq, .slice da Dl.length dc, .slice aa Al.length ac]]) (by simp [results, Try.results4, go_sem, a0, a1, a2, a3, x0, x1, x2, x3, x4]) rfl ⟨vx, vl, vs, lo, N, lc, LL, nx, lg, sq, da, aa, dc, ac, Dl, Al, _, rfl, hN, L9.vrow, hf, hb.1, hDl, hAl, OI9, OD9, bw9⟩
end Go.Proofs.Ytagkhohglpjjlaa
