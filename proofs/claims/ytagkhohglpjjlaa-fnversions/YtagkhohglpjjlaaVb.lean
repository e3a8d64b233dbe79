/- An edit, drawn. -/
import Derived.Test.YtagkhohglpjjlaaVa
import Derived.Test.YtagkhohglpjjlaaAa
namespace Go.Proofs.Ytagkhohglpjjlaa
open Go.RowKit
set_option linter.unusedSimpArgs false
set_option linter.unusedVariables false

theorem step_storeE {w : World} {ops : Array Oper} {o : Oper} {a : Act} {K : Act → World → Prop} {Q : Exit → Act → World → Prop} {E : Prop} (hgd : o.guard = none) (k j : Nat)
    (ho : o.op = .store 29 (.tmp k) (.tmp j)) (b : Nat) (nx lg sq : Int) (hx : a.eval (.tmp k) = .pointer (some ⟨b, 0, none⟩)) (hv : a.eval (.tmp j) = .agg #[.int .i64 nx, .int .i64 lg, .int .i64 sq, .slice none 0 0, .slice none 0 0]) (hz : EX w b 0 0 0 (.slice none 0 0) (.slice none 0 0)) (hf : ∀ i, w.frozen? ⟨b, i, none⟩ = false)
    (h : K (a.put o.dst undef) (((((w.setCell ⟨b, 0, none⟩ (.int .i64 nx)).setCell ⟨b, 1, none⟩ (.int .i64 lg)).setCell ⟨b, 2, none⟩ (.int .i64 sq)).setCell ⟨b, 3, none⟩ (.slice none 0 0)).setCell ⟨b, 4, none⟩ (.slice none 0 0))) :
    if Region.wanted o (yielded ops a.tmps) = true then Oper.wp Try.prog o a w K Q else E := by
  have hw : Region.wanted o (yielded ops a.tmps) = true := by simp [Region.wanted, hgd]
  rw [if_pos hw]
  have hx' : a.tmps.getD k undef = .pointer (some ⟨b, 0, none⟩) := hx
  have hv' : a.tmps.getD j undef = .agg #[.int .i64 nx, .int .i64 lg, .int .i64 sq, .slice none 0 0, .slice none 0 0] := hv
  obtain ⟨_, h0, h1, h2, h3, h4⟩ := hz
  have f0 := hf 0
  have f1 := hf 1
  have f2 := hf 2
  have f3 := hf 3
  have f4 := hf 4
  unfold Oper.wp execOp
  simp only [ho, Act.eval, hx', hv']
  go_simp
  exact h
theorem step_storeL {w : World} {ops : Array Oper} {o : Oper} {a : Act} {K : Act → World → Prop} {Q : Exit → Act → World → Prop} {E : Prop} (hgd : o.guard = none) (k j : Nat)
    (ho : o.op = .store 27 (.tmp k) (.tmp j)) (b q : Nat) (va : Option Addr) (n c : Nat) (u : Value) (hx : a.eval (.tmp k) = .pointer (some ⟨b, q, none⟩)) (hv : a.eval (.tmp j) = .slice va n c) (hc : w.cell? ⟨b, q, none⟩ = some u) (hf : w.frozen? ⟨b, q, none⟩ = false) (h : K (a.put o.dst undef) (w.setCell ⟨b, q, none⟩ (.slice va n c))) :
    if Region.wanted o (yielded ops a.tmps) = true then Oper.wp Try.prog o a w K Q else E := by
  have hw : Region.wanted o (yielded ops a.tmps) = true := by simp [Region.wanted, hgd]
  rw [if_pos hw]
  have hx' : a.tmps.getD k undef = .pointer (some ⟨b, q, none⟩) := hx
  have hv' : a.tmps.getD j undef = .slice va n c := hv
  unfold Oper.wp execOp
  simp only [ho, Act.eval, hx', hv']
  go_simp
  exact h
theorem step_storeI {w : World} {ops : Array Oper} {o : Oper} {a : Act} {K : Act → World → Prop} {Q : Exit → Act → World → Prop} {E : Prop} (hgd : o.guard = none) (k j : Nat)
    (ho : o.op = .store 26 (.tmp k) (.tmp j)) (b q : Nat) (va : Option Addr) (n c : Nat) (u : Value) (hx : a.eval (.tmp k) = .pointer (some ⟨b, q, none⟩)) (hv : a.eval (.tmp j) = .slice va n c) (hc : w.cell? ⟨b, q, none⟩ = some u) (hf : w.frozen? ⟨b, q, none⟩ = false) (h : K (a.put o.dst undef) (w.setCell ⟨b, q, none⟩ (.slice va n c))) :
    if Region.wanted o (yielded ops a.tmps) = true then Oper.wp Try.prog o a w K Q else E := by
  have hw : Region.wanted o (yielded ops a.tmps) = true := by simp [Region.wanted, hgd]
  rw [if_pos hw]
  have hx' : a.tmps.getD k undef = .pointer (some ⟨b, q, none⟩) := hx
  have hv' : a.tmps.getD j undef = .slice va n c := hv
  unfold Oper.wp execOp
  simp only [ho, Act.eval, hx', hv']
  go_simp
  exact h

/-- What is there ahead of an edit. -/
structure QW (w w' : World) (CB : Nat) (ao : Option Addr) (n cap : Nat) (f : Nat → Int) (A : Nat) (vx vl vs : Int) (lo : Option Addr) (N lc : Nat) : Prop where
  C : CS w w' CB ao n cap f A
  V : VX w' w.heap.size vx vl vs lo N lc
  RA : EX w' (w.heap.size + 1) 0 0 0 (.slice none 0 0) (.slice none 0 0)
  RF : ∀ j, w'.frozen? ⟨w.heap.size + 1, j, none⟩ = false
  ne : w.heap.size + 2 ≤ w'.heap.size
section
variable {w w' w'' : World} {CB : Nat} {ao : Option Addr} {n cap : Nat} {f : Nat → Int} {A A' : Nat} {vx vl vs : Int} {lo : Option Addr} {N lc : Nat}
theorem QW.keep (h : QW w w' CB ao n cap f A vx vl vs lo N lc) (hb : Below w'.heap.size w' w'') : QW w w'' CB ao n cap f A vx vl vs lo N lc := ⟨h.C.keep hb, h.V.keep hb, h.RA.keep hb, froz_keep h.RF h.RA.lt hb, Nat.le_trans h.ne hb.size⟩
theorem QW.draw (h : QW w w' CB ao n cap f A vx vl vs lo N lc) (k : CS w' w'' CB ao n cap f A') : QW w w'' CB ao n cap f A' vx vl vs lo N lc := by
  have hl := h.C.lt
  exact ⟨h.C.trans k, h.V.same k.gr.size (k.gr.block _ h.V.lt (fun e => by injection e with e; omega)), ex_grown h.RA k.gr (by omega), froz_grown h.RF h.RA.lt k.gr (by omega), Nat.le_trans h.ne k.gr.size⟩
theorem edw_start {D : Nat} (h : QW w w' CB ao n cap f A vx vl vs lo N lc) (hz : EX w' D 0 0 0 (.slice none 0 0) (.slice none 0 0)) (hf : ∀ j, w'.frozen? ⟨D, j, none⟩ = false) (hD : w.heap.size + 2 ≤ D) (hDl : D < w'.heap.size) (x : Int) :
    EdW w (((((w'.setCell ⟨D, 0, none⟩ (.int .i64 vx)).setCell ⟨D, 1, none⟩ (.int .i64 vl)).setCell ⟨D, 2, none⟩ (.int .i64 (vs + x))).setCell ⟨D, 3, none⟩ (.slice none 0 0)).setCell ⟨D, 4, none⟩ (.slice none 0 0)) (w.heap.size + 1) D CB w'.heap.size ao n cap f A vx vl (vs + x) (.slice none 0 0) (.slice none 0 0) [] [] ∧ VX (((((w'.setCell ⟨D, 0, none⟩ (.int .i64 vx)).setCell ⟨D, 1, none⟩ (.int .i64 vl)).setCell ⟨D, 2, none⟩ (.int .i64 (vs + x))).setCell ⟨D, 3, none⟩ (.slice none 0 0)).setCell ⟨D, 4, none⟩ (.slice none 0 0)) w.heap.size vx vl vs lo N lc := by
  have ot : Others D w' (((((w'.setCell ⟨D, 0, none⟩ (.int .i64 vx)).setCell ⟨D, 1, none⟩ (.int .i64 vl)).setCell ⟨D, 2, none⟩ (.int .i64 (vs + x))).setCell ⟨D, 3, none⟩ (.slice none 0 0)).setCell ⟨D, 4, none⟩ (.slice none 0 0)) := ((((Others.setCell _ _ _ _).trans (Others.setCell _ _ _ _)).trans (Others.setCell _ _ _ _)).trans (Others.setCell _ _ _ _)).trans (Others.setCell _ _ _ _)
  obtain ⟨l, c0, c1, c2, c3, c4⟩ := hz
  have hn := h.ne
  refine ⟨⟨h.C.others ot (by omega), ex_others h.RA ot (by omega), fun j => (World.frozen?_of_block (w := w') (a := ⟨w.heap.size + 1, j, none⟩) (ot.block (w.heap.size + 1) (by omega))).trans (h.RF j), ⟨by simpa using l, ?_, ?_, ?_, ?_, ?_⟩, fun j => by simp only [World.frozen?_setCell]; exact hf j, ownI_nil _ _, ownD_nil _ _, (fun q e => by cases e), by rw [ot.size]; omega⟩, h.V.same (by rw [ot.size]; exact Nat.le_refl _) (ot.block w.heap.size (by omega))⟩
  all_goals simp [go_sem, c0, c1, c2, c3, c4]
end
theorem fin_step {w : World} {R CB base : Nat} {ao : Option Addr} {n cap : Nat} {f : Nat → Int} {A : Nat} {dv av : Value} {Dl : List Int} {Al : List Adm} (hR : w.heap.size ≤ R ∧ R < base) (W : World) (j : Nat) (v : Value) (h : OwnI W base dv Dl ∧ OwnD W base av Al ∧ CS w W CB ao n cap f A) : OwnI (W.setCell ⟨R, j, none⟩ v) base dv Dl ∧ OwnD (W.setCell ⟨R, j, none⟩ v) base av Al ∧ CS w (W.setCell ⟨R, j, none⟩ v) CB ao n cap f A := by
  have ot : Others R W (W.setCell ⟨R, j, none⟩ v) := Others.setCell _ _ _ _
  obtain ⟨hd, ha, hc⟩ := h
  exact ⟨ownI_grown hd (others_gr ot) (fun q e h2 => by injection e with e; have := (hd.own.lt q h2).1; omega), ownD_grown ha (others_gr ot) (fun q e h2 => by injection e with e; have := (ha.own.lt q h2).1; omega), hc.others ot (by omega)⟩
theorem ownI_low {w : World} {base base' : Nat} {v : Value} {L : List Int} (h : OwnI w base v L) (hb : base' ≤ base) : OwnI w base' v L := ⟨h.bd, ownsRow_mono h.own hb⟩
/-- An edit, drawn. -/
def EtO (CB : Nat) (ao : Option Addr) (n cap : Nat) (f : Nat → Int) (A : Nat) (w : World) (e : Ending) (w' : World) : Prop :=
  ∃ (nx lg sq : Int) (da aa : Option Addr) (dc ac : Nat) (Dl : List Int) (Al : List Adm), e = .returned (.agg #[.int .i64 nx, .int .i64 lg, .int .i64 sq, .slice da Dl.length dc, .slice aa Al.length ac]) ∧ Dl.length ≤ 4000 ∧ Al.length ≤ 10 ∧ OwnI w' w.heap.size (.slice da Dl.length dc) Dl ∧ OwnD w' w.heap.size (.slice aa Al.length ac) Al ∧ CS w w' CB ao n cap f (A + 4000)

set_option maxRecDepth 100000 in
set_option maxHeartbeats 16000000 in
theorem edit_any {w : World} {CB : Nat} {ao : Option Addr} {n cap : Nat} {f : Nat → Int} {A : Nat} (vx vl vs : Int) (lo : Option Addr) (N lc b0 : Nat) (LL : Nat → List Met) (hL : VL w b0 lo N LL) (hN : N ≤ 3) (hb0 : CB < b0) (hvx : -2000000000 ≤ vx ∧ vx ≤ 2000000000) (hvl : -2000000000 ≤ vl ∧ vl ≤ 2000000000) (hvs : -2000000000 ≤ vs ∧ vs ≤ 2000000000) (h : CS w w CB ao n cap f A) (hA : A ≤ 60000) :
    Calls Try.prog 12 #[.pointer (some ⟨CB, 0, none⟩), .agg #[.int .i64 vx, .int .i64 vl, .int .i64 vs, .slice lo N lc]] w fun e w' => EtO CB ao n cap f A w e w' := by
  have P0 : QW w ((w.alloc (.cells #[.int .i64 vx, .int .i64 vl, .int .i64 vs, .slice lo N lc] 25)).alloc (.cells #[.int .i64 0, .int .i64 0, .int .i64 0, .slice none 0 0, .slice none 0 0] 29)) CB ao n cap f A vx vl vs lo N lc := by
    have b1 := below_new w (.cells #[.int .i64 vx, .int .i64 vl, .int .i64 vs, .slice lo N lc] 25)
    have V1 := VX.new w vx vl vs lo N lc 25
    have s1 : (w.alloc (.cells #[.int .i64 vx, .int .i64 vl, .int .i64 vs, .slice lo N lc] 25)).heap.size = w.heap.size + 1 := by simp
    have C1 := h.keep b1
    generalize w.alloc (.cells #[.int .i64 vx, .int .i64 vl, .int .i64 vs, .slice lo N lc] 25) = w1 at *
    have b2 := below_new w1 (.cells #[.int .i64 0, .int .i64 0, .int .i64 0, .slice none 0 0, .slice none 0 0] 29)
    have X2 := EX.new w1 0 0 0 (.slice none 0 0) (.slice none 0 0) 29
    have F2 : ∀ j, (w1.alloc (.cells #[.int .i64 0, .int .i64 0, .int .i64 0, .slice none 0 0, .slice none 0 0] 29)).frozen? ⟨w1.heap.size, j, none⟩ = false := fun j => by simp [go_sem]
    rw [s1] at X2 F2
    exact ⟨C1.keep b2, V1.keep b2, X2, F2, by simp [s1]⟩
  go_enter Try.func12, Try.ntmps12
  go_upto_region 1 with fail
  generalize (w.alloc (.cells #[.int .i64 vx, .int .i64 vl, .int .i64 vs, .slice lo N lc] 25)).alloc (.cells #[.int .i64 0, .int .i64 0, .int .i64 0, .slice none 0 0, .slice none 0 0] 29) = w2 at P0 ⊢
  go_cut [5] from 11 to 20 (fun s5 wx => ∃ D base, s5 = .pointer (some ⟨D, 0, none⟩) ∧ w.heap.size < D ∧ (∃ sq, EdW w wx (w.heap.size + 1) D CB base ao n cap f (A + 1) vx vl sq (.slice none 0 0) (.slice none 0 0) [] []) ∧ VX wx w.heap.size vx vl vs lo N lc)
  case first =>
    refine wp_region_w (fun W : World => W.cell? ⟨w.heap.size, 0, none⟩ = some (.int .i64 vx) ∧ W.cell? ⟨w.heap.size, 1, none⟩ = some (.int .i64 vl) ∧ W.cell? ⟨w.heap.size, 2, none⟩ = some (.int .i64 vs)) (fun j => j != 11) (by kernel_rfl) ?_
    change wpW _ _ _ _ _ _ 12 _ _ w2.drew
    have Q0 := P0.keep (Below.refl _ w2).drew
    generalize w2.drew = W0 at Q0 ⊢
    obtain ⟨_, v0, v1, v2, v3⟩ := id Q0.V
    have hS0 : (fun W : World => W.cell? ⟨w.heap.size, 0, none⟩ = some (.int .i64 vx) ∧ W.cell? ⟨w.heap.size, 1, none⟩ = some (.int .i64 vl) ∧ W.cell? ⟨w.heap.size, 2, none⟩ = some (.int .i64 vs)) W0 := ⟨v0, v1, v2⟩
    refine wpW_take 0 _ (.pointer (some ⟨w.heap.size, 0, none⟩)) rfl (by kernel_rfl) (by kernel_rfl) (by kernel_rfl) (fun _ _ _ h => h) (by kernel_rfl) (.inl ⟨rfl, fun w' hS' => by go_simp⟩) hS0 ?_
    simp only [Act.put, List.getElem_toArray, List.getElem_cons_succ, List.getElem_cons_zero, List.setIfInBounds_toArray, List.set_cons_zero, List.set_cons_succ]
    refine wpW_take 1 _ (.int .i64 vx) rfl (by kernel_rfl) (by kernel_rfl) (by kernel_rfl) (fun _ _ _ h => h) (by kernel_rfl) (.inl ⟨rfl, fun w' hS' => by obtain ⟨s0, s1, s2⟩ := hS'; go_simp⟩) hS0 ?_
    simp only [Act.put, List.getElem_toArray, List.getElem_cons_succ, List.getElem_cons_zero, List.setIfInBounds_toArray, List.set_cons_zero, List.set_cons_succ]
    refine wpW_take 2 _ (.pointer (some ⟨w.heap.size, 1, none⟩)) rfl (by kernel_rfl) (by kernel_rfl) (by kernel_rfl) (fun _ _ _ h => h) (by kernel_rfl) (.inl ⟨rfl, fun w' hS' => by go_simp⟩) hS0 ?_
    simp only [Act.put, List.getElem_toArray, List.getElem_cons_succ, List.getElem_cons_zero, List.setIfInBounds_toArray, List.set_cons_zero, List.set_cons_succ]
    refine wpW_take 3 _ (.int .i64 vl) rfl (by kernel_rfl) (by kernel_rfl) (by kernel_rfl) (fun _ _ _ h => h) (by kernel_rfl) (.inl ⟨rfl, fun w' hS' => by obtain ⟨s0, s1, s2⟩ := hS'; go_simp⟩) hS0 ?_
    simp only [Act.put, List.getElem_toArray, List.getElem_cons_succ, List.getElem_cons_zero, List.setIfInBounds_toArray, List.set_cons_zero, List.set_cons_succ]
    refine wpW_take 4 _ (.pointer (some ⟨w.heap.size, 2, none⟩)) rfl (by kernel_rfl) (by kernel_rfl) (by kernel_rfl) (fun _ _ _ h => h) (by kernel_rfl) (.inl ⟨rfl, fun w' hS' => by go_simp⟩) hS0 ?_
    simp only [Act.put, List.getElem_toArray, List.getElem_cons_succ, List.getElem_cons_zero, List.setIfInBounds_toArray, List.set_cons_zero, List.set_cons_succ]
    refine wpW_take 5 _ (.int .i64 vs) rfl (by kernel_rfl) (by kernel_rfl) (by kernel_rfl) (fun _ _ _ h => h) (by kernel_rfl) (.inl ⟨rfl, fun w' hS' => by obtain ⟨s0, s1, s2⟩ := hS'; go_simp⟩) hS0 ?_
    simp only [Act.put, List.getElem_toArray, List.getElem_cons_succ, List.getElem_cons_zero, List.setIfInBounds_toArray, List.set_cons_zero, List.set_cons_succ]
    refine wpW_take 6 _ (.pointer (some ⟨CB, 0, none⟩)) rfl (by kernel_rfl) (by kernel_rfl) (by kernel_rfl) (fun _ _ _ h => h) (by kernel_rfl) (.inl ⟨rfl, fun w' hS' => by go_simp⟩) hS0 ?_
    simp only [Act.put, List.getElem_toArray, List.getElem_cons_succ, List.getElem_cons_zero, List.setIfInBounds_toArray, List.set_cons_zero, List.set_cons_succ]
    refine wpW_two 7 10 _ _ rfl rfl (by kernel_rfl) (step_call rfl 31 #[.pointer (some ⟨CB, 0, none⟩), .int .i64 5] _ (by go_simp) (pick_s 5 (by omega) Q0.C.self (by omega)) ?_) (step_val rfl (.pointer (some ⟨W0.heap.size, 0, none⟩)) (w' := W0.alloc (.cells #[.int .i64 0, .int .i64 0, .int .i64 0, .slice none 0 0, .slice none 0 0] 29)) (by go_simp) ?_)
    · rintro e w9 ⟨x, rfl, x0, x1, K9⟩
      have hWs := Q0.C.gr.size
      have hq1 := Q0.ne
      have Q9' := Q0.draw K9
      have hwx : IntKind.i64.wrap (vs + x) = vs + x := by rw [IntKind.wrap_i64] <;> omega
      obtain ⟨_, v0, v1, v2, v3⟩ := id Q9'.V
      refine ⟨_, rfl, fun _ => ⟨v0, v1, v2⟩, ?_⟩
      simp only [Act.put, List.getElem_toArray, List.getElem_cons_succ, List.getElem_cons_zero, List.setIfInBounds_toArray, List.set_cons_zero, List.set_cons_succ]
      refine wpW_take 8 _ (.int .i64 (vs + x)) rfl (by kernel_rfl) (by kernel_rfl) (by kernel_rfl) (fun _ _ _ h => h) (by kernel_rfl) (.inl ⟨rfl, fun w' hS' => by go_simp⟩) ⟨v0, v1, v2⟩ ?_
      simp only [Act.put, List.getElem_toArray, List.getElem_cons_succ, List.getElem_cons_zero, List.setIfInBounds_toArray, List.set_cons_zero, List.set_cons_succ]
      refine wpW_take 9 _ (.agg #[.int .i64 vx, .int .i64 vl, .int .i64 (vs + x), .slice none 0 0, .slice none 0 0]) rfl (by kernel_rfl) (by kernel_rfl) (by kernel_rfl) (fun _ _ _ h => h) (by kernel_rfl) (.inl ⟨rfl, fun w' hS' => by go_simp⟩) ⟨v0, v1, v2⟩ ?_
      simp only [Act.put, List.getElem_toArray, List.getElem_cons_succ, List.getElem_cons_zero, List.setIfInBounds_toArray, List.set_cons_zero, List.set_cons_succ]
      have bz := below_new w9 (.cells #[.int .i64 0, .int .i64 0, .int .i64 0, .slice none 0 0, .slice none 0 0] 29)
      have Z9 := EX.new w9 0 0 0 (.slice none 0 0) (.slice none 0 0) 29
      have F9 : ∀ j, (w9.alloc (.cells #[.int .i64 0, .int .i64 0, .int .i64 0, .slice none 0 0, .slice none 0 0] 29)).frozen? ⟨w9.heap.size, j, none⟩ = false := fun j => by simp [go_sem]
      have Q9 := Q9'.keep bz
      have s9 := K9.gr.size
      clear v0 v1 v2 v3
      obtain ⟨_, v0, v1, v2, v3⟩ := id Q9.V
      refine wpW_one 10 _ rfl (by kernel_rfl) (step_val rfl (.pointer (some ⟨w9.heap.size, 0, none⟩)) (w' := w9.alloc (.cells #[.int .i64 0, .int .i64 0, .int .i64 0, .slice none 0 0, .slice none 0 0] 29)) (by go_simp) ?_)
      refine ⟨fun _ => ⟨v0, v1, v2⟩, ?_⟩
      simp only [Act.put, List.getElem_toArray, List.getElem_cons_succ, List.getElem_cons_zero, List.setIfInBounds_toArray, List.set_cons_zero, List.set_cons_succ]
      have hsz : (w9.alloc (.cells #[.int .i64 0, .int .i64 0, .int .i64 0, .slice none 0 0, .slice none 0 0] 29)).heap.size = w9.heap.size + 1 := by simp
      generalize w9.alloc (.cells #[.int .i64 0, .int .i64 0, .int .i64 0, .slice none 0 0, .slice none 0 0] 29) = W1 at Z9 F9 Q9 v0 v1 v2 v3 hsz ⊢
      obtain ⟨X9, V9⟩ := edw_start Q9 Z9 F9 (by omega) (by omega) x
      refine wpW_one 11 _ rfl (by kernel_rfl) (step_storeE rfl 5 20 rfl w9.heap.size vx vl (vs + x) rfl rfl Z9 F9 ?_)
      refine ⟨fun h => absurd h (by decide), ?_⟩
      refine wpW_done (by kernel_rfl) ?_
      simp only [Act.put, List.getElem_toArray, List.getElem_cons_succ, List.getElem_cons_zero, List.setIfInBounds_toArray, List.set_cons_zero, List.set_cons_succ]
      go_wp2
      go_meet
      exact ⟨w9.heap.size, _, rfl, by omega, ⟨_, X9⟩, V9⟩
    · have bz := below_new W0 (.cells #[.int .i64 0, .int .i64 0, .int .i64 0, .slice none 0 0, .slice none 0 0] 29)
      have Z0 := EX.new W0 0 0 0 (.slice none 0 0) (.slice none 0 0) 29
      have F0 : ∀ j, (W0.alloc (.cells #[.int .i64 0, .int .i64 0, .int .i64 0, .slice none 0 0, .slice none 0 0] 29)).frozen? ⟨W0.heap.size, j, none⟩ = false := fun j => by simp [go_sem]
      have Q1 := Q0.keep bz
      obtain ⟨_, v0, v1, v2, v3⟩ := id Q1.V
      refine ⟨fun _ => ⟨v0, v1, v2⟩, ?_⟩
      simp only [Act.put, List.getElem_toArray, List.getElem_cons_succ, List.getElem_cons_zero, List.setIfInBounds_toArray, List.set_cons_zero, List.set_cons_succ]
      have hsz : (W0.alloc (.cells #[.int .i64 0, .int .i64 0, .int .i64 0, .slice none 0 0, .slice none 0 0] 29)).heap.size = W0.heap.size + 1 := by simp
      generalize W0.alloc (.cells #[.int .i64 0, .int .i64 0, .int .i64 0, .slice none 0 0, .slice none 0 0] 29) = W1 at Z0 F0 Q1 v0 v1 v2 v3 hsz ⊢
      refine wpW_one 7 _ rfl (by kernel_rfl) (step_call rfl 31 #[.pointer (some ⟨CB, 0, none⟩), .int .i64 5] _ (by go_simp) (pick_s 5 (by omega) Q1.C.self (by omega)) ?_)
      rintro e w9 ⟨x, rfl, x0, x1, K9⟩
      have hl9 := Q1.C.lt
      have hq1 := Q0.ne
      have hWs := Q0.C.gr.size
      have Q9 := Q1.draw K9
      have Z9 := ex_grown Z0 K9.gr (by omega)
      have F9 := froz_grown F0 Z0.lt K9.gr (by omega)
      have s9 := K9.gr.size
      have hwx : IntKind.i64.wrap (vs + x) = vs + x := by rw [IntKind.wrap_i64] <;> omega
      obtain ⟨_, v0, v1, v2, v3⟩ := id Q9.V
      refine ⟨_, rfl, fun _ => ⟨v0, v1, v2⟩, ?_⟩
      simp only [Act.put, List.getElem_toArray, List.getElem_cons_succ, List.getElem_cons_zero, List.setIfInBounds_toArray, List.set_cons_zero, List.set_cons_succ]
      refine wpW_take 8 _ (.int .i64 (vs + x)) rfl (by kernel_rfl) (by kernel_rfl) (by kernel_rfl) (fun _ _ _ h => h) (by kernel_rfl) (.inl ⟨rfl, fun w' hS' => by go_simp⟩) ⟨v0, v1, v2⟩ ?_
      simp only [Act.put, List.getElem_toArray, List.getElem_cons_succ, List.getElem_cons_zero, List.setIfInBounds_toArray, List.set_cons_zero, List.set_cons_succ]
      refine wpW_take 9 _ (.agg #[.int .i64 vx, .int .i64 vl, .int .i64 (vs + x), .slice none 0 0, .slice none 0 0]) rfl (by kernel_rfl) (by kernel_rfl) (by kernel_rfl) (fun _ _ _ h => h) (by kernel_rfl) (.inl ⟨rfl, fun w' hS' => by go_simp⟩) ⟨v0, v1, v2⟩ ?_
      simp only [Act.put, List.getElem_toArray, List.getElem_cons_succ, List.getElem_cons_zero, List.setIfInBounds_toArray, List.set_cons_zero, List.set_cons_succ]
      obtain ⟨X9, V9⟩ := edw_start Q9 Z9 F9 (by omega) (by omega) x
      refine wpW_one 11 _ rfl (by kernel_rfl) (step_storeE rfl 5 20 rfl W0.heap.size vx vl (vs + x) rfl rfl Z9 F9 ?_)
      refine ⟨fun h => absurd h (by decide), ?_⟩
      refine wpW_done (by kernel_rfl) ?_
      simp only [Act.put, List.getElem_toArray, List.getElem_cons_succ, List.getElem_cons_zero, List.setIfInBounds_toArray, List.set_cons_zero, List.set_cons_succ]
      go_wp2
      go_meet
      exact ⟨W0.heap.size, _, rfl, by omega, ⟨_, X9⟩, V9⟩
  case rest =>
    obtain ⟨D, base, rfl, hwD, ⟨sq, G⟩, V⟩ := hcut
    clear P0
    have hn0 := G.ne
    have hCl := G.C.lt
    go_wp2_with fail
    refine (one_s 3 (by omega) G.C.self (by omega)).mono ?_
    rintro e w3 ⟨b3, rfl, K3⟩
    have G3 := G.draw K3
    have V3 := V.same K3.gr.size (K3.gr.block _ V.lt (fun e => by injection e with e; omega))
    clear G K3 V
    go_upto_if 22 with fail
    go_cut [5] from 23 to 29 (fun s5 wx => s5 = .pointer (some ⟨D, 0, none⟩) ∧ ∃ nx lg, (-2000000000 ≤ nx ∧ nx ≤ 2000000001) ∧ EdW w wx (w.heap.size + 1) D CB base ao n cap f (A + 2) nx lg sq (.slice none 0 0) (.slice none 0 0) [] [] ∧ VX wx w.heap.size vx vl vs lo N lc)
    case first =>
      cases b3
      · go_wp2
        go_meet
        exact ⟨rfl, vx, vl, by omega, G3, V3⟩
      · have GX := (G3.set1 vx).set0 (vx + 1)
        have hVD : w.heap.size ≠ D := by omega
        have VX3 : VX ((w3.setCell ⟨D, 1, none⟩ (.int .i64 vx)).setCell ⟨D, 0, none⟩ (.int .i64 (vx + 1))) w.heap.size vx vl vs lo N lc := by
          have ot : Others D w3 ((w3.setCell ⟨D, 1, none⟩ (.int .i64 vx)).setCell ⟨D, 0, none⟩ (.int .i64 (vx + 1))) := (Others.setCell _ _ _ _).trans (Others.setCell _ _ _ _)
          exact V3.same (by rw [ot.size]; exact Nat.le_refl _) (ot.block w.heap.size hVD)
        obtain ⟨_, u0, u1, u2, u3, u4⟩ := id G3.DA
        have uf := G3.DF
        have hwv : IntKind.i64.wrap (vx + 1) = vx + 1 := by rw [IntKind.wrap_i64] <;> omega
        clear G3 V3
        go_wp2
        go_meet
        exact ⟨rfl, vx + 1, vx, by omega, GX, VX3⟩
    case rest =>
      obtain ⟨rfl, nx, lg, hnx, G4, V4⟩ := hcut
      clear G3 V3
      obtain ⟨_, v0, v1, v2, v3⟩ := id V4
      go_wp2
      clear v0 v1 v2 v3 V4
      go_loopw [33] (fun u wr => ∃ (i B : Nat) (da : Option Addr) (dc : Nat) (Dl : List Int), u = .int .i64 i ∧ i ≤ N ∧ Dl.length ≤ 1000 * i ∧ B ≤ A + 2 + 1000 * i ∧ EdW w wr (w.heap.size + 1) D CB base ao n cap f B nx lg sq (.slice da Dl.length dc) (.slice none 0 0) Dl []) (fun u _ => N - (intOf u).toNat)
      case atStart => exact ⟨0, A + 2, none, 0, [], rfl, Nat.zero_le _, by simp, by omega, G4⟩
      case round =>
        clear G4
        obtain ⟨i, B, da, dc, Dl, rfl, hiN, hDl, hBi, G⟩ := hrel
        by_cases hlt : i < N
        · have hfew := hL.few i hlt
          have hMB := hL.bd i hlt
          obtain ⟨vb, vo, rfl, hvb0, hvl', hvc⟩ := hL.lies.resolve_left (by omega)
          obtain ⟨ra, rc, hc0, hrow⟩ := hvc i hlt
          have hc1 := G.C.gr.cell hc0 (fun e => by have e2 : vb = CB := Option.some.inj e; omega)
          have hid : decide ((i : Int) < (N : Int)) = true := decide_eq_true (by omega)
          have hii : (i : Int) < (N : Int) := by omega
          have HR : Hid ((LL i).length = 0 ∨ ∃ g o, ra = some ⟨g, o, none⟩ ∧ b0 ≤ g ∧ g < w.heap.size ∧ ∀ j, j < (LL i).length → MAt w g (o + j * 4) (mL (LL i) j)) := hrow
          clear hvc hrow
          go_wp2
          go_loopw [39] (fun u wr => ∃ (j B' : Nat) (da : Option Addr) (dc : Nat) (Dl : List Int), u = .int .i64 j ∧ j ≤ (LL i).length ∧ Dl.length ≤ 1000 * i + j ∧ B' ≤ A + 2 + 1000 * i + j ∧ EdW w wr (w.heap.size + 1) D CB base ao n cap f B' nx lg sq (.slice da Dl.length dc) (.slice none 0 0) Dl []) (fun u _ => (LL i).length - (intOf u).toNat)
          case atStart => exact ⟨0, B, da, dc, Dl, rfl, Nat.zero_le _, by omega, by omega, G⟩
          case round =>
            clear G hc1
            obtain ⟨j, B', da, dc, Dl, rfl, hjN, hDl, hBj, G⟩ := hrel
            by_cases hjl : j < (LL i).length
            · obtain ⟨g, o, rfl, hg0, hgl, hmj⟩ := HR.out.resolve_left (by omega)
              obtain ⟨m, hm⟩ : ∃ m, mL (LL i) j = m := ⟨_, rfl⟩
              have hM := mat_grown (hmj j hjl) G.C.gr (by omega)
              have hmb : MB m := by rw [← hm]; exact hMB _ (mL_mem hjl)
              rw [hm] at hM
              obtain ⟨_, m0, m1, m2, m3⟩ := id hM
              have hjd : decide ((j : Int) < ((LL i).length : Int)) = true := decide_eq_true (by omega)
              have hjj : (j : Int) < ((LL i).length : Int) := by omega
              clear hmj hm
              generalize (LL i).length = ll at *
              have bn := below_new wr (.cells #[.int .i64 m.file, .string m.least, .string m.most, .int .i64 m.many] 52)
              have N0 := MAt.new wr m 52
              have G5 := G.keep bn
              have hlw := G.C.ltw
              clear G
              go_wp2_with fail
              generalize hwn : wr.alloc (.cells #[.int .i64 m.file, .string m.least, .string m.most, .int .i64 m.many] 52) = wn at N0 G5 bn ⊢
              refine (one_s 3 (by omega) G5.C.self (by omega)).mono ?_
              rintro e w6 ⟨b6, rfl, K6⟩
              have G6 := G5.draw K6
              have N6 := mat_grown N0 K6.gr (by omega)
              obtain ⟨_, p0, p1, p2, p3⟩ := id N6
              clear G5 K6 N0 bn hwn m0 m1 m2 m3
              cases b6
              · go_wp2
                go_roundw
                case rel => exact ⟨j + 1, B' + 1, da, dc, Dl, by go_num, by omega, by omega, by omega, G6⟩
                case measure => simp [intOf]; omega
              · obtain ⟨so, sc, w9, hrun, X9, F9, G9⟩ := G6.pushD m.file hmb.file (by omega)
                obtain ⟨_, u0, u1, u2, u3, u4⟩ := id G6.DA
                obtain ⟨_, z0, z1, z2, z3, z4⟩ := id X9
                have f3 := F9 3
                clear G6 X9 F9
                go_wp2_with (at_builtin; refine wpList_append_eq _ rfl (.tmp 46) (.tmp 49) 26 26 rfl rfl (.slice da Dl.length dc) (.slice (some ⟨w6.heap.size, 0, none⟩) 1 1) (.slice so (Dl.length + 1) sc) rfl rfl w9 (hrun _) ?_)
                go_roundw
                case rel => exact ⟨j + 1, B' + 1, so, sc, Dl ++ [m.file], by go_num, by omega, by simp; omega, by omega, by simpa using G9⟩
                case measure => simp [intOf]; omega
            · have hjd : decide ((j : Int) < ((LL i).length : Int)) = false := decide_eq_false (by omega)
              have hjj : ¬ (j : Int) < ((LL i).length : Int) := by omega
              generalize (LL i).length = ll at *
              go_wp2
              go_roundw
              case rel => exact ⟨i + 1, B', da, dc, Dl, by go_num, by omega, by omega, by omega, G⟩
              case measure => simp [intOf]; omega
        · obtain rfl : i = N := by omega
          have hid : decide ((i : Int) < (i : Int)) = false := decide_eq_false (by omega)
          go_wp2_with fail
          refine (pick_s 3 (by omega) G.C.self (by omega)).mono ?_
          rintro e w4 ⟨x4, rfl, x40, x41, K4⟩
          have G4 := G.draw K4
          obtain ⟨k0, rfl⟩ := Int.eq_ofNat_of_zero_le x40
          clear G K4
          go_wp2
          go_loopw [10] (fun u wr => ∃ (k B : Nat) (nx : Int) (aa : Option Addr) (ac : Nat) (Al : List Adm), u = .int .i64 k ∧ Al.length + k ≤ 2 ∧ (-2000000000 ≤ nx ∧ nx + k ≤ 2000000010) ∧ B + 10 * k ≤ A + 3040 ∧ EdW w wr (w.heap.size + 1) D CB base ao n cap f B nx lg sq (.slice da Dl.length dc) (.slice aa Al.length ac) Dl Al) (fun u _ => (intOf u).toNat)
          case atStart => exact ⟨k0, B + 1, nx, none, 0, [], by go_num, by simp; omega, by omega, by omega, G4⟩
          case round =>
            clear G4
            obtain ⟨k, B', nx, aa, ac, Al, rfl, hAk, hnx', hBk, G⟩ := hrel
            by_cases hk0 : k = 0
            · subst hk0
              go_wp2_with fail
              refine (pick_s 40 (by omega) G.C.self (by omega)).mono ?_
              rintro e w5 ⟨x5, rfl, x50, x51, K5⟩
              have G5 := G.draw K5
              clear G K5
              go_upto_block 6 with fail
              go_cut [5] from 78 to 120 (fun s5 wx => s5 = .pointer (some ⟨D, 0, none⟩) ∧ ∃ nx lg sq da dc Dl aa ac Al, Dl.length ≤ 3001 ∧ Al.length ≤ 3 ∧ EdW w wx (w.heap.size + 1) D CB base ao n cap f (A + 3100) nx lg sq (.slice da Dl.length dc) (.slice aa Al.length ac) Dl Al)
              case first =>
                by_cases c0 : x5 = 0
                · subst c0
                  have b8 := below_new w5 (.cells #[.int .i64 0, .int .i64 1, .int .i64 100000, .int .i64 100001] 3)
                  have L8 : LiAt (w5.alloc (.cells #[.int .i64 0, .int .i64 1, .int .i64 100000, .int .i64 100001] 3)) w5.heap.size [0, 1, 100000, 100001] := LiAt.new w5 [0, 1, 100000, 100001] 3
                  have hlc := G5.C.ltw
                  have G8 := G5.keep b8
                  clear G5 b8
                  go_wp2_with fail
                  refine (among_s [0, 1, 100000, 100001] (by decide) w5.heap.size L8 (by omega) G8.C.self (by omega)).mono ?_
                  rintro e w9 ⟨v9, hv9, rfl, K9⟩
                  have G9 := G8.draw K9
                  have GX := G9.set0 v9
                  obtain ⟨_, q0, q1, q2, q3, q4⟩ := id G9.DA
                  have qf := G9.DF 0
                  clear G8 G9 K9 L8 hv9
                  go_wp2
                  go_meet
                  exact ⟨rfl, _, _, _, da, dc, Dl, aa, ac, Al, by omega, by omega, GX.mono (by omega)⟩
                have e0 : (x5 == 0) = false := by simp [c0]
                by_cases c1 : x5 = 1
                · subst c1
                  go_wp2
                  refine wp_region_w (fun W : World => W.cell? ⟨D, 3, none⟩ = some (.slice da Dl.length dc)) (fun j => j != 8) (by kernel_rfl) ?_
                  change wpW _ _ _ _ _ _ 9 _ _ w5.drew
                  have Gd := G5.keep (Below.refl _ w5).drew
                  clear G5
                  generalize w5.drew = W0 at Gd ⊢
                  obtain ⟨_, u0, u1, u2, u3, u4⟩ := id Gd.DA
                  have hlc := Gd.C.ltw
                  refine wpW_take 0 _ (.pointer (some ⟨D, 3, none⟩)) rfl (by kernel_rfl) (by kernel_rfl) (by kernel_rfl) (fun _ _ _ h => h) (by kernel_rfl) (.inl ⟨rfl, fun w' hS' => by go_simp⟩) u3 ?_
                  simp only [Act.put, List.getElem_toArray, List.getElem_cons_succ, List.getElem_cons_zero, List.setIfInBounds_toArray, List.set_cons_zero, List.set_cons_succ]
                  refine wpW_take 1 _ (.slice da Dl.length dc) rfl (by kernel_rfl) (by kernel_rfl) (by kernel_rfl) (fun _ _ _ h => h) (by kernel_rfl) (.inl ⟨rfl, fun w' hS' => by have hz := hS'; go_simp⟩) u3 ?_
                  simp only [Act.put, List.getElem_toArray, List.getElem_cons_succ, List.getElem_cons_zero, List.setIfInBounds_toArray, List.set_cons_zero, List.set_cons_succ]
                  refine wpW_take 2 _ (.pointer (some ⟨CB, 0, none⟩)) rfl (by kernel_rfl) (by kernel_rfl) (by kernel_rfl) (fun _ _ _ h => h) (by kernel_rfl) (.inl ⟨rfl, fun w' hS' => by go_simp⟩) u3 ?_
                  simp only [Act.put, List.getElem_toArray, List.getElem_cons_succ, List.getElem_cons_zero, List.setIfInBounds_toArray, List.set_cons_zero, List.set_cons_succ]
                  have bl := below_new W0 (.cells #[.int .i64 1, .int .i64 99, .int .i64 0] 3)
                  have L8 : LiAt (W0.alloc (.cells #[.int .i64 1, .int .i64 99, .int .i64 0] 3)) W0.heap.size [1, 99, 0] := LiAt.new W0 [1, 99, 0] 3
                  have GL := Gd.keep bl
                  clear u0 u1 u2 u3 u4
                  obtain ⟨_, u0, u1, u2, u3, u4⟩ := id GL.DA
                  refine wpW_one 3 _ rfl (by kernel_rfl) (step_val rfl (.slice (some ⟨W0.heap.size, 0, none⟩) 3 3) (w' := W0.alloc (.cells #[.int .i64 1, .int .i64 99, .int .i64 0] 3)) (by go_simp) ?_)
                  refine ⟨fun _ => u3, ?_⟩
                  simp only [Act.put, List.getElem_toArray, List.getElem_cons_succ, List.getElem_cons_zero, List.setIfInBounds_toArray, List.set_cons_zero, List.set_cons_succ]
                  refine wpW_one 4 _ rfl (by kernel_rfl) (step_call rfl 32 #[.pointer (some ⟨CB, 0, none⟩), .slice (some ⟨W0.heap.size, 0, none⟩) 3 3] _ (by go_simp) (among_s [1, 99, 0] (by decide) W0.heap.size L8 (by omega) GL.C.self (by omega)) ?_)
                  rintro e w7 ⟨x7, hx7, rfl, K7⟩
                  have G7 := GL.draw K7
                  have hlvb : -9223372036854775808 ≤ x7 ∧ x7 ≤ 9223372036854775807 := by
                    simp only [List.mem_cons, List.not_mem_nil, or_false] at hx7
                    rcases hx7 with rfl | rfl | rfl <;> omega
                  clear Gd GL K7 L8 bl hx7 u0 u1 u2 u3 u4
                  obtain ⟨_, u0, u1, u2, u3, u4⟩ := id G7.DA
                  refine ⟨_, rfl, fun _ => u3, ?_⟩
                  simp only [Act.put, List.getElem_toArray, List.getElem_cons_succ, List.getElem_cons_zero, List.setIfInBounds_toArray, List.set_cons_zero, List.set_cons_succ]
                  obtain ⟨so, sc, w9, hrun, X9, F9, G9⟩ := G7.pushD x7 hlvb (by omega)
                  have hX8 := (G7.keep (below_new w7 (.cells #[.int .i64 x7] 3))).DA
                  obtain ⟨_, y0, y1, y2, y3, y4⟩ := id hX8
                  refine wpW_one 5 _ rfl (by kernel_rfl) (step_val rfl (.slice (some ⟨w7.heap.size, 0, none⟩) 1 1) (w' := w7.alloc (.cells #[.int .i64 x7] 3)) (by go_simp) ?_)
                  refine ⟨fun _ => y3, ?_⟩
                  simp only [Act.put, List.getElem_toArray, List.getElem_cons_succ, List.getElem_cons_zero, List.setIfInBounds_toArray, List.set_cons_zero, List.set_cons_succ]
                  obtain ⟨_, z0, z1, z2, z3, z4⟩ := id X9
                  refine wpW_one 6 _ rfl (by kernel_rfl) (step_append_run rfl (.tmp 87) (.tmp 91) 26 rfl (.slice da Dl.length dc) (.slice (some ⟨w7.heap.size, 0, none⟩) 1 1) (.slice so (Dl.length + 1) sc) rfl rfl w9 hrun ?_)
                  refine ⟨fun _ => z3, ?_⟩
                  simp only [Act.put, List.getElem_toArray, List.getElem_cons_succ, List.getElem_cons_zero, List.setIfInBounds_toArray, List.set_cons_zero, List.set_cons_succ]
                  refine wpW_one 7 _ rfl (by kernel_rfl) (step_val rfl (.pointer (some ⟨D, 3, none⟩)) (w' := w9) (by go_simp) ?_)
                  refine ⟨fun _ => z3, ?_⟩
                  simp only [Act.put, List.getElem_toArray, List.getElem_cons_succ, List.getElem_cons_zero, List.setIfInBounds_toArray, List.set_cons_zero, List.set_cons_succ]
                  refine wpW_one 8 _ rfl (by kernel_rfl) (step_storeI rfl 93 92 rfl D 3 so (Dl.length + 1) sc _ rfl rfl z3 (F9 3) ?_)
                  refine ⟨fun h => absurd h (by decide), ?_⟩
                  refine wpW_done (by kernel_rfl) ?_
                  simp only [Act.put, List.getElem_toArray, List.getElem_cons_succ, List.getElem_cons_zero, List.setIfInBounds_toArray, List.set_cons_zero, List.set_cons_succ]
                  clear G7 hX8 hrun X9 F9
                  go_wp2
                  go_meet
                  exact ⟨rfl, _, _, _, so, sc, Dl ++ [x7], aa, ac, Al, by simp; omega, by omega, by simpa using G9.mono (by omega)⟩
                have e1 : (x5 == 1) = false := by simp [c1]
                by_cases c2 : x5 = 2
                · subst c2
                  have b8 := below_new w5 (.cells #[.int .i64 0, .int .i64 1, .int .i64 50] 3)
                  have L8 : LiAt (w5.alloc (.cells #[.int .i64 0, .int .i64 1, .int .i64 50] 3)) w5.heap.size [0, 1, 50] := LiAt.new w5 [0, 1, 50] 3
                  have hlc := G5.C.ltw
                  have G8 := G5.keep b8
                  clear G5 b8
                  go_wp2_with fail
                  refine (among_s [0, 1, 50] (by decide) w5.heap.size L8 (by omega) G8.C.self (by omega)).mono ?_
                  rintro e w9 ⟨v9, hv9, rfl, K9⟩
                  have G9 := G8.draw K9
                  have GX := G9.set1 v9
                  obtain ⟨_, q0, q1, q2, q3, q4⟩ := id G9.DA
                  have qf := G9.DF 1
                  clear G8 G9 K9 L8 hv9
                  go_wp2
                  go_meet
                  exact ⟨rfl, _, _, _, da, dc, Dl, aa, ac, Al, by omega, by omega, GX.mono (by omega)⟩
                have e2 : (x5 == 2) = false := by simp [c2]
                by_cases c3 : x5 = 3
                · subst c3
                  have b8 := below_new w5 (.cells #[.int .i64 (-1), .int .i64 0, .int .i64 1000000000, .int .i64 1000000001] 3)
                  have L8 : LiAt (w5.alloc (.cells #[.int .i64 (-1), .int .i64 0, .int .i64 1000000000, .int .i64 1000000001] 3)) w5.heap.size [-1, 0, 1000000000, 1000000001] := LiAt.new w5 [-1, 0, 1000000000, 1000000001] 3
                  have hlc := G5.C.ltw
                  have G8 := G5.keep b8
                  clear G5 b8
                  go_wp2_with fail
                  refine (among_s [-1, 0, 1000000000, 1000000001] (by decide) w5.heap.size L8 (by omega) G8.C.self (by omega)).mono ?_
                  rintro e w9 ⟨v9, hv9, rfl, K9⟩
                  have G9 := G8.draw K9
                  have GX := G9.set2 v9
                  obtain ⟨_, q0, q1, q2, q3, q4⟩ := id G9.DA
                  have qf := G9.DF 2
                  clear G8 G9 K9 L8 hv9
                  go_wp2
                  go_meet
                  exact ⟨rfl, _, _, _, da, dc, Dl, aa, ac, Al, by omega, by omega, GX.mono (by omega)⟩
                have e3 : (x5 == 3) = false := by simp [c3]
                by_cases c4 : x5 = 4
                · subst c4
                  go_wp2
                  refine wp_region_w (fun W : World => W.cell? ⟨D, 4, none⟩ = some (.slice aa Al.length ac) ∧ W.cell? ⟨D, 0, none⟩ = some (.int .i64 nx)) (fun j => j != 13) (by kernel_rfl) ?_
                  change wpW _ _ _ _ _ _ 14 _ _ w5.drew
                  have Gd := G5.keep (Below.refl _ w5).drew
                  clear G5
                  generalize w5.drew = W0 at Gd ⊢
                  obtain ⟨_, u0, u1, u2, u3, u4⟩ := id Gd.DA
                  have hlc := Gd.C.ltw
                  refine wpW_take 0 _ (.pointer (some ⟨D, 4, none⟩)) rfl (by kernel_rfl) (by kernel_rfl) (by kernel_rfl) (fun _ _ _ h => h) (by kernel_rfl) (.inl ⟨rfl, fun w' hS' => by go_simp⟩) ⟨u4, u0⟩ ?_
                  simp only [Act.put, List.getElem_toArray, List.getElem_cons_succ, List.getElem_cons_zero, List.setIfInBounds_toArray, List.set_cons_zero, List.set_cons_succ]
                  refine wpW_take 1 _ (.slice aa Al.length ac) rfl (by kernel_rfl) (by kernel_rfl) (by kernel_rfl) (fun _ _ _ h => h) (by kernel_rfl) (.inl ⟨rfl, fun w' hS' => by obtain ⟨s0, s1⟩ := hS'; go_simp⟩) ⟨u4, u0⟩ ?_
                  simp only [Act.put, List.getElem_toArray, List.getElem_cons_succ, List.getElem_cons_zero, List.setIfInBounds_toArray, List.set_cons_zero, List.set_cons_succ]
                  refine wpW_take 2 _ (.pointer (some ⟨CB, 0, none⟩)) rfl (by kernel_rfl) (by kernel_rfl) (by kernel_rfl) (fun _ _ _ h => h) (by kernel_rfl) (.inl ⟨rfl, fun w' hS' => by go_simp⟩) ⟨u4, u0⟩ ?_
                  simp only [Act.put, List.getElem_toArray, List.getElem_cons_succ, List.getElem_cons_zero, List.setIfInBounds_toArray, List.set_cons_zero, List.set_cons_succ]
                  refine wpW_take 5 _ (.pointer (some ⟨CB, 0, none⟩)) rfl (by kernel_rfl) (by kernel_rfl) (by kernel_rfl) (fun _ _ _ h => h) (by kernel_rfl) (.inl ⟨rfl, fun w' hS' => by go_simp⟩) ⟨u4, u0⟩ ?_
                  simp only [Act.put, List.getElem_toArray, List.getElem_cons_succ, List.getElem_cons_zero, List.setIfInBounds_toArray, List.set_cons_zero, List.set_cons_succ]
                  refine wpW_take 6 _ (.pointer (some ⟨D, 0, none⟩)) rfl (by kernel_rfl) (by kernel_rfl) (by kernel_rfl) (fun _ _ _ h => h) (by kernel_rfl) (.inl ⟨rfl, fun w' hS' => by go_simp⟩) ⟨u4, u0⟩ ?_
                  simp only [Act.put, List.getElem_toArray, List.getElem_cons_succ, List.getElem_cons_zero, List.setIfInBounds_toArray, List.set_cons_zero, List.set_cons_succ]
                  refine wpW_take 7 _ (.int .i64 nx) rfl (by kernel_rfl) (by kernel_rfl) (by kernel_rfl) (fun _ _ _ h => h) (by kernel_rfl) (.inl ⟨rfl, fun w' hS' => by obtain ⟨s0, s1⟩ := hS'; go_simp⟩) ⟨u4, u0⟩ ?_
                  simp only [Act.put, List.getElem_toArray, List.getElem_cons_succ, List.getElem_cons_zero, List.setIfInBounds_toArray, List.set_cons_zero, List.set_cons_succ]
                  have bl := below_new W0 (.cells #[.int .i64 (-1), .int .i64 3] 3)
                  have L8 : LiAt (W0.alloc (.cells #[.int .i64 (-1), .int .i64 3] 3)) W0.heap.size [-1, 3] := LiAt.new W0 [-1, 3] 3
                  have GL := Gd.keep bl
                  clear u0 u1 u2 u3 u4
                  obtain ⟨_, u0, u1, u2, u3, u4⟩ := id GL.DA
                  refine wpW_one 3 _ rfl (by kernel_rfl) (step_val rfl (.slice (some ⟨W0.heap.size, 0, none⟩) 2 2) (w' := W0.alloc (.cells #[.int .i64 (-1), .int .i64 3] 3)) (by go_simp) ?_)
                  refine ⟨fun _ => ⟨u4, u0⟩, ?_⟩
                  simp only [Act.put, List.getElem_toArray, List.getElem_cons_succ, List.getElem_cons_zero, List.setIfInBounds_toArray, List.set_cons_zero, List.set_cons_succ]
                  refine wpW_one 4 _ rfl (by kernel_rfl) (step_call rfl 32 #[.pointer (some ⟨CB, 0, none⟩), .slice (some ⟨W0.heap.size, 0, none⟩) 2 2] _ (by go_simp) (among_s [-1, 3] (by decide) W0.heap.size L8 (by omega) GL.C.self (by omega)) ?_)
                  rintro e w7 ⟨x7, hx7, rfl, K7⟩
                  have G7 := GL.draw K7
                  have hlvb : -9223372036854775808 ≤ x7 ∧ x7 ≤ 9223372036854775807 := by
                    simp only [List.mem_cons, List.not_mem_nil, or_false] at hx7
                    rcases hx7 with rfl | rfl <;> omega
                  clear Gd GL K7 L8 bl hx7 u0 u1 u2 u3 u4
                  obtain ⟨_, u0, u1, u2, u3, u4⟩ := id G7.DA
                  refine ⟨_, rfl, fun _ => ⟨u4, u0⟩, ?_⟩
                  simp only [Act.put, List.getElem_toArray, List.getElem_cons_succ, List.getElem_cons_zero, List.setIfInBounds_toArray, List.set_cons_zero, List.set_cons_succ]
                  refine wpW_one 8 _ rfl (by kernel_rfl) (step_call rfl 33 #[.pointer (some ⟨CB, 0, none⟩), .int .i64 nx] _ (by go_simp) (meta_any nx (by omega) G7.C.self (by omega)) ?_)
                  rintro e w8 ⟨m8, rfl, hm8, K8⟩
                  have G8 := G7.draw K8
                  clear u0 u1 u2 u3 u4
                  obtain ⟨_, u0, u1, u2, u3, u4⟩ := id G8.DA
                  refine ⟨_, rfl, fun _ => ⟨u4, u0⟩, ?_⟩
                  simp only [Act.put, List.getElem_toArray, List.getElem_cons_succ, List.getElem_cons_zero, List.setIfInBounds_toArray, List.set_cons_zero, List.set_cons_succ]
                  refine wpW_take 9 _ (.agg #[.int .i64 (⟨x7, m8⟩ : Adm).lv, .int .i64 (⟨x7, m8⟩ : Adm).m.file, .string (⟨x7, m8⟩ : Adm).m.least, .string (⟨x7, m8⟩ : Adm).m.most, .int .i64 (⟨x7, m8⟩ : Adm).m.many]) rfl (by kernel_rfl) (by kernel_rfl) (by kernel_rfl) (fun _ _ _ h => h) (by kernel_rfl) (.inl ⟨rfl, fun w' hS' => by go_simp⟩) ⟨u4, u0⟩ ?_
                  simp only [Act.put, List.getElem_toArray, List.getElem_cons_succ, List.getElem_cons_zero, List.setIfInBounds_toArray, List.set_cons_zero, List.set_cons_succ]
                  have hdb : DB ⟨x7, m8⟩ := ⟨hlvb, hm8.mb⟩
                  obtain ⟨so, sc, w9, hrun, X9, F9, G9⟩ := G8.pushA ⟨x7, m8⟩ hdb (by omega)
                  have hX8 := (G8.keep (below_new w8 (.cells #[.int .i64 (⟨x7, m8⟩ : Adm).lv, .int .i64 (⟨x7, m8⟩ : Adm).m.file, .string (⟨x7, m8⟩ : Adm).m.least, .string (⟨x7, m8⟩ : Adm).m.most, .int .i64 (⟨x7, m8⟩ : Adm).m.many] 54))).DA
                  obtain ⟨_, y0, y1, y2, y3, y4⟩ := id hX8
                  refine wpW_one 10 _ rfl (by kernel_rfl) (step_val rfl (.slice (some ⟨w8.heap.size, 0, none⟩) 1 1) (w' := w8.alloc (.cells #[.int .i64 (⟨x7, m8⟩ : Adm).lv, .int .i64 (⟨x7, m8⟩ : Adm).m.file, .string (⟨x7, m8⟩ : Adm).m.least, .string (⟨x7, m8⟩ : Adm).m.most, .int .i64 (⟨x7, m8⟩ : Adm).m.many] 54)) (by go_simp) ?_)
                  refine ⟨fun _ => ⟨y4, y0⟩, ?_⟩
                  simp only [Act.put, List.getElem_toArray, List.getElem_cons_succ, List.getElem_cons_zero, List.setIfInBounds_toArray, List.set_cons_zero, List.set_cons_succ]
                  obtain ⟨_, z0, z1, z2, z3, z4⟩ := id X9
                  refine wpW_one 11 _ rfl (by kernel_rfl) (step_append_run rfl (.tmp 109) (.tmp 118) 27 rfl (.slice aa Al.length ac) (.slice (some ⟨w8.heap.size, 0, none⟩) 1 1) (.slice so (Al.length + 1) sc) rfl rfl w9 hrun ?_)
                  refine ⟨fun _ => ⟨z4, z0⟩, ?_⟩
                  simp only [Act.put, List.getElem_toArray, List.getElem_cons_succ, List.getElem_cons_zero, List.setIfInBounds_toArray, List.set_cons_zero, List.set_cons_succ]
                  refine wpW_one 12 _ rfl (by kernel_rfl) (step_val rfl (.pointer (some ⟨D, 4, none⟩)) (w' := w9) (by go_simp) ?_)
                  refine ⟨fun _ => ⟨z4, z0⟩, ?_⟩
                  simp only [Act.put, List.getElem_toArray, List.getElem_cons_succ, List.getElem_cons_zero, List.setIfInBounds_toArray, List.set_cons_zero, List.set_cons_succ]
                  refine wpW_one 13 _ rfl (by kernel_rfl) (step_storeL rfl 120 119 rfl D 4 so (Al.length + 1) sc _ rfl rfl z4 (F9 4) ?_)
                  refine ⟨fun h => absurd h (by decide), ?_⟩
                  refine wpW_done (by kernel_rfl) ?_
                  simp only [Act.put, List.getElem_toArray, List.getElem_cons_succ, List.getElem_cons_zero, List.setIfInBounds_toArray, List.set_cons_zero, List.set_cons_succ]
                  clear G8 K8 hX8 hrun X9 F9
                  go_wp2
                  go_meet
                  exact ⟨rfl, _, _, _, da, dc, Dl, so, sc, Al ++ [⟨x7, m8⟩], by omega, by simp; omega, by simpa using G9.mono (by omega)⟩
                have e4 : (x5 == 4) = false := by simp [c4]
                go_wp2
                go_meet
                exact ⟨rfl, _, _, _, da, dc, Dl, aa, ac, Al, by omega, by omega, G5.mono (by omega)⟩
              case rest =>
                obtain ⟨rfl, nx, lg, sq, da, dc, Dl, aa, ac, Al, hd1, ha1, G8⟩ := hcut
                clear G5
                obtain ⟨_, r0, r1, r2, r3, r4⟩ := id G8.RA
                obtain ⟨_, d0, d1, d2, d3, d4⟩ := id G8.DA
                have rf := G8.RF
                go_wp2
                have hne' := G8.ne
                have og := fin_step (w := w) (R := w.heap.size + 1) (CB := CB) (base := base) (ao := ao) (n := n) (cap := cap) (f := f) (A := A + 3100) (dv := .slice da Dl.length dc) (av := .slice aa Al.length ac) (Dl := Dl) (Al := Al) (by omega)
                have fin := og _ 4 (.slice aa Al.length ac) (og _ 3 (.slice da Dl.length dc) (og _ 2 (.int .i64 sq) (og _ 1 (.int .i64 lg) (og _ 0 (.int .i64 nx) ⟨G8.d, G8.a, G8.C⟩))))
                refine bodyPost_ret (v := .agg #[.int .i64 nx, .int .i64 lg, .int .i64 sq, .slice da Dl.length dc, .slice aa Al.length ac]) (by simp [results, Try.results12, go_sem, r0, r1, r2, r3, r4]) rfl ⟨nx, lg, sq, da, aa, dc, ac, Dl, Al, rfl, by omega, by omega, ownI_low fin.1 (by omega), fin.2.1.lower (by omega), fin.2.2.mono (by omega)⟩
            · have hkp : (0 : Int) < (k : Int) := by omega
              have hkd : decide ((0 : Int) < (k : Int)) = true := decide_eq_true hkp
              go_wp2
              refine wp_region_w (fun W : World => W.cell? ⟨D, 4, none⟩ = some (.slice aa Al.length ac) ∧ W.cell? ⟨D, 0, none⟩ = some (.int .i64 nx)) (fun j => j != 12) (by kernel_rfl) ?_
              change wpW _ _ _ _ _ _ 13 _ _ wr.drew
              have Gd := G.keep (Below.refl _ wr).drew
              clear G
              generalize wr.drew = W0 at Gd ⊢
              obtain ⟨_, u0, u1, u2, u3, u4⟩ := id Gd.DA
              refine wpW_take 0 _ (.pointer (some ⟨D, 4, none⟩)) rfl (by kernel_rfl) (by kernel_rfl) (by kernel_rfl) (fun _ _ _ h => h) (by kernel_rfl) (.inl ⟨rfl, fun w' hS' => by go_simp⟩) ⟨u4, u0⟩ ?_
              simp only [Act.put, List.getElem_toArray, List.getElem_cons_succ, List.getElem_cons_zero, List.setIfInBounds_toArray, List.set_cons_zero, List.set_cons_succ]
              refine wpW_take 1 _ (.slice aa Al.length ac) rfl (by kernel_rfl) (by kernel_rfl) (by kernel_rfl) (fun _ _ _ h => h) (by kernel_rfl) (.inl ⟨rfl, fun w' hS' => by obtain ⟨s0, s1⟩ := hS'; go_simp⟩) ⟨u4, u0⟩ ?_
              simp only [Act.put, List.getElem_toArray, List.getElem_cons_succ, List.getElem_cons_zero, List.setIfInBounds_toArray, List.set_cons_zero, List.set_cons_succ]
              refine wpW_take 2 _ (.pointer (some ⟨CB, 0, none⟩)) rfl (by kernel_rfl) (by kernel_rfl) (by kernel_rfl) (fun _ _ _ h => h) (by kernel_rfl) (.inl ⟨rfl, fun w' hS' => by go_simp⟩) ⟨u4, u0⟩ ?_
              simp only [Act.put, List.getElem_toArray, List.getElem_cons_succ, List.getElem_cons_zero, List.setIfInBounds_toArray, List.set_cons_zero, List.set_cons_succ]
              refine wpW_take 4 _ (.pointer (some ⟨CB, 0, none⟩)) rfl (by kernel_rfl) (by kernel_rfl) (by kernel_rfl) (fun _ _ _ h => h) (by kernel_rfl) (.inl ⟨rfl, fun w' hS' => by go_simp⟩) ⟨u4, u0⟩ ?_
              simp only [Act.put, List.getElem_toArray, List.getElem_cons_succ, List.getElem_cons_zero, List.setIfInBounds_toArray, List.set_cons_zero, List.set_cons_succ]
              refine wpW_take 5 _ (.pointer (some ⟨D, 0, none⟩)) rfl (by kernel_rfl) (by kernel_rfl) (by kernel_rfl) (fun _ _ _ h => h) (by kernel_rfl) (.inl ⟨rfl, fun w' hS' => by go_simp⟩) ⟨u4, u0⟩ ?_
              simp only [Act.put, List.getElem_toArray, List.getElem_cons_succ, List.getElem_cons_zero, List.setIfInBounds_toArray, List.set_cons_zero, List.set_cons_succ]
              refine wpW_take 6 _ (.int .i64 nx) rfl (by kernel_rfl) (by kernel_rfl) (by kernel_rfl) (fun _ _ _ h => h) (by kernel_rfl) (.inl ⟨rfl, fun w' hS' => by obtain ⟨s0, s1⟩ := hS'; go_simp⟩) ⟨u4, u0⟩ ?_
              simp only [Act.put, List.getElem_toArray, List.getElem_cons_succ, List.getElem_cons_zero, List.setIfInBounds_toArray, List.set_cons_zero, List.set_cons_succ]
              refine wpW_one 3 _ rfl (by kernel_rfl) (step_call rfl 31 #[.pointer (some ⟨CB, 0, none⟩), .int .i64 3] _ (by go_simp) (pick_s 3 (by omega) Gd.C.self (by omega)) ?_)
              rintro e w7 ⟨x7, rfl, x70, x71, K7⟩
              have G7 := Gd.draw K7
              have hlvb : -9223372036854775808 ≤ x7 ∧ x7 ≤ 9223372036854775807 := by omega
              clear Gd K7 u0 u1 u2 u3 u4
              obtain ⟨_, u0, u1, u2, u3, u4⟩ := id G7.DA
              refine ⟨_, rfl, fun _ => ⟨u4, u0⟩, ?_⟩
              simp only [Act.put, List.getElem_toArray, List.getElem_cons_succ, List.getElem_cons_zero, List.setIfInBounds_toArray, List.set_cons_zero, List.set_cons_succ]
              refine wpW_one 7 _ rfl (by kernel_rfl) (step_call rfl 33 #[.pointer (some ⟨CB, 0, none⟩), .int .i64 nx] _ (by go_simp) (meta_any nx (by omega) G7.C.self (by omega)) ?_)
              rintro e w8 ⟨m8, rfl, hm8, K8⟩
              have G8 := G7.draw K8
              clear u0 u1 u2 u3 u4
              obtain ⟨_, u0, u1, u2, u3, u4⟩ := id G8.DA
              refine ⟨_, rfl, fun _ => ⟨u4, u0⟩, ?_⟩
              simp only [Act.put, List.getElem_toArray, List.getElem_cons_succ, List.getElem_cons_zero, List.setIfInBounds_toArray, List.set_cons_zero, List.set_cons_succ]
              refine wpW_take 8 _ (.agg #[.int .i64 (⟨x7, m8⟩ : Adm).lv, .int .i64 (⟨x7, m8⟩ : Adm).m.file, .string (⟨x7, m8⟩ : Adm).m.least, .string (⟨x7, m8⟩ : Adm).m.most, .int .i64 (⟨x7, m8⟩ : Adm).m.many]) rfl (by kernel_rfl) (by kernel_rfl) (by kernel_rfl) (fun _ _ _ h => h) (by kernel_rfl) (.inl ⟨rfl, fun w' hS' => by go_simp⟩) ⟨u4, u0⟩ ?_
              simp only [Act.put, List.getElem_toArray, List.getElem_cons_succ, List.getElem_cons_zero, List.setIfInBounds_toArray, List.set_cons_zero, List.set_cons_succ]
              have hdb : DB ⟨x7, m8⟩ := ⟨hlvb, hm8.mb⟩
              obtain ⟨so, sc, w9, hrun, X9, F9, G9⟩ := G8.pushA ⟨x7, m8⟩ hdb (by omega)
              have hX8 := (G8.keep (below_new w8 (.cells #[.int .i64 (⟨x7, m8⟩ : Adm).lv, .int .i64 (⟨x7, m8⟩ : Adm).m.file, .string (⟨x7, m8⟩ : Adm).m.least, .string (⟨x7, m8⟩ : Adm).m.most, .int .i64 (⟨x7, m8⟩ : Adm).m.many] 54))).DA
              obtain ⟨_, y0, y1, y2, y3, y4⟩ := id hX8
              refine wpW_one 9 _ rfl (by kernel_rfl) (step_val rfl (.slice (some ⟨w8.heap.size, 0, none⟩) 1 1) (w' := w8.alloc (.cells #[.int .i64 (⟨x7, m8⟩ : Adm).lv, .int .i64 (⟨x7, m8⟩ : Adm).m.file, .string (⟨x7, m8⟩ : Adm).m.least, .string (⟨x7, m8⟩ : Adm).m.most, .int .i64 (⟨x7, m8⟩ : Adm).m.many] 54)) (by go_simp) ?_)
              refine ⟨fun _ => ⟨y4, y0⟩, ?_⟩
              simp only [Act.put, List.getElem_toArray, List.getElem_cons_succ, List.getElem_cons_zero, List.setIfInBounds_toArray, List.set_cons_zero, List.set_cons_succ]
              obtain ⟨_, z0, z1, z2, z3, z4⟩ := id X9
              refine wpW_one 10 _ rfl (by kernel_rfl) (step_append_run rfl (.tmp 61) (.tmp 69) 27 rfl (.slice aa Al.length ac) (.slice (some ⟨w8.heap.size, 0, none⟩) 1 1) (.slice so (Al.length + 1) sc) rfl rfl w9 hrun ?_)
              refine ⟨fun _ => ⟨z4, z0⟩, ?_⟩
              simp only [Act.put, List.getElem_toArray, List.getElem_cons_succ, List.getElem_cons_zero, List.setIfInBounds_toArray, List.set_cons_zero, List.set_cons_succ]
              refine wpW_one 11 _ rfl (by kernel_rfl) (step_val rfl (.pointer (some ⟨D, 4, none⟩)) (w' := w9) (by go_simp) ?_)
              refine ⟨fun _ => ⟨z4, z0⟩, ?_⟩
              simp only [Act.put, List.getElem_toArray, List.getElem_cons_succ, List.getElem_cons_zero, List.setIfInBounds_toArray, List.set_cons_zero, List.set_cons_succ]
              refine wpW_one 12 _ rfl (by kernel_rfl) (step_storeL rfl 71 70 rfl D 4 so (Al.length + 1) sc _ rfl rfl z4 (F9 4) ?_)
              refine ⟨fun h => absurd h (by decide), ?_⟩
              refine wpW_done (by kernel_rfl) ?_
              simp only [Act.put, List.getElem_toArray, List.getElem_cons_succ, List.getElem_cons_zero, List.setIfInBounds_toArray, List.set_cons_zero, List.set_cons_succ]
              clear G8 K8 hX8 hrun X9 F9
              have GX := G9.set0 (nx + 1)
              obtain ⟨_, t0, t1, t2, t3, t4⟩ := id G9.DA
              have tf := G9.DF 0
              have hwn : IntKind.i64.wrap (nx + 1) = nx + 1 := by rw [IntKind.wrap_i64] <;> omega
              generalize w9.setCell ⟨D, 4, none⟩ (.slice so (Al.length + 1) sc) = w10 at G9 GX t0 t1 t2 t3 t4 tf ⊢
              clear G9
              go_wp2
              go_roundw
              case rel => exact ⟨k - 1, B' + 7, nx + 1, so, sc, Al ++ [⟨x7, m8⟩], by go_num, by simp; omega, by omega, by omega, by simpa using GX⟩
              case measure => simp [intOf]; omega
end Go.Proofs.Ytagkhohglpjjlaa
