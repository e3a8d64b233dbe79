/- The model: l7Filter. -/
import Derived.Test.YtohjjigkfdhklaaGreatIa
import Derived.Test.YtohjjigkfdhklaaGreatOh
import Derived.Deep.CutBlock
import Derived.Deep.DeepCutAuto
import Derived.Deep.RegionLaw
import Derived.Deep.AppendLies
namespace Go.Proofs.YtohjjigkfdhklaaGreat
set_option maxRecDepth 100000
open Go.RowKit
set_option linter.unusedSimpArgs false
set_option linter.unusedVariables false

section
variable {ops : Array Oper} {Q : Exit → Act → World → Prop} {w : World} {o : Oper} {a : Act} {K : Act → World → Prop} {E : Prop}
theorem step_allocF (hgd : o.guard = none) (ho : o.op = .alloc 55)
    (h : K (a.put o.dst (.pointer (some ⟨w.heap.size, 0, none⟩))) (w.alloc (.cells #[.int .i64 0, .slice none 0 0] 55))) :
    if Region.wanted o (yielded ops a.tmps) = true then Oper.wp Tryz.prog o a w K Q else E := by
  have hw : Region.wanted o (yielded ops a.tmps) = true := by simp [Region.wanted, hgd]
  rw [if_pos hw]
  unfold Oper.wp execOp
  simp only [ho]
  go_simp
  exact h
/-- A filter's box that may be written. -/
structure FZ (w : World) (P : Nat) : Prop where
  lt : P < w.heap.size
  c0 : w.cell? ⟨P, 0, none⟩ = some (.int .i64 0)
  c1 : w.cell? ⟨P, 1, none⟩ = some (.slice none 0 0)
  fz : ∀ j, w.frozen? ⟨P, j, none⟩ = false
theorem FZ.new (w : World) : FZ (w.alloc (.cells #[.int .i64 0, .slice none 0 0] 55)) w.heap.size := by
  refine ⟨by simp, ?_, ?_, fun j => ?_⟩ <;> simp [go_sem]
theorem FZ.keep {w w' : World} {P : Nat} (h : FZ w P) (hb : Below w.heap.size w w') : FZ w' P :=
  ⟨Nat.lt_of_lt_of_le h.lt hb.size, (hb.cell (p := ⟨P, 0, none⟩) h.lt).trans h.c0, (hb.cell (p := ⟨P, 1, none⟩) h.lt).trans h.c1, fun j => (hb.frozen (p := ⟨P, j, none⟩) h.lt).trans (h.fz j)⟩
/-- A filter laid. -/
def layF (w : World) (P : Nat) (y : Int) (v : Value) : World := (w.setCell ⟨P, 0, none⟩ (.int .i64 y)).setCell ⟨P, 1, none⟩ v
theorem step_storeF (hgd : o.guard = none) (k j : Nat) (ho : o.op = .store 55 (.tmp k) (.tmp j)) (P : Nat) (y : Int) (fo : Option Addr) (fm fc : Nat) (hx : a.eval (.tmp k) = .pointer (some ⟨P, 0, none⟩)) (hv : a.eval (.tmp j) = .agg #[.int .i64 y, .slice fo fm fc]) (Z : FZ w P)
    (h : K (a.put o.dst undef) (layF w P y (.slice fo fm fc))) :
    if Region.wanted o (yielded ops a.tmps) = true then Oper.wp Tryz.prog o a w K Q else E := by
  have hw : Region.wanted o (yielded ops a.tmps) = true := by simp [Region.wanted, hgd]
  rw [if_pos hw]
  have hx' : a.tmps.getD k undef = .pointer (some ⟨P, 0, none⟩) := hx
  have hv' : a.tmps.getD j undef = .agg #[.int .i64 y, .slice fo fm fc] := hv
  obtain ⟨lt, h0, h1, fz⟩ := Z
  have f0 := fz 0
  have f1 := fz 1
  unfold layF at h
  unfold Oper.wp execOp
  simp only [ho, Act.eval, hx', hv']
  go_simp
  exact h
theorem step_assignF (hgd : o.guard = none) (j : Nat) (ho : o.op = .assign (.tmp j)) (v : Value) (hv : a.eval (.tmp j) = v) (h : K (a.put o.dst v) w) :
    if Region.wanted o (yielded ops a.tmps) = true then Oper.wp Tryz.prog o a w K Q else E := by
  have hw : Region.wanted o (yielded ops a.tmps) = true := by simp [Region.wanted, hgd]
  rw [if_pos hw]
  have hv' : a.tmps.getD j undef = v := hv
  unfold Oper.wp execOp
  simp only [ho, Act.eval, hv']
  go_simp
  exact h
end
/-- What the region leaves: the filter in a box P. -/
structure FBx (u : World) (W : World) (P : Nat) (y : Int) (fo : Option Addr) (fm fc : Nat) (F : List Int) : Prop where
  at' : FAt W P y (.slice fo fm fc)
  row : Row W fo fm (fl F)
  far : ∀ q o, fo = some ⟨q, o, none⟩ → u.heap.size ≤ q
  bl : Below u.heap.size u W
theorem layF_box {u W : World} {P : Nat} {y : Int} {fo : Option Addr} {fm fc : Nat} {F : List Int} {lo hi : Nat} (Z : FZ W P) (hV : BV W lo hi fo F) (hl : F.length = fm) (hP : u.heap.size ≤ P) (hlo : u.heap.size ≤ lo) (hd : P < lo ∨ hi ≤ P) (hb : Below u.heap.size u W) : FBx u (layF W P y (.slice fo fm fc)) P y fo fm fc F := by
  have hot : Others P W (layF W P y (.slice fo fm fc)) := (Others.setCell _ _ _ _).trans (Others.setCell _ _ _ _)
  have h0 := Z.c0
  have h1 := Z.c1
  refine ⟨⟨by rw [hot.size]; exact Z.lt, ?_, ?_⟩, ?_, fun q o e => ?_, hb.trans (hot.below (by omega))⟩
  · unfold layF
    simp [go_sem, h0, h1]
  · unfold layF
    simp [go_sem, h0, h1]
  · rcases hV.is with ⟨e1, e2⟩ | ⟨g, off, e1, k1, k2, ho⟩
    · exact ⟨hV.bd.fl, .inl (by rw [← hl, e2]; rfl)⟩
    · have hr := (hot.row ho (by omega)).row
      rw [hl] at hr
      subst e1
      exact hr
  · rcases hV.is with ⟨e1, _⟩ | ⟨g, off, e1, k1, _⟩
    · rw [e1] at e; cases e
    · rw [e1] at e
      injection e with e
      injection e with e _ _
      omega
/-- A filter as it was read. -/
def L7F (X : Nat → Ent) (m : Nat) (p : Int) (w : World) (e : Ending) (w' : World) : Prop :=
  ∃ fo fc, e = .returned (.agg #[.int .i64 (fwI p), .slice fo (fbN X m p) fc]) ∧ Row w' fo (fbN X m p) (fl (fLt X m p)) ∧ Below w.heap.size w w'

set_option maxHeartbeats 8000000 in
theorem l7Filter_any (X : Nat → Ent) (m : Nat) (p : Int) (bb bo n cap : Nat) (f : Nat → Int) (w : World) (hT : IsTb f n X m p) (hr : Row w (some ⟨bb, bo, none⟩) n f) (hbb : bb < w.heap.size) (hcap : n ≤ cap) :
    Calls Tryz.prog 38 #[.slice (some ⟨bb, bo, none⟩) n cap] w fun e w' => L7F X m p w e w' := by
  obtain ⟨A, hA⟩ : ∃ A, A = tA X m := ⟨_, rfl⟩
  obtain ⟨B, hB⟩ : ∃ B, B = tB X m p := ⟨_, rfl⟩
  obtain ⟨⟨hn1, hn2⟩, hbn, _, hfw, _, hnA, hnB, _, _⟩ := hT.plc
  rw [← hA] at hnA
  rw [← hB] at hnB hbn
  obtain ⟨hAB, hBn, hfl, hfA, hff⟩ := hT.filter hnA hnB
  obtain ⟨y, hy⟩ : ∃ y, y = n - 20 := ⟨_, rfl⟩
  obtain ⟨z, hz⟩ : ∃ z, z = n - 16 := ⟨_, rfl⟩
  obtain ⟨x, hx⟩ : ∃ x, x = n - 12 := ⟨_, rfl⟩
  rw [← hy] at hnA
  rw [← hz] at hnB
  have hwY : IntKind.i64.wrap ((n : Int) - 20) = (y : Int) := by rw [IntKind.wrap_i64] <;> omega
  have hwZ : IntKind.i64.wrap ((n : Int) - 16) = (z : Int) := by rw [IntKind.wrap_i64] <;> omega
  have hwX : IntKind.i64.wrap ((n : Int) - 12) = (x : Int) := by rw [IntKind.wrap_i64] <;> omega
  have hyz : y ≤ z := by omega
  have hzx : z ≤ x := by omega
  have hyc : z ≤ cap := by omega
  have hxc : x ≤ cap := by omega
  have hcy : ¬ cap = y := by omega
  have hcz : ¬ cap = z := by omega
  have hcA : ¬ cap = A := by omega
  have hBc : B ≤ cap := by omega
  have hAi : (A : Int) ≤ (B : Int) := by omega
  have hF : (fLt X m p).length = fbN X m p := fLt_len X m p
  have hnum : ∀ q V W, q + 4 ≤ n → num f q 4 = (V : Int) → Below w.heap.size w W → Calls Tryz.prog 70 #[.slice (some ⟨bb, bo + q, none⟩) 4 (cap - q)] W fun e w' => e = .returned (.int .i64 V) ∧ w' = W := fun q V W hq hV hW => by
    have hb := num_bd f hr.bd q 4
    rw [show (256 : Int) ^ 4 = 4294967296 from by decide] at hb
    have rW := hr.keep hW
    have := l1Number_same bb (bo + q) 4 (cap - q) f q W hr.bd (by have := hW.size; omega) (fun i hi => by rw [Nat.add_assoc]; exact rW.cell (by omega)) (by omega)
    rw [show wrap64 (num f q 4) = num f q 4 from by unfold wrap64; omega, hV] at this
    exact this
  have hcA1 : ∀ W, Below w.heap.size w W → Calls Tryz.prog 70 #[.slice (some ⟨bb, bo + y, none⟩) (z - y) (cap - y)] W fun e w' => e = .returned (.int .i64 A) ∧ w' = W := fun W hW => by
    rw [show z - y = 4 by omega]
    exact hnum y A W (by omega) hnA hW
  have hcB1 : ∀ W, Below w.heap.size w W → Calls Tryz.prog 70 #[.slice (some ⟨bb, bo + z, none⟩) (x - z) (cap - z)] W fun e w' => e = .returned (.int .i64 B) ∧ w' = W := fun W hW => by
    rw [show x - z = 4 by omega]
    exact hnum z B W (by omega) hnB hW
  have hcF : ∀ W, Below w.heap.size w W → Calls Tryz.prog 73 #[.slice (some ⟨bb, bo + A, none⟩) (B - A) (cap - A)] W fun e w' => ∃ fo fc, e = .returned (.tuple #[.agg #[.int .i64 (fwI p), .slice fo (fbN X m p) fc], .bool true]) ∧ BV w' W.heap.size w'.heap.size fo (fLt X m p) ∧ Below W.heap.size W w' := fun W hW => by
    refine (readFilter_srow bb (bo + A) (B - A) (cap - A) (fun i => f (A + i)) W ((hr.keep hW).sub (k := A) (m := B - A) (by omega)) (by omega) (by omega)).mono ?_
    rintro e w' ⟨h1, _⟩
    obtain ⟨fo, fc, e1, hV, hb⟩ := h1 hfl
    simp only [Nat.add_zero, hfA] at e1
    rw [hff] at e1 hV
    rw [hF] at e1
    exact ⟨fo, fc, e1, hV, hb⟩
  unfold L7F
  clear hnum hT hfw hnA hnB hfl hfA hff hA hB
  generalize fLt X m p = F at *
  generalize fbN X m p = fb at *
  generalize fwI p = fw at *
  clear hy hz hx hn1 hn2 hbn hBn
  have HF : Hid (F.length = fb) := hF
  clear hF
  have W0 := below_new w (.cells #[.int .i64 0, .slice none 0 0] 55)
  have hfz : ∀ j, (w.alloc (.cells #[.int .i64 0, .slice none 0 0] 55)).frozen? ⟨w.heap.size, j, none⟩ = false := fun j => by simp [go_sem]
  have Z0 := FAt.new w 0 (.slice none 0 0) 55
  go_enter Tryz.func38, Tryz.ntmps38
  go_wp2
  generalize w.alloc (.cells #[.int .i64 0, .slice none 0 0] 55) = u at *
  have bu : ∀ W, Below u.heap.size u W → Below w.heap.size w W := fun W h => W0.trans (h.mono W0.size)
  go_upto_region 2 with fail
  go_cut [4, 5] from 8 (fun s4 s5 wx => ∃ P fo fc, s4 = .pointer (some ⟨P, 0, none⟩) ∧ s5 = .bool true ∧ FBx u wx P fw fo fb fc F)
  case first =>
    refine wp_region_w (fun w' : World => Below u.heap.size u w') (fun _ => true) (by kernel_rfl) ?_
    change wpW _ _ _ _ _ _ 23 _ _ u.drew
    have b0 : (fun w' : World => Below u.heap.size u w') u.drew := (Below.refl _ u).drew
    refine wpW_take 0 _ (.slice (some ⟨bb, bo, none⟩) n cap) rfl (by kernel_rfl) (by kernel_rfl) (by kernel_rfl) (fun _ _ _ h => h) (by kernel_rfl) (.inl ⟨rfl, fun w' hS' => by go_simp⟩) b0 ?_
    simp only [Act.put, List.getElem_toArray, List.getElem_cons_succ, List.getElem_cons_zero, List.setIfInBounds_toArray, List.set_cons_zero, List.set_cons_succ]
    refine wpW_take 1 _ (.slice (some ⟨bb, bo, none⟩) n cap) rfl (by kernel_rfl) (by kernel_rfl) (by kernel_rfl) (fun _ _ _ h => h) (by kernel_rfl) (.inl ⟨rfl, fun w' hS' => by go_simp⟩) b0 ?_
    simp only [Act.put, List.getElem_toArray, List.getElem_cons_succ, List.getElem_cons_zero, List.setIfInBounds_toArray, List.set_cons_zero, List.set_cons_succ]
    refine wpW_take 2 _ (.int .i64 n) rfl (by kernel_rfl) (by kernel_rfl) (by kernel_rfl) (fun _ _ _ h => h) (by kernel_rfl) (.inl ⟨rfl, fun w' hS' => by go_simp⟩) b0 ?_
    simp only [Act.put, List.getElem_toArray, List.getElem_cons_succ, List.getElem_cons_zero, List.setIfInBounds_toArray, List.set_cons_zero, List.set_cons_succ]
    refine wpW_take 3 _ (.int .i64 y) rfl (by kernel_rfl) (by kernel_rfl) (by kernel_rfl) (fun _ _ _ h => h) (by kernel_rfl) (.inl ⟨rfl, fun w' hS' => by go_simp⟩) b0 ?_
    simp only [Act.put, List.getElem_toArray, List.getElem_cons_succ, List.getElem_cons_zero, List.setIfInBounds_toArray, List.set_cons_zero, List.set_cons_succ]
    refine wpW_take 4 _ (.int .i64 n) rfl (by kernel_rfl) (by kernel_rfl) (by kernel_rfl) (fun _ _ _ h => h) (by kernel_rfl) (.inl ⟨rfl, fun w' hS' => by go_simp⟩) b0 ?_
    simp only [Act.put, List.getElem_toArray, List.getElem_cons_succ, List.getElem_cons_zero, List.setIfInBounds_toArray, List.set_cons_zero, List.set_cons_succ]
    refine wpW_take 5 _ (.int .i64 z) rfl (by kernel_rfl) (by kernel_rfl) (by kernel_rfl) (fun _ _ _ h => h) (by kernel_rfl) (.inl ⟨rfl, fun w' hS' => by go_simp⟩) b0 ?_
    simp only [Act.put, List.getElem_toArray, List.getElem_cons_succ, List.getElem_cons_zero, List.setIfInBounds_toArray, List.set_cons_zero, List.set_cons_succ]
    refine wpW_take 6 _ (.slice (some ⟨bb, bo + y, none⟩) (z - y) (cap - y)) rfl (by kernel_rfl) (by kernel_rfl) (by kernel_rfl) (fun _ _ _ h => h) (by kernel_rfl) (.inl ⟨rfl, fun w' hS' => by go_simp⟩) b0 ?_
    simp only [Act.put, List.getElem_toArray, List.getElem_cons_succ, List.getElem_cons_zero, List.setIfInBounds_toArray, List.set_cons_zero, List.set_cons_succ]
    refine wpW_take 8 _ (.slice (some ⟨bb, bo, none⟩) n cap) rfl (by kernel_rfl) (by kernel_rfl) (by kernel_rfl) (fun _ _ _ h => h) (by kernel_rfl) (.inl ⟨rfl, fun w' hS' => by go_simp⟩) b0 ?_
    simp only [Act.put, List.getElem_toArray, List.getElem_cons_succ, List.getElem_cons_zero, List.setIfInBounds_toArray, List.set_cons_zero, List.set_cons_succ]
    refine wpW_take 9 _ (.int .i64 n) rfl (by kernel_rfl) (by kernel_rfl) (by kernel_rfl) (fun _ _ _ h => h) (by kernel_rfl) (.inl ⟨rfl, fun w' hS' => by go_simp⟩) b0 ?_
    simp only [Act.put, List.getElem_toArray, List.getElem_cons_succ, List.getElem_cons_zero, List.setIfInBounds_toArray, List.set_cons_zero, List.set_cons_succ]
    refine wpW_take 10 _ (.int .i64 z) rfl (by kernel_rfl) (by kernel_rfl) (by kernel_rfl) (fun _ _ _ h => h) (by kernel_rfl) (.inl ⟨rfl, fun w' hS' => by go_simp⟩) b0 ?_
    simp only [Act.put, List.getElem_toArray, List.getElem_cons_succ, List.getElem_cons_zero, List.setIfInBounds_toArray, List.set_cons_zero, List.set_cons_succ]
    refine wpW_take 11 _ (.int .i64 n) rfl (by kernel_rfl) (by kernel_rfl) (by kernel_rfl) (fun _ _ _ h => h) (by kernel_rfl) (.inl ⟨rfl, fun w' hS' => by go_simp⟩) b0 ?_
    simp only [Act.put, List.getElem_toArray, List.getElem_cons_succ, List.getElem_cons_zero, List.setIfInBounds_toArray, List.set_cons_zero, List.set_cons_succ]
    refine wpW_take 12 _ (.int .i64 x) rfl (by kernel_rfl) (by kernel_rfl) (by kernel_rfl) (fun _ _ _ h => h) (by kernel_rfl) (.inl ⟨rfl, fun w' hS' => by go_simp⟩) b0 ?_
    simp only [Act.put, List.getElem_toArray, List.getElem_cons_succ, List.getElem_cons_zero, List.setIfInBounds_toArray, List.set_cons_zero, List.set_cons_succ]
    refine wpW_take 13 _ (.slice (some ⟨bb, bo + z, none⟩) (x - z) (cap - z)) rfl (by kernel_rfl) (by kernel_rfl) (by kernel_rfl) (fun _ _ _ h => h) (by kernel_rfl) (.inl ⟨rfl, fun w' hS' => by go_simp⟩) b0 ?_
    simp only [Act.put, List.getElem_toArray, List.getElem_cons_succ, List.getElem_cons_zero, List.setIfInBounds_toArray, List.set_cons_zero, List.set_cons_succ]
    refine wpW_two 7 20 _ _ rfl rfl (by kernel_rfl) ?_ ?_
    · skip
      refine (step_call rfl 70 #[.slice (some ⟨bb, bo + y, none⟩) (z - y) (cap - y)] _ (by go_simp) (hcA1 _ (bu _ b0)) ?_)
      rintro e w6 ⟨rfl, rfl⟩
      refine ⟨_, rfl, fun _ => b0, ?_⟩
      simp only [Act.put, List.getElem_toArray, List.getElem_cons_succ, List.getElem_cons_zero, List.setIfInBounds_toArray, List.set_cons_zero, List.set_cons_succ]
      refine wpW_two 14 20 _ _ rfl rfl (by kernel_rfl) ?_ ?_
      · skip
        refine (step_call rfl 70 #[.slice (some ⟨bb, bo + z, none⟩) (x - z) (cap - z)] _ (by go_simp) (hcB1 _ (bu _ b0)) ?_)
        rintro e w6 ⟨rfl, rfl⟩
        refine ⟨_, rfl, fun _ => b0, ?_⟩
        simp only [Act.put, List.getElem_toArray, List.getElem_cons_succ, List.getElem_cons_zero, List.setIfInBounds_toArray, List.set_cons_zero, List.set_cons_succ]
        refine wpW_take 15 _ (.slice (some ⟨bb, bo + A, none⟩) (B - A) (cap - A)) rfl (by kernel_rfl) (by kernel_rfl) (by kernel_rfl) (fun _ _ _ h => h) (by kernel_rfl) (.inl ⟨rfl, fun w' hS' => by go_simp⟩) b0 ?_
        simp only [Act.put, List.getElem_toArray, List.getElem_cons_succ, List.getElem_cons_zero, List.setIfInBounds_toArray, List.set_cons_zero, List.set_cons_succ]
        refine wpW_two 16 20 _ _ rfl rfl (by kernel_rfl) ?_ ?_
        · skip
          refine (step_call rfl 73 #[.slice (some ⟨bb, bo + A, none⟩) (B - A) (cap - A)] _ (by go_simp) (hcF _ (bu _ b0)) ?_)
          rintro e w6 ⟨fo, fc, rfl, V6, q6⟩
          have b1 := b0.trans (q6.mono b0.size)
          refine ⟨_, rfl, fun _ => b1, ?_⟩
          simp only [Act.put, List.getElem_toArray, List.getElem_cons_succ, List.getElem_cons_zero, List.setIfInBounds_toArray, List.set_cons_zero, List.set_cons_succ]
          refine wpW_take 17 _ (.tuple #[.agg #[.int .i64 fw, .slice fo fb fc], .bool true]) rfl (by kernel_rfl) (by kernel_rfl) (by kernel_rfl) (fun _ _ _ h => h) (by kernel_rfl) (.inl ⟨rfl, fun w' hS' => by go_simp⟩) b1 ?_
          simp only [Act.put, List.getElem_toArray, List.getElem_cons_succ, List.getElem_cons_zero, List.setIfInBounds_toArray, List.set_cons_zero, List.set_cons_succ]
          refine wpW_take 18 _ (.agg #[.int .i64 fw, .slice fo fb fc]) rfl (by kernel_rfl) (by kernel_rfl) (by kernel_rfl) (fun _ _ _ h => h) (by kernel_rfl) (.inl ⟨rfl, fun w' hS' => by go_simp⟩) b1 ?_
          simp only [Act.put, List.getElem_toArray, List.getElem_cons_succ, List.getElem_cons_zero, List.setIfInBounds_toArray, List.set_cons_zero, List.set_cons_succ]
          refine wpW_take 19 _ (.bool true) rfl (by kernel_rfl) (by kernel_rfl) (by kernel_rfl) (fun _ _ _ h => h) (by kernel_rfl) (.inl ⟨rfl, fun w' hS' => by go_simp⟩) b1 ?_
          simp only [Act.put, List.getElem_toArray, List.getElem_cons_succ, List.getElem_cons_zero, List.setIfInBounds_toArray, List.set_cons_zero, List.set_cons_succ]
          refine wpW_one 20 _ rfl (by kernel_rfl) (step_allocF rfl rfl ?_)
          have nb := below_new (w6) (.cells #[.int .i64 0, .slice none 0 0] 55)
          have b2 := b1.trans (nb.mono b1.size)
          have Z := FZ.new (w6)
          have sz : u.heap.size ≤ (w6).heap.size := b1.size
          have nz : (w6).heap.size < ((w6).alloc (.cells #[.int .i64 0, .slice none 0 0] 55)).heap.size := by simp
          obtain ⟨P, hP⟩ : ∃ P, P = (w6).heap.size := ⟨_, rfl⟩
          rw [← hP] at Z sz nz ⊢
          refine ⟨fun _ => b2, ?_⟩
          simp only [Act.put, List.getElem_toArray, List.getElem_cons_succ, List.getElem_cons_zero, List.setIfInBounds_toArray, List.set_cons_zero, List.set_cons_succ]
          have V7 := V6.keep nb
          generalize (w6).alloc (.cells #[.int .i64 0, .slice none 0 0] 55) = w7 at *
          refine wpW_one 21 _ rfl (by kernel_rfl) (step_storeF rfl 4 26 rfl P fw fo fb fc (by simp [Act.eval, Act.put]) (by simp [Act.eval, Act.put]) Z ?_)
          have QB := layF_box (y := fw) (fc := fc) Z V7 HF.out sz (by first | exact Nat.le_refl _ | omega) (.inr (by omega)) b2
          refine ⟨fun _ => QB.bl, ?_⟩
          simp only [Act.put, List.getElem_toArray, List.getElem_cons_succ, List.getElem_cons_zero, List.setIfInBounds_toArray, List.set_cons_zero, List.set_cons_succ]
          refine wpW_one 22 _ rfl (by kernel_rfl) (step_assignF rfl 27 rfl (.bool true) (by simp [Act.eval, Act.put]) ?_)
          refine ⟨fun _ => QB.bl, ?_⟩
          simp only [Act.put, List.getElem_toArray, List.getElem_cons_succ, List.getElem_cons_zero, List.setIfInBounds_toArray, List.set_cons_zero, List.set_cons_succ]
          refine wpW_done (by kernel_rfl) ?_
          try simp only [Act.put, List.getElem_toArray, List.getElem_cons_succ, List.getElem_cons_zero, List.setIfInBounds_toArray, List.set_cons_zero, List.set_cons_succ]
          go_wp2_with fail
          go_meet
          case rel =>
            subst hP
            exact ⟨_, fo, fc, rfl, rfl, QB⟩
        · skip
          refine (step_allocF rfl rfl ?_)
          have nb := below_new (u.drew) (.cells #[.int .i64 0, .slice none 0 0] 55)
          have b1 := b0.trans (nb.mono b0.size)
          have Z := FZ.new (u.drew)
          have sz : u.heap.size ≤ (u.drew).heap.size := b0.size
          have nz : (u.drew).heap.size < ((u.drew).alloc (.cells #[.int .i64 0, .slice none 0 0] 55)).heap.size := by simp
          obtain ⟨P, hP⟩ : ∃ P, P = (u.drew).heap.size := ⟨_, rfl⟩
          rw [← hP] at Z sz nz ⊢
          refine ⟨fun _ => b1, ?_⟩
          simp only [Act.put, List.getElem_toArray, List.getElem_cons_succ, List.getElem_cons_zero, List.setIfInBounds_toArray, List.set_cons_zero, List.set_cons_succ]
          generalize (u.drew).alloc (.cells #[.int .i64 0, .slice none 0 0] 55) = w5 at *
          refine wpW_one 16 _ rfl (by kernel_rfl) (step_call rfl 73 #[.slice (some ⟨bb, bo + A, none⟩) (B - A) (cap - A)] _ (by go_simp) (hcF _ (bu _ b1)) ?_)
          rintro e w6 ⟨fo, fc, rfl, V6, q6⟩
          have b2 := b1.trans (q6.mono b1.size)
          have Z6 := Z.keep q6
          refine ⟨_, rfl, fun _ => b2, ?_⟩
          simp only [Act.put, List.getElem_toArray, List.getElem_cons_succ, List.getElem_cons_zero, List.setIfInBounds_toArray, List.set_cons_zero, List.set_cons_succ]
          refine wpW_take 17 _ (.tuple #[.agg #[.int .i64 fw, .slice fo fb fc], .bool true]) rfl (by kernel_rfl) (by kernel_rfl) (by kernel_rfl) (fun _ _ _ h => h) (by kernel_rfl) (.inl ⟨rfl, fun w' hS' => by go_simp⟩) b2 ?_
          simp only [Act.put, List.getElem_toArray, List.getElem_cons_succ, List.getElem_cons_zero, List.setIfInBounds_toArray, List.set_cons_zero, List.set_cons_succ]
          refine wpW_take 18 _ (.agg #[.int .i64 fw, .slice fo fb fc]) rfl (by kernel_rfl) (by kernel_rfl) (by kernel_rfl) (fun _ _ _ h => h) (by kernel_rfl) (.inl ⟨rfl, fun w' hS' => by go_simp⟩) b2 ?_
          simp only [Act.put, List.getElem_toArray, List.getElem_cons_succ, List.getElem_cons_zero, List.setIfInBounds_toArray, List.set_cons_zero, List.set_cons_succ]
          refine wpW_take 19 _ (.bool true) rfl (by kernel_rfl) (by kernel_rfl) (by kernel_rfl) (fun _ _ _ h => h) (by kernel_rfl) (.inl ⟨rfl, fun w' hS' => by go_simp⟩) b2 ?_
          simp only [Act.put, List.getElem_toArray, List.getElem_cons_succ, List.getElem_cons_zero, List.setIfInBounds_toArray, List.set_cons_zero, List.set_cons_succ]
          refine wpW_one 21 _ rfl (by kernel_rfl) (step_storeF rfl 4 26 rfl P fw fo fb fc (by simp [Act.eval, Act.put]) (by simp [Act.eval, Act.put]) Z6 ?_)
          have QB := layF_box (y := fw) (fc := fc) Z6 V6 HF.out sz (by first | exact Nat.le_refl _ | omega) (.inl (by omega)) b2
          refine ⟨fun _ => QB.bl, ?_⟩
          simp only [Act.put, List.getElem_toArray, List.getElem_cons_succ, List.getElem_cons_zero, List.setIfInBounds_toArray, List.set_cons_zero, List.set_cons_succ]
          refine wpW_one 22 _ rfl (by kernel_rfl) (step_assignF rfl 27 rfl (.bool true) (by simp [Act.eval, Act.put]) ?_)
          refine ⟨fun _ => QB.bl, ?_⟩
          simp only [Act.put, List.getElem_toArray, List.getElem_cons_succ, List.getElem_cons_zero, List.setIfInBounds_toArray, List.set_cons_zero, List.set_cons_succ]
          refine wpW_done (by kernel_rfl) ?_
          try simp only [Act.put, List.getElem_toArray, List.getElem_cons_succ, List.getElem_cons_zero, List.setIfInBounds_toArray, List.set_cons_zero, List.set_cons_succ]
          go_wp2_with fail
          go_meet
          case rel =>
            subst hP
            exact ⟨_, fo, fc, rfl, rfl, QB⟩
      · skip
        refine (step_allocF rfl rfl ?_)
        have nb := below_new (u.drew) (.cells #[.int .i64 0, .slice none 0 0] 55)
        have b1 := b0.trans (nb.mono b0.size)
        have Z := FZ.new (u.drew)
        have sz : u.heap.size ≤ (u.drew).heap.size := b0.size
        have nz : (u.drew).heap.size < ((u.drew).alloc (.cells #[.int .i64 0, .slice none 0 0] 55)).heap.size := by simp
        obtain ⟨P, hP⟩ : ∃ P, P = (u.drew).heap.size := ⟨_, rfl⟩
        rw [← hP] at Z sz nz ⊢
        refine ⟨fun _ => b1, ?_⟩
        simp only [Act.put, List.getElem_toArray, List.getElem_cons_succ, List.getElem_cons_zero, List.setIfInBounds_toArray, List.set_cons_zero, List.set_cons_succ]
        generalize (u.drew).alloc (.cells #[.int .i64 0, .slice none 0 0] 55) = w5 at *
        refine wpW_one 14 _ rfl (by kernel_rfl) (step_call rfl 70 #[.slice (some ⟨bb, bo + z, none⟩) (x - z) (cap - z)] _ (by go_simp) (hcB1 _ (bu _ b1)) ?_)
        rintro e w6 ⟨rfl, rfl⟩
        refine ⟨_, rfl, fun _ => b1, ?_⟩
        simp only [Act.put, List.getElem_toArray, List.getElem_cons_succ, List.getElem_cons_zero, List.setIfInBounds_toArray, List.set_cons_zero, List.set_cons_succ]
        refine wpW_take 15 _ (.slice (some ⟨bb, bo + A, none⟩) (B - A) (cap - A)) rfl (by kernel_rfl) (by kernel_rfl) (by kernel_rfl) (fun _ _ _ h => h) (by kernel_rfl) (.inl ⟨rfl, fun w' hS' => by go_simp⟩) b1 ?_
        simp only [Act.put, List.getElem_toArray, List.getElem_cons_succ, List.getElem_cons_zero, List.setIfInBounds_toArray, List.set_cons_zero, List.set_cons_succ]
        refine wpW_one 16 _ rfl (by kernel_rfl) (step_call rfl 73 #[.slice (some ⟨bb, bo + A, none⟩) (B - A) (cap - A)] _ (by go_simp) (hcF _ (bu _ b1)) ?_)
        rintro e w6 ⟨fo, fc, rfl, V6, q6⟩
        have b2 := b1.trans (q6.mono b1.size)
        have Z6 := Z.keep q6
        refine ⟨_, rfl, fun _ => b2, ?_⟩
        simp only [Act.put, List.getElem_toArray, List.getElem_cons_succ, List.getElem_cons_zero, List.setIfInBounds_toArray, List.set_cons_zero, List.set_cons_succ]
        refine wpW_take 17 _ (.tuple #[.agg #[.int .i64 fw, .slice fo fb fc], .bool true]) rfl (by kernel_rfl) (by kernel_rfl) (by kernel_rfl) (fun _ _ _ h => h) (by kernel_rfl) (.inl ⟨rfl, fun w' hS' => by go_simp⟩) b2 ?_
        simp only [Act.put, List.getElem_toArray, List.getElem_cons_succ, List.getElem_cons_zero, List.setIfInBounds_toArray, List.set_cons_zero, List.set_cons_succ]
        refine wpW_take 18 _ (.agg #[.int .i64 fw, .slice fo fb fc]) rfl (by kernel_rfl) (by kernel_rfl) (by kernel_rfl) (fun _ _ _ h => h) (by kernel_rfl) (.inl ⟨rfl, fun w' hS' => by go_simp⟩) b2 ?_
        simp only [Act.put, List.getElem_toArray, List.getElem_cons_succ, List.getElem_cons_zero, List.setIfInBounds_toArray, List.set_cons_zero, List.set_cons_succ]
        refine wpW_take 19 _ (.bool true) rfl (by kernel_rfl) (by kernel_rfl) (by kernel_rfl) (fun _ _ _ h => h) (by kernel_rfl) (.inl ⟨rfl, fun w' hS' => by go_simp⟩) b2 ?_
        simp only [Act.put, List.getElem_toArray, List.getElem_cons_succ, List.getElem_cons_zero, List.setIfInBounds_toArray, List.set_cons_zero, List.set_cons_succ]
        refine wpW_one 21 _ rfl (by kernel_rfl) (step_storeF rfl 4 26 rfl P fw fo fb fc (by simp [Act.eval, Act.put]) (by simp [Act.eval, Act.put]) Z6 ?_)
        have QB := layF_box (y := fw) (fc := fc) Z6 V6 HF.out sz (by first | exact Nat.le_refl _ | omega) (.inl (by omega)) b2
        refine ⟨fun _ => QB.bl, ?_⟩
        simp only [Act.put, List.getElem_toArray, List.getElem_cons_succ, List.getElem_cons_zero, List.setIfInBounds_toArray, List.set_cons_zero, List.set_cons_succ]
        refine wpW_one 22 _ rfl (by kernel_rfl) (step_assignF rfl 27 rfl (.bool true) (by simp [Act.eval, Act.put]) ?_)
        refine ⟨fun _ => QB.bl, ?_⟩
        simp only [Act.put, List.getElem_toArray, List.getElem_cons_succ, List.getElem_cons_zero, List.setIfInBounds_toArray, List.set_cons_zero, List.set_cons_succ]
        refine wpW_done (by kernel_rfl) ?_
        try simp only [Act.put, List.getElem_toArray, List.getElem_cons_succ, List.getElem_cons_zero, List.setIfInBounds_toArray, List.set_cons_zero, List.set_cons_succ]
        go_wp2_with fail
        go_meet
        case rel =>
          subst hP
          exact ⟨_, fo, fc, rfl, rfl, QB⟩
    · skip
      refine (step_allocF rfl rfl ?_)
      have nb := below_new (u.drew) (.cells #[.int .i64 0, .slice none 0 0] 55)
      have b1 := b0.trans (nb.mono b0.size)
      have Z := FZ.new (u.drew)
      have sz : u.heap.size ≤ (u.drew).heap.size := b0.size
      have nz : (u.drew).heap.size < ((u.drew).alloc (.cells #[.int .i64 0, .slice none 0 0] 55)).heap.size := by simp
      obtain ⟨P, hP⟩ : ∃ P, P = (u.drew).heap.size := ⟨_, rfl⟩
      rw [← hP] at Z sz nz ⊢
      refine ⟨fun _ => b1, ?_⟩
      simp only [Act.put, List.getElem_toArray, List.getElem_cons_succ, List.getElem_cons_zero, List.setIfInBounds_toArray, List.set_cons_zero, List.set_cons_succ]
      generalize (u.drew).alloc (.cells #[.int .i64 0, .slice none 0 0] 55) = w5 at *
      refine wpW_one 7 _ rfl (by kernel_rfl) (step_call rfl 70 #[.slice (some ⟨bb, bo + y, none⟩) (z - y) (cap - y)] _ (by go_simp) (hcA1 _ (bu _ b1)) ?_)
      rintro e w6 ⟨rfl, rfl⟩
      refine ⟨_, rfl, fun _ => b1, ?_⟩
      simp only [Act.put, List.getElem_toArray, List.getElem_cons_succ, List.getElem_cons_zero, List.setIfInBounds_toArray, List.set_cons_zero, List.set_cons_succ]
      refine wpW_one 14 _ rfl (by kernel_rfl) (step_call rfl 70 #[.slice (some ⟨bb, bo + z, none⟩) (x - z) (cap - z)] _ (by go_simp) (hcB1 _ (bu _ b1)) ?_)
      rintro e w6 ⟨rfl, rfl⟩
      refine ⟨_, rfl, fun _ => b1, ?_⟩
      simp only [Act.put, List.getElem_toArray, List.getElem_cons_succ, List.getElem_cons_zero, List.setIfInBounds_toArray, List.set_cons_zero, List.set_cons_succ]
      refine wpW_take 15 _ (.slice (some ⟨bb, bo + A, none⟩) (B - A) (cap - A)) rfl (by kernel_rfl) (by kernel_rfl) (by kernel_rfl) (fun _ _ _ h => h) (by kernel_rfl) (.inl ⟨rfl, fun w' hS' => by go_simp⟩) b1 ?_
      simp only [Act.put, List.getElem_toArray, List.getElem_cons_succ, List.getElem_cons_zero, List.setIfInBounds_toArray, List.set_cons_zero, List.set_cons_succ]
      refine wpW_one 16 _ rfl (by kernel_rfl) (step_call rfl 73 #[.slice (some ⟨bb, bo + A, none⟩) (B - A) (cap - A)] _ (by go_simp) (hcF _ (bu _ b1)) ?_)
      rintro e w6 ⟨fo, fc, rfl, V6, q6⟩
      have b2 := b1.trans (q6.mono b1.size)
      have Z6 := Z.keep q6
      refine ⟨_, rfl, fun _ => b2, ?_⟩
      simp only [Act.put, List.getElem_toArray, List.getElem_cons_succ, List.getElem_cons_zero, List.setIfInBounds_toArray, List.set_cons_zero, List.set_cons_succ]
      refine wpW_take 17 _ (.tuple #[.agg #[.int .i64 fw, .slice fo fb fc], .bool true]) rfl (by kernel_rfl) (by kernel_rfl) (by kernel_rfl) (fun _ _ _ h => h) (by kernel_rfl) (.inl ⟨rfl, fun w' hS' => by go_simp⟩) b2 ?_
      simp only [Act.put, List.getElem_toArray, List.getElem_cons_succ, List.getElem_cons_zero, List.setIfInBounds_toArray, List.set_cons_zero, List.set_cons_succ]
      refine wpW_take 18 _ (.agg #[.int .i64 fw, .slice fo fb fc]) rfl (by kernel_rfl) (by kernel_rfl) (by kernel_rfl) (fun _ _ _ h => h) (by kernel_rfl) (.inl ⟨rfl, fun w' hS' => by go_simp⟩) b2 ?_
      simp only [Act.put, List.getElem_toArray, List.getElem_cons_succ, List.getElem_cons_zero, List.setIfInBounds_toArray, List.set_cons_zero, List.set_cons_succ]
      refine wpW_take 19 _ (.bool true) rfl (by kernel_rfl) (by kernel_rfl) (by kernel_rfl) (fun _ _ _ h => h) (by kernel_rfl) (.inl ⟨rfl, fun w' hS' => by go_simp⟩) b2 ?_
      simp only [Act.put, List.getElem_toArray, List.getElem_cons_succ, List.getElem_cons_zero, List.setIfInBounds_toArray, List.set_cons_zero, List.set_cons_succ]
      refine wpW_one 21 _ rfl (by kernel_rfl) (step_storeF rfl 4 26 rfl P fw fo fb fc (by simp [Act.eval, Act.put]) (by simp [Act.eval, Act.put]) Z6 ?_)
      have QB := layF_box (y := fw) (fc := fc) Z6 V6 HF.out sz (by first | exact Nat.le_refl _ | omega) (.inl (by omega)) b2
      refine ⟨fun _ => QB.bl, ?_⟩
      simp only [Act.put, List.getElem_toArray, List.getElem_cons_succ, List.getElem_cons_zero, List.setIfInBounds_toArray, List.set_cons_zero, List.set_cons_succ]
      refine wpW_one 22 _ rfl (by kernel_rfl) (step_assignF rfl 27 rfl (.bool true) (by simp [Act.eval, Act.put]) ?_)
      refine ⟨fun _ => QB.bl, ?_⟩
      simp only [Act.put, List.getElem_toArray, List.getElem_cons_succ, List.getElem_cons_zero, List.setIfInBounds_toArray, List.set_cons_zero, List.set_cons_succ]
      refine wpW_done (by kernel_rfl) ?_
      try simp only [Act.put, List.getElem_toArray, List.getElem_cons_succ, List.getElem_cons_zero, List.setIfInBounds_toArray, List.set_cons_zero, List.set_cons_succ]
      go_wp2_with fail
      go_meet
      case rel =>
        subst hP
        exact ⟨_, fo, fc, rfl, rfl, QB⟩
  case rest =>
    obtain ⟨P, fo, fc, rfl, rfl, QB⟩ := hcut
    obtain ⟨⟨_, p0, p1⟩, rP, hfar0, bP⟩ := QB
    have Z1 := Z0.keep bP
    have hzl : w.heap.size < u.heap.size := Z0.lt
    obtain ⟨_, z0, z1⟩ := id Z1
    have g0 : wc.frozen? ⟨w.heap.size, 0, none⟩ = false := (bP.frozen (p := ⟨w.heap.size, 0, none⟩) hzl).trans (hfz 0)
    have g1 : wc.frozen? ⟨w.heap.size, 1, none⟩ = false := (bP.frozen (p := ⟨w.heap.size, 1, none⟩) hzl).trans (hfz 1)
    have B1 := W0.trans (bP.mono W0.size)
    have hfar : ∀ q o, fo = some ⟨q, o, none⟩ → q ≠ w.heap.size := fun q o e => by have := hfar0 q o e; omega
    clear hcA1 hcB1 hcF
    go_wp2
    obtain ⟨W3, hW3⟩ : ∃ v, v = (wc.setCell ⟨w.heap.size, 0, none⟩ (.int .i64 fw)).setCell ⟨w.heap.size, 1, none⟩ (.slice fo fb fc) := ⟨_, rfl⟩
    have hot : Others w.heap.size wc W3 := by rw [hW3]; exact (Others.setCell _ _ _ _).trans (Others.setCell _ _ _ _)
    refine bodyPost_ret (v := .agg #[.int .i64 fw, .slice fo fb fc]) (by simp [results, Tryz.results38, go_sem, z0, z1]) rfl ?_
    rw [← hW3]
    refine ⟨fo, fc, rfl, ⟨rP.bd, ?_⟩, B1.trans (hot.below (Nat.le_refl _))⟩
    rcases rP.lies with h0 | ⟨q, o, e, hq, hc⟩
    · exact .inl h0
    · refine .inr ⟨q, o, e, by rw [hot.size]; exact hq, fun i hi => ?_⟩
      have hqn : q ≠ w.heap.size := hfar q o e
      exact (World.cell?_of_block (w := wc) (a := ⟨q, o + i, none⟩) (hot.block q hqn)).trans (hc i hi)
end Go.Proofs.YtohjjigkfdhklaaGreat
