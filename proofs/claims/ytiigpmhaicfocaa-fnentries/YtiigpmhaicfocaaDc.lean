/- An agg, drawn. -/
import Derived.Test.YtiigpmhaicfocaaDb
namespace Go.Proofs.Ytiigpmhaicfocaa
open Go.RowKit
set_option linter.unusedSimpArgs false
set_option linter.unusedVariables false

theorem step_storeV {w : World} {ops : Array Oper} {o : Oper} {a : Act} {K : Act → World → Prop} {Q : Exit → Act → World → Prop} {E : Prop} (hgd : o.guard = none) (k j : Nat)
    (ho : o.op = .store 26 (.tmp k) (.tmp j)) (b : Nat) (c s lo hi : Int) (hv : Value) (fu : Bool) (u0 u1 u2 u3 u5 : Value) (ha : Option Addr) (hn hc : Nat) (hx : a.eval (.tmp k) = .pointer (some ⟨b, 0, none⟩)) (hve : a.eval (.tmp j) = .agg #[.int .i64 c, .int .i64 s, .int .i64 lo, .int .i64 hi, .slice ha hn hc, .bool fu]) (h0 : w.cell? ⟨b, 0, none⟩ = some u0) (h1 : w.cell? ⟨b, 1, none⟩ = some u1) (h2 : w.cell? ⟨b, 2, none⟩ = some u2) (h3 : w.cell? ⟨b, 3, none⟩ = some u3) (h4 : w.cell? ⟨b, 4, none⟩ = some hv) (h5 : w.cell? ⟨b, 5, none⟩ = some u5) (hf : ∀ i, w.frozen? ⟨b, i, none⟩ = false)
    (h : K (a.put o.dst undef) ((((((w.setCell ⟨b, 0, none⟩ (.int .i64 c)).setCell ⟨b, 1, none⟩ (.int .i64 s)).setCell ⟨b, 2, none⟩ (.int .i64 lo)).setCell ⟨b, 3, none⟩ (.int .i64 hi)).setCell ⟨b, 4, none⟩ (.slice ha hn hc)).setCell ⟨b, 5, none⟩ (.bool fu))) :
    if Region.wanted o (yielded ops a.tmps) = true then Oper.wp Try.prog o a w K Q else E := by
  have hw : Region.wanted o (yielded ops a.tmps) = true := by simp [Region.wanted, hgd]
  rw [if_pos hw]
  have hx' : a.tmps.getD k undef = .pointer (some ⟨b, 0, none⟩) := hx
  have hv' : a.tmps.getD j undef = .agg #[.int .i64 c, .int .i64 s, .int .i64 lo, .int .i64 hi, .slice ha hn hc, .bool fu] := hve
  have f0 := hf 0
  have f1 := hf 1
  have f2 := hf 2
  have f3 := hf 3
  have f4 := hf 4
  have f5 := hf 5
  unfold Oper.wp execOp
  simp only [ho, Act.eval, hx', hv']
  go_simp
  exact h

/-- An agg at work: R the result's box, D its own. -/
structure AW (w w' : World) (R D CB : Nat) (ao : Option Addr) (n cap : Nat) (f : Nat → Int) (A : Nat) (y : Ent) (g gc : Nat) : Prop where
  C : CS w w' CB ao n cap f A
  RA : AAt w' R 0 0 0 0 (.slice none 0 0) false
  RF : ∀ j, w'.frozen? ⟨R, j, none⟩ = false
  DA : AAt w' D y.c y.s y.lo y.hi (.slice (some ⟨g, 0, none⟩) 8 gc) y.fu
  DF : ∀ j, w'.frozen? ⟨D, j, none⟩ = false
  H : IOwn w' g 0 8 y.f
  ne : w.heap.size ≤ R ∧ w.heap.size ≤ D ∧ w.heap.size ≤ g ∧ R ≠ D ∧ g ≠ D ∧ g ≠ R ∧ 8 ≤ gc
section
variable {w w' w'' : World} {R D CB : Nat} {ao : Option Addr} {n cap : Nat} {f : Nat → Int} {A A' : Nat} {y : Ent} {g gc : Nat}
theorem AW.draw (h : AW w w' R D CB ao n cap f A y g gc) (k : CS w' w'' CB ao n cap f A') : AW w w'' R D CB ao n cap f A' y g gc := by
  have hl := h.C.lt
  have hn := h.ne
  exact ⟨h.C.trans k, aat_grown h.RA k.gr (by omega), froz_grown h.RF h.RA.lt k.gr (by omega), aat_grown h.DA k.gr (by omega), froz_grown h.DF h.DA.lt k.gr (by omega), iown_grown h.H k.gr (by omega), hn⟩
theorem AW.keep (h : AW w w' R D CB ao n cap f A y g gc) (hb : Below w'.heap.size w' w'') : AW w w'' R D CB ao n cap f A y g gc :=
  ⟨h.C.keep hb, h.RA.keep hb, froz_keep h.RF h.RA.lt hb, h.DA.keep hb, froz_keep h.DF h.DA.lt hb, h.H.keep hb, h.ne⟩
theorem AW.put (h : AW w w' R D CB ao n cap f A y g gc) {y' : Ent} {g' gc' : Nat} (ho : IOwn w' g' 0 8 y'.f) (hg : w.heap.size ≤ g' ∧ g' ≠ D ∧ g' ≠ R ∧ 8 ≤ gc') :
    AW w ((((((w'.setCell ⟨D, 0, none⟩ (.int .i64 y'.c)).setCell ⟨D, 1, none⟩ (.int .i64 y'.s)).setCell ⟨D, 2, none⟩ (.int .i64 y'.lo)).setCell ⟨D, 3, none⟩ (.int .i64 y'.hi)).setCell ⟨D, 4, none⟩ (.slice (some ⟨g', 0, none⟩) 8 gc')).setCell ⟨D, 5, none⟩ (.bool y'.fu)) R D CB ao n cap f A y' g' gc' := by
  have ot : Others D w' ((((((w'.setCell ⟨D, 0, none⟩ (.int .i64 y'.c)).setCell ⟨D, 1, none⟩ (.int .i64 y'.s)).setCell ⟨D, 2, none⟩ (.int .i64 y'.lo)).setCell ⟨D, 3, none⟩ (.int .i64 y'.hi)).setCell ⟨D, 4, none⟩ (.slice (some ⟨g', 0, none⟩) 8 gc')).setCell ⟨D, 5, none⟩ (.bool y'.fu)) := (((((Others.setCell _ _ _ _).trans (Others.setCell _ _ _ _)).trans (Others.setCell _ _ _ _)).trans (Others.setCell _ _ _ _)).trans (Others.setCell _ _ _ _)).trans (Others.setCell _ _ _ _)
  have hn := h.ne
  have d := h.DA
  refine ⟨h.C.others ot (by omega), h.RA.others ot (by omega), fun j => (World.frozen?_of_block (w := w') (a := ⟨R, j, none⟩) (ot.block R (by omega))).trans (h.RF j), ⟨by rw [ot.size]; exact d.lt, ?_, ?_, ?_, ?_, ?_, ?_⟩, fun j => by simp only [World.frozen?_setCell]; exact h.DF j, iown_others ho ot (by omega), by omega⟩
  all_goals simp [go_sem, d.c0, d.c1, d.c2, d.c3, d.c4, d.c5]
theorem AW.set0 (h : AW w w' R D CB ao n cap f A y g gc) (v : Int) : AW w (w'.setCell ⟨D, 0, none⟩ (.int .i64 v)) R D CB ao n cap f A { y with c := v } g gc := by
  have ot : Others D w' (w'.setCell ⟨D, 0, none⟩ (.int .i64 v)) := Others.setCell _ _ _ _
  have hn := h.ne
  have d := h.DA
  refine ⟨h.C.others ot (by omega), h.RA.others ot (by omega), fun j => (World.frozen?_of_block (w := w') (a := ⟨R, j, none⟩) (ot.block R (by omega))).trans (h.RF j), ⟨by rw [ot.size]; exact d.lt, ?_, ?_, ?_, ?_, ?_, ?_⟩, fun j => by simp only [World.frozen?_setCell]; exact h.DF j, iown_others h.H ot (by omega), by omega⟩
  all_goals simp [go_sem, d.c0, d.c1, d.c2, d.c3, d.c4, d.c5]
theorem AW.set2 (h : AW w w' R D CB ao n cap f A y g gc) (v : Int) : AW w (w'.setCell ⟨D, 2, none⟩ (.int .i64 v)) R D CB ao n cap f A { y with lo := v } g gc := by
  have ot : Others D w' (w'.setCell ⟨D, 2, none⟩ (.int .i64 v)) := Others.setCell _ _ _ _
  have hn := h.ne
  have d := h.DA
  refine ⟨h.C.others ot (by omega), h.RA.others ot (by omega), fun j => (World.frozen?_of_block (w := w') (a := ⟨R, j, none⟩) (ot.block R (by omega))).trans (h.RF j), ⟨by rw [ot.size]; exact d.lt, ?_, ?_, ?_, ?_, ?_, ?_⟩, fun j => by simp only [World.frozen?_setCell]; exact h.DF j, iown_others h.H ot (by omega), by omega⟩
  all_goals simp [go_sem, d.c0, d.c1, d.c2, d.c3, d.c4, d.c5]
theorem AW.set5 (h : AW w w' R D CB ao n cap f A y g gc) (v : Bool) : AW w (w'.setCell ⟨D, 5, none⟩ (.bool v)) R D CB ao n cap f A { y with fu := v } g gc := by
  have ot : Others D w' (w'.setCell ⟨D, 5, none⟩ (.bool v)) := Others.setCell _ _ _ _
  have hn := h.ne
  have d := h.DA
  refine ⟨h.C.others ot (by omega), h.RA.others ot (by omega), fun j => (World.frozen?_of_block (w := w') (a := ⟨R, j, none⟩) (ot.block R (by omega))).trans (h.RF j), ⟨by rw [ot.size]; exact d.lt, ?_, ?_, ?_, ?_, ?_, ?_⟩, fun j => by simp only [World.frozen?_setCell]; exact h.DF j, iown_others h.H ot (by omega), by omega⟩
  all_goals simp [go_sem, d.c0, d.c1, d.c2, d.c3, d.c4, d.c5]
theorem AW.setH (h : AW w w' R D CB ao n cap f A y g gc) (v : Int) (hv : -9223372036854775808 ≤ v ∧ v ≤ 9223372036854775807) : AW w (w'.setCell ⟨g, 3, none⟩ (.int .i64 v)) R D CB ao n cap f A { y with f := fun i => if i = 3 then v else y.f i } g gc := by
  have ot : Others g w' (w'.setCell ⟨g, 3, none⟩ (.int .i64 v)) := Others.setCell _ _ _ _
  have hn := h.ne
  exact ⟨h.C.others ot (by omega), h.RA.others ot (by omega), fun j => (World.frozen?_of_block (w := w') (a := ⟨R, j, none⟩) (ot.block R (by omega))).trans (h.RF j), h.DA.others ot (by omega), fun j => (World.frozen?_of_block (w := w') (a := ⟨D, j, none⟩) (ot.block D (by omega))).trans (h.DF j), iown_set h.H 3 (by omega) v hv, hn⟩
end
end Go.Proofs.Ytiigpmhaicfocaa
