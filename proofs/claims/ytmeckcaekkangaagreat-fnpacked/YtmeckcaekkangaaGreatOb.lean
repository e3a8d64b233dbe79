/- A box with an agg that is written. -/
import Derived.Test.YtmeckcaekkangaaGreatTkS
namespace Go.Proofs.YtmeckcaekkangaaGreat
set_option maxRecDepth 100000
open Go.RowKit
set_option linter.unusedSimpArgs false
set_option linter.unusedVariables false

/-- An agg in the box D, all else below D being kept. -/
structure OB (w W : World) (D : Nat) (c s lo hi : Int) (hv : Value) (fu : Bool) : Prop where
  A : AAt W D c s lo hi hv fu
  fz : ∀ j, W.frozen? ⟨D, j, none⟩ = false
  bw : Below D w W
section
variable {w W W' : World} {D : Nat} {c s lo hi : Int} {hv : Value} {fu : Bool}
theorem OB.set0 (h : OB w W D c s lo hi hv fu) (v : Int) : OB w (W.setCell ⟨D, 0, none⟩ (.int .i64 v)) D v s lo hi hv fu :=
  ⟨⟨by rw [World.size_setCell]; exact h.A.lt, World.cell?_setCell_same _ _ _ h.A.c0, (World.cell?_setCell_other _ _ _ _ (adr_ne (by decide))).trans h.A.c1, (World.cell?_setCell_other _ _ _ _ (adr_ne (by decide))).trans h.A.c2, (World.cell?_setCell_other _ _ _ _ (adr_ne (by decide))).trans h.A.c3, (World.cell?_setCell_other _ _ _ _ (adr_ne (by decide))).trans h.A.c4, (World.cell?_setCell_other _ _ _ _ (adr_ne (by decide))).trans h.A.c5⟩, fun j => (frozen_set _ _ _ _).trans (h.fz j), Below.setCell h.bw (Nat.le_refl _) _⟩
theorem OB.set1 (h : OB w W D c s lo hi hv fu) (v : Int) : OB w (W.setCell ⟨D, 1, none⟩ (.int .i64 v)) D c v lo hi hv fu :=
  ⟨⟨by rw [World.size_setCell]; exact h.A.lt, (World.cell?_setCell_other _ _ _ _ (adr_ne (by decide))).trans h.A.c0, World.cell?_setCell_same _ _ _ h.A.c1, (World.cell?_setCell_other _ _ _ _ (adr_ne (by decide))).trans h.A.c2, (World.cell?_setCell_other _ _ _ _ (adr_ne (by decide))).trans h.A.c3, (World.cell?_setCell_other _ _ _ _ (adr_ne (by decide))).trans h.A.c4, (World.cell?_setCell_other _ _ _ _ (adr_ne (by decide))).trans h.A.c5⟩, fun j => (frozen_set _ _ _ _).trans (h.fz j), Below.setCell h.bw (Nat.le_refl _) _⟩
theorem OB.set2 (h : OB w W D c s lo hi hv fu) (v : Int) : OB w (W.setCell ⟨D, 2, none⟩ (.int .i64 v)) D c s v hi hv fu :=
  ⟨⟨by rw [World.size_setCell]; exact h.A.lt, (World.cell?_setCell_other _ _ _ _ (adr_ne (by decide))).trans h.A.c0, (World.cell?_setCell_other _ _ _ _ (adr_ne (by decide))).trans h.A.c1, World.cell?_setCell_same _ _ _ h.A.c2, (World.cell?_setCell_other _ _ _ _ (adr_ne (by decide))).trans h.A.c3, (World.cell?_setCell_other _ _ _ _ (adr_ne (by decide))).trans h.A.c4, (World.cell?_setCell_other _ _ _ _ (adr_ne (by decide))).trans h.A.c5⟩, fun j => (frozen_set _ _ _ _).trans (h.fz j), Below.setCell h.bw (Nat.le_refl _) _⟩
theorem OB.set3 (h : OB w W D c s lo hi hv fu) (v : Int) : OB w (W.setCell ⟨D, 3, none⟩ (.int .i64 v)) D c s lo v hv fu :=
  ⟨⟨by rw [World.size_setCell]; exact h.A.lt, (World.cell?_setCell_other _ _ _ _ (adr_ne (by decide))).trans h.A.c0, (World.cell?_setCell_other _ _ _ _ (adr_ne (by decide))).trans h.A.c1, (World.cell?_setCell_other _ _ _ _ (adr_ne (by decide))).trans h.A.c2, World.cell?_setCell_same _ _ _ h.A.c3, (World.cell?_setCell_other _ _ _ _ (adr_ne (by decide))).trans h.A.c4, (World.cell?_setCell_other _ _ _ _ (adr_ne (by decide))).trans h.A.c5⟩, fun j => (frozen_set _ _ _ _).trans (h.fz j), Below.setCell h.bw (Nat.le_refl _) _⟩
theorem OB.set4 (h : OB w W D c s lo hi hv fu) (v : Value) : OB w (W.setCell ⟨D, 4, none⟩ v) D c s lo hi v fu :=
  ⟨⟨by rw [World.size_setCell]; exact h.A.lt, (World.cell?_setCell_other _ _ _ _ (adr_ne (by decide))).trans h.A.c0, (World.cell?_setCell_other _ _ _ _ (adr_ne (by decide))).trans h.A.c1, (World.cell?_setCell_other _ _ _ _ (adr_ne (by decide))).trans h.A.c2, (World.cell?_setCell_other _ _ _ _ (adr_ne (by decide))).trans h.A.c3, World.cell?_setCell_same _ _ _ h.A.c4, (World.cell?_setCell_other _ _ _ _ (adr_ne (by decide))).trans h.A.c5⟩, fun j => (frozen_set _ _ _ _).trans (h.fz j), Below.setCell h.bw (Nat.le_refl _) _⟩
theorem OB.set5 (h : OB w W D c s lo hi hv fu) (v : Bool) : OB w (W.setCell ⟨D, 5, none⟩ (.bool v)) D c s lo hi hv v :=
  ⟨⟨by rw [World.size_setCell]; exact h.A.lt, (World.cell?_setCell_other _ _ _ _ (adr_ne (by decide))).trans h.A.c0, (World.cell?_setCell_other _ _ _ _ (adr_ne (by decide))).trans h.A.c1, (World.cell?_setCell_other _ _ _ _ (adr_ne (by decide))).trans h.A.c2, (World.cell?_setCell_other _ _ _ _ (adr_ne (by decide))).trans h.A.c3, (World.cell?_setCell_other _ _ _ _ (adr_ne (by decide))).trans h.A.c4, World.cell?_setCell_same _ _ _ h.A.c5⟩, fun j => (frozen_set _ _ _ _).trans (h.fz j), Below.setCell h.bw (Nat.le_refl _) _⟩
theorem OB.keep (h : OB w W D c s lo hi hv fu) (hb : Below W.heap.size W W') : OB w W' D c s lo hi hv fu :=
  ⟨h.A.keep hb, fun j => (hb.frozen (p := ⟨D, j, none⟩) h.A.lt).trans (h.fz j), h.bw.trans (hb.mono (Nat.le_of_lt h.A.lt))⟩
end
end Go.Proofs.YtmeckcaekkangaaGreat
