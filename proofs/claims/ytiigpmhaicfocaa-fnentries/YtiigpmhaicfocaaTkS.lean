/- An agg that is written: its cells and its Hist. -/
import Derived.Test.YtiigpmhaicfocaaFd
import Derived.Test.YtiigpmhaicfocaaOe
import Derived.Test.YtiigpmhaicfocaaZa
namespace Go.Proofs.Ytiigpmhaicfocaa
open Go.RowKit
set_option linter.unusedSimpArgs false
set_option linter.unusedVariables false

theorem Others.drew {d : Nat} {w w' : World} (h : Others d w w') : Others d w w'.drew := ⟨h.os, h.tape, h.output, h.size, h.block⟩
theorem frozen_set (w : World) (a p : Addr) (v : Value) : (w.setCell a v).frozen? p = w.frozen? p := by simp [go_sem]
/-- An agg at B whose Hist is at G, and another one, only read, in the box D. -/
structure TS (B G D : Nat) (b : Ent) (bo : Option Addr) (bc : Nat) (w W : World) (c s lo hi : Int) (fu : Bool) (f : Nat → Int) : Prop where
  A : AAt W B c s lo hi (.slice (some ⟨G, 0, none⟩) 8 8) fu
  fz : ∀ j, j < 6 → W.frozen? ⟨B, j, none⟩ = false
  N : AAt W D b.c b.s b.lo b.hi (.slice bo b.n bc) b.fu
  H : IOwn W G 0 8 f
  R : IRow W bo b.n b.f
  os : W.os = w.os
  tape : W.tape = w.tape
  output : W.output = w.output
  size : W.heap.size = w.heap.size
  block : ∀ c, c ≠ B → c ≠ G → W.heap[c]? = w.heap[c]?
section
variable {B G D : Nat} {b : Ent} {bo : Option Addr} {bc : Nat} {w W : World} {c s lo hi : Int} {fu : Bool} {f : Nat → Int}
theorem irow_others {d : Nat} {W W' : World} {ao : Option Addr} {n : Nat} {f : Nat → Int} (h : IRow W ao n f) (ho : Others d W W') (hne : ∀ g off p, ao = some ⟨g, off, p⟩ → g ≠ d) : IRow W' ao n f := by
  obtain ⟨h1, h2⟩ := h
  refine ⟨h1, h2.elim .inl ?_⟩
  rintro ⟨g, off, rfl, hlt, hc⟩
  exact .inr ⟨g, off, rfl, by rw [ho.size]; exact hlt, fun i hi => (World.cell?_of_block (w := W) (a := ⟨g, off + i, none⟩) (ho.block g (hne _ _ _ rfl))).trans (hc i hi)⟩
theorem TS.drew (h : TS B G D b bo bc w W c s lo hi fu f) : TS B G D b bo bc w W.drew c s lo hi fu f :=
  have ho : Below W.heap.size W W.drew := (Below.refl _ _).drew
  ⟨h.A.keep ho, fun j hj => (ho.frozen (p := ⟨B, j, none⟩) h.A.lt).trans (h.fz j hj), h.N.keep ho, h.H.keep ho, h.R.keep ho, h.os, h.tape, h.output, h.size, h.block⟩
theorem TS.keep0 {W' : World} {c' s' lo' hi' : Int} {fu' : Bool} (h : TS B G D b bo bc w W c s lo hi fu f) (hBG : B ≠ G) (hDB : D ≠ B) (hbo : ∀ g off p, bo = some ⟨g, off, p⟩ → g ≠ B ∧ g ≠ G) (ho : Others B W W') (hA : AAt W' B c' s' lo' hi' (.slice (some ⟨G, 0, none⟩) 8 8) fu') (hf : ∀ j, j < 6 → W'.frozen? ⟨B, j, none⟩ = false) : TS B G D b bo bc w W' c' s' lo' hi' fu' f :=
  ⟨hA, hf, h.N.others ho hDB, ho.irow h.H hBG.symm, irow_others h.R ho (fun g off p e => (hbo g off p e).1), ho.os.trans h.os, ho.tape.trans h.tape, ho.output.trans h.output, ho.size.trans h.size, fun c h1 h2 => (ho.block c h1).trans (h.block c h1 h2)⟩
theorem adr_ne {B i j : Nat} (h : i ≠ j) : (⟨B, i, none⟩ : Addr) ≠ ⟨B, j, none⟩ := fun e => by injection e; omega
theorem TS.set0 (h : TS B G D b bo bc w W c s lo hi fu f) (hBG : B ≠ G) (hDB : D ≠ B) (hbo : ∀ g off p, bo = some ⟨g, off, p⟩ → g ≠ B ∧ g ≠ G) (v : Int) : TS B G D b bo bc w (W.setCell ⟨B, 0, none⟩ (.int .i64 v)) v s lo hi fu f :=
  h.keep0 hBG hDB hbo (Others.setCell _ _ _ _) ⟨by rw [World.size_setCell]; exact h.A.lt, World.cell?_setCell_same _ _ _ h.A.c0, (World.cell?_setCell_other _ _ _ _ (adr_ne (by decide))).trans h.A.c1, (World.cell?_setCell_other _ _ _ _ (adr_ne (by decide))).trans h.A.c2, (World.cell?_setCell_other _ _ _ _ (adr_ne (by decide))).trans h.A.c3, (World.cell?_setCell_other _ _ _ _ (adr_ne (by decide))).trans h.A.c4, (World.cell?_setCell_other _ _ _ _ (adr_ne (by decide))).trans h.A.c5⟩ (fun j hj => (frozen_set _ _ _ _).trans (h.fz j hj))
theorem TS.set1 (h : TS B G D b bo bc w W c s lo hi fu f) (hBG : B ≠ G) (hDB : D ≠ B) (hbo : ∀ g off p, bo = some ⟨g, off, p⟩ → g ≠ B ∧ g ≠ G) (v : Int) : TS B G D b bo bc w (W.setCell ⟨B, 1, none⟩ (.int .i64 v)) c v lo hi fu f :=
  h.keep0 hBG hDB hbo (Others.setCell _ _ _ _) ⟨by rw [World.size_setCell]; exact h.A.lt, (World.cell?_setCell_other _ _ _ _ (adr_ne (by decide))).trans h.A.c0, World.cell?_setCell_same _ _ _ h.A.c1, (World.cell?_setCell_other _ _ _ _ (adr_ne (by decide))).trans h.A.c2, (World.cell?_setCell_other _ _ _ _ (adr_ne (by decide))).trans h.A.c3, (World.cell?_setCell_other _ _ _ _ (adr_ne (by decide))).trans h.A.c4, (World.cell?_setCell_other _ _ _ _ (adr_ne (by decide))).trans h.A.c5⟩ (fun j hj => (frozen_set _ _ _ _).trans (h.fz j hj))
theorem TS.set2 (h : TS B G D b bo bc w W c s lo hi fu f) (hBG : B ≠ G) (hDB : D ≠ B) (hbo : ∀ g off p, bo = some ⟨g, off, p⟩ → g ≠ B ∧ g ≠ G) (v : Int) : TS B G D b bo bc w (W.setCell ⟨B, 2, none⟩ (.int .i64 v)) c s v hi fu f :=
  h.keep0 hBG hDB hbo (Others.setCell _ _ _ _) ⟨by rw [World.size_setCell]; exact h.A.lt, (World.cell?_setCell_other _ _ _ _ (adr_ne (by decide))).trans h.A.c0, (World.cell?_setCell_other _ _ _ _ (adr_ne (by decide))).trans h.A.c1, World.cell?_setCell_same _ _ _ h.A.c2, (World.cell?_setCell_other _ _ _ _ (adr_ne (by decide))).trans h.A.c3, (World.cell?_setCell_other _ _ _ _ (adr_ne (by decide))).trans h.A.c4, (World.cell?_setCell_other _ _ _ _ (adr_ne (by decide))).trans h.A.c5⟩ (fun j hj => (frozen_set _ _ _ _).trans (h.fz j hj))
theorem TS.set3 (h : TS B G D b bo bc w W c s lo hi fu f) (hBG : B ≠ G) (hDB : D ≠ B) (hbo : ∀ g off p, bo = some ⟨g, off, p⟩ → g ≠ B ∧ g ≠ G) (v : Int) : TS B G D b bo bc w (W.setCell ⟨B, 3, none⟩ (.int .i64 v)) c s lo v fu f :=
  h.keep0 hBG hDB hbo (Others.setCell _ _ _ _) ⟨by rw [World.size_setCell]; exact h.A.lt, (World.cell?_setCell_other _ _ _ _ (adr_ne (by decide))).trans h.A.c0, (World.cell?_setCell_other _ _ _ _ (adr_ne (by decide))).trans h.A.c1, (World.cell?_setCell_other _ _ _ _ (adr_ne (by decide))).trans h.A.c2, World.cell?_setCell_same _ _ _ h.A.c3, (World.cell?_setCell_other _ _ _ _ (adr_ne (by decide))).trans h.A.c4, (World.cell?_setCell_other _ _ _ _ (adr_ne (by decide))).trans h.A.c5⟩ (fun j hj => (frozen_set _ _ _ _).trans (h.fz j hj))
theorem TS.set5 (h : TS B G D b bo bc w W c s lo hi fu f) (hBG : B ≠ G) (hDB : D ≠ B) (hbo : ∀ g off p, bo = some ⟨g, off, p⟩ → g ≠ B ∧ g ≠ G) (v : Bool) : TS B G D b bo bc w (W.setCell ⟨B, 5, none⟩ (.bool v)) c s lo hi v f :=
  h.keep0 hBG hDB hbo (Others.setCell _ _ _ _) ⟨by rw [World.size_setCell]; exact h.A.lt, (World.cell?_setCell_other _ _ _ _ (adr_ne (by decide))).trans h.A.c0, (World.cell?_setCell_other _ _ _ _ (adr_ne (by decide))).trans h.A.c1, (World.cell?_setCell_other _ _ _ _ (adr_ne (by decide))).trans h.A.c2, (World.cell?_setCell_other _ _ _ _ (adr_ne (by decide))).trans h.A.c3, (World.cell?_setCell_other _ _ _ _ (adr_ne (by decide))).trans h.A.c4, World.cell?_setCell_same _ _ _ h.A.c5⟩ (fun j hj => (frozen_set _ _ _ _).trans (h.fz j hj))
theorem TS.hist (h : TS B G D b bo bc w W c s lo hi fu f) (hBG : B ≠ G) (hDG : D ≠ G) (hbo : ∀ g off p, bo = some ⟨g, off, p⟩ → g ≠ B ∧ g ≠ G) (i : Nat) (hi8 : i < 8) (v : Int) (hv : -9223372036854775808 ≤ v ∧ v ≤ 9223372036854775807) : TS B G D b bo bc w (W.setCell ⟨G, i, none⟩ (.int .i64 v)) c s lo hi fu (fun j => if j = i then v else f j) := by
  have ho : Others G W (W.setCell ⟨G, i, none⟩ (.int .i64 v)) := Others.setCell _ _ _ _
  refine ⟨h.A.others ho hBG, fun j hj => (frozen_set _ _ _ _).trans (h.fz j hj), h.N.others ho hDG, ?_, irow_others h.R ho (fun g off p e => (hbo g off p e).2), ho.os.trans h.os, ho.tape.trans h.tape, ho.output.trans h.output, ho.size.trans h.size, fun c h1 h2 => (ho.block c h2).trans (h.block c h1 h2)⟩
  refine ⟨fun j => ?_, by rw [World.size_setCell]; exact h.H.lt, fun j hj => ?_, fun j hj => (frozen_set _ _ _ _).trans (h.H.free j hj)⟩
  · split
    · exact hv
    · exact h.H.bd j
  · have h0 := h.H.cell j hj
    rw [Nat.zero_add] at h0 ⊢
    by_cases e : j = i
    · subst e
      rw [if_pos rfl]
      exact World.cell?_setCell_same _ _ _ h0
    · rw [if_neg e]
      exact (World.cell?_setCell_other _ _ _ _ (adr_ne (Ne.symm e))).trans h0
end
end Go.Proofs.Ytiigpmhaicfocaa
