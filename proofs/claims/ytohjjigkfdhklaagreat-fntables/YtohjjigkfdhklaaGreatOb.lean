/- The zero agg, in both texts. / A box with an agg that is written. -/
import Derived.Test.YtohjjigkfdhklaaGreatOe
import Derived.Test.YtohjjigkfdhklaaGreatAd
import Derived.OwnWalk
import Derived.Test.YtohjjigkfdhklaaGreatIL
namespace Go.Proofs.YtohjjigkfdhklaaGreat
set_option maxRecDepth 100000
open Go.RowKit
set_option linter.unusedSimpArgs false
set_option linter.unusedVariables false

/-- The zero agg made anew. -/
def NewZ (w : World) (e : Ending) (w' : World) : Prop :=
  ∃ g, e = .returned (.agg #[.int .i64 0, .int .i64 0, .int .i64 0, .int .i64 0, .slice (some ⟨g, 0, none⟩) 8 8, .bool false]) ∧ w.heap.size ≤ g ∧ IOwn w' g 0 8 (fun _ => 0) ∧ Below w.heap.size w w'
theorem iown_others {d : Nat} {w w' : World} {g n : Nat} {f : Nat → Int} (h : IOwn w g 0 n f) (ho : Others d w w') (hne : g ≠ d) : IOwn w' g 0 n f := ho.irow h hne

set_option maxRecDepth 100000 in
set_option maxHeartbeats 1000000 in
theorem zeroAgg_any (w : World) : Calls Tryz.prog 151 #[] w fun e w' => NewZ w e w' := by
  obtain ⟨i0, hi, hz0, hz1, hz2⟩ := info_parts Tryz.infoInt
  have hB := below_new w (.cells #[.int .i64 0, .int .i64 0, .int .i64 0, .int .i64 0, .slice none 0 0, .bool false] 33)
  have N0 := AAt.new w 0 0 0 0 (.slice none 0 0) false 33
  have F0 : ∀ j, (w.alloc (.cells #[.int .i64 0, .int .i64 0, .int .i64 0, .int .i64 0, .slice none 0 0, .bool false] 33)).frozen? ⟨w.heap.size, j, none⟩ = false := fun j => by simp [go_sem]
  go_enter Tryz.func151, Tryz.ntmps151
  go_wp2_with (at_make; generalize w.alloc (.cells #[.int .i64 0, .int .i64 0, .int .i64 0, .int .i64 0, .slice none 0 0, .bool false] 33) = w0 at hB N0 F0 ⊢; refine wpList_make_full _ rfl (.const (.int .i64 8)) (.const (.int .i64 8)) 31 rfl w0.heap.size 3 i0 (.int .i64 0) 1 Tryz.underlying31 hi hz0 hz1 .i64 .i64 _ _ 8 rfl rfl rfl rfl (by rw [hz2]; omega) (by unfold maxLen; omega) (Nat.le_refl _) ?_; intro w1 hown hgrow; have hb1 : Below w0.heap.size w0 w1 := (Below.refl _ _).grown hgrow (Nat.le_refl _) (fun k h => by simp at h); have N1 := N0.keep hb1; have F1 : ∀ j, w1.frozen? ⟨w.heap.size, j, none⟩ = false := fun j => (hb1.frozen (p := ⟨w.heap.size, j, none⟩) N0.lt).trans (F0 j); obtain ⟨_, n0, n1, n2, n3, n4, n5⟩ := N1)
  have hlt1 : w0.heap.size < w1.heap.size := by
    rcases hown.2 with ⟨h, _⟩ | ⟨g', cap', cur, h, _, hg, _⟩
    · simp at h
    · simp at h; obtain ⟨rfl, _⟩ := h
      exact (Array.getElem?_eq_some_iff.1 hg).1
  have ho := iown_of_made hown hlt1
  have hl0 := N0.lt
  clear hown hgrow
  refine bodyPost_ret (v := .agg #[.int .i64 0, .int .i64 0, .int .i64 0, .int .i64 0, .slice (some ⟨w0.heap.size, 0, none⟩) 8 8, .bool false]) (by simp [results, Tryz.results151, go_sem, n0, n1, n2, n3, n4, n5]) rfl ⟨w0.heap.size, rfl, hB.size, ?_, ?_⟩
  · repeat' refine iown_others ?_ (Others.setCell _ _ _ _) (by omega)
    exact ho
  · repeat' refine Below.setCell ?_ (by first | (simp; done) | (simp; omega)) _
    exact hB.trans (hb1.mono hB.size)

set_option maxRecDepth 100000 in
set_option maxHeartbeats 1000000 in
theorem l4Zero_any (w : World) : Calls Tryz.prog 114 #[] w fun e w' => NewZ w e w' := by
  obtain ⟨i0, hi, hz0, hz1, hz2⟩ := info_parts Tryz.infoInt
  have hB := below_new w (.cells #[.int .i64 0, .int .i64 0, .int .i64 0, .int .i64 0, .slice none 0 0, .bool false] 33)
  have N0 := AAt.new w 0 0 0 0 (.slice none 0 0) false 33
  have F0 : ∀ j, (w.alloc (.cells #[.int .i64 0, .int .i64 0, .int .i64 0, .int .i64 0, .slice none 0 0, .bool false] 33)).frozen? ⟨w.heap.size, j, none⟩ = false := fun j => by simp [go_sem]
  go_enter Tryz.func114, Tryz.ntmps114
  go_wp2_with (at_make; generalize w.alloc (.cells #[.int .i64 0, .int .i64 0, .int .i64 0, .int .i64 0, .slice none 0 0, .bool false] 33) = w0 at hB N0 F0 ⊢; refine wpList_make_full _ rfl (.const (.int .i64 8)) (.const (.int .i64 8)) 31 rfl w0.heap.size 3 i0 (.int .i64 0) 1 Tryz.underlying31 hi hz0 hz1 .i64 .i64 _ _ 8 rfl rfl rfl rfl (by rw [hz2]; omega) (by unfold maxLen; omega) (Nat.le_refl _) ?_; intro w1 hown hgrow; have hb1 : Below w0.heap.size w0 w1 := (Below.refl _ _).grown hgrow (Nat.le_refl _) (fun k h => by simp at h); have N1 := N0.keep hb1; have F1 : ∀ j, w1.frozen? ⟨w.heap.size, j, none⟩ = false := fun j => (hb1.frozen (p := ⟨w.heap.size, j, none⟩) N0.lt).trans (F0 j); obtain ⟨_, n0, n1, n2, n3, n4, n5⟩ := N1)
  have hlt1 : w0.heap.size < w1.heap.size := by
    rcases hown.2 with ⟨h, _⟩ | ⟨g', cap', cur, h, _, hg, _⟩
    · simp at h
    · simp at h; obtain ⟨rfl, _⟩ := h
      exact (Array.getElem?_eq_some_iff.1 hg).1
  have ho := iown_of_made hown hlt1
  have hl0 := N0.lt
  clear hown hgrow
  refine bodyPost_ret (v := .agg #[.int .i64 0, .int .i64 0, .int .i64 0, .int .i64 0, .slice (some ⟨w0.heap.size, 0, none⟩) 8 8, .bool false]) (by simp [results, Tryz.results114, go_sem, n0, n1, n2, n3, n4, n5]) rfl ⟨w0.heap.size, rfl, hB.size, ?_, ?_⟩
  · repeat' refine iown_others ?_ (Others.setCell _ _ _ _) (by omega)
    exact ho
  · repeat' refine Below.setCell ?_ (by first | (simp; done) | (simp; omega)) _
    exact hB.trans (hb1.mono hB.size)
end Go.Proofs.YtohjjigkfdhklaaGreat
namespace Go.Proofs.YtohjjigkfdhklaaGreat
set_option maxRecDepth 100000
open Go.RowKit
set_option linter.unusedSimpArgs false
set_option linter.unusedVariables false

theorem frozen_set (w : World) (a p : Addr) (v : Value) : (w.setCell a v).frozen? p = w.frozen? p := by simp [go_sem]
theorem adr_ne {B i j : Nat} (h : i ≠ j) : (⟨B, i, none⟩ : Addr) ≠ ⟨B, j, none⟩ := fun e => by injection e; omega
/-- An agg in the box D, all else below D being kept. -/
structure OB (w W : World) (D : Nat) (c s lo hi : Int) (hv : Value) (fu : Bool) : Prop where
  A : AAt W D c s lo hi hv fu
  fz : ∀ j, W.frozen? ⟨D, j, none⟩ = false
  bw : Below D w W
section
variable {w W W' : World} {D : Nat} {c s lo hi : Int} {hv : Value} {fu : Bool}
theorem OB.set0 (h : OB w W D c s lo hi hv fu) (v : Int) : OB w (W.setCell ⟨D, 0, none⟩ (.int .i64 v)) D v s lo hi hv fu :=
  ⟨⟨by rw [World.size_setCell]; exact h.A.lt, World.cell?_setCell_same _ _ _ h.A.c0, (World.cell?_setCell_other _ _ _ _ (adr_ne (by decide))).trans h.A.c1, (World.cell?_setCell_other _ _ _ _ (adr_ne (by decide))).trans h.A.c2, (World.cell?_setCell_other _ _ _ _ (adr_ne (by decide))).trans h.A.c3, (World.cell?_setCell_other _ _ _ _ (adr_ne (by decide))).trans h.A.c4, (World.cell?_setCell_other _ _ _ _ (adr_ne (by decide))).trans h.A.c5⟩, fun j => (frozen_set _ _ _ _).trans (h.fz j), Below.setCell h.bw (Nat.le_refl _) _⟩
theorem OB.set1 (h : OB w W D c s lo hi hv fu) (v : Int) : OB w (W.setCell ⟨D, 1, none⟩ (.int .i64 v)) D c v lo hi hv fu :=
  ⟨⟨by rw [World.size_setCell]; exact h.A.lt, (World.cell?_setCell_other _ _ _ _ (adr_ne (by decide))).trans h.A.c0, World.cell?_setCell_same _ _ _ h.A.c1, (World.cell?_setCell_other _ _ _ _ (adr_ne (by decide))).trans h.A.c2, (World.cell?_setCell_other _ _ _ _ (adr_ne (by decide))).trans h.A.c3, (World.cell?_setCell_other _ _ _ _ (adr_ne (by decide))).trans h.A.c4, (World.cell?_setCell_other _ _ _ _ (adr_ne (by decide))).trans h.A.c5⟩, fun j => (frozen_set _ _ _ _).trans (h.fz j), Below.setCell h.bw (Nat.le_refl _) _⟩
theorem OB.set2 (h : OB w W D c s lo hi hv fu) (v : Int) : OB w (W.setCell ⟨D, 2, none⟩ (.int .i64 v)) D c s v hi hv fu :=
  ⟨⟨by rw [World.size_setCell]; exact h.A.lt, (World.cell?_setCell_other _ _ _ _ (adr_ne (by decide))).trans h.A.c0, (World.cell?_setCell_other _ _ _ _ (adr_ne (by decide))).trans h.A.c1, World.cell?_setCell_same _ _ _ h.A.c2, (World.cell?_setCell_other _ _ _ _ (adr_ne (by decide))).trans h.A.c3, (World.cell?_setCell_other _ _ _ _ (adr_ne (by decide))).trans h.A.c4, (World.cell?_setCell_other _ _ _ _ (adr_ne (by decide))).trans h.A.c5⟩, fun j => (frozen_set _ _ _ _).trans (h.fz j), Below.setCell h.bw (Nat.le_refl _) _⟩
theorem OB.set3 (h : OB w W D c s lo hi hv fu) (v : Int) : OB w (W.setCell ⟨D, 3, none⟩ (.int .i64 v)) D c s lo v hv fu :=
  ⟨⟨by rw [World.size_setCell]; exact h.A.lt, (World.cell?_setCell_other _ _ _ _ (adr_ne (by decide))).trans h.A.c0, (World.cell?_setCell_other _ _ _ _ (adr_ne (by decide))).trans h.A.c1, (World.cell?_setCell_other _ _ _ _ (adr_ne (by decide))).trans h.A.c2, World.cell?_setCell_same _ _ _ h.A.c3, (World.cell?_setCell_other _ _ _ _ (adr_ne (by decide))).trans h.A.c4, (World.cell?_setCell_other _ _ _ _ (adr_ne (by decide))).trans h.A.c5⟩, fun j => (frozen_set _ _ _ _).trans (h.fz j), Below.setCell h.bw (Nat.le_refl _) _⟩
theorem OB.set4 (h : OB w W D c s lo hi hv fu) (v : Value) : OB w (W.setCell ⟨D, 4, none⟩ v) D c s lo hi v fu :=
  ⟨⟨by rw [World.size_setCell]; exact h.A.lt, (World.cell?_setCell_other _ _ _ _ (adr_ne (by decide))).trans h.A.c0, (World.cell?_setCell_other _ _ _ _ (adr_ne (by decide))).trans h.A.c1, (World.cell?_setCell_other _ _ _ _ (adr_ne (by decide))).trans h.A.c2, (World.cell?_setCell_other _ _ _ _ (adr_ne (by decide))).trans h.A.c3, World.cell?_setCell_same _ _ _ h.A.c4, (World.cell?_setCell_other _ _ _ _ (adr_ne (by decide))).trans h.A.c5⟩, fun j => (frozen_set _ _ _ _).trans (h.fz j), Below.setCell h.bw (Nat.le_refl _) _⟩
theorem OB.set5 (h : OB w W D c s lo hi hv fu) (v : Bool) : OB w (W.setCell ⟨D, 5, none⟩ (.bool v)) D c s lo hi hv v :=
  ⟨⟨by rw [World.size_setCell]; exact h.A.lt, (World.cell?_setCell_other _ _ _ _ (adr_ne (by decide))).trans h.A.c0, (World.cell?_setCell_other _ _ _ _ (adr_ne (by decide))).trans h.A.c1, (World.cell?_setCell_other _ _ _ _ (adr_ne (by decide))).trans h.A.c2, (World.cell?_setCell_other _ _ _ _ (adr_ne (by decide))).trans h.A.c3, (World.cell?_setCell_other _ _ _ _ (adr_ne (by decide))).trans h.A.c4, World.cell?_setCell_same _ _ _ h.A.c5⟩, fun j => (frozen_set _ _ _ _).trans (h.fz j), Below.setCell h.bw (Nat.le_refl _) _⟩
theorem OB.keep (h : OB w W D c s lo hi hv fu) (hb : Below W.heap.size W W') : OB w W' D c s lo hi hv fu :=
  ⟨h.A.keep hb, fun j => (hb.frozen (p := ⟨D, j, none⟩) h.A.lt).trans (h.fz j), h.bw.trans (hb.mono (Nat.le_of_lt h.A.lt))⟩
end
end Go.Proofs.YtohjjigkfdhklaaGreat
