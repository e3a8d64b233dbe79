/- The zero agg and the agg of one value as lists of the call's own; a new window. -/
import Derived.Test.YtpggmgmdcccmeaaIo
import Derived.Test.YtpggmgmdcccmeaaWb
namespace Go.Proofs.Ytpggmgmdcccmeaa
open Go.RowKit
set_option linter.unusedSimpArgs false
set_option linter.unusedVariables false

/-- A new window. -/
def nwW (x : Wn) (T : Int) : Wn := ⟨x.m, x.tn, x.nm, x.vl, T, 0, 0, 0, 0, 8, fun _ => 0, false, 0, false⟩
/-- The zero agg made anew, its list told. -/
def NewO (w : World) (e : Ending) (w' : World) : Prop :=
  ∃ g, e = .returned (.agg #[.int .i64 0, .int .i64 0, .int .i64 0, .int .i64 0, .slice (some ⟨g, 0, none⟩) 8 8, .bool false]) ∧ w.heap.size ≤ g ∧ w'.ownsRow w.heap.size 3 1 (.slice (some ⟨g, 0, none⟩) 8 8) 8 (icells (fun _ => 0) 8) ∧ Below w.heap.size w w'
theorem made8 : (madeCells (Value.int .i64 0).cells (8 * 1)).toList = icells (fun _ => 0) 8 := by
  simp only [Value.cells, toList_madeCells_one]
  rfl
set_option maxRecDepth 100000 in
set_option maxHeartbeats 1000000 in
theorem zeroAgg_own (w : World) : Calls Try.prog 60 #[] w fun e w' => NewO w e w' := by
  obtain ⟨i0, hi, hz0, hz1, hz2⟩ := info_parts Try.infoInt
  have hB := below_new w (.cells #[.int .i64 0, .int .i64 0, .int .i64 0, .int .i64 0, .slice none 0 0, .bool false] 35)
  have N0 := AAt.new w 0 0 0 0 (.slice none 0 0) false 35
  have F0 : ∀ j, (w.alloc (.cells #[.int .i64 0, .int .i64 0, .int .i64 0, .int .i64 0, .slice none 0 0, .bool false] 35)).frozen? ⟨w.heap.size, j, none⟩ = false := fun j => by simp [go_sem]
  go_enter Try.func60, Try.ntmps60
  go_wp2_with (at_make; generalize w.alloc (.cells #[.int .i64 0, .int .i64 0, .int .i64 0, .int .i64 0, .slice none 0 0, .bool false] 35) = w0 at hB N0 F0 ⊢; refine wpList_make_full _ rfl (.const (.int .i64 8)) (.const (.int .i64 8)) 33 rfl w0.heap.size 3 i0 (.int .i64 0) 1 Try.underlying33 hi hz0 hz1 .i64 .i64 _ _ 8 rfl rfl rfl rfl (by rw [hz2]; omega) (by unfold maxLen; omega) (Nat.le_refl _) ?_; intro w1 hown hgrow; have hb1 : Below w0.heap.size w0 w1 := (Below.refl _ _).grown hgrow (Nat.le_refl _) (fun k h => by simp at h); have N1 := N0.keep hb1; have F1 : ∀ j, w1.frozen? ⟨w.heap.size, j, none⟩ = false := fun j => (hb1.frozen (p := ⟨w.heap.size, j, none⟩) N0.lt).trans (F0 j); obtain ⟨_, n0, n1, n2, n3, n4, n5⟩ := N1)
  have hl0 := N0.lt
  have ho := ownsRow_mono hown (base' := w.heap.size) (by omega)
  rw [made8] at ho
  clear hown hgrow
  refine bodyPost_ret (v := .agg #[.int .i64 0, .int .i64 0, .int .i64 0, .int .i64 0, .slice (some ⟨w0.heap.size, 0, none⟩) 8 8, .bool false]) (by simp [results, Try.results60, go_sem, n0, n1, n2, n3, n4, n5]) rfl ⟨w0.heap.size, rfl, hB.size, ?_, ?_⟩
  · repeat' refine ownsRow_others ?_ (Others.setCell _ _ _ _) (fun hk => by injection hk with hk; have hk' : w0.heap.size = w.heap.size := hk; omega)
    exact ho
  · repeat' refine Below.setCell ?_ (by first | (simp; done) | (simp; omega)) _
    exact hB.trans (hb1.mono hB.size)
/-- The windows put otherwise, by new memory alone, and told in their box. -/
theorem WSt.put2 {w w' : World} {base p r n m : Nat} {z h mk : Int} {v v' : Value} {Y Y' : Nat → Wn} {V V' : Nat → Value} {S : ByteArray → Prop} (H : WSt w base p r z h mk v n Y V S) (hg : Below base w w') (ho : OutW w' base v' m Y' V') : WSt (w'.setCell ⟨p, 3, none⟩ v') base p r z h mk v' m Y' V' S := by
  have pb := H.pb
  have rb := H.rb
  have oth := Others.setCell w' p 3 v'
  have kc : ∀ j, w'.cell? ⟨p, j, none⟩ = w.cell? ⟨p, j, none⟩ := fun j => hg.cell (p := ⟨p, j, none⟩) pb
  have nc : ∀ j, j ≠ 3 → (w'.setCell ⟨p, 3, none⟩ v').cell? ⟨p, j, none⟩ = w.cell? ⟨p, j, none⟩ := fun j hj => (World.cell?_setCell_other _ _ _ _ (by intro hh; injection hh with _ h2 _; omega)).trans (kc j)
  refine ⟨⟨by rw [oth.size]; exact Nat.lt_of_lt_of_le H.box.lt hg.size, (nc 0 (by omega)).trans H.box.c0, (nc 1 (by omega)).trans H.box.c1, (nc 2 (by omega)).trans H.box.c2, World.cell?_setCell_same _ _ _ ((kc 3).trans H.box.c3)⟩, (nc 4 (by omega)).trans H.c4, fun j => by rw [World.frozen?_setCell]; exact (hg.frozen (p := ⟨p, j, none⟩) pb).trans (H.fz j), ?_, ho.others oth pb, H.pr, pb, rb⟩
  exact (H.set.same (hg.block r rb)).same (oth.block r (Ne.symm H.pr))
end Go.Proofs.Ytpggmgmdcccmeaa
