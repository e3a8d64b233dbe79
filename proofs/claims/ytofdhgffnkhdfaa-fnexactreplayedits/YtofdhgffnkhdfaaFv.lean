/- FirstVersion, in both texts, and its law. -/
import Derived.Test.YtofdhgffnkhdfaaVn
namespace Go.Proofs.Ytofdhgffnkhdfaa
open Go.RowKit
set_option linter.unusedSimpArgs false
set_option linter.unusedVariables false

/-- No metas. -/
def noR (_ _ : Nat) : Met := ⟨0, .empty, .empty, 0⟩
def noM (_ : Nat) : Nat := 0
/-- The first version. -/
def FvO (w : World) (e : Ending) (w' : World) : Prop :=
  ∃ g, e = .returned (.agg #[.int .i64 2, .int .i64 1, .int .i64 0, .slice (some ⟨g, 0, none⟩) 3 3]) ∧ VA w' w.heap.size w'.heap.size (some ⟨g, 0, none⟩) 3 noR noM ∧ Below w.heap.size w w'

theorem va_made {w w1 : World} {g base : Nat} (h : w1.ownsRow base 70 1 (.slice (some ⟨g, 0, none⟩) 3 3) 3 (madeCells (Value.slice none 0 0).cells (3 * 1)).toList) (hlt : g < w1.heap.size) : VO w1 g 3 3 noR noM (fun _ => none) (fun _ => 0) := by
  have hc : ∀ j, j < 3 → w1.cell? ⟨g, j, none⟩ = some (.slice none 0 0) := fun j hj => by
    rw [h.cellAt j (by omega)]
    have := made_cell (d := #[.slice none 0 0]) (k := 1) (n := 3) (i := j) (q := 0) rfl hj (by omega)
    simpa [Value.cells] using this
  exact ⟨hlt, fun i hi => hc i hi, fun i _ => .inl rfl, fun i j _ _ _ h => by simp [noM] at h, fun j hj => by rw [hc j hj]; rfl, fun j _ => h.frozenAt j⟩

theorem first_facts (w w1 : World) (base : Nat) (h : w1.ownsRow base 70 1 (.slice (some ⟨(w.alloc (.cells #[.int .i64 0, .int .i64 0, .int .i64 0, .slice none 0 0] 26)).heap.size, 0, none⟩) 3 3) 3 (madeCells (Value.slice none 0 0).cells (3 * 1)).toList) (hg : (w.alloc (.cells #[.int .i64 0, .int .i64 0, .int .i64 0, .slice none 0 0] 26)).grownBy w1 none) :
    VO w1 (w.heap.size + 1) 3 3 noR noM (fun _ => none) (fun _ => 0) ∧ VX w1 w.heap.size 0 0 0 none 0 0 ∧ (∀ j, w1.frozen? ⟨w.heap.size, j, none⟩ = false) ∧ Below w.heap.size w w1 ∧ w.heap.size + 1 < w1.heap.size := by
  have bn0 := below_new w (.cells #[.int .i64 0, .int .i64 0, .int .i64 0, .slice none 0 0] 26)
  have A0 := VX.new w 0 0 0 none 0 0 26
  have hb1 : Below (w.alloc (.cells #[.int .i64 0, .int .i64 0, .int .i64 0, .slice none 0 0] 26)).heap.size (w.alloc (.cells #[.int .i64 0, .int .i64 0, .int .i64 0, .slice none 0 0] 26)) w1 := (Below.refl _ _).grown hg (Nat.le_refl _) (fun k h => by simp at h)
  have hs0 : (w.alloc (.cells #[.int .i64 0, .int .i64 0, .int .i64 0, .slice none 0 0] 26)).heap.size = w.heap.size + 1 := by simp
  rw [hs0] at h
  have hlt1 : w.heap.size + 1 < w1.heap.size := by
    rcases h.2 with ⟨h, _⟩ | ⟨g', cap', cur, h, _, hg, _⟩
    · simp at h
    · simp at h; obtain ⟨rfl, _⟩ := h
      exact (Array.getElem?_eq_some_iff.1 hg).1
  exact ⟨va_made (w := w) h hlt1, A0.keep hb1, fun j => (hb1.frozen (p := ⟨w.heap.size, j, none⟩) A0.lt).trans (by simp [go_sem]), bn0.trans (hb1.mono bn0.size), hlt1⟩

set_option maxRecDepth 10000 in
set_option maxHeartbeats 800000 in
theorem firstVersion_impl (w : World) : Calls Try.prog 16 #[] w fun e w' => FvO w e w' := by
  obtain ⟨i0, hi, hz0, hz1, hz2⟩ := info_parts Try.infoMS
  go_enter Try.func16, Try.ntmps16
  go_wp2_with (at_make; refine wpList_make_full _ rfl (.const (.int .i64 3)) (.const (.int .i64 3)) 24 rfl w.heap.size 70 i0 (.slice none 0 0) 1 Try.underlying24 hi hz0 hz1 .i64 .i64 _ _ 3 rfl rfl rfl rfl (by rw [hz2]; omega) (by unfold maxLen; omega) (by simp) ?_; intro w1 hown hgrow; obtain ⟨hV, ⟨l0, x0, x1, x2, x3⟩, ff, bw1, hlt⟩ := first_facts w w1 _ hown hgrow; have f0 := ff 0; have f1 := ff 1; have f2 := ff 2; have f3 := ff 3; clear hown hgrow ff)
  refine bodyPost_ret (v := .agg #[.int .i64 2, .int .i64 1, .int .i64 0, .slice (some ⟨w.heap.size + 1, 0, none⟩) 3 3]) (by simp [results, Try.results16, go_sem, x0, x1, x2, x3]) rfl ⟨w.heap.size + 1, rfl, ⟨Nat.le_refl _, .inr ⟨w.heap.size + 1, fun _ => none, fun _ => 0, rfl, by omega, by simpa using hlt, ?_, fun i _ h => by simp [noM] at h⟩⟩, ?_⟩
  · refine hV.same (by simp) ?_ (fun i _ h => by simp [noM] at h)
    repeat' refine (Below.heap_setCell _ _ _ _ (by first | omega | (dsimp only; omega))).trans ?_
    rfl
  · repeat' refine Below.setCell ?_ (by first | (simp; done) | (simp; omega)) _
    exact bw1

set_option maxRecDepth 10000 in
set_option maxHeartbeats 800000 in
theorem l9First_any (w : World) : Calls Try.prog 26 #[] w fun e w' => FvO w e w' := by
  obtain ⟨i0, hi, hz0, hz1, hz2⟩ := info_parts Try.infoMS
  go_enter Try.func26, Try.ntmps26
  go_wp2_with (at_make; refine wpList_make_full _ rfl (.const (.int .i64 3)) (.const (.int .i64 3)) 24 rfl w.heap.size 70 i0 (.slice none 0 0) 1 Try.underlying24 hi hz0 hz1 .i64 .i64 _ _ 3 rfl rfl rfl rfl (by rw [hz2]; omega) (by unfold maxLen; omega) (by simp) ?_; intro w1 hown hgrow; obtain ⟨hV, ⟨l0, x0, x1, x2, x3⟩, ff, bw1, hlt⟩ := first_facts w w1 _ hown hgrow; have f0 := ff 0; have f1 := ff 1; have f2 := ff 2; have f3 := ff 3; clear hown hgrow ff)
  refine bodyPost_ret (v := .agg #[.int .i64 2, .int .i64 1, .int .i64 0, .slice (some ⟨w.heap.size + 1, 0, none⟩) 3 3]) (by simp [results, Try.results26, go_sem, x0, x1, x2, x3]) rfl ⟨w.heap.size + 1, rfl, ⟨Nat.le_refl _, .inr ⟨w.heap.size + 1, fun _ => none, fun _ => 0, rfl, by omega, by simpa using hlt, ?_, fun i _ h => by simp [noM] at h⟩⟩, ?_⟩
  · refine hV.same (by simp) ?_ (fun i _ h => by simp [noM] at h)
    repeat' refine (Below.heap_setCell _ _ _ _ (by first | omega | (dsimp only; omega))).trans ?_
    rfl
  · repeat' refine Below.setCell ?_ (by first | (simp; done) | (simp; omega)) _
    exact bw1

theorem VA.vrow0 {w : World} {lo hi : Nat} {ao : Option Addr} (h : VA w lo hi ao 3 noR noM) : VRow w ao 3 noR noM := h.row (fun i _ j hj => by simp [noM] at hj) (fun i _ => by simp [noM])
theorem sum0 : 1 + 4 * sumM noM 3 = 1 := rfl

end Go.Proofs.Ytofdhgffnkhdfaa
