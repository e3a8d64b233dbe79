/- The code of an error. -/
import Derived.Test.YtgedpjabjoodjaaDoorAsFault
namespace Go.Proofs.YtgedpjabjoodjaaDoor
open Go.RowKit
set_option linter.unusedSimpArgs false
set_option linter.unusedVariables false

/-- errors.errorType holds the handle of the type error. -/
def ET (w : World) : Prop := w.cell? ⟨0, 0, none⟩ = some (.iface 119 (.agg #[.pointer (some ⟨1, 62, none⟩)]))
theorem ET.lt {w : World} (h : ET w) : 0 < w.heap.size := by
  rcases Nat.eq_zero_or_pos w.heap.size with h0 | h1
  · simp [ET, World.cell?, h0] at h
  · exact h1
theorem ET.keep {w w' : World} (h : ET w) (hb : Below w.heap.size w w') : ET w' := (hb.cell (p := ⟨0, 0, none⟩) h.lt).trans h

theorem code_nil (w : World) : Calls Tryd.prog 58 #[.nilIface] w fun e w' => e = .returned (.int .i64 0) ∧ Below w.heap.size w w' := by
  go_enter Tryd.func58, Tryd.ntmps58
  go_wp2_with fail
  refine (as_nil _ _).mono ?_
  rintro e w1 ⟨rfl, rfl⟩
  go_wp2
  go_ret
  exact ⟨rfl, (Below.refl _ _).alloc (Nat.le_refl _) _⟩

set_option maxHeartbeats 1000000 in
theorem code_kind (k : Int) (w : World) (hg : ET w) : Calls Tryd.prog 58 #[.iface 88 (.int .i64 k)] w fun e w' => e = .returned (.int .i64 k) ∧ Below w.heap.size w w' := by
  have hB : Below w.heap.size w (w.alloc (.cells #[.int .i64 0] 88)) := (Below.refl _ _).alloc (Nat.le_refl _) _
  have hgA := hg.keep hB
  have hc : (w.alloc (.cells #[.int .i64 0] 88)).cell? ⟨w.heap.size, 0, none⟩ = some (.int .i64 0) := by simp [go_sem]
  have hf : (w.alloc (.cells #[.int .i64 0] 88)).frozen? ⟨w.heap.size, 0, none⟩ = false := by simp [go_sem]
  go_enter Tryd.func58, Tryd.ntmps58
  go_wp2_with fail
  refine (as_kind k _ _ _ hgA hc hf).mono ?_
  rintro e w' ⟨rfl, w1, hb1, rfl⟩
  have hc1 := (hb1.cell (p := ⟨w.heap.size, 0, none⟩) (by simp)).trans hc
  have hc2 : (w1.setCell ⟨w.heap.size, 0, none⟩ (.int .i64 k)).cell? ⟨w.heap.size, 0, none⟩ = some (.int .i64 k) := World.cell?_setCell_same _ _ _ hc1
  have bw1 : Below w.heap.size w w1 := hB.trans (hb1.mono (by simp))
  clear hgA hc hf hb1 hB
  go_wp2
  go_ret
  exact ⟨rfl, bw1.setCell (Nat.le_refl _) _⟩

set_option maxHeartbeats 1000000 in
theorem code_fault (s : ByteArray) (k : Int) (w : World) (hg : ET w) : Calls Tryd.prog 58 #[.iface 90 (.agg #[.string s, .int .i64 k])] w fun e w' => e = .returned (.int .i64 k) ∧ Below w.heap.size w w' := by
  have hB : Below w.heap.size w (w.alloc (.cells #[.int .i64 0] 88)) := (Below.refl _ _).alloc (Nat.le_refl _) _
  have hgA := hg.keep hB
  have hc : (w.alloc (.cells #[.int .i64 0] 88)).cell? ⟨w.heap.size, 0, none⟩ = some (.int .i64 0) := by simp [go_sem]
  have hf : (w.alloc (.cells #[.int .i64 0] 88)).frozen? ⟨w.heap.size, 0, none⟩ = false := by simp [go_sem]
  go_enter Tryd.func58, Tryd.ntmps58
  go_wp2_with fail
  refine (as_fault s k _ _ _ hgA hc hf).mono ?_
  rintro e w' ⟨rfl, w1, hb1, rfl⟩
  have hc1 := (hb1.cell (p := ⟨w.heap.size, 0, none⟩) (by simp)).trans hc
  have hc2 : (w1.setCell ⟨w.heap.size, 0, none⟩ (.int .i64 k)).cell? ⟨w.heap.size, 0, none⟩ = some (.int .i64 k) := World.cell?_setCell_same _ _ _ hc1
  have bw1 : Below w.heap.size w w1 := hB.trans (hb1.mono (by simp))
  clear hgA hc hf hb1 hB
  go_wp2
  go_ret
  exact ⟨rfl, bw1.setCell (Nat.le_refl _) _⟩
end Go.Proofs.YtgedpjabjoodjaaDoor
