/- Aggs compared by the laws. -/
import Derived.Test.YtpddodjecbcmlaaDoorAg
namespace Go.Proofs.YtpddodjecbcmlaaDoor
open Go.RowKit
set_option linter.unusedSimpArgs false
set_option linter.unusedVariables false

set_option maxHeartbeats 800000 in
theorem eqAgg_same (c s lo hi : Int) (ao bo : Option Addr) (n ca cb : Nat) (f : Nat → Int) (fu : Bool) (w : World) (hr : IRow w ao n f) (hs : IRow w bo n f) (hn : n ≤ 1048576) :
    Calls Tryd.prog 17 #[.agg #[.int .i64 c, .int .i64 s, .int .i64 lo, .int .i64 hi, .slice ao n ca, .bool fu], .agg #[.int .i64 c, .int .i64 s, .int .i64 lo, .int .i64 hi, .slice bo n cb, .bool fu]] w
      fun e w' => e = .returned (.bool true) ∧ Below w.heap.size w w' := by
  have hB : ∀ o p, Below w.heap.size w ((w.alloc o).alloc p) := fun o p => (below_new w o).alloc (by simp) _
  go_enter Tryd.func17, Tryd.ntmps17
  go_wp2_with fail
  refine (eqIntS_same ao bo n ca cb f _ (hr.keep (hB _ _)) (hs.keep (hB _ _)) hn).mono ?_
  rintro e w1 ⟨rfl, hb⟩
  have hbw : Below w.heap.size w w1 := (hB _ _).trans (hb.mono (by simp; omega))
  have c5 : w1.cell? ⟨w.heap.size, 5, none⟩ = some (.bool fu) := (hb.cell (p := ⟨w.heap.size, 5, none⟩) (by simp; omega)).trans (by simp [go_sem])
  have d5 : w1.cell? ⟨w.heap.size + 1, 5, none⟩ = some (.bool fu) := (hb.cell (p := ⟨w.heap.size + 1, 5, none⟩) (by simp)).trans (by simp [go_sem])
  clear hb
  cases fu
  all_goals
    go_wp2
    go_ret
    exact ⟨rfl, hbw⟩
end Go.Proofs.YtpddodjecbcmlaaDoor
