/- One entry ahead of another, in the model. -/
import Derived.Test.YtfdbhkjmkpgomaaCmp
import Derived.Test.YtfdbhkjmkpgomaaGe
namespace Go.Proofs.Ytfdbhkjmkpgomaa
open Go.RowKit
set_option linter.unusedSimpArgs false
set_option linter.unusedVariables false


set_option maxHeartbeats 1600000 in
theorem l5Before_any (x y : Ent) (ao bo : Option Addr) (ca cb : Nat) (w : World) :
    Calls Try.prog 48 #[.agg #[.string x.key, .int .i64 x.seq, .int .i64 x.kind, .int .i64 x.c, .int .i64 x.s, .int .i64 x.lo, .int .i64 x.hi, .slice ao x.n ca, .bool x.fu], .agg #[.string y.key, .int .i64 y.seq, .int .i64 y.kind, .int .i64 y.c, .int .i64 y.s, .int .i64 y.lo, .int .i64 y.hi, .slice bo y.n cb, .bool y.fu]] w fun e w' => Ans (Bef x y) w e w' := by
  have hB : ∀ o p, Below w.heap.size w ((w.alloc o).alloc p) := fun o p => (below_new w o).alloc (by simp) _
  cases h1 : Op.bytesLess x.key.toList y.key.toList
  · cases h2 : (x.key.toList == y.key.toList)
    · have H : Hid (¬ Bef x y) := by
        rintro (h | ⟨h, _⟩)
        · rw [h1] at h; cases h
        · rw [h] at h2; simp at h2
      go_enter Try.func48, Try.ntmps48
      go_wp2
      exact bodyPost_ret (v := .bool false) (by simp [results, Try.results48, go_sem]) rfl (Ans.mk _ (by have := H.out; simp [this]) (hB _ _))
    · have H : Hid (Bef x y ↔ y.seq < x.seq) := by
        have e : x.key.toList = y.key.toList := by simpa using h2
        constructor
        · rintro (h | ⟨_, h⟩)
          · rw [h1] at h; cases h
          · exact h
        · exact fun h => .inr ⟨e, h⟩
      go_enter Try.func48, Try.ntmps48
      go_wp2
      exact bodyPost_ret (v := .bool (decide (y.seq < x.seq))) (by simp [results, Try.results48, go_sem]) rfl (Ans.mk _ (by have := H.out; simp [this]) (hB _ _))
  · have H : Hid (Bef x y) := .inl h1
    go_enter Try.func48, Try.ntmps48
    go_wp2
    exact bodyPost_ret (v := .bool true) (by simp [results, Try.results48, go_sem]) rfl (Ans.mk _ (by have := H.out; simp [this]) (hB _ _))
end Go.Proofs.Ytfdbhkjmkpgomaa
