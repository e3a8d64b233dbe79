/- The laws' own measure of a key, and two keys compared. -/
import Derived.Test.YtpddodjecbcmlaaToKey
namespace Go.Proofs.Ytpddodjecbcmlaa
open Go.RowKit
set_option linter.unusedSimpArgs false
set_option linter.unusedVariables false

/-- What szTag leaves. -/
def SzOut (left : Int) (P : Prop) (w : World) (e : Ending) (w' : World) : Prop :=
  ∃ v : Int, e = .returned (.int .i64 v) ∧ -1 ≤ v ∧ v ≤ left ∧ (0 ≤ v → P) ∧ Below w.heap.size w w'

def TSize (n : Nat) (nm vl : Nat → ByteArray) (B : Nat) : Prop := ∀ i, i < n → (nm i).size ≤ B ∧ (vl i).size ≤ B

set_option maxHeartbeats 400000 in
theorem eqKey_same (m : ByteArray) (st : Int) (ao bo : Option Addr) (n ca cb : Nat) (nm vl : Nat → ByteArray) (w : World) (hr : TRow w ao n nm vl) (hs : TRow w bo n nm vl) (hn : n ≤ 1048576) :
    Calls Try.prog 21 #[.agg #[.string m, .slice ao n ca, .int .i64 st], .agg #[.string m, .slice bo n cb, .int .i64 st]] w fun e w' => e = .returned (.bool true) ∧ Below w.heap.size w w' := by
  have hB : Below w.heap.size w ((w.alloc (.cells #[.string m, .slice ao n ca, .int .i64 st] 37)).alloc (.cells #[.string m, .slice bo n cb, .int .i64 st] 37)) := ((Below.refl _ _).alloc (Nat.le_refl _) _).alloc (by simp) _
  go_enter Try.func21, Try.ntmps21
  go_wp2_with fail
  refine (eqTagS_same ao bo n ca cb nm vl _ (hr.keep hB) (hs.keep hB) hn).mono ?_
  rintro e w1 ⟨rfl, hb⟩
  have hbw : Below w.heap.size w w1 := hB.trans (hb.mono (by simp; omega))
  have c0 : w1.cell? ⟨w.heap.size, 2, none⟩ = some (.int .i64 st) := (hb.cell (p := ⟨w.heap.size, 2, none⟩) (by simp; omega)).trans (by simp [go_sem])
  have c1 : w1.cell? ⟨w.heap.size + 1, 2, none⟩ = some (.int .i64 st) := (hb.cell (p := ⟨w.heap.size + 1, 2, none⟩) (by simp)).trans (by simp [go_sem])
  clear hb hB
  go_wp2
  go_ret
  exact ⟨rfl, hbw⟩
end Go.Proofs.Ytpddodjecbcmlaa
