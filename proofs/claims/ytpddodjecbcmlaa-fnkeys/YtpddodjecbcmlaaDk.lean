/- The model's cursor draws a key: of what it is, only how long its parts are is told. -/
import Derived.Test.YtpddodjecbcmlaaCur
import Derived.Test.YtpddodjecbcmlaaTg
import Derived.Test.YtpddodjecbcmlaaOh
namespace Go.Proofs.Ytpddodjecbcmlaa
open Go.RowKit
set_option linter.unusedSimpArgs false
set_option linter.unusedVariables false

theorem among_any (q : Nat) (hq : 2 ≤ q ∧ q ≤ 200) (LB : Nat) (g : Nat → Int) (CB : Nat) (ao : Option Addr) (n cap a : Nat) (f : Nat → Int) (sd : Int) (w : World) (hC : Cu w CB (.slice ao n cap) a sd) (hB : Cb w CB ao n f) (hn : n ≤ 1048576) (ha : a ≤ 1000000000) (hL : LB < w.heap.size) (hne : LB ≠ CB) (hc : ∀ i, i < q → w.cell? ⟨LB, i, none⟩ = some (.int .i64 (g i))) :
    Calls Try.prog 49 #[.pointer (some ⟨CB, 0, none⟩), .slice (some ⟨LB, 0, none⟩) q q] w fun e w' => ∃ i, i < q ∧ e = .returned (.int .i64 (g i)) ∧ (∃ sd, Cu w' CB (.slice ao n cap) (a + 1) sd) ∧ w.grownBy w' (some CB) := by
  go_enter Try.func49, Try.ntmps49
  go_wp2_with fail
  refine (pick_any q hq CB ao n cap a f sd _ hC hB hn ha).mono ?_
  rintro e w1 ⟨x, rfl, x0, x1, hC1, g1⟩
  obtain ⟨i, rfl⟩ := Int.eq_ofNat_of_zero_le x0
  have hi : i < q := by omega
  have h1 := g1.cell (hc i hi) (fun e => hne (Option.some.inj e))
  clear hc
  go_wp2
  go_ret
  exact ⟨i, hi, rfl, hC1, g1⟩
/-- What a drawn text is. -/
def OfO (z CB : Nat) (cv : Value) (a : Nat) (w : World) (e : Ending) (w' : World) : Prop := ∃ s : ByteArray, s.size ≤ z ∧ e = .returned (.string s) ∧ (∃ sd, Cu w' CB cv (a + 1) sd) ∧ w.grownBy w' (some CB)
theorem of_any (q z : Nat) (hq : 2 ≤ q ∧ q ≤ 200) (LB : Nat) (g : Nat → ByteArray) (hz : ∀ i, i < q → (g i).size ≤ z) (CB : Nat) (ao : Option Addr) (n cap a : Nat) (f : Nat → Int) (sd : Int) (w : World) (hC : Cu w CB (.slice ao n cap) a sd) (hB : Cb w CB ao n f) (hn : n ≤ 1048576) (ha : a ≤ 1000000000) (hL : LB < w.heap.size) (hne : LB ≠ CB) (hc : ∀ i, i < q → w.cell? ⟨LB, i, none⟩ = some (.string (g i))) :
    Calls Try.prog 48 #[.pointer (some ⟨CB, 0, none⟩), .slice (some ⟨LB, 0, none⟩) q q] w fun e w' => OfO z CB (.slice ao n cap) a w e w' := by
  go_enter Try.func48, Try.ntmps48
  go_wp2_with fail
  refine (pick_any q hq CB ao n cap a f sd _ hC hB hn ha).mono ?_
  rintro e w1 ⟨x, rfl, x0, x1, hC1, g1⟩
  obtain ⟨i, rfl⟩ := Int.eq_ofNat_of_zero_le x0
  have hi : i < q := by omega
  have h1 := g1.cell (hc i hi) (fun e => hne (Option.some.inj e))
  clear hc
  go_wp2
  go_ret
  exact ⟨g i, hz i hi, rfl, hC1, g1⟩
end Go.Proofs.Ytpddodjecbcmlaa
