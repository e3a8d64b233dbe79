/- What the law holds against one another: ints, aggs, entries. -/
import Derived.Test.YtiigpmhaicfocaaOe
import Derived.Test.YtiigpmhaicfocaaOh
import Derived.BigQuiet
import Derived.Deep.RegionHeld3
import Derived.Deep.RegionWith
namespace Go.Proofs.Ytiigpmhaicfocaa
open Go.RowKit
set_option linter.unusedSimpArgs false
set_option linter.unusedVariables false

set_option maxHeartbeats 1000000 in
theorem sameInts_any (ao bo : Option Addr) (n ca cb : Nat) (f g : Nat → Int) (w : World) (ha : IRow w ao n f) (hb : IRow w bo n g) (he : ∀ i, i < n → f i = g i) (hn : n ≤ 1048576) :
    Calls Try.prog 13 #[.slice ao n ca, .slice bo n cb] w fun e w' => e = .returned (.bool true) ∧ Below w.heap.size w w' := by
  go_enter Try.func13, Try.ntmps13
  go_wp2
  go_loopw [13] (fun q wr => ∃ k : Nat, k ≤ n ∧ q = .int .i64 k ∧ Below w.heap.size w wr) (fun q _ => n - (intOf q).toNat)
  case atStart => exact ⟨0, Nat.zero_le _, rfl, Below.refl _ _⟩
  case round =>
    obtain ⟨k, hk, rfl, hbk⟩ := hrel
    by_cases hlt : k < n
    · obtain ⟨b1, o1, rfl, hl1, c1⟩ := ha.lies.resolve_left (by omega)
      obtain ⟨b2, o2, rfl, hl2, c2⟩ := hb.lies.resolve_left (by omega)
      have d1 := (hbk.cell (p := ⟨b1, o1 + k, none⟩) hl1).trans (c1 k hlt)
      have d2 := (hbk.cell (p := ⟨b2, o2 + k, none⟩) hl2).trans (c2 k hlt)
      rw [← he k hlt] at d2
      have hkd : decide ((k : Int) < (n : Int)) = true := decide_eq_true (by omega)
      clear c1 c2
      go_wp2
      go_quiet (fail)
      have hq : Below w.heap.size w (wr.drewN nq) := below_drewN hbk nq
      generalize wr.drewN nq = wz at hq ⊢
      go_wp2
      go_roundw
      case rel => exact ⟨k + 1, by omega, by go_num, hq⟩
      case measure => simp [intOf]; omega
    · obtain rfl : k = n := by omega
      have hkd : decide ((k : Int) < (k : Int)) = false := decide_eq_false (by omega)
      go_wp2
      go_ret
      exact ⟨rfl, hbk⟩

set_option maxHeartbeats 1000000 in
theorem sameAggs_any (x : Ent) (ao bo : Option Addr) (ca cb : Nat) (w : World) (ha : IRow w ao x.n x.f) (hb : IRow w bo x.n x.f) (hn : x.n ≤ 1048576) :
    Calls Try.prog 27 #[.agg #[.int .i64 x.c, .int .i64 x.s, .int .i64 x.lo, .int .i64 x.hi, .slice ao x.n ca, .bool x.fu], .agg #[.int .i64 x.c, .int .i64 x.s, .int .i64 x.lo, .int .i64 x.hi, .slice bo x.n cb, .bool x.fu]] w fun e w' => e = .returned (.bool true) ∧ Below w.heap.size w w' := by
  have hB : ∀ o p, Below w.heap.size w ((w.alloc o).alloc p) := fun o p => (below_new w o).alloc (by simp) _
  go_enter Try.func27, Try.ntmps27
  go_wp2_with fail
  refine (sameInts_any ao bo x.n ca cb x.f x.f _ (ha.keep (hB _ _)) (hb.keep (hB _ _)) (fun _ _ => rfl) hn).mono ?_
  rintro e w1 ⟨rfl, hb⟩
  have hbw : Below w.heap.size w w1 := (hB _ _).trans (hb.mono (by simp; omega))
  clear hb
  go_wp2
  go_ret
  exact ⟨rfl, hbw⟩
end Go.Proofs.Ytiigpmhaicfocaa
