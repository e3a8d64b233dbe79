/- Good entries, in the program. -/
import Derived.Test.YtapmbgmmonhdoaaGreatDoorRis
import Derived.Test.YtapmbgmmonhdoaaGreatDoorSeqN
import Derived.Test.YtapmbgmmonhdoaaGreatDoorEnS
namespace Go.Proofs.YtapmbgmmonhdoaaGreatDoor
set_option maxRecDepth 100000
open Go.RowKit
set_option linter.unusedSimpArgs false
set_option linter.unusedVariables false

/-- Good entries, in the document's words. -/
def GoodL (X : Nat → Ent) (n : Nat) : Prop := (∀ i, i < n → GoodE (X i)) ∧ RiseE X n ∧ NoTwo X n
set_option maxHeartbeats 2000000 in
theorem goodEntries_impl (ao : Option Addr) (n cap : Nat) (X : Nat → Ent) (w : World) (hr : ERow w ao n X) (hn : n ≤ 1048576) (hz : ESize n X) :
    Calls Tryz.prog 60 #[.slice ao n cap] w fun e w' => Ans (GoodL X n) w e w' := by
  have hr0 := hr
  obtain ⟨hbd, hlies⟩ := hr
  go_enter Tryz.func60, Tryz.ntmps60
  go_wp2
  go_loopw [7] (fun i wr => ∃ k : Nat, k ≤ n ∧ i = .int .i64 k ∧ Hid (∀ i, i < k → GoodE (X i)) ∧ Below w.heap.size w wr) (fun i _ => n - (intOf i).toNat)
  case atStart => exact ⟨0, Nat.zero_le _, rfl, fun i h => by omega, Below.refl _ _⟩
  case round =>
    obtain ⟨k, hk, rfl, hG, hbk⟩ := hrel
    by_cases hlt : k < n
    · obtain ⟨b, off, rfl, hblt, hc⟩ := hlies.resolve_left (by omega)
      obtain ⟨da, dc, ea, ir⟩ := hc k hlt
      obtain ⟨_, a0, a1, a2, a3, a4, a5, a6, a7, a8⟩ := ea.keep hbk
      have irk := (ir.keep hbk).keep (below_new wr (.cells #[.string (X k).key, .int .i64 (X k).seq, .int .i64 (X k).kind, .int .i64 (X k).c, .int .i64 (X k).s, .int .i64 (X k).lo, .int .i64 (X k).hi, .slice da (X k).n dc, .bool (X k).fu] 62))
      have bwk := hbk.alloc hbk.size (.cells #[.string (X k).key, .int .i64 (X k).seq, .int .i64 (X k).kind, .int .i64 (X k).c, .int .i64 (X k).s, .int .i64 (X k).lo, .int .i64 (X k).hi, .slice da (X k).n dc, .bool (X k).fu] 62)
      have hcall := fun W h => goodEntry_impl (X k) da dc W h (hz k hlt).2 (hbd k hlt).s
      clear hc hlies ea ir
      go_wp2_with fail
      refine (hcall _ irk).mono ?_
      rintro e w1 ⟨b1, rfl, h1, q1⟩
      have bw1 : Below w.heap.size w w1 := bwk.trans (q1.mono bwk.size)
      clear q1 hcall bwk irk
      cases b1
      · have H : Hid (¬ GoodL X n) := fun h => by
          have := h1.2 (h.1 k hlt)
          cases this
        clear h1
        go_wp2
        go_ret
        exact Ans.mk false (by have := H.out; simp [this]) bw1
      · have H : Hid (∀ i, i < k + 1 → GoodE (X i)) := fun i hi => by
          rcases Nat.lt_succ_iff_lt_or_eq.1 hi with h | h
          · exact hG.out i h
          · subst h; exact h1.1 rfl
        clear h1
        go_wp2
        go_roundw
        case rel => exact ⟨k + 1, by omega, by go_num, H, bw1⟩
        case measure => simp [intOf]; omega
    · have e : k = n := by omega
      subst e
      clear hlies hlt
      go_wp2_with fail
      refine (waysOf_any ao k cap _ hn).mono ?_
      rintro e w1 ⟨g, rfl, hg, ho, hb1⟩
      have bw1 := hbk.trans (hb1.mono hbk.size)
      clear hb1 ho hg
      go_wp2_with fail
      refine (rising_any ao k cap X _ _ (hr0.keep bw1) hn).mono ?_
      rintro e w2 ⟨b2, rfl, h2, q2⟩
      have bw2 := bw1.trans (q2.mono bw1.size)
      clear q2 bw1
      cases b2
      · have H : Hid (¬ GoodL X k) := fun h => by
          have := h2.2 h.2.1
          cases this
        clear h2
        go_wp2
        refine bodyPost_ret (v := .bool false) (by simp [results, Tryz.results60, go_sem]) rfl (Ans.mk _ (by have := H.out; simp [this]) bw2)
      · have hri : Hid (RiseE X k) := h2.1 rfl
        clear h2
        go_wp2_with fail
        refine (noSeqTwice_any ao k cap X _ (hr0.keep bw2) hn).mono ?_
        rintro e w3 ⟨b3, rfl, h3, q3⟩
        have bw3 := bw2.trans (q3.mono bw2.size)
        have H : Hid (b3 = true ↔ GoodL X k) := ⟨fun h => ⟨hG.out, hri.out, h3.1 h⟩, fun h => h3.2 h.2.2⟩
        clear q3 bw2 h3
        go_wp2
        exact bodyPost_ret (v := .bool b3) (by simp [results, Tryz.results60, go_sem]) rfl (Ans.mk _ H.out bw3)
end Go.Proofs.YtapmbgmmonhdoaaGreatDoor
