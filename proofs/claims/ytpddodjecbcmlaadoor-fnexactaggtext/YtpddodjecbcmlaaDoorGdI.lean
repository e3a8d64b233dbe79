/- GoodAgg, in the program. -/
import Derived.Test.YtpddodjecbcmlaaDoorGd
namespace Go.Proofs.YtpddodjecbcmlaaDoor
open Go.RowKit
set_option linter.unusedSimpArgs false
set_option linter.unusedVariables false

set_option maxHeartbeats 800000 in
theorem goodAgg_impl (c s lo hi : Int) (ao : Option Addr) (n cap : Nat) (f : Nat → Int) (fu : Bool) (w : World) (hr : IRow w ao n f) (hn : n ≤ 1048576) (hs : -9223372036854775808 ≤ s ∧ s ≤ 9223372036854775807) :
    Calls Tryd.prog 33 #[.agg #[.int .i64 c, .int .i64 s, .int .i64 lo, .int .i64 hi, .slice ao n cap, .bool fu]] w fun e w' => Ans (GoodA c s lo hi n f fu) w e w' := by
  have hB := fun o => below_new w o
  cases hc : isC c
  · go_enter Tryd.func33, Tryd.ntmps33
    go_wp2_with fail
    refine (isCount_any c _).mono ?_
    rintro e w1 ⟨rfl, rfl⟩
    go_wp2
    exact bodyPost_ret (v := .bool false) (by simp [results, Tryd.results33, go_sem]) rfl (Ans.mk _ (by simp [GoodA, hc]) (hB _))
  · have hcb : 0 ≤ c ∧ c ≤ 1000000000 := by simpa [isC, btw] using hc
    go_enter Tryd.func33, Tryd.ntmps33
    go_wp2_with fail
    refine (isCount_any c _).mono ?_
    rintro e w1 ⟨rfl, rfl⟩
    go_wp2_with fail
    refine (goodHist_any ao n cap f _ (hr.keep (hB _)) hn).mono ?_
    rintro e w1 ⟨b1, rfl, h1, q1⟩
    obtain ⟨la, a0, a1, a2, a3, a4, a5⟩ := (AAt.new w c s lo hi (.slice ao n cap) fu 44).keep q1
    have r1 := (hr.keep (hB _)).keep q1
    have B1 : Below w.heap.size w w1 := (hB _).trans (q1.mono (by simp))
    clear q1
    cases b1
    · have H1 : Hid (¬ GoodA c s lo hi n f fu) := fun h => by
        have := h1.2 ⟨h.2.1, h.2.2.1⟩
        cases this
      clear h1
      go_wp2
      exact bodyPost_ret (v := .bool false) (by simp [results, Tryd.results33, go_sem]) rfl (Ans.mk _ (by have := H1.out; simp [this]) B1)
    · obtain ⟨h8, hall⟩ := h1.1 rfl
      subst h8
      have HA : Hid (∀ i, i < 8 → isC (f i) = true) := hall
      clear h1 hall
      cases fu
      · go_wp2_with fail
        refine (goodTotals_not c s lo hi ao cap f _ r1 hcb hs HA.out).mono ?_
        rintro e w2 ⟨b2, rfl, h2, q2⟩
        obtain ⟨la, a0, a1, a2, a3, a4, a5⟩ := AAt.keep ⟨la, a0, a1, a2, a3, a4, a5⟩ q2
        have B2 : Below w.heap.size w w2 := B1.trans (q2.mono B1.size)
        clear q2
        cases b2
        · have L2 : Hid (¬ GoodA c s lo hi 8 f false) := fun h => by
            have := h2.2 (h.2.2.2.1 rfl)
            cases this
          clear h2
          go_wp2
          exact bodyPost_ret (v := .bool false) (by simp [results, Tryd.results33, go_sem]) rfl (Ans.mk _ (by have := L2.out; simp [this]) B2)
        · have H2 : Hid (sumF f 8 = c ∧ -1000000000 * c ≤ s ∧ s ≤ 1000000000 * c) := h2.1 rfl
          clear h2
          go_wp2_with fail
          refine (goodBounds_any c s lo hi _ false _).mono ?_
          rintro e w3 ⟨b3, rfl, h3, q3⟩
          have B3 : Below w.heap.size w w3 := B2.trans (q3.mono B2.size)
          clear q3
          have H3 : Hid (b3 = true ↔ GoodA c s lo hi 8 f false) :=
            ⟨fun h => ⟨hc, rfl, HA.out, fun _ => H2.out, fun h => (by cases h), (h3.1 h).1, (h3.1 h).2⟩, fun h => h3.2 ⟨h.2.2.2.2.2.1, h.2.2.2.2.2.2⟩⟩
          clear h3
          go_wp2
          exact bodyPost_ret (v := .bool b3) (by simp [results, Tryd.results33, go_sem]) rfl (Ans.mk _ H3.out B3)
      · go_wp2_with fail
        refine (goodTotals_full c s lo hi _ _).mono ?_
        rintro e w2 ⟨b2, rfl, h2, q2⟩
        obtain ⟨la, a0, a1, a2, a3, a4, a5⟩ := AAt.keep ⟨la, a0, a1, a2, a3, a4, a5⟩ q2
        have B2 : Below w.heap.size w w2 := B1.trans (q2.mono B1.size)
        clear q2
        cases b2
        · have L2 : Hid (¬ GoodA c s lo hi 8 f true) := fun h => by
            have := h2.2 (h.2.2.2.2.1 rfl)
            cases this
          clear h2
          go_wp2
          exact bodyPost_ret (v := .bool false) (by simp [results, Tryd.results33, go_sem]) rfl (Ans.mk _ (by have := L2.out; simp [this]) B2)
        · have H2 : Hid (s = 0 ∧ 0 < c) := h2.1 rfl
          clear h2
          go_wp2_with fail
          refine (goodBounds_any c s lo hi _ true _).mono ?_
          rintro e w3 ⟨b3, rfl, h3, q3⟩
          have B3 : Below w.heap.size w w3 := B2.trans (q3.mono B2.size)
          clear q3
          have H3 : Hid (b3 = true ↔ GoodA c s lo hi 8 f true) :=
            ⟨fun h => ⟨hc, rfl, HA.out, fun h => (by cases h), fun _ => H2.out, (h3.1 h).1, (h3.1 h).2⟩, fun h => h3.2 ⟨h.2.2.2.2.2.1, h.2.2.2.2.2.2⟩⟩
          clear h3
          go_wp2
          exact bodyPost_ret (v := .bool b3) (by simp [results, Tryd.results33, go_sem]) rfl (Ans.mk _ H3.out B3)
end Go.Proofs.YtpddodjecbcmlaaDoor
