/- The mean of an agg, in the program and in the model. -/
import Derived.Test.YtbaiihokdpojdaaGdI
import Derived.Test.YtbaiihokdpojdaaGdS
namespace Go.Proofs.Ytbaiihokdpojdaa
open Go.RowKit
set_option linter.unusedSimpArgs false
set_option linter.unusedVariables false

/-- What is left of a by b, from 0 on. -/
def md (a b : Int) : Int := if a.tmod b < 0 then a.tmod b + b else a.tmod b
theorem md_bd {a b : Int} (hb : 0 < b) : 0 ≤ md a b ∧ md a b < b := by
  unfold md
  have h1 := Int.tmod_lt_of_pos a hb
  have h2 := Int.lt_tmod_of_pos a hb
  split <;> omega
theorem modOf_any (a b : Int) (hb : 0 < b ∧ b ≤ 1000000000) (w : World) :
    Calls Try.prog 37 #[.int .i64 a, .int .i64 b] w fun e w' => e = .returned (.int .i64 (md a b)) ∧ w' = w := by
  have h1 := Int.tmod_lt_of_pos a hb.1
  have h2 := Int.lt_tmod_of_pos a hb.1
  have hb0 : ¬ b = 0 := by omega
  have hw : IntKind.i64.wrap (a.tmod b) = a.tmod b := by rw [IntKind.wrap_i64] <;> omega
  by_cases h : a.tmod b < 0
  · have hw2 : IntKind.i64.wrap (a.tmod b + b) = a.tmod b + b := by rw [IntKind.wrap_i64] <;> omega
    go_enter Try.func37, Try.ntmps37
    go_wp2
    go_ret
    exact ⟨by simp [md, h, hw2], rfl⟩
  · go_enter Try.func37, Try.ntmps37
    go_wp2
    go_ret
    have e : md a b = a.tmod b := by rw [md, if_neg (by omega)]
    exact ⟨by rw [e]; rfl, rfl⟩

/-- Sum by count, down. -/
def meanI (s c : Int) : Int := if s.tmod c < 0 then s.tdiv c - 1 else s.tdiv c
theorem tdiv_bd (s c : Int) (h : -1000000000000000000 ≤ s ∧ s ≤ 1000000000000000000) : -1000000000000000000 ≤ s.tdiv c ∧ s.tdiv c ≤ 1000000000000000000 := by
  have h2 : (s.tdiv c).natAbs ≤ s.natAbs := by rw [Int.natAbs_tdiv]; exact Nat.div_le_self _ _
  omega
theorem mean_eq (s c : Int) (hc : 0 < c) : (s - md s c).tdiv c = meanI s c := by
  have h := Int.mul_tdiv_add_tmod s c
  unfold md meanI
  split
  · have e : s - (s.tmod c + c) = c * (s.tdiv c - 1) := by rw [Int.mul_sub]; omega
    rw [e, Int.mul_tdiv_cancel_left _ (by omega)]
  · have e : s - s.tmod c = c * s.tdiv c := by omega
    rw [e, Int.mul_tdiv_cancel_left _ (by omega)]

/-- A mean is told. -/
def MeanP (c s lo hi : Int) (n : Nat) (f : Nat → Int) (fu : Bool) : Prop := GoodA c s lo hi n f fu ∧ fu = false ∧ c ≠ 0
/-- What MeanOf leaves. -/
def MeanO (c s lo hi : Int) (n : Nat) (f : Nat → Int) (fu : Bool) (w : World) (e : Ending) (w' : World) : Prop :=
  ∃ (m : Int) (b : Bool), e = .returned (.tuple #[.int .i64 m, .bool b]) ∧ (b = true ↔ MeanP c s lo hi n f fu) ∧ (m = if b = true then meanI s c else 0) ∧ Below w.heap.size w w'
theorem MeanO.no {c s lo hi : Int} {n : Nat} {f : Nat → Int} {fu : Bool} {w w' : World} (h : ¬ (MeanP c s lo hi n f fu)) (hb : Below w.heap.size w w') : MeanO c s lo hi n f fu w (.returned (.tuple #[.int .i64 0, .bool false])) w' :=
  ⟨0, false, rfl, ⟨fun h => (by cases h), fun k => absurd k h⟩, by simp, hb⟩
theorem MeanO.yes {c s lo hi : Int} {n : Nat} {f : Nat → Int} {fu : Bool} {w w' : World} (h : MeanP c s lo hi n f fu) (hb : Below w.heap.size w w') {m : Int} (hm : m = meanI s c) : MeanO c s lo hi n f fu w (.returned (.tuple #[.int .i64 m, .bool true])) w' :=
  ⟨m, true, rfl, ⟨fun _ => h, fun _ => rfl⟩, by simp [hm], hb⟩

set_option maxHeartbeats 800000 in
theorem mean_spec (c s lo hi : Int) (ao : Option Addr) (n cap : Nat) (f : Nat → Int) (fu : Bool) (w : World) (hr : IRow w ao n f) (hn : n ≤ 1048576) (hs : -9223372036854775808 ≤ s ∧ s ≤ 9223372036854775807) :
    Calls Try.prog 20 #[.agg #[.int .i64 c, .int .i64 s, .int .i64 lo, .int .i64 hi, .slice ao n cap, .bool fu]] w fun e w' => MeanO c s lo hi n f fu w e w' := by
  have hB := below_new w (.cells #[.int .i64 c, .int .i64 s, .int .i64 lo, .int .i64 hi, .slice ao n cap, .bool fu] 27)
  have A0 := AAt.new w c s lo hi (.slice ao n cap) fu 27
  go_enter Try.func20, Try.ntmps20
  go_wp2_with fail
  refine (goodAgg_spec c s lo hi ao n cap f fu _ (hr.keep hB) hn hs).mono ?_
  rintro e w1 ⟨b1, rfl, h1, q1⟩
  obtain ⟨la, a0, a1, a2, a3, a4, a5⟩ := A0.keep q1
  have B1 : Below w.heap.size w w1 := hB.trans (q1.mono (by simp))
  clear q1 hB A0
  cases b1
  · have K : Hid (¬ (MeanP c s lo hi n f fu)) := fun h => by
      have := h1.2 h.1
      cases this
    clear h1
    go_wp2
    exact bodyPost_ret (v := .tuple #[.int .i64 0, .bool false]) (by simp [results, Try.results20, go_sem]) rfl (MeanO.no K.out B1)
  · have hg := h1.1 rfl
    clear h1
    cases fu
    · by_cases hc : c = 0
      · have K : Hid (¬ (MeanP c s lo hi n f false)) := fun h => h.2.2 hc
        subst hc
        clear hg
        go_wp2
        exact bodyPost_ret (v := .tuple #[.int .i64 0, .bool false]) (by simp [results, Try.results20, go_sem]) rfl (MeanO.no K.out B1)
      · have K : Hid (MeanP c s lo hi n f false) := ⟨hg, rfl, hc⟩
        have hcb : 0 < c ∧ c ≤ 1000000000 := by
          have := hg.1
          simp [isC, btw] at this
          omega
        have hsb : -1000000000000000000 ≤ s ∧ s ≤ 1000000000000000000 := by
          have := hg.2.2.2.1 rfl
          omega
        clear hg
        have hq := tdiv_bd s c hsb
        have hr1 := Int.tmod_lt_of_pos s hcb.1
        have hr2 := Int.lt_tmod_of_pos s hcb.1
        have hw1 : IntKind.i64.wrap (s.tdiv c) = s.tdiv c := by rw [IntKind.wrap_i64] <;> omega
        have hw2 : IntKind.i64.wrap (s.tmod c) = s.tmod c := by rw [IntKind.wrap_i64] <;> omega
        by_cases hneg : s.tmod c < 0
        · have hw3 : IntKind.i64.wrap (s.tdiv c - 1) = s.tdiv c - 1 := by rw [IntKind.wrap_i64] <;> omega
          have e : Hid (s.tdiv c - 1 = meanI s c) := by unfold Hid meanI; rw [if_pos hneg]
          go_wp2
          exact bodyPost_ret (v := .tuple #[.int .i64 (s.tdiv c - 1), .bool true]) (by simp [results, Try.results20, go_sem]) rfl (MeanO.yes K.out B1 e.out)
        · have e : Hid (s.tdiv c = meanI s c) := by unfold Hid meanI; rw [if_neg hneg]
          go_wp2
          exact bodyPost_ret (v := .tuple #[.int .i64 (s.tdiv c), .bool true]) (by simp [results, Try.results20, go_sem]) rfl (MeanO.yes K.out B1 e.out)
    · have K : Hid (¬ (MeanP c s lo hi n f true)) := fun h => by cases h.2.1
      clear hg
      go_wp2
      exact bodyPost_ret (v := .tuple #[.int .i64 0, .bool false]) (by simp [results, Try.results20, go_sem]) rfl (MeanO.no K.out B1)

set_option maxHeartbeats 800000 in
theorem mean_impl (c s lo hi : Int) (ao : Option Addr) (n cap : Nat) (f : Nat → Int) (fu : Bool) (w : World) (hr : IRow w ao n f) (hn : n ≤ 1048576) (hs : -9223372036854775808 ≤ s ∧ s ≤ 9223372036854775807) :
    Calls Try.prog 21 #[.agg #[.int .i64 c, .int .i64 s, .int .i64 lo, .int .i64 hi, .slice ao n cap, .bool fu]] w fun e w' => MeanO c s lo hi n f fu w e w' := by
  have hB := below_new w (.cells #[.int .i64 c, .int .i64 s, .int .i64 lo, .int .i64 hi, .slice ao n cap, .bool fu] 27)
  have A0 := AAt.new w c s lo hi (.slice ao n cap) fu 27
  go_enter Try.func21, Try.ntmps21
  go_wp2_with fail
  refine (goodAgg_impl c s lo hi ao n cap f fu _ (hr.keep hB) hn hs).mono ?_
  rintro e w1 ⟨b1, rfl, h1, q1⟩
  obtain ⟨la, a0, a1, a2, a3, a4, a5⟩ := A0.keep q1
  have B1 : Below w.heap.size w w1 := hB.trans (q1.mono (by simp))
  clear q1 hB A0
  cases b1
  · have K : Hid (¬ (MeanP c s lo hi n f fu)) := fun h => by
      have := h1.2 h.1
      cases this
    clear h1
    go_wp2
    exact bodyPost_ret (v := .tuple #[.int .i64 0, .bool false]) (by simp [results, Try.results21, go_sem]) rfl (MeanO.no K.out B1)
  · have hg := h1.1 rfl
    clear h1
    cases fu
    · by_cases hc : c = 0
      · have K : Hid (¬ (MeanP c s lo hi n f false)) := fun h => h.2.2 hc
        subst hc
        clear hg
        go_wp2
        exact bodyPost_ret (v := .tuple #[.int .i64 0, .bool false]) (by simp [results, Try.results21, go_sem]) rfl (MeanO.no K.out B1)
      · have K : Hid (MeanP c s lo hi n f false) := ⟨hg, rfl, hc⟩
        have hcb : 0 < c ∧ c ≤ 1000000000 := by
          have := hg.1
          simp [isC, btw] at this
          omega
        have hsb : -1000000000000000000 ≤ s ∧ s ≤ 1000000000000000000 := by
          have := hg.2.2.2.1 rfl
          omega
        clear hg
        have hq := tdiv_bd s c hsb
        have hr1 := Int.tmod_lt_of_pos s hcb.1
        have hr2 := Int.lt_tmod_of_pos s hcb.1
        have hw1 : IntKind.i64.wrap (s.tdiv c) = s.tdiv c := by rw [IntKind.wrap_i64] <;> omega
        have hw2 : IntKind.i64.wrap (s.tmod c) = s.tmod c := by rw [IntKind.wrap_i64] <;> omega
        have hm := md_bd (a := s) hcb.1
        have e : Hid ((s - md s c).tdiv c = meanI s c) := mean_eq s c hcb.1
        have hq3 := tdiv_bd (s - md s c) c
        have hw3 : IntKind.i64.wrap (s - md s c) = s - md s c := by rw [IntKind.wrap_i64] <;> omega
        have hw4 : IntKind.i64.wrap ((s - md s c).tdiv c) = (s - md s c).tdiv c := by
          have h2 : ((s - md s c).tdiv c).natAbs ≤ (s - md s c).natAbs := by rw [Int.natAbs_tdiv]; exact Nat.div_le_self _ _
          generalize (s - md s c).tdiv c = q at h2 ⊢
          rw [IntKind.wrap_i64] <;> omega
        clear hq3 hw1 hw2 hr1 hr2 hq
        go_wp2
        go_quiet ((go_at_call 37; exact Calls.quiet_of_same (modOf_any s c hcb _)))
        go_wp2
        exact bodyPost_ret (v := .tuple #[.int .i64 ((s - md s c).tdiv c), .bool true]) (by simp [results, Try.results21, go_sem]) rfl (MeanO.yes K.out (below_drewN B1 _) e.out)
    · have K : Hid (¬ (MeanP c s lo hi n f true)) := fun h => by cases h.2.1
      clear hg
      go_wp2
      exact bodyPost_ret (v := .tuple #[.int .i64 0, .bool false]) (by simp [results, Try.results21, go_sem]) rfl (MeanO.no K.out B1)
end Go.Proofs.Ytbaiihokdpojdaa
