/- Good aggs, in the program. / GoodAgg, in the program. -/
import Derived.Test.YtiigpmhaicfocaaAg
namespace Go.Proofs.Ytiigpmhaicfocaa
open Go.RowKit
set_option linter.unusedSimpArgs false
set_option linter.unusedVariables false

/-- The first k together. -/
def sumF (f : Nat → Int) : Nat → Int
  | 0 => 0
  | k + 1 => sumF f k + f k
theorem sumF_bd {f : Nat → Int} {k : Nat} (h : ∀ i, i < k → isC (f i) = true) : 0 ≤ sumF f k ∧ sumF f k ≤ 1000000000 * (k : Int) := by
  induction k with
  | zero => simp [sumF]
  | succ k ih =>
    have h1 := ih (fun i hi => h i (by omega))
    have h2 := h k (by omega)
    simp [isC, btw] at h2
    simp only [sumF]
    omega

/-- Good, in the document's words. -/
def GoodA (c s lo hi : Int) (n : Nat) (f : Nat → Int) (fu : Bool) : Prop :=
  isC c = true ∧ n = 8 ∧ (∀ i, i < 8 → isC (f i) = true) ∧ (fu = false → sumF f 8 = c ∧ -1000000000 * c ≤ s ∧ s ≤ 1000000000 * c) ∧ (fu = true → s = 0 ∧ 0 < c) ∧
    (c = 0 → lo = 0 ∧ hi = 0) ∧ (c ≠ 0 → isV lo = true ∧ isV hi = true ∧ lo ≤ hi)

/-- What a question leaves: an answer that says whether p. -/
def Ans (p : Prop) (w : World) (e : Ending) (w' : World) : Prop := ∃ b : Bool, e = .returned (.bool b) ∧ (b = true ↔ p) ∧ Below w.heap.size w w'
theorem Ans.mk {p : Prop} {w w' : World} (b : Bool) (h : b = true ↔ p) (hb : Below w.heap.size w w') : Ans p w (.returned (.bool b)) w' := ⟨b, rfl, h, hb⟩

theorem goodHist_any (ao : Option Addr) (n cap : Nat) (f : Nat → Int) (w : World) (hr : IRow w ao n f) (hn : n ≤ 1048576) :
    Calls Try.prog 71 #[.slice ao n cap] w fun e w' => Ans (n = 8 ∧ ∀ i, i < 8 → isC (f i) = true) w e w' := by
  obtain ⟨hbd, hlies⟩ := hr
  go_enter Try.func71, Try.ntmps71
  go_wp2
  go_loopw [7] (fun i wr => ∃ k : Nat, k ≤ n ∧ i = .int .i64 k ∧ Hid (∀ i, i < k → isC (f i) = true) ∧ wr = w) (fun i _ => n - (intOf i).toNat)
  case atStart => exact ⟨0, Nat.zero_le _, rfl, fun i h => by omega, rfl⟩
  case round =>
    obtain ⟨k, hk, rfl, hall, rfl⟩ := hrel
    by_cases hlt : k < n
    · obtain ⟨b, off, rfl, hblt, hc⟩ := hlies.resolve_left (by omega)
      have h1 := hc k hlt
      clear hc hlies
      go_wp2_with fail
      refine (isCount_any (f k) _).mono ?_
      rintro e w1 ⟨rfl, rfl⟩
      cases hx : isC (f k)
      · go_wp2
        refine bodyPost_ret (v := .bool false) (by simp [results, Try.results71, go_sem]) rfl (Ans.mk false ?_ (Below.refl _ _))
        simp only [Bool.false_eq_true, false_iff]
        rintro ⟨rfl, h⟩
        rw [h k hlt] at hx
        cases hx
      · have HX : Hid (isC (f k) = true) := hx
        clear hx
        go_wp2
        go_roundw
        case rel =>
          refine ⟨k + 1, by omega, by go_num, ?_, by first | rfl | trivial⟩
          intro i hi
          rcases Nat.lt_succ_iff_lt_or_eq.1 hi with h | rfl
          · exact hall.out i h
          · exact HX.out
        case measure => simp [intOf]; omega
    · have e : k = n := by omega
      have HE : Hid (k = n) := e
      clear e
      go_wp2
      refine bodyPost_ret (v := .bool ((n : Int) == 8)) (by simp [results, Try.results71, go_sem]) rfl (Ans.mk _ ?_ (Below.refl _ _))
      have e := HE.out
      subst e
      constructor
      · intro h
        have h8 : k = 8 := by have h' : (k : Int) = 8 := by simpa using h
                              omega
        subst h8
        exact ⟨rfl, hall.out⟩
      · rintro ⟨rfl, _⟩
        rfl

set_option maxHeartbeats 800000 in
theorem goodBounds_any (c s lo hi : Int) (hv : Value) (fu : Bool) (w : World) :
    Calls Try.prog 73 #[.agg #[.int .i64 c, .int .i64 s, .int .i64 lo, .int .i64 hi, hv, .bool fu]] w fun e w' => Ans ((c = 0 → lo = 0 ∧ hi = 0) ∧ (c ≠ 0 → isV lo = true ∧ isV hi = true ∧ lo ≤ hi)) w e w' := by
  have hB := fun o => below_new w o
  by_cases hc : c = 0
  · subst hc
    by_cases h1 : lo = 0
    · subst h1
      go_enter Try.func73, Try.ntmps73
      go_wp2
      exact bodyPost_ret (v := .bool (hi == 0)) (by simp [results, Try.results73, go_sem]) rfl (Ans.mk _ (by simp) (hB _))
    · have H1 : Hid (¬ lo = 0) := h1
      go_enter Try.func73, Try.ntmps73
      go_wp2
      exact bodyPost_ret (v := .bool false) (by simp [results, Try.results73, go_sem]) rfl (Ans.mk _ (by have := H1.out; simp [this]) (hB _))
  · cases hl : isV lo
    · go_enter Try.func73, Try.ntmps73
      go_wp2_with fail
      refine (isValue_any lo _).mono ?_
      rintro e w1 ⟨rfl, rfl⟩
      go_wp2
      exact bodyPost_ret (v := .bool false) (by simp [results, Try.results73, go_sem]) rfl (Ans.mk _ (by simp [hc, hl]) (hB _))
    · cases hh : isV hi
      · go_enter Try.func73, Try.ntmps73
        go_wp2_with fail
        refine (isValue_any lo _).mono ?_
        rintro e w1 ⟨rfl, rfl⟩
        go_wp2_with fail
        refine (isValue_any hi _).mono ?_
        rintro e w1 ⟨rfl, rfl⟩
        go_wp2
        exact bodyPost_ret (v := .bool false) (by simp [results, Try.results73, go_sem]) rfl (Ans.mk _ (by simp [hc, hh]) (hB _))
      · go_enter Try.func73, Try.ntmps73
        go_wp2_with fail
        refine (isValue_any lo _).mono ?_
        rintro e w1 ⟨rfl, rfl⟩
        go_wp2_with fail
        refine (isValue_any hi _).mono ?_
        rintro e w1 ⟨rfl, rfl⟩
        go_wp2
        exact bodyPost_ret (v := .bool (decide (lo ≤ hi))) (by simp [results, Try.results73, go_sem]) rfl (Ans.mk _ (by simp [hc, hl, hh]) (hB _))

theorem goodTotals_full (c s lo hi : Int) (hv : Value) (w : World) :
    Calls Try.prog 72 #[.agg #[.int .i64 c, .int .i64 s, .int .i64 lo, .int .i64 hi, hv, .bool true]] w fun e w' => Ans (s = 0 ∧ 0 < c) w e w' := by
  have hB := fun o => below_new w o
  by_cases h1 : s = 0
  · subst h1
    go_enter Try.func72, Try.ntmps72
    go_wp2
    exact bodyPost_ret (v := .bool (decide (0 < c))) (by simp [results, Try.results72, go_sem]) rfl (Ans.mk _ (by simp) (hB _))
  · have H1 : Hid (¬ s = 0) := h1
    go_enter Try.func72, Try.ntmps72
    go_wp2
    exact bodyPost_ret (v := .bool false) (by simp [results, Try.results72, go_sem]) rfl (Ans.mk _ (by have := H1.out; simp [this]) (hB _))

set_option maxHeartbeats 800000 in
theorem goodTotals_not (c s lo hi : Int) (ao : Option Addr) (cap : Nat) (f : Nat → Int) (w : World) (hr : IRow w ao 8 f) (hc : 0 ≤ c ∧ c ≤ 1000000000) (hs : -9223372036854775808 ≤ s ∧ s ≤ 9223372036854775807) (hf : ∀ i, i < 8 → isC (f i) = true) :
    Calls Try.prog 72 #[.agg #[.int .i64 c, .int .i64 s, .int .i64 lo, .int .i64 hi, .slice ao 8 cap, .bool false]] w fun e w' => Ans (sumF f 8 = c ∧ -1000000000 * c ≤ s ∧ s ≤ 1000000000 * c) w e w' := by
  obtain ⟨b, off, rfl, hblt, hcell⟩ := hr.lies.resolve_left (by omega)
  have hB := fun o => below_new w o
  have HF : Hid (∀ i, i < 8 → isC (f i) = true) := hf
  have hw : IntKind.i64.wrap (1000000000 * c) = 1000000000 * c := by rw [IntKind.wrap_i64] <;> omega
  have hwn : IntKind.i64.wrap (-(1000000000 * c)) = -(1000000000 * c) := by rw [IntKind.wrap_i64] <;> omega
  have hal : ∀ O i, i < 8 → (w.alloc O).cell? ⟨b, off + i, none⟩ = some (.int .i64 (f i)) := fun O i hi => (World.cell?_alloc_old _ _ _ (Nat.ne_of_lt hblt)).trans (hcell i hi)
  clear hf hcell hr
  generalize hO : (Obj.cells #[Value.int .i64 c, .int .i64 s, .int .i64 lo, .int .i64 hi, .slice (some ⟨b, off, none⟩) 8 cap, .bool false] 26) = O
  have A := AAt.new w c s lo hi (.slice (some ⟨b, off, none⟩) 8 cap) false 26
  rw [hO] at A
  obtain ⟨la, a0, a1, a2, a3, a4, a5⟩ := A
  go_enter Try.func72, Try.ntmps72
  go_wp2
  go_loopw [3, 20] (fun q i wr => ∃ k : Nat, k ≤ 8 ∧ i = .int .i64 k ∧ q = .int .i64 (sumF f k) ∧ wr = w.alloc O) (fun _ i _ => 8 - (intOf i).toNat)
  case atStart => exact ⟨0, Nat.zero_le _, rfl, rfl, rfl⟩
  case round =>
    obtain ⟨k, hk, rfl, rfl, rfl⟩ := hrel
    have hsb := sumF_bd (f := f) (k := k) (fun i hi => HF.out i (by omega))
    by_cases hlt : k < 8
    · have h1 := hal O k hlt
      have h2 := HF.out k hlt
      simp [isC, btw] at h2
      clear hal hO
      go_wp2
      go_roundw
      case rel => exact ⟨k + 1, by omega, by go_num, by go_num, by first | rfl | trivial⟩
      case measure => simp [intOf]; omega
    · have e : k = 8 := by omega
      subst e
      clear hal hO
      by_cases h1 : sumF f 8 = c
      · subst h1
        by_cases h2 : -(1000000000 * sumF f 8) ≤ s
        · have H2 : Hid (-(1000000000 * sumF f 8) ≤ s) := h2
          go_wp2
          exact bodyPost_ret (v := .bool (decide (s ≤ 1000000000 * sumF f 8))) (by simp [results, Try.results72, go_sem]) rfl (Ans.mk _ (by have := H2.out; simp; omega) (hB _))
        · have H2 : Hid (¬ -(1000000000 * sumF f 8) ≤ s) := h2
          have hd : decide (-(1000000000 * sumF f 8) ≤ s) = false := by simpa using h2
          go_wp2
          exact bodyPost_ret (v := .bool false) (by simp [results, Try.results72, go_sem]) rfl (Ans.mk _ (by have := H2.out; simp; omega) (hB _))
      · have H1 : Hid (¬ sumF f 8 = c) := h1
        go_wp2
        exact bodyPost_ret (v := .bool false) (by simp [results, Try.results72, go_sem]) rfl (Ans.mk _ (by have := H1.out; simp [this]) (hB _))
end Go.Proofs.Ytiigpmhaicfocaa
namespace Go.Proofs.Ytiigpmhaicfocaa
open Go.RowKit
set_option linter.unusedSimpArgs false
set_option linter.unusedVariables false

set_option maxHeartbeats 800000 in
theorem goodAgg_impl (c s lo hi : Int) (ao : Option Addr) (n cap : Nat) (f : Nat → Int) (fu : Bool) (w : World) (hr : IRow w ao n f) (hn : n ≤ 1048576) (hs : -9223372036854775808 ≤ s ∧ s ≤ 9223372036854775807) :
    Calls Try.prog 58 #[.agg #[.int .i64 c, .int .i64 s, .int .i64 lo, .int .i64 hi, .slice ao n cap, .bool fu]] w fun e w' => Ans (GoodA c s lo hi n f fu) w e w' := by
  have hB := fun o => below_new w o
  cases hc : isC c
  · go_enter Try.func58, Try.ntmps58
    go_wp2_with fail
    refine (isCount_any c _).mono ?_
    rintro e w1 ⟨rfl, rfl⟩
    go_wp2
    exact bodyPost_ret (v := .bool false) (by simp [results, Try.results58, go_sem]) rfl (Ans.mk _ (by simp [GoodA, hc]) (hB _))
  · have hcb : 0 ≤ c ∧ c ≤ 1000000000 := by simpa [isC, btw] using hc
    go_enter Try.func58, Try.ntmps58
    go_wp2_with fail
    refine (isCount_any c _).mono ?_
    rintro e w1 ⟨rfl, rfl⟩
    go_wp2_with fail
    refine (goodHist_any ao n cap f _ (hr.keep (hB _)) hn).mono ?_
    rintro e w1 ⟨b1, rfl, h1, q1⟩
    obtain ⟨la, a0, a1, a2, a3, a4, a5⟩ := (AAt.new w c s lo hi (.slice ao n cap) fu 26).keep q1
    have r1 := (hr.keep (hB _)).keep q1
    have B1 : Below w.heap.size w w1 := (hB _).trans (q1.mono (by simp))
    clear q1
    cases b1
    · have H1 : Hid (¬ GoodA c s lo hi n f fu) := fun h => by
        have := h1.2 ⟨h.2.1, h.2.2.1⟩
        cases this
      clear h1
      go_wp2
      exact bodyPost_ret (v := .bool false) (by simp [results, Try.results58, go_sem]) rfl (Ans.mk _ (by have := H1.out; simp [this]) B1)
    · obtain ⟨h8, hall⟩ := h1.1 rfl
      subst h8
      have HA : Hid (∀ i, i < 8 → isC (f i) = true) := hall
      clear h1 hall
      cases fu
      · go_wp2_with fail
        refine (goodTotals_not c s lo hi ao cap f _ r1 hcb hs HA.out).mono ?_
        rintro e w2 ⟨b2, rfl, h2, q2⟩
        obtain ⟨la, a0, a1, a2, a3, a4, a5⟩ := AAt.keep ⟨la, a0, a1, a2, a3, a4, a5⟩ q2
        have B2 : Below w.heap.size w w2 := B1.trans (q2.mono B1.size)
        clear q2
        cases b2
        · have L2 : Hid (¬ GoodA c s lo hi 8 f false) := fun h => by
            have := h2.2 (h.2.2.2.1 rfl)
            cases this
          clear h2
          go_wp2
          exact bodyPost_ret (v := .bool false) (by simp [results, Try.results58, go_sem]) rfl (Ans.mk _ (by have := L2.out; simp [this]) B2)
        · have H2 : Hid (sumF f 8 = c ∧ -1000000000 * c ≤ s ∧ s ≤ 1000000000 * c) := h2.1 rfl
          clear h2
          go_wp2_with fail
          refine (goodBounds_any c s lo hi _ false _).mono ?_
          rintro e w3 ⟨b3, rfl, h3, q3⟩
          have B3 : Below w.heap.size w w3 := B2.trans (q3.mono B2.size)
          clear q3
          have H3 : Hid (b3 = true ↔ GoodA c s lo hi 8 f false) :=
            ⟨fun h => ⟨hc, rfl, HA.out, fun _ => H2.out, fun h => (by cases h), (h3.1 h).1, (h3.1 h).2⟩, fun h => h3.2 ⟨h.2.2.2.2.2.1, h.2.2.2.2.2.2⟩⟩
          clear h3
          go_wp2
          exact bodyPost_ret (v := .bool b3) (by simp [results, Try.results58, go_sem]) rfl (Ans.mk _ H3.out B3)
      · go_wp2_with fail
        refine (goodTotals_full c s lo hi _ _).mono ?_
        rintro e w2 ⟨b2, rfl, h2, q2⟩
        obtain ⟨la, a0, a1, a2, a3, a4, a5⟩ := AAt.keep ⟨la, a0, a1, a2, a3, a4, a5⟩ q2
        have B2 : Below w.heap.size w w2 := B1.trans (q2.mono B1.size)
        clear q2
        cases b2
        · have L2 : Hid (¬ GoodA c s lo hi 8 f true) := fun h => by
            have := h2.2 (h.2.2.2.2.1 rfl)
            cases this
          clear h2
          go_wp2
          exact bodyPost_ret (v := .bool false) (by simp [results, Try.results58, go_sem]) rfl (Ans.mk _ (by have := L2.out; simp [this]) B2)
        · have H2 : Hid (s = 0 ∧ 0 < c) := h2.1 rfl
          clear h2
          go_wp2_with fail
          refine (goodBounds_any c s lo hi _ true _).mono ?_
          rintro e w3 ⟨b3, rfl, h3, q3⟩
          have B3 : Below w.heap.size w w3 := B2.trans (q3.mono B2.size)
          clear q3
          have H3 : Hid (b3 = true ↔ GoodA c s lo hi 8 f true) :=
            ⟨fun h => ⟨hc, rfl, HA.out, fun h => (by cases h), fun _ => H2.out, (h3.1 h).1, (h3.1 h).2⟩, fun h => h3.2 ⟨h.2.2.2.2.2.1, h.2.2.2.2.2.2⟩⟩
          clear h3
          go_wp2
          exact bodyPost_ret (v := .bool b3) (by simp [results, Try.results58, go_sem]) rfl (Ans.mk _ H3.out B3)
end Go.Proofs.Ytiigpmhaicfocaa
