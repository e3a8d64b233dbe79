/- Good aggs, in the program. -/
import Derived.Test.YtapmbgmmonhdoaaGreatDoorAg
namespace Go.Proofs.YtapmbgmmonhdoaaGreatDoor
set_option maxRecDepth 100000
open Go.RowKit
set_option linter.unusedSimpArgs false
set_option linter.unusedVariables false

/-- The first k together. -/
def sumF (f : Nat → Int) : Nat → Int
  | 0 => 0
  | k + 1 => sumF f k + f k
theorem sumF_bd {f : Nat → Int} {k : Nat} (h : ∀ i, i < k → isC (f i) = true) : 0 ≤ sumF f k ∧ sumF f k ≤ 1000000000 * (k : Int) := by
  induction k with
  | zero => simp [sumF]
  | succ k ih =>
    have h1 := ih (fun i hi => h i (by omega))
    have h2 := h k (by omega)
    simp [isC, btw] at h2
    simp only [sumF]
    omega

/-- Good, in the document's words. -/
def GoodA (c s lo hi : Int) (n : Nat) (f : Nat → Int) (fu : Bool) : Prop :=
  isC c = true ∧ n = 8 ∧ (∀ i, i < 8 → isC (f i) = true) ∧ (fu = false → sumF f 8 = c ∧ -1000000000 * c ≤ s ∧ s ≤ 1000000000 * c) ∧ (fu = true → s = 0 ∧ 0 < c) ∧
    (c = 0 → lo = 0 ∧ hi = 0) ∧ (c ≠ 0 → isV lo = true ∧ isV hi = true ∧ lo ≤ hi)

/-- What a question leaves: an answer that says whether p. -/
def Ans (p : Prop) (w : World) (e : Ending) (w' : World) : Prop := ∃ b : Bool, e = .returned (.bool b) ∧ (b = true ↔ p) ∧ Below w.heap.size w w'
theorem Ans.mk {p : Prop} {w w' : World} (b : Bool) (h : b = true ↔ p) (hb : Below w.heap.size w w') : Ans p w (.returned (.bool b)) w' := ⟨b, rfl, h, hb⟩

theorem goodHist_any (ao : Option Addr) (n cap : Nat) (f : Nat → Int) (w : World) (hr : IRow w ao n f) (hn : n ≤ 1048576) :
    Calls Tryz.prog 206 #[.slice ao n cap] w fun e w' => Ans (n = 8 ∧ ∀ i, i < 8 → isC (f i) = true) w e w' := by
  obtain ⟨hbd, hlies⟩ := hr
  go_enter Tryz.func206, Tryz.ntmps206
  go_wp2
  go_loopw [7] (fun i wr => ∃ k : Nat, k ≤ n ∧ i = .int .i64 k ∧ Hid (∀ i, i < k → isC (f i) = true) ∧ wr = w) (fun i _ => n - (intOf i).toNat)
  case atStart => exact ⟨0, Nat.zero_le _, rfl, fun i h => by omega, rfl⟩
  case round =>
    obtain ⟨k, hk, rfl, hall, rfl⟩ := hrel
    by_cases hlt : k < n
    · obtain ⟨b, off, rfl, hblt, hc⟩ := hlies.resolve_left (by omega)
      have h1 := hc k hlt
      clear hc hlies
      go_wp2_with fail
      refine (isCount_any (f k) _).mono ?_
      rintro e w1 ⟨rfl, rfl⟩
      cases hx : isC (f k)
      · go_wp2
        refine bodyPost_ret (v := .bool false) (by simp [results, Tryz.results206, go_sem]) rfl (Ans.mk false ?_ (Below.refl _ _))
        simp only [Bool.false_eq_true, false_iff]
        rintro ⟨rfl, h⟩
        rw [h k hlt] at hx
        cases hx
      · have HX : Hid (isC (f k) = true) := hx
        clear hx
        go_wp2
        go_roundw
        case rel =>
          refine ⟨k + 1, by omega, by go_num, ?_, by first | rfl | trivial⟩
          intro i hi
          rcases Nat.lt_succ_iff_lt_or_eq.1 hi with h | rfl
          · exact hall.out i h
          · exact HX.out
        case measure => simp [intOf]; omega
    · have e : k = n := by omega
      have HE : Hid (k = n) := e
      clear e
      go_wp2
      refine bodyPost_ret (v := .bool ((n : Int) == 8)) (by simp [results, Tryz.results206, go_sem]) rfl (Ans.mk _ ?_ (Below.refl _ _))
      have e := HE.out
      subst e
      constructor
      · intro h
        have h8 : k = 8 := by have h' : (k : Int) = 8 := by simpa using h
                              omega
        subst h8
        exact ⟨rfl, hall.out⟩
      · rintro ⟨rfl, _⟩
        rfl

set_option maxHeartbeats 800000 in
theorem goodBounds_any (c s lo hi : Int) (hv : Value) (fu : Bool) (w : World) :
    Calls Tryz.prog 208 #[.agg #[.int .i64 c, .int .i64 s, .int .i64 lo, .int .i64 hi, hv, .bool fu]] w fun e w' => Ans ((c = 0 → lo = 0 ∧ hi = 0) ∧ (c ≠ 0 → isV lo = true ∧ isV hi = true ∧ lo ≤ hi)) w e w' := by
  have hB := fun o => below_new w o
  by_cases hc : c = 0
  · subst hc
    by_cases h1 : lo = 0
    · subst h1
      go_enter Tryz.func208, Tryz.ntmps208
      go_wp2
      exact bodyPost_ret (v := .bool (hi == 0)) (by simp [results, Tryz.results208, go_sem]) rfl (Ans.mk _ (by simp) (hB _))
    · have H1 : Hid (¬ lo = 0) := h1
      go_enter Tryz.func208, Tryz.ntmps208
      go_wp2
      exact bodyPost_ret (v := .bool false) (by simp [results, Tryz.results208, go_sem]) rfl (Ans.mk _ (by have := H1.out; simp [this]) (hB _))
  · cases hl : isV lo
    · go_enter Tryz.func208, Tryz.ntmps208
      go_wp2_with fail
      refine (isValue_any lo _).mono ?_
      rintro e w1 ⟨rfl, rfl⟩
      go_wp2
      exact bodyPost_ret (v := .bool false) (by simp [results, Tryz.results208, go_sem]) rfl (Ans.mk _ (by simp [hc, hl]) (hB _))
    · cases hh : isV hi
      · go_enter Tryz.func208, Tryz.ntmps208
        go_wp2_with fail
        refine (isValue_any lo _).mono ?_
        rintro e w1 ⟨rfl, rfl⟩
        go_wp2_with fail
        refine (isValue_any hi _).mono ?_
        rintro e w1 ⟨rfl, rfl⟩
        go_wp2
        exact bodyPost_ret (v := .bool false) (by simp [results, Tryz.results208, go_sem]) rfl (Ans.mk _ (by simp [hc, hh]) (hB _))
      · go_enter Tryz.func208, Tryz.ntmps208
        go_wp2_with fail
        refine (isValue_any lo _).mono ?_
        rintro e w1 ⟨rfl, rfl⟩
        go_wp2_with fail
        refine (isValue_any hi _).mono ?_
        rintro e w1 ⟨rfl, rfl⟩
        go_wp2
        exact bodyPost_ret (v := .bool (decide (lo ≤ hi))) (by simp [results, Tryz.results208, go_sem]) rfl (Ans.mk _ (by simp [hc, hl, hh]) (hB _))

theorem goodTotals_full (c s lo hi : Int) (hv : Value) (w : World) :
    Calls Tryz.prog 207 #[.agg #[.int .i64 c, .int .i64 s, .int .i64 lo, .int .i64 hi, hv, .bool true]] w fun e w' => Ans (s = 0 ∧ 0 < c) w e w' := by
  have hB := fun o => below_new w o
  by_cases h1 : s = 0
  · subst h1
    go_enter Tryz.func207, Tryz.ntmps207
    go_wp2
    exact bodyPost_ret (v := .bool (decide (0 < c))) (by simp [results, Tryz.results207, go_sem]) rfl (Ans.mk _ (by simp) (hB _))
  · have H1 : Hid (¬ s = 0) := h1
    go_enter Tryz.func207, Tryz.ntmps207
    go_wp2
    exact bodyPost_ret (v := .bool false) (by simp [results, Tryz.results207, go_sem]) rfl (Ans.mk _ (by have := H1.out; simp [this]) (hB _))

set_option maxHeartbeats 800000 in
theorem goodTotals_not (c s lo hi : Int) (ao : Option Addr) (cap : Nat) (f : Nat → Int) (w : World) (hr : IRow w ao 8 f) (hc : 0 ≤ c ∧ c ≤ 1000000000) (hs : -9223372036854775808 ≤ s ∧ s ≤ 9223372036854775807) (hf : ∀ i, i < 8 → isC (f i) = true) :
    Calls Tryz.prog 207 #[.agg #[.int .i64 c, .int .i64 s, .int .i64 lo, .int .i64 hi, .slice ao 8 cap, .bool false]] w fun e w' => Ans (sumF f 8 = c ∧ -1000000000 * c ≤ s ∧ s ≤ 1000000000 * c) w e w' := by
  obtain ⟨b, off, rfl, hblt, hcell⟩ := hr.lies.resolve_left (by omega)
  have hB := fun o => below_new w o
  have HF : Hid (∀ i, i < 8 → isC (f i) = true) := hf
  have hw : IntKind.i64.wrap (1000000000 * c) = 1000000000 * c := by rw [IntKind.wrap_i64] <;> omega
  have hwn : IntKind.i64.wrap (-(1000000000 * c)) = -(1000000000 * c) := by rw [IntKind.wrap_i64] <;> omega
  have hal : ∀ O i, i < 8 → (w.alloc O).cell? ⟨b, off + i, none⟩ = some (.int .i64 (f i)) := fun O i hi => (World.cell?_alloc_old _ _ _ (Nat.ne_of_lt hblt)).trans (hcell i hi)
  clear hf hcell hr
  generalize hO : (Obj.cells #[Value.int .i64 c, .int .i64 s, .int .i64 lo, .int .i64 hi, .slice (some ⟨b, off, none⟩) 8 cap, .bool false] 60) = O
  have A := AAt.new w c s lo hi (.slice (some ⟨b, off, none⟩) 8 cap) false 60
  rw [hO] at A
  obtain ⟨la, a0, a1, a2, a3, a4, a5⟩ := A
  go_enter Tryz.func207, Tryz.ntmps207
  go_wp2
  go_loopw [3, 20] (fun q i wr => ∃ k : Nat, k ≤ 8 ∧ i = .int .i64 k ∧ q = .int .i64 (sumF f k) ∧ wr = w.alloc O) (fun _ i _ => 8 - (intOf i).toNat)
  case atStart => exact ⟨0, Nat.zero_le _, rfl, rfl, rfl⟩
  case round =>
    obtain ⟨k, hk, rfl, rfl, rfl⟩ := hrel
    have hsb := sumF_bd (f := f) (k := k) (fun i hi => HF.out i (by omega))
    by_cases hlt : k < 8
    · have h1 := hal O k hlt
      have h2 := HF.out k hlt
      simp [isC, btw] at h2
      clear hal hO
      go_wp2
      go_roundw
      case rel => exact ⟨k + 1, by omega, by go_num, by go_num, by first | rfl | trivial⟩
      case measure => simp [intOf]; omega
    · have e : k = 8 := by omega
      subst e
      clear hal hO
      by_cases h1 : sumF f 8 = c
      · subst h1
        by_cases h2 : -(1000000000 * sumF f 8) ≤ s
        · have H2 : Hid (-(1000000000 * sumF f 8) ≤ s) := h2
          go_wp2
          exact bodyPost_ret (v := .bool (decide (s ≤ 1000000000 * sumF f 8))) (by simp [results, Tryz.results207, go_sem]) rfl (Ans.mk _ (by have := H2.out; simp; omega) (hB _))
        · have H2 : Hid (¬ -(1000000000 * sumF f 8) ≤ s) := h2
          have hd : decide (-(1000000000 * sumF f 8) ≤ s) = false := by simpa using h2
          go_wp2
          exact bodyPost_ret (v := .bool false) (by simp [results, Tryz.results207, go_sem]) rfl (Ans.mk _ (by have := H2.out; simp; omega) (hB _))
      · have H1 : Hid (¬ sumF f 8 = c) := h1
        go_wp2
        exact bodyPost_ret (v := .bool false) (by simp [results, Tryz.results207, go_sem]) rfl (Ans.mk _ (by have := H1.out; simp [this]) (hB _))
end Go.Proofs.YtapmbgmmonhdoaaGreatDoor
