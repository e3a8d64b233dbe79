/- Two neighbouring parts exchanged, in the program. -/
import Derived.Test.YtjdijikmdlklkaaYw
namespace Go.Proofs.Ytjdijikmdlklkaa
open Go.RowKit
set_option linter.unusedSimpArgs false
set_option linter.unusedVariables false

set_option maxRecDepth 100000 in
set_option maxHeartbeats 8000000 in
theorem rotate_any (B n cap : Nat) (C : Nat → Nat → Value) (x : Nat → Nat) (a m b : Nat) (fv : Value) (w : World) (h : AR w B n C x) (h1 : ∀ v j, j < 10 → (C v j).oneCell' = true) (ham : a < m) (hmb : m < b) (hb : b ≤ n) (hn : n ≤ 1000) (hcap : n ≤ cap) :
    Calls Try.prog 60 #[.slice (some ⟨B, 0, none⟩) n cap, .int .i64 a, .int .i64 m, .int .i64 b, fv] w fun e w' => (∃ u, e = .returned u) ∧ AR w' B n C (rot x a m b) ∧ WrB B w w' := by
  obtain ⟨i0, hi0⟩ : ∃ i0, m - a = i0 := ⟨_, rfl⟩
  obtain ⟨j0, hj0⟩ : ∃ j0, b - m = j0 := ⟨_, rfl⟩
  have hw1 : IntKind.i64.wrap ((m : Int) - (a : Int)) = (i0 : Int) := by rw [IntKind.wrap_i64] <;> omega
  have hw2 : IntKind.i64.wrap ((b : Int) - (m : Int)) = (j0 : Int) := by rw [IntKind.wrap_i64] <;> omega
  have H0 : Hid (∃ y : Nat → Nat, 0 < i0 ∧ 0 < j0 ∧ i0 ≤ m ∧ m + j0 ≤ n ∧ AR w B n C y ∧ rot y (m - i0) m (m + j0) = rot x a m b) := ⟨x, by omega, by omega, by omega, by omega, h, by rw [show m - i0 = a by omega, show m + j0 = b by omega]⟩
  clear hi0 hj0
  go_enter Try.func60, Try.ntmps60
  go_wp2
  clear hw1 hw2
  go_loopw [10, 11] (fun u q wr => ∃ (i j : Nat), u = .int .i64 (i : Int) ∧ q = .int .i64 (j : Int) ∧ Hid (∃ y : Nat → Nat, 0 < i ∧ 0 < j ∧ i ≤ m ∧ m + j ≤ n ∧ AR wr B n C y ∧ rot y (m - i) m (m + j) = rot x a m b) ∧ WrB B w wr) (fun u q _ => (intOf u).toNat + (intOf q).toNat)
  case atStart => exact ⟨i0, j0, rfl, rfl, H0, WrB.refl _ _⟩
  case round =>
    clear H0
    obtain ⟨i, j, rfl, rfl, HI, hw⟩ := hrel
    obtain ⟨y, hi0, hj0, him, hjn, hA, hR⟩ := HI.out
    obtain ⟨d, hd⟩ : ∃ d, m - i = d := ⟨_, rfl⟩
    have hwmi : IntKind.i64.wrap ((m : Int) - (i : Int)) = (d : Int) := by rw [IntKind.wrap_i64] <;> omega
    have him' : i ≤ 1000 := by omega
    have hjm' : j ≤ 1000 := by omega
    by_cases hij : i = j
    · subst hij
      have hne : ((i : Int) != (i : Int)) = false := by simp
      have hsr := swapRange_any B n cap C y d m i fv wr hA h1 (by omega) hjn hn hcap
      have HE : Hid (swR y d m i = rot x a m b) := by unfold Hid; rw [← hd, rot_eq y m i him]; exact hR
      clear HI hA hR hd hi0 hj0 him hjn h
      go_wp2_with fail
      refine hsr.mono ?_
      rintro e w2 ⟨⟨u, rfl⟩, hA2, hw2⟩
      clear hsr
      go_wp2
      go_end0
      exact ⟨⟨_, rfl⟩, hA2.eqx HE.out, hw.trans hw2⟩
    · have hne : ((i : Int) != (j : Int)) = true := by simp; omega
      by_cases hgt : j < i
      · have hgti : (j : Int) < (i : Int) := by omega
        obtain ⟨r, hr⟩ : ∃ r, i - j = r := ⟨_, rfl⟩
        have hsr := swapRange_any B n cap C y d m j fv wr hA h1 (by omega) hjn hn hcap
        have HE : Hid (∀ w', AR w' B n C (swR y d m j) → ∃ y : Nat → Nat, 0 < r ∧ 0 < j ∧ r ≤ m ∧ m + j ≤ n ∧ AR w' B n C y ∧ rot y (m - r) m (m + j) = rot x a m b) := fun w' h' => ⟨_, by omega, hj0, by omega, hjn, h', by rw [← hd, ← hr, rot_gt y him hgt]; exact hR⟩
        have hwij : IntKind.i64.wrap ((i : Int) - (j : Int)) = (r : Int) := by rw [IntKind.wrap_i64] <;> omega
        have HM : Hid (r + j < i + j) := by unfold Hid; omega
        clear HI hA hR hd hi0 hj0 him hjn hij hr h
        go_wp2_with fail
        refine hsr.mono ?_
        rintro e w2 ⟨⟨u, rfl⟩, hA2, hw2⟩
        clear hsr
        go_wp2
        go_roundw
        case rel => exact ⟨r, j, rfl, rfl, HE.out _ hA2, hw.trans hw2⟩
        case measure => have := HM.out; simp [intOf]; omega
      · have hgti : ¬ (j : Int) < (i : Int) := by omega
        obtain ⟨r, hr⟩ : ∃ r, j - i = r := ⟨_, rfl⟩
        obtain ⟨t, ht⟩ : ∃ t, m + j = t := ⟨_, rfl⟩
        obtain ⟨u1, hu1⟩ : ∃ u1, t - i = u1 := ⟨_, rfl⟩
        have hsr := swapRange_any B n cap C y d u1 i fv wr hA h1 (by omega) (by omega) hn hcap
        have HE : Hid (∀ w', AR w' B n C (swR y d u1 i) → ∃ y : Nat → Nat, 0 < i ∧ 0 < r ∧ i ≤ m ∧ m + r ≤ n ∧ AR w' B n C y ∧ rot y (m - i) m (m + r) = rot x a m b) := fun w' h' => ⟨_, hi0, by omega, him, by omega, h', by rw [← hd, ← hu1, ← hr, ← ht, rot_lt y him (by omega)]; exact hR⟩
        have hwji : IntKind.i64.wrap ((j : Int) - (i : Int)) = (r : Int) := by rw [IntKind.wrap_i64] <;> omega
        have hwmj : IntKind.i64.wrap ((m : Int) + (j : Int)) = (t : Int) := by rw [IntKind.wrap_i64] <;> omega
        have hwmji : IntKind.i64.wrap ((t : Int) - (i : Int)) = (u1 : Int) := by rw [IntKind.wrap_i64] <;> omega
        have HM : Hid (i + r < i + j) := by unfold Hid; omega
        clear HI hA hR hd hi0 hj0 him hjn hij hr ht hu1 h
        go_wp2_with fail
        refine hsr.mono ?_
        rintro e w2 ⟨⟨u, rfl⟩, hA2, hw2⟩
        clear hsr
        go_wp2
        go_roundw
        case rel => exact ⟨i, r, rfl, rfl, HE.out _ hA2, hw.trans hw2⟩
        case measure => have := HM.out; simp [intOf]; omega
end Go.Proofs.Ytjdijikmdlklkaa
