/- Numbers drawn for PutVar and PutFixed. -/
import Derived.Test.YtiojjihonmonkaaDoorCur
namespace Go.Proofs.YtiojjihonmonkaaDoor
open Go.RowKit
set_option linter.unusedSimpArgs false
set_option linter.unusedVariables false

theorem pow_one_le (k : Nat) : (1 : Int) ≤ 2 ^ k := by
  have := Int.pow_pos (show (0 : Int) < 2 by omega) (m := k)
  omega
theorem div_bd_u {m M : Int} {k : Nat} (h : 0 ≤ m ∧ m ≤ M) : 0 ≤ m / 2 ^ k ∧ m / 2 ^ k ≤ M := by
  have hp := pow_one_le k
  exact ⟨Int.ediv_nonneg h.1 (by omega), Int.le_trans (Int.ediv_le_self _ h.1) h.2⟩
theorem div_bd_i {z : Int} {k : Nat} (h : -9223372036854775808 ≤ z ∧ z ≤ 9223372036854775807) : -9223372036854775808 ≤ z / 2 ^ k ∧ z / 2 ^ k ≤ 9223372036854775807 := by
  have hp := pow_one_le k
  by_cases h0 : 0 ≤ z
  · have := div_bd_u (k := k) ⟨h0, h.2⟩
    omega
  · have h1 : z / 2 ^ k < 0 := Int.ediv_neg_of_neg_of_pos (by omega) (by omega)
    have h2 : z ≤ z / 2 ^ k := by
      rw [Int.le_ediv_iff_mul_le (by omega)]
      have := Int.mul_le_mul_of_nonpos_left (show z ≤ 0 by omega) hp
      rw [Int.mul_one] at this
      exact this
    omega

theorem cu_new (w : World) (cv : Value) (T : Nat) : Cu (w.alloc (.cells #[cv, .int .i64 0, .int .u64 0] T)) w.heap.size cv 0 0 := by
  have hh : (w.alloc (.cells #[cv, .int .i64 0, .int .u64 0] T)).heap[w.heap.size]? = some (.cells #[cv, .int .i64 0, .int .u64 0] T (0, 0)) := heap_alloc_new w _
  exact ⟨by simp, cell_of_row _ _ _ _ _ _ hh, cell_of_row _ _ _ _ _ _ hh, cell_of_row _ _ _ _ _ _ hh, fun i => frozen_of_row _ _ _ _ _ hh, by omega⟩
theorem cb_new {w : World} {ao : Option Addr} {n : Nat} {f : Nat → Int} (hr : Row w ao n f) (o : Obj) : Cb (w.alloc o) w.heap.size ao n f :=
  ⟨hr.keep ((Below.refl _ _).alloc (Nat.le_refl _) _), fun b off e h0 => by
    obtain ⟨b', off', e', h1, _⟩ := hr.lies.resolve_left h0
    rw [e] at e'
    injection e' with e'
    injection e' with e' _ _
    omega⟩
theorem below_cur {w w' : World} {o : Obj} (hg : (w.alloc o).grownBy w' (some w.heap.size)) : Below w.heap.size w w' :=
  ((Below.refl _ _).alloc (Nat.le_refl _) o).trans ⟨hg.os, hg.tape, hg.output, hg.size, fun k hk => hg.block k (by simp; omega) (by simp; omega)⟩

set_option maxHeartbeats 2000000 in
theorem sized_any (CB : Nat) (ao : Option Addr) (n cap a : Nat) (f : Nat → Int) (sd : Int) (w : World) (hC : Cu w CB (.slice ao n cap) a sd) (hB : Cb w CB ao n f) (hn : n ≤ 1048576) (ha : a ≤ 1000) :
    Calls Tryd.prog 11 #[.pointer (some ⟨CB, 0, none⟩)] w fun e w' => ∃ x, e = .returned (.int .i64 x) ∧ (-9223372036854775808 ≤ x ∧ x ≤ 9223372036854775807) ∧ (∃ a' sd, a' ≤ a + 100 ∧ Cu w' CB (.slice ao n cap) a' sd) ∧ w.grownBy w' (some CB) := by
  go_enter Tryd.func11, Tryd.ntmps11
  go_wp2_with fail
  refine (pick_any 5 (by omega) CB ao n cap a f sd _ hC hB hn (by omega)).mono ?_
  rintro e w1 ⟨x, rfl, x0, x1, ⟨sd1, C1⟩, g1⟩
  have B1 := hB.grown g1
  go_wp2_with fail
  refine (pick_any 8 (by omega) CB ao n cap (a + 1) f sd1 _ C1 B1 hn (by omega)).mono ?_
  rintro e w2 ⟨y, rfl, y0, y1, ⟨sd2, C2⟩, g2⟩
  have B2 := B1.grown g2
  have G2 := g1.trans g2
  clear g1 g2 C1 B1
  have hy : y = 0 ∨ y = 1 ∨ y = 2 ∨ y = 3 ∨ 4 ≤ y := by omega
  rcases hy with rfl | rfl | rfl | rfl | hy
  · go_wp2_with fail
    refine (pickW_any 300 (by omega) CB ao n cap (a + 1 + 1) f sd2 _ C2 B2 hn (by omega)).mono ?_
    rintro e w4 ⟨v, rfl, v0, v1, ⟨sd4, C4⟩, g4⟩
    have B4 := B2.grown g4
    have G4 := G2.trans g4
    have hT : -9223372036854775808 ≤ v ∧ v ≤ 9223372036854775807 := by omega
    generalize v = z5 at hT ⊢
    go_wp2_with fail
    refine (one_any 3 (by omega) CB ao n cap (a + 1 + 1 + 1 + 1) f sd4 _ C4 B4 hn (by omega)).mono ?_
    rintro e w6 ⟨b6, rfl, ⟨sd6, C6⟩, g6⟩
    have G6 := G4.trans g6
    cases b6
    · go_wp2
      go_ret
      exact ⟨_, rfl, hT, ⟨_, sd6, by omega, C6⟩, G6⟩
    · go_wp2
      go_ret
      exact ⟨_, rfl, by first | exact bounds_i64 (wrap64_wf _) | exact bounds_i64 (wf_wrap _ _) | omega, ⟨_, sd6, by omega, C6⟩, G6⟩
  · go_wp2_with fail
    refine (wide_any CB ao n cap (a + 1 + 1) f sd2 _ C2 B2 hn (by omega)).mono ?_
    rintro e w3 ⟨z, rfl, hz, ⟨sd3, C3⟩, g3⟩
    have B3 := B2.grown g3
    go_wp2_with fail
    refine (pick_any 64 (by omega) CB ao n cap (a + 1 + 1 + 8) f sd3 _ C3 B3 hn (by omega)).mono ?_
    rintro e w4 ⟨v, rfl, v0, v1, ⟨sd4, C4⟩, g4⟩
    obtain ⟨k, rfl⟩ := Int.eq_ofNat_of_zero_le v0
    have B4 := B3.grown g4
    have G4 := (G2.trans g3).trans g4
    have hT := div_bd_i (k := k) hz
    go_wp2_with fail
    generalize z / 2 ^ k = z5 at hT ⊢
    refine (one_any 3 (by omega) CB ao n cap (a + 1 + 1 + 8 + 1) f sd4 _ C4 B4 hn (by omega)).mono ?_
    rintro e w6 ⟨b6, rfl, ⟨sd6, C6⟩, g6⟩
    have G6 := G4.trans g6
    cases b6
    · go_wp2
      go_ret
      exact ⟨_, rfl, hT, ⟨_, sd6, by omega, C6⟩, G6⟩
    · go_wp2
      go_ret
      exact ⟨_, rfl, by first | exact bounds_i64 (wrap64_wf _) | exact bounds_i64 (wf_wrap _ _) | omega, ⟨_, sd6, by omega, C6⟩, G6⟩
  · go_wp2_with fail
    refine (pick_any 64 (by omega) CB ao n cap (a + 1 + 1) f sd2 _ C2 B2 hn (by omega)).mono ?_
    rintro e w4 ⟨v, rfl, v0, v1, ⟨sd4, C4⟩, g4⟩
    obtain ⟨k, rfl⟩ := Int.eq_ofNat_of_zero_le v0
    have B4 := B2.grown g4
    have G4 := G2.trans g4
    have hT := bounds_i64 (wrap64_wf (2 ^ k))
    go_wp2_with fail
    generalize wrap64 (2 ^ k) = z5 at hT ⊢
    refine (one_any 3 (by omega) CB ao n cap (a + 1 + 1 + 1) f sd4 _ C4 B4 hn (by omega)).mono ?_
    rintro e w6 ⟨b6, rfl, ⟨sd6, C6⟩, g6⟩
    have G6 := G4.trans g6
    cases b6
    · go_wp2
      go_ret
      exact ⟨_, rfl, hT, ⟨_, sd6, by omega, C6⟩, G6⟩
    · go_wp2
      go_ret
      exact ⟨_, rfl, by first | exact bounds_i64 (wrap64_wf _) | exact bounds_i64 (wf_wrap _ _) | omega, ⟨_, sd6, by omega, C6⟩, G6⟩
  · go_wp2_with fail
    refine (pick_any 64 (by omega) CB ao n cap (a + 1 + 1) f sd2 _ C2 B2 hn (by omega)).mono ?_
    rintro e w4 ⟨v, rfl, v0, v1, ⟨sd4, C4⟩, g4⟩
    obtain ⟨k, rfl⟩ := Int.eq_ofNat_of_zero_le v0
    have B4 := B2.grown g4
    have G4 := G2.trans g4
    go_wp2_with fail
    have hT := bounds_i64 (wrap64_wf (wrap64 (2 ^ k) - 1))
    generalize wrap64 (wrap64 (2 ^ k) - 1) = z5 at hT ⊢
    refine (one_any 3 (by omega) CB ao n cap (a + 1 + 1 + 1) f sd4 _ C4 B4 hn (by omega)).mono ?_
    rintro e w6 ⟨b6, rfl, ⟨sd6, C6⟩, g6⟩
    have G6 := G4.trans g6
    cases b6
    · go_wp2
      go_ret
      exact ⟨_, rfl, hT, ⟨_, sd6, by omega, C6⟩, G6⟩
    · go_wp2
      go_ret
      exact ⟨_, rfl, by first | exact bounds_i64 (wrap64_wf _) | exact bounds_i64 (wf_wrap _ _) | omega, ⟨_, sd6, by omega, C6⟩, G6⟩
  · have y0' : (y == 0) = false := by simp; omega
    have y1' : (y == 1) = false := by simp; omega
    have y2' : (y == 2) = false := by simp; omega
    have y3' : (y == 3) = false := by simp; omega
    have hT : -9223372036854775808 ≤ x ∧ x ≤ 9223372036854775807 := by omega
    generalize x = z5 at hT ⊢
    go_wp2_with fail
    refine (one_any 3 (by omega) CB ao n cap (a + 1 + 1) f sd2 _ C2 B2 hn (by omega)).mono ?_
    rintro e w6 ⟨b6, rfl, ⟨sd6, C6⟩, g6⟩
    have G6 := G2.trans g6
    cases b6
    · go_wp2
      go_ret
      exact ⟨_, rfl, hT, ⟨_, sd6, by omega, C6⟩, G6⟩
    · go_wp2
      go_ret
      exact ⟨_, rfl, by first | exact bounds_i64 (wrap64_wf _) | exact bounds_i64 (wf_wrap _ _) | omega, ⟨_, sd6, by omega, C6⟩, G6⟩

end Go.Proofs.YtiojjihonmonkaaDoor
