/- Numbers of fixed length: what ReadFixed reads. -/
import Derived.Test.YtpddodjecbcmlaaIn
import Derived.OpenShut
namespace Go.Proofs.Ytpddodjecbcmlaa
open Go.RowKit
set_option linter.unusedSimpArgs false
set_option linter.unusedVariables false

/-- The number of the k bytes from q on. -/
def num (f : Nat → Int) (q : Nat) : Nat → Int
  | 0 => 0
  | k + 1 => num f q k * 256 + f (q + k)
theorem num_bd (f : Nat → Int) (hf : ∀ i, 0 ≤ f i ∧ f i ≤ 255) (q k : Nat) : 0 ≤ num f q k ∧ num f q k < 256 ^ k := by
  induction k with
  | zero => simp [num]
  | succ k ih =>
    have := hf (q + k)
    simp only [num, Int.pow_succ]
    omega
theorem pow256 {k e : Nat} (h : k ≤ e) : (256 : Int) ^ k ≤ 256 ^ e := by
  have h1 : (256 : Nat) ^ k ≤ 256 ^ e := Nat.pow_le_pow_right (by omega) h
  have h2 : ((256 ^ k : Nat) : Int) ≤ ((256 ^ e : Nat) : Int) := Int.ofNat_le.2 h1
  rw [Int.natCast_pow, Int.natCast_pow] at h2
  exact h2
theorem num_bd7 (f : Nat → Int) (hf : ∀ i, 0 ≤ f i ∧ f i ≤ 255) (q k : Nat) (hk : k ≤ 7) : 0 ≤ num f q k ∧ num f q k < 72057594037927936 := by
  have h := num_bd f hf q k
  have h2 : (256 : Int) ^ k ≤ 256 ^ 7 := by
    exact pow256 hk
  have h3 : (256 : Int) ^ 7 = 72057594037927936 := by decide
  omega
theorem num_bd8 (f : Nat → Int) (hf : ∀ i, 0 ≤ f i ∧ f i ≤ 255) (q k : Nat) (hk : k ≤ 8) : 0 ≤ num f q k ∧ num f q k < 18446744073709551616 := by
  have h := num_bd f hf q k
  have h2 : (256 : Int) ^ k ≤ 256 ^ 8 := by
    exact pow256 hk
  have h3 : (256 : Int) ^ 8 = 18446744073709551616 := by decide
  omega

theorem or_step_i (N x : Int) (h : 0 ≤ N ∧ N < 72057594037927936) (hx : 0 ≤ x ∧ x ≤ 255) : bits .or .i64 (wrap64 (wrap64 N * 256)) x = wrap64 (N * 256 + x) := by
  obtain ⟨M, rfl⟩ := Int.eq_ofNat_of_zero_le h.1
  obtain ⟨y, rfl⟩ := Int.eq_ofNat_of_zero_le hx.1
  have e1 : wrap64 (M : Int) = M := by unfold wrap64; omega
  rw [e1]
  show IntKind.i64.wrap ((BitVec.ofInt 64 (wrap64 ((M : Int) * 256)) ||| BitVec.ofInt 64 (y : Int)).toNat : Int) = _
  rw [BitVec.toNat_or, BitVec.toNat_ofInt, BitVec.toNat_ofInt]
  have e2 : (wrap64 ((M : Int) * 256) % ((2 ^ 64 : Nat) : Int)).toNat = M * 256 := by
    rw [show ((2 ^ 64 : Nat) : Int) = 18446744073709551616 by decide]
    unfold wrap64; omega
  have e3 : ((y : Int) % ((2 ^ 64 : Nat) : Int)).toNat = y := by
    rw [show ((2 ^ 64 : Nat) : Int) = 18446744073709551616 by decide]; omega
  rw [e2, e3, nat_join 8 (M * 256) y (by omega) (by omega), IntKind.wrap_i64]
  unfold wrap64
  omega
theorem or_step_u (N x : Int) (h : 0 ≤ N ∧ N < 72057594037927936) (hx : 0 ≤ x ∧ x ≤ 255) : bits .or .u64 (N * 256) x = N * 256 + x := by
  obtain ⟨M, rfl⟩ := Int.eq_ofNat_of_zero_le h.1
  obtain ⟨y, rfl⟩ := Int.eq_ofNat_of_zero_le hx.1
  rw [show (M : Int) * 256 = ((M * 256 : Nat) : Int) from by omega, u64_or_nat _ _ (by omega) (by omega), nat_join 8 (M * 256) y (by omega) (by omega)]
  omega

/-- What ReadFixed takes, and what it answers. -/
def RFGood (n : Nat) (a m : Int) : Prop := 1 ≤ m ∧ m ≤ 8 ∧ 0 ≤ a ∧ a ≤ (n : Int) - m
def rfAns (N : Int) : Int × Bool := if N < 9223372036854775808 then (N, true) else (0, false)

theorem rfAns_yes {N : Int} (h : N < 9223372036854775808) : rfAns N = (N, true) := by unfold rfAns; rw [if_pos h]
theorem rfAns_no {N : Int} (h : ¬ N < 9223372036854775808) : rfAns N = (0, false) := by unfold rfAns; rw [if_neg h]

set_option maxHeartbeats 1000000 in
theorem readFixed_impl_yes (ao : Option Addr) (n cap : Nat) (f : Nat → Int) (q m : Nat) (w : World) (hr : Row w ao n f) (hn : n ≤ 1048576) (hcap : n ≤ cap) (hm1 : 1 ≤ m) (hm : m ≤ 8) (hq : q + m ≤ n) :
    Calls Try.prog 13 #[.slice ao n cap, .int .i64 q, .int .i64 m] w fun e w' => e = .returned (.tuple #[.int .i64 (rfAns (num f q m)).1, .bool (rfAns (num f q m)).2]) ∧ Below w.heap.size w w' := by
  obtain ⟨hbd, hl⟩ := hr
  obtain ⟨b, off, rfl, hblt, hc⟩ := hl.resolve_left (by omega)
  have hd1 : decide ((m : Int) < 1) = false := by simp; omega
  have hd2 : decide ((8 : Int) < (m : Int)) = false := by simp; omega
  have hd3 : decide ((q : Int) < 0) = false := by simp
  have hd4 : decide ((n : Int) - (m : Int) < (q : Int)) = false := by simp; omega
  generalize hA : rfAns (num f q m) = A
  have HA : Hid (rfAns (num f q m) = A) := hA
  clear hA
  go_enter Try.func13, Try.ntmps13
  go_wp2
  go_loopw [8, 39] (fun s i wr => ∃ k : Nat, ∃ c : Int, k ≤ m ∧ i = .int .i64 k ∧ s = .int .u64 c ∧ Hid (c = num f q k) ∧ Below w.heap.size w wr) (fun _ i _ => m - (intOf i).toNat)
  case atStart => exact ⟨0, 0, by omega, rfl, rfl, rfl, Below.refl _ _⟩
  case round =>
    obtain ⟨k, c, hk, rfl, rfl, HC, hbk⟩ := hrel
    by_cases hlt : k < m
    · have h1 : wr.cell? ⟨b, off + q + k, none⟩ = some (.int .u8 (f (q + k))) := by rw [Nat.add_assoc]; exact (hbk.cell (p := ⟨b, off + (q + k), none⟩) hblt).trans (hc _ (by omega))
      have hb := hbd (q + k)
      have hcb : 0 ≤ c ∧ c < 72057594037927936 := by rw [HC.out]; exact num_bd7 f hbd q k (by omega)
      have HS : Hid (bits .or .u64 (c * 256) (f (q + k)) = num f q (k + 1)) := by
        unfold Hid; rw [or_step_u _ _ hcb hb, HC.out]; rfl
      clear hc
      go_wp2
      go_roundw
      case rel => exact ⟨k + 1, _, by omega, by go_num, rfl, HS, hbk⟩
      case measure => simp [intOf]; omega
    · have e : k = m := by omega
      subst e
      have hcb : 0 ≤ c ∧ c < 18446744073709551616 := by rw [HC.out]; exact num_bd8 f hbd q k (by omega)
      by_cases h63 : c < 9223372036854775808
      · have HB : Hid (A = (c, true)) := by unfold Hid; rw [← HA.out, ← HC.out, rfAns_yes h63]
        have h63' : ¬ 9223372036854775807 < c := by omega
        go_wp2
        go_ret2
        rw [HB.out]
        exact ⟨rfl, hbk⟩
      · have HB : Hid (A = (0, false)) := by unfold Hid; rw [← HA.out, ← HC.out, rfAns_no h63]
        have h63' : 9223372036854775807 < c := by omega
        go_wp2
        go_ret2
        rw [HB.out]
        exact ⟨rfl, hbk⟩

set_option maxHeartbeats 1000000 in
theorem readFixed_impl_no (ao : Option Addr) (n cap : Nat) (a m : Int) (w : World) (hn : n ≤ 1048576) (ha : -9223372036854775808 ≤ a ∧ a ≤ 9223372036854775807) (hm : -9223372036854775808 ≤ m ∧ m ≤ 9223372036854775807) (h : ¬ RFGood n a m) :
    Calls Try.prog 13 #[.slice ao n cap, .int .i64 a, .int .i64 m] w fun e w' => e = .returned (.tuple #[.int .i64 0, .bool false]) ∧ w' = w := by
  by_cases h1 : m < 1
  · clear h
    go_enter Try.func13, Try.ntmps13
    go_wp2
    go_ret2
    exact ⟨rfl, rfl⟩
  · have hd1 : decide (m < 1) = false := by simp; omega
    by_cases h2 : 8 < m
    · clear h
      go_enter Try.func13, Try.ntmps13
      go_wp2
      go_ret2
      exact ⟨rfl, rfl⟩
    · have hd2 : decide (8 < m) = false := by simp; omega
      by_cases h3 : a < 0
      · clear h
        go_enter Try.func13, Try.ntmps13
        go_wp2
        go_ret2
        exact ⟨rfl, rfl⟩
      · have hd3 : decide (a < 0) = false := by simp; omega
        have h4 : (n : Int) - m < a := by
          rcases Int.lt_or_le ((n : Int) - m) a with h3 | h3
          · exact h3
          · exact absurd ⟨by omega, by omega, by omega, h3⟩ h
        clear h
        go_enter Try.func13, Try.ntmps13
        go_wp2
        go_ret2
        exact ⟨rfl, rfl⟩

/-- What ReadFixed answers. -/
def rdFix (f : Nat → Int) (n : Nat) (a m : Int) : Int × Bool :=
  if 1 ≤ m ∧ m ≤ 8 ∧ 0 ≤ a ∧ a ≤ (n : Int) - m then rfAns (num f a.toNat m.toNat) else (0, false)

theorem readFixed_impl (ao : Option Addr) (n cap : Nat) (f : Nat → Int) (a m : Int) (w : World) (hr : Row w ao n f) (hn : n ≤ 1048576) (hcap : n ≤ cap) (ha : -9223372036854775808 ≤ a ∧ a ≤ 9223372036854775807) (hm : -9223372036854775808 ≤ m ∧ m ≤ 9223372036854775807) :
    Calls Try.prog 13 #[.slice ao n cap, .int .i64 a, .int .i64 m] w fun e w' => e = .returned (.tuple #[.int .i64 (rdFix f n a m).1, .bool (rdFix f n a m).2]) ∧ Below w.heap.size w w' := by
  by_cases h : RFGood n a m
  · have e : rdFix f n a m = rfAns (num f a.toNat m.toNat) := if_pos h
    rw [e]
    obtain ⟨h1, h2, h3, h4⟩ := h
    obtain ⟨q, rfl⟩ := Int.eq_ofNat_of_zero_le h3
    obtain ⟨k, rfl⟩ := Int.eq_ofNat_of_zero_le (show 0 ≤ m by omega)
    exact readFixed_impl_yes ao n cap f q k w hr hn hcap (by omega) (by omega) (by omega)
  · have e : rdFix f n a m = (0, false) := if_neg h
    rw [e]
    refine (readFixed_impl_no ao n cap a m w hn ha hm h).mono fun e w' hh => ?_
    obtain ⟨rfl, rfl⟩ := hh
    exact ⟨rfl, Below.refl _ _⟩
end Go.Proofs.Ytpddodjecbcmlaa
