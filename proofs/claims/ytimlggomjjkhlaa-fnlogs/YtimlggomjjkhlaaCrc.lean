/- The cyclic check: both texts step by step one function of numbers. -/
import Derived.Test.YtimlggomjjkhlaaBase
import Derived.OpenShut
namespace Go.Proofs.Ytimlggomjjkhlaa
open Go.RowKit

def cbit (c : Int) : Int := if (bits .and .u32 c 1 == 1) = true then bits .xor .u32 (c / 2) 2197175160 else c / 2
def cbits : Nat → Int → Int
  | 0, c => c
  | j + 1, c => cbit (cbits j c)
def crcTo (f : Nat → Int) : Nat → Int
  | 0 => 4294967295
  | k + 1 => cbits 8 (bits .xor .u32 (crcTo f k) (f k))
def crcOf (f : Nat → Int) (n : Nat) : Int := bits .xor .u32 (crcTo f n) 4294967295

theorem xor_bd (x y : Int) : 0 ≤ bits .xor .u32 x y ∧ bits .xor .u32 x y ≤ 4294967295 := bounds_u32 (wf_bits _ _ _ _)
theorem xor_comm32 (x y : Int) : bits .xor .u32 x y = bits .xor .u32 y x := by
  show IntKind.u32.wrap ((BitVec.ofInt 32 x ^^^ BitVec.ofInt 32 y).toNat : Int) = IntKind.u32.wrap ((BitVec.ofInt 32 y ^^^ BitVec.ofInt 32 x).toNat : Int)
  rw [BitVec.xor_comm]
theorem cbit_bd (c : Int) (h : 0 ≤ c ∧ c ≤ 4294967295) : 0 ≤ cbit c ∧ cbit c ≤ 4294967295 := by
  unfold cbit
  split
  · exact xor_bd _ _
  · omega
theorem cbits_bd (j : Nat) (c : Int) (h : 0 ≤ c ∧ c ≤ 4294967295) : 0 ≤ cbits j c ∧ cbits j c ≤ 4294967295 := by
  induction j with
  | zero => exact h
  | succ j ih => exact cbit_bd _ ih
theorem crcTo_bd (f : Nat → Int) (k : Nat) : 0 ≤ crcTo f k ∧ crcTo f k ≤ 4294967295 := by
  cases k with
  | zero => simp [crcTo]
  | succ k => exact cbits_bd _ _ (xor_bd _ _)
theorem cbit_yes (c : Int) (h : (bits .and .u32 c 1 == 1) = true) : bits .xor .u32 (c / 2) 2197175160 = cbit c := by unfold cbit; rw [if_pos h]
theorem cbit_no (c : Int) (h : (bits .and .u32 c 1 == 1) = false) : c / 2 = cbit c := by unfold cbit; rw [if_neg (by simp [h])]

set_option maxHeartbeats 400000 in
theorem crc_spec (ao : Option Addr) (n cap : Nat) (f : Nat → Int) (w : World) (hr : Row w ao n f) (hn : n ≤ 1048576) :
    Calls Try.prog 35 #[.slice ao n cap] w fun e w' => e = .returned (.int .u32 (crcOf f n)) ∧ Below w.heap.size w w' := by
  obtain ⟨hbd, hl⟩ := hr
  go_enter Try.func35, Try.ntmps35
  go_wp2
  go_loopw [3, 9] (fun s i wr => ∃ k : Nat, k ≤ n ∧ i = .int .i64 k ∧ s = .int .u32 (crcTo f k) ∧ Below w.heap.size w wr) (fun _ i _ => n - (intOf i).toNat)
  case atStart => exact ⟨0, Nat.zero_le _, rfl, rfl, Below.refl _ _⟩
  case round =>
    obtain ⟨k, hk, rfl, rfl, hbk⟩ := hrel
    by_cases hlt : k < n
    · obtain ⟨b, off, rfl, hblt, hc⟩ := hl.resolve_left (by omega)
      have h1 : wr.cell? ⟨b, off + k, none⟩ = some (.int .u8 (f k)) := (hbk.cell (p := ⟨b, off + k, none⟩) hblt).trans (hc k hlt)
      have hb := hbd k
      clear hc hl
      go_wp2
      go_loopw [3, 6] (fun s i ws => ∃ j : Nat, j ≤ 8 ∧ i = .int .i64 j ∧ s = .int .u32 (cbits j (bits .xor .u32 (crcTo f k) (f k))) ∧ ws = wr) (fun _ i _ => 8 - (intOf i).toNat)
      case atStart => exact ⟨0, by omega, rfl, rfl, rfl⟩
      case round =>
        obtain ⟨j, hj, rfl, rfl, rfl⟩ := hrel
        have hx := cbits_bd j _ (xor_bd (crcTo f k) (f k))
        have hsu : Hid (cbits (j + 1) (bits .xor .u32 (crcTo f k) (f k)) = cbit (cbits j (bits .xor .u32 (crcTo f k) (f k)))) := rfl
        have hs8 : Hid (j = 8 → cbits j (bits .xor .u32 (crcTo f k) (f k)) = crcTo f (k + 1)) := fun h => by subst h; rfl
        generalize bits .xor .u32 (crcTo f k) (f k) = y at *
        generalize cbits j y = c1 at *
        by_cases hlt8 : j < 8
        · go_wp2
          all_goals go_roundw
          all_goals first
            | (case rel => exact ⟨j + 1, by omega, by go_num, by rw [hsu.out]; first | rw [cbit_yes _ ‹_›] | rw [cbit_no _ ‹_›], by trivial⟩)
            | skip
          all_goals (case measure => simp [intOf]; omega)
        · go_wp2
          go_roundw
          case rel => exact ⟨k + 1, by omega, by go_num, by rw [hs8.out (by omega)], hbk⟩
          case measure => simp [intOf]; omega
    · go_wp2
      go_ret
      have : k = n := by omega
      subst this
      exact ⟨rfl, hbk⟩

set_option maxHeartbeats 400000 in
theorem crc_impl (ao : Option Addr) (n cap : Nat) (f : Nat → Int) (w : World) (hr : Row w ao n f) (hn : n ≤ 1048576) :
    Calls Try.prog 53 #[.slice ao n cap] w fun e w' => e = .returned (.int .u32 (crcOf f n)) ∧ Below w.heap.size w w' := by
  obtain ⟨hbd, hl⟩ := hr
  go_enter Try.func53, Try.ntmps53
  go_wp2
  go_loopw [3, 9] (fun s i wr => ∃ k : Nat, k ≤ n ∧ i = .int .i64 k ∧ s = .int .u32 (crcTo f k) ∧ Below w.heap.size w wr) (fun _ i _ => n - (intOf i).toNat)
  case atStart => exact ⟨0, Nat.zero_le _, rfl, rfl, Below.refl _ _⟩
  case round =>
    obtain ⟨k, hk, rfl, rfl, hbk⟩ := hrel
    by_cases hlt : k < n
    · obtain ⟨b, off, rfl, hblt, hc⟩ := hl.resolve_left (by omega)
      have h1 : wr.cell? ⟨b, off + k, none⟩ = some (.int .u8 (f k)) := (hbk.cell (p := ⟨b, off + k, none⟩) hblt).trans (hc k hlt)
      have hb := hbd k
      clear hc hl
      go_wp2
      go_loopw [3, 17] (fun s i ws => ∃ j : Nat, j ≤ 8 ∧ i = .int .i64 j ∧ s = .int .u32 (cbits j (bits .xor .u32 (crcTo f k) (f k))) ∧ ws = wr) (fun _ i _ => 8 - (intOf i).toNat)
      case atStart => exact ⟨0, by omega, rfl, rfl, rfl⟩
      case round =>
        obtain ⟨j, hj, rfl, rfl, rfl⟩ := hrel
        have hx := cbits_bd j _ (xor_bd (crcTo f k) (f k))
        have hsu : Hid (cbits (j + 1) (bits .xor .u32 (crcTo f k) (f k)) = cbit (cbits j (bits .xor .u32 (crcTo f k) (f k)))) := rfl
        have hs8 : Hid (j = 8 → cbits j (bits .xor .u32 (crcTo f k) (f k)) = crcTo f (k + 1)) := fun h => by subst h; rfl
        generalize bits .xor .u32 (crcTo f k) (f k) = y at *
        generalize cbits j y = c1 at *
        by_cases hlt8 : j < 8
        · go_wp2
          all_goals go_roundw
          all_goals first
            | (case rel => exact ⟨j + 1, by omega, by go_num, by rw [hsu.out]; first | rw [cbit_yes _ ‹_›] | rw [cbit_no _ ‹_›], by trivial⟩)
            | skip
          all_goals (case measure => simp [intOf]; omega)
        · go_wp2
          go_roundw
          case rel => exact ⟨k + 1, by omega, by go_num, by rw [hs8.out (by omega)], hbk⟩
          case measure => simp [intOf]; omega
    · go_wp2
      go_ret
      have : k = n := by omega
      subst this
      exact ⟨by rw [xor_comm32]; rfl, hbk⟩

end Go.Proofs.Ytimlggomjjkhlaa
