/- The hash of a text: both texts step by step one function of numbers. -/
import Derived.Test.YtoccfmkciacomaaIn
import Derived.OpenShut
namespace Go.Proofs.Ytoccfmkciacomaa
open Go.RowKit
set_option linter.unusedSimpArgs false
set_option linter.unusedVariables false

/-- The byte k of a text. -/
def byteAt (s : ByteArray) (k : Nat) : Int := if h : k < s.size then (s[k].toNat : Int) % 4294967296 else 0
theorem byteAt_lt {s : ByteArray} {k : Nat} (h : k < s.size) : byteAt s k = (s[k].toNat : Int) % 4294967296 := by unfold byteAt; rw [dif_pos h]
def hTo (s : ByteArray) (z : Int) : Nat → Int
  | 0 => 2166136261 + z * 40503
  | k + 1 => bits .xor .u32 (hTo s z k) (byteAt s k) * 16777619 % 4294967296
/-- The hash of a text by a seed. -/
def hOf (s : ByteArray) (z : Int) : Int := bits .xor .u32 (hTo s z s.size) (hTo s z s.size / 32768)

theorem xor_bd (x y : Int) : 0 ≤ bits .xor .u32 x y ∧ bits .xor .u32 x y ≤ 4294967295 := bounds_u32 (wf_bits _ _ _ _)
theorem hTo_bd (s : ByteArray) (z : Int) (h : 0 ≤ z ∧ z ≤ 1000) (k : Nat) : 0 ≤ hTo s z k ∧ hTo s z k ≤ 4294967295 := by
  cases k with
  | zero => simp only [hTo]; omega
  | succ k => simp only [hTo]; omega
theorem hOf_bd (s : ByteArray) (z : Int) : 0 ≤ hOf s z ∧ hOf s z ≤ 4294967295 := xor_bd _ _

set_option maxHeartbeats 800000 in
theorem hash_spec (s : ByteArray) (z : Int) (w : World) (hz : 0 ≤ z ∧ z ≤ 1000) (hs : s.size ≤ 1048576) :
    Calls Try.prog 29 #[.string s, .int .i64 z] w fun e w' => e = .returned (.int .u32 (hOf s z)) ∧ w' = w := by
  go_enter Try.func29, Try.ntmps29
  go_wp2
  go_loopw [5, 6] (fun h i wr => ∃ k : Nat, k ≤ s.size ∧ i = .int .i64 k ∧ h = .int .u32 (hTo s z k) ∧ wr = w) (fun _ i _ => s.size - (intOf i).toNat)
  case atStart => exact ⟨0, by omega, rfl, rfl, rfl⟩
  case round =>
    obtain ⟨k, hk, rfl, rfl, rfl⟩ := hrel
    have hb := hTo_bd s z hz k
    by_cases hlt : k < s.size
    · have e1 := byteAt_lt hlt
      have HS : Hid (hTo s z (k + 1) = bits .xor .u32 (hTo s z k) ((s[k].toNat : Int) % 4294967296) * 16777619 % 4294967296) := by unfold Hid; rw [hTo, e1]
      clear e1
      go_wp2
      go_roundw
      case rel => exact ⟨k + 1, by omega, by go_num, by rw [HS.out], by first | rfl | trivial⟩
      case measure => simp [intOf]; omega
    · have e : k = s.size := by omega
      have HE : Hid (bits .xor .u32 (hTo s z k) (hTo s z k / 32768) = hOf s z) := by unfold Hid hOf; rw [e]
      generalize hTo s z k = y at *
      clear e
      go_wp2
      exact bodyPost_ret (v := .int .u32 (bits .xor .u32 y (y / 32768))) (by simp [results, Try.results29, go_sem]) rfl ⟨by rw [HE.out], rfl⟩

set_option maxHeartbeats 800000 in
theorem hash_impl (s : ByteArray) (z : Int) (w : World) (hz : 0 ≤ z ∧ z ≤ 1000) (hs : s.size ≤ 1048576) :
    Calls Try.prog 27 #[.string s, .int .u32 z] w fun e w' => e = .returned (.int .u32 (hOf s z)) ∧ w' = w := by
  go_enter Try.func27, Try.ntmps27
  go_wp2
  go_loopw [5, 12] (fun h i wr => ∃ k : Nat, k ≤ s.size ∧ i = .int .i64 k ∧ h = .int .u32 (hTo s z k) ∧ wr = w) (fun _ i _ => s.size - (intOf i).toNat)
  case atStart => exact ⟨0, by omega, rfl, rfl, rfl⟩
  case round =>
    obtain ⟨k, hk, rfl, rfl, rfl⟩ := hrel
    have hb := hTo_bd s z hz k
    by_cases hlt : k < s.size
    · have e1 := byteAt_lt hlt
      have HS : Hid (hTo s z (k + 1) = bits .xor .u32 (hTo s z k) ((s[k].toNat : Int) % 4294967296) * 16777619 % 4294967296) := by unfold Hid; rw [hTo, e1]
      clear e1
      go_wp2
      go_roundw
      case rel => exact ⟨k + 1, by omega, by go_num, by rw [HS.out], by first | rfl | trivial⟩
      case measure => simp [intOf]; omega
    · have e : k = s.size := by omega
      have HE : Hid (bits .xor .u32 (hTo s z k) (hTo s z k / 32768) = hOf s z) := by unfold Hid hOf; rw [e]
      generalize hTo s z k = y at *
      clear e
      go_wp2
      exact bodyPost_ret (v := .int .u32 (bits .xor .u32 y (y / 32768))) (by simp [results, Try.results27, go_sem]) rfl ⟨by rw [HE.out], rfl⟩

/-- What HashOf answers. -/
def HO (s : ByteArray) (z : Int) : Value := if 0 ≤ z ∧ z ≤ 1000 then .tuple #[.int .u32 (hOf s z), .bool true] else .tuple #[.int .u32 0, .bool false]

end Go.Proofs.Ytoccfmkciacomaa
