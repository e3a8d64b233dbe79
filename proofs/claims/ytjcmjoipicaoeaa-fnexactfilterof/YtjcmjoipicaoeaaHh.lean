/- The hash of a text: both texts step by step one function of numbers. -/
import Derived.Test.YtjcmjoipicaoeaaIn
import Derived.OpenShut
namespace Go.Proofs.Ytjcmjoipicaoeaa
open Go.RowKit
set_option linter.unusedSimpArgs false
set_option linter.unusedVariables false

/-- The byte k of a text. -/
def byteAt (s : ByteArray) (k : Nat) : Int := if h : k < s.size then (s[k].toNat : Int) % 4294967296 else 0
theorem byteAt_lt {s : ByteArray} {k : Nat} (h : k < s.size) : byteAt s k = (s[k].toNat : Int) % 4294967296 := by unfold byteAt; rw [dif_pos h]
def hTo (s : ByteArray) (z : Int) : Nat → Int
  | 0 => 2166136261 + z * 40503
  | k + 1 => bits .xor .u32 (hTo s z k) (byteAt s k) * 16777619 % 4294967296
/-- The hash of a text by a seed. -/
def hOf (s : ByteArray) (z : Int) : Int := bits .xor .u32 (hTo s z s.size) (hTo s z s.size / 32768)

theorem xor_bd (x y : Int) : 0 ≤ bits .xor .u32 x y ∧ bits .xor .u32 x y ≤ 4294967295 := bounds_u32 (wf_bits _ _ _ _)
theorem hTo_bd (s : ByteArray) (z : Int) (h : 0 ≤ z ∧ z ≤ 1000) (k : Nat) : 0 ≤ hTo s z k ∧ hTo s z k ≤ 4294967295 := by
  cases k with
  | zero => simp only [hTo]; omega
  | succ k => simp only [hTo]; omega
theorem hOf_bd (s : ByteArray) (z : Int) : 0 ≤ hOf s z ∧ hOf s z ≤ 4294967295 := xor_bd _ _

set_option maxHeartbeats 800000 in
theorem hash_spec (s : ByteArray) (z : Int) (w : World) (hz : 0 ≤ z ∧ z ≤ 1000) (hs : s.size ≤ 1048576) :
    Calls Try.prog 42 #[.string s, .int .i64 z] w fun e w' => e = .returned (.int .u32 (hOf s z)) ∧ w' = w := by
  go_enter Try.func42, Try.ntmps42
  go_wp2
  go_loopw [5, 6] (fun h i wr => ∃ k : Nat, k ≤ s.size ∧ i = .int .i64 k ∧ h = .int .u32 (hTo s z k) ∧ wr = w) (fun _ i _ => s.size - (intOf i).toNat)
  case atStart => exact ⟨0, by omega, rfl, rfl, rfl⟩
  case round =>
    obtain ⟨k, hk, rfl, rfl, rfl⟩ := hrel
    have hb := hTo_bd s z hz k
    by_cases hlt : k < s.size
    · have e1 := byteAt_lt hlt
      have HS : Hid (hTo s z (k + 1) = bits .xor .u32 (hTo s z k) ((s[k].toNat : Int) % 4294967296) * 16777619 % 4294967296) := by unfold Hid; rw [hTo, e1]
      clear e1
      go_wp2
      go_roundw
      case rel => exact ⟨k + 1, by omega, by go_num, by rw [HS.out], by first | rfl | trivial⟩
      case measure => simp [intOf]; omega
    · have e : k = s.size := by omega
      have HE : Hid (bits .xor .u32 (hTo s z k) (hTo s z k / 32768) = hOf s z) := by unfold Hid hOf; rw [e]
      generalize hTo s z k = y at *
      clear e
      go_wp2
      exact bodyPost_ret (v := .int .u32 (bits .xor .u32 y (y / 32768))) (by simp [results, Try.results42, go_sem]) rfl ⟨by rw [HE.out], rfl⟩

set_option maxHeartbeats 800000 in
theorem hash_impl (s : ByteArray) (z : Int) (w : World) (hz : 0 ≤ z ∧ z ≤ 1000) (hs : s.size ≤ 1048576) :
    Calls Try.prog 43 #[.string s, .int .u32 z] w fun e w' => e = .returned (.int .u32 (hOf s z)) ∧ w' = w := by
  go_enter Try.func43, Try.ntmps43
  go_wp2
  go_loopw [5, 12] (fun h i wr => ∃ k : Nat, k ≤ s.size ∧ i = .int .i64 k ∧ h = .int .u32 (hTo s z k) ∧ wr = w) (fun _ i _ => s.size - (intOf i).toNat)
  case atStart => exact ⟨0, by omega, rfl, rfl, rfl⟩
  case round =>
    obtain ⟨k, hk, rfl, rfl, rfl⟩ := hrel
    have hb := hTo_bd s z hz k
    by_cases hlt : k < s.size
    · have e1 := byteAt_lt hlt
      have HS : Hid (hTo s z (k + 1) = bits .xor .u32 (hTo s z k) ((s[k].toNat : Int) % 4294967296) * 16777619 % 4294967296) := by unfold Hid; rw [hTo, e1]
      clear e1
      go_wp2
      go_roundw
      case rel => exact ⟨k + 1, by omega, by go_num, by rw [HS.out], by first | rfl | trivial⟩
      case measure => simp [intOf]; omega
    · have e : k = s.size := by omega
      have HE : Hid (bits .xor .u32 (hTo s z k) (hTo s z k / 32768) = hOf s z) := by unfold Hid hOf; rw [e]
      generalize hTo s z k = y at *
      clear e
      go_wp2
      exact bodyPost_ret (v := .int .u32 (bits .xor .u32 y (y / 32768))) (by simp [results, Try.results43, go_sem]) rfl ⟨by rw [HE.out], rfl⟩

/-- What HashOf answers. -/
def HO (s : ByteArray) (z : Int) : Value := if 0 ≤ z ∧ z ≤ 1000 then .tuple #[.int .u32 (hOf s z), .bool true] else .tuple #[.int .u32 0, .bool false]

set_option maxHeartbeats 800000 in
theorem hashOf_spec (s : ByteArray) (z : Int) (w : World) (hs : s.size ≤ 1048576) :
    Calls Try.prog 10 #[.string s, .int .i64 z] w fun e w' => e = .returned (HO s z) ∧ w' = w := by
  unfold HO
  by_cases h : 0 ≤ z ∧ z ≤ 1000
  · rw [if_pos h]
    go_enter Try.func10, Try.ntmps10
    go_wp2_with fail
    refine (l1In_yes z 0 1000 _ h.1 h.2).mono ?_
    rintro e w1 ⟨rfl, rfl⟩
    go_wp2_with fail
    refine (hash_spec s z _ h hs).mono ?_
    rintro e w1 ⟨rfl, rfl⟩
    go_wp2
    exact bodyPost_ret (v := .tuple #[.int .u32 (hOf s z), .bool true]) (by simp [results, Try.results10, go_sem]) rfl ⟨rfl, rfl⟩
  · rw [if_neg h]
    have H : Hid (¬ (0 ≤ z ∧ z ≤ 1000)) := h
    clear h
    go_enter Try.func10, Try.ntmps10
    go_wp2_with fail
    refine (l1In_no z 0 1000 _ H.out).mono ?_
    rintro e w1 ⟨rfl, rfl⟩
    go_wp2
    exact bodyPost_ret (v := .tuple #[.int .u32 0, .bool false]) (by simp [results, Try.results10, go_sem]) rfl ⟨rfl, rfl⟩

set_option maxHeartbeats 800000 in
theorem hashOf_impl (s : ByteArray) (z : Int) (w : World) (hs : s.size ≤ 1048576) :
    Calls Try.prog 11 #[.string s, .int .i64 z] w fun e w' => e = .returned (HO s z) ∧ w' = w := by
  unfold HO
  by_cases h1 : 0 ≤ z
  · by_cases h2 : z ≤ 1000
    · rw [if_pos ⟨h1, h2⟩]
      have d1 : decide (z < 0) = false := by simp; omega
      have d2 : decide (1000 < z) = false := by simp; omega
      go_enter Try.func11, Try.ntmps11
      go_wp2_with fail
      refine (hash_impl s z _ ⟨h1, h2⟩ hs).mono ?_
      rintro e w1 ⟨rfl, rfl⟩
      go_wp2
      exact bodyPost_ret (v := .tuple #[.int .u32 (hOf s z), .bool true]) (by simp [results, Try.results11, go_sem]) rfl ⟨rfl, rfl⟩
    · rw [if_neg (by omega)]
      have d1 : decide (z < 0) = false := by simp; omega
      have d2 : decide (1000 < z) = true := by simp; omega
      go_enter Try.func11, Try.ntmps11
      go_wp2
      exact bodyPost_ret (v := .tuple #[.int .u32 0, .bool false]) (by simp [results, Try.results11, go_sem]) rfl ⟨rfl, rfl⟩
  · rw [if_neg (by omega)]
    have d1 : decide (z < 0) = true := by simp; omega
    go_enter Try.func11, Try.ntmps11
    go_wp2
    exact bodyPost_ret (v := .tuple #[.int .u32 0, .bool false]) (by simp [results, Try.results11, go_sem]) rfl ⟨rfl, rfl⟩

set_option maxHeartbeats 800000 in
theorem hashOf_law (s : ByteArray) (z : Int) (w : World) (hs : s.size ≤ maxLen) (hz : -9223372036854775808 ≤ z ∧ z ≤ 9223372036854775807) :
    Calls Try.prog 3 #[.string s, .int .i64 z] w fun e w' => e = .returned (.bool true) ∧ Below w.heap.size w w' := by
  by_cases hks : 1048576 < s.size
  · go_enter Try.func3, Try.ntmps3
    go_wp2
    go_ret
    exact ⟨rfl, Below.refl _ _⟩
  · have hs2 : s.size ≤ 1048576 := by omega
    obtain ⟨h, ok, hO⟩ : ∃ (h : Int) (ok : Bool), HO s z = .tuple #[.int .u32 h, .bool ok] := by
      unfold HO
      split
      · exact ⟨_, _, rfl⟩
      · exact ⟨_, _, rfl⟩
    have c1 := hashOf_spec s z w hs2
    have c2 := hashOf_impl s z w hs2
    rw [hO] at c1 c2
    clear hO
    have hok : (ok != ok) = false := by simp
    go_enter Try.func3, Try.ntmps3
    go_wp2_with fail
    refine c1.mono ?_
    rintro e w1 ⟨rfl, rfl⟩
    go_wp2_with fail
    refine c2.mono ?_
    rintro e w1 ⟨rfl, rfl⟩
    clear c1 c2
    cases ok
    all_goals
      go_wp2
      go_ret
      exact ⟨rfl, Below.refl _ _⟩
end Go.Proofs.Ytjcmjoipicaoeaa
