/- Numbers of fixed length: what PutFixed lays. -/
import Derived.Test.YtpddodjecbcmlaaArr
import Derived.Test.YtpddodjecbcmlaaIn
import Derived.OpenShut
namespace Go.Proofs.Ytpddodjecbcmlaa
open Go.RowKit
set_option linter.unusedSimpArgs false
set_option linter.unusedVariables false

/-- The byte at place i of m bytes of n. -/
def pf (n : Int) (m i : Nat) : Int := n / 2 ^ (8 * (m - 1 - i)) % 256
theorem pf_bd (n : Int) (m i : Nat) : 0 ≤ pf n m i ∧ pf n m i ≤ 255 := by unfold pf; omega
theorem pf_tail (n : Int) (m i : Nat) (hm : m ≤ 8) (hi : i < m) : pf n 8 (8 - m + i) = pf n m i := by
  unfold pf; rw [show 8 - 1 - (8 - m + i) = m - 1 - i from by omega]

/-- What PutFixed takes. -/
def PFGood (n a : Int) : Prop := 0 ≤ n ∧ 1 ≤ a ∧ a ≤ 8 ∧ n / 2 ^ (8 * a.toNat) = 0

def FixOut (n : Int) (m : Nat) (w : World) (e : Ending) (w' : World) : Prop :=
  ∃ g off cap, e = .returned (.tuple #[.slice (some ⟨g, off, none⟩) m cap, .bool true]) ∧ w.heap.size ≤ g ∧ Own w' g off m (pf n m) ∧ Below w.heap.size w w'

theorem slice_arr_tail (t len : Nat) (ht : Try.prog.underlying t = some (.array len 5)) (b : Nat) (L H : Int) (l h : Nat) (el : L = (l : Int)) (eh : H = (h : Int)) (hlh : l < h) (hl : h ≤ len) (w : World) :
    (Instr.sliceAt t (.pointer (some ⟨b, 0, none⟩)) (some (.int .i64 L)) (some (.int .i64 H)) (some (.int .i64 H))).run Try.prog w = .ok (.slice (some ⟨b, l, none⟩) (h - l) (h - l)) w := by
  rw [slice_arr_lhm t len ht ⟨b, 0, none⟩ L H l h el eh hlh hl w]
  by_cases h0 : l = 0
  · subst h0; simp [Addr.add]
  · simp [Addr.add, h0]

set_option maxHeartbeats 1000000 in
theorem putFixed_impl_no (n a : Int) (w : World) (hn : -9223372036854775808 ≤ n ∧ n ≤ 9223372036854775807) (ha : -9223372036854775808 ≤ a ∧ a ≤ 9223372036854775807) (h : ¬ PFGood n a) :
    Calls Try.prog 11 #[.int .i64 n, .int .i64 a] w fun e w' => e = .returned (.tuple #[.slice none 0 0, .bool false]) ∧ w' = w := by
  by_cases h0 : n < 0
  · clear h
    go_enter Try.func11, Try.ntmps11
    go_wp2
    go_ret2
    exact ⟨rfl, rfl⟩
  · have hd : decide (n < 0) = false := by simp; omega
    by_cases h1 : a < 1
    · clear h
      go_enter Try.func11, Try.ntmps11
      go_wp2
      go_ret2
      exact ⟨rfl, rfl⟩
    · have hd1 : decide (a < 1) = false := by simp; omega
      by_cases h2 : 8 < a
      · clear h
        go_enter Try.func11, Try.ntmps11
        go_wp2
        go_ret2
        exact ⟨rfl, rfl⟩
      · have hd2 : decide (8 < a) = false := by simp; omega
        obtain ⟨m, rfl⟩ := Int.eq_ofNat_of_zero_le (show 0 ≤ a by omega)
        have hne : n / 2 ^ (8 * m) ≠ 0 := fun hh => h ⟨by omega, by omega, by omega, by simpa using hh⟩
        have hnz : (n / 2 ^ (8 * m) != 0) = true := by simp [hne]
        clear h hne
        go_enter Try.func11, Try.ntmps11
        go_wp2
        go_ret2
        exact ⟨rfl, rfl⟩

set_option maxHeartbeats 1000000 in
theorem putFixed_impl_yes (n : Int) (m : Nat) (w : World) (hn : 0 ≤ n ∧ n ≤ 9223372036854775807) (hm1 : 1 ≤ m) (hm : m ≤ 8) (h : n / 2 ^ (8 * m) = 0) :
    Calls Try.prog 11 #[.int .i64 n, .int .i64 m] w fun e w' => FixOut n m w e w' := by
  have hz : (n / 2 ^ (8 * m) != 0) = false := by simp [h]
  clear h
  have hd : decide (n < 0) = false := by simp; omega
  have hd1 : decide ((m : Int) < 1) = false := by simp; omega
  have hd8 : decide ((8 : Int) < (m : Int)) = false := by simp; omega
  have h0 : Own (w.alloc (.cells #[.int .u8 0, .int .u8 0, .int .u8 0, .int .u8 0, .int .u8 0, .int .u8 0, .int .u8 0, .int .u8 0] 58)) w.heap.size 0 8 (fun _ => 0) := own_new _ _ _ _ rfl
  go_enter Try.func11, Try.ntmps11
  go_wp2
  go_loopw [25] (fun i wr => ∃ k : Nat, k ≤ 8 ∧ i = .int .i64 k ∧ Own wr w.heap.size 0 8 (fun i => if i < k then pf n 8 i else 0) ∧ Below w.heap.size w wr) (fun i _ => 8 - (intOf i).toNat)
  case atStart => exact ⟨0, by omega, rfl, by simpa using h0, (Below.refl _ _).alloc (Nat.le_refl _) _⟩
  case round =>
    obtain ⟨k, hk, rfl, hown, hbk⟩ := hrel
    clear h0
    by_cases hlt : k < 8
    · have hc := hown.cell k (by omega)
      have hf := hown.free k (by omega)
      have hst := hown.store k hlt (pf n 8 k) (pf_bd n 8 k)
      simp only [Nat.zero_add] at hc hf hst
      go_wp2
      go_roundw
      case rel =>
        refine ⟨k + 1, by omega, by go_num, hst.congr (fun i => ?_) (fun i _ => ?_), hbk.setCell (Nat.le_refl _) _⟩
        · have := pf_bd n 8 i
          split <;> omega
        · by_cases h1 : i = k
          · subst h1; simp
          · by_cases h2 : i < k
            · rw [if_neg h1, if_pos h2, if_pos (by omega)]
            · rw [if_neg h1, if_neg h2, if_neg (by omega)]
      case measure => simp [intOf]; omega
    · have hsl := slice_arr_tail 58 8 Try.underlying58 w.heap.size (8 - (m : Int)) 8 (8 - m) 8 (by omega) rfl (by omega) (by omega)
      rw [show 8 - (8 - m) = m from by omega] at hsl
      go_wp2
      go_ret2
      refine ⟨w.heap.size, 8 - m, m, rfl, Nat.le_refl _, ⟨pf_bd n m, hown.lt, fun i hi => ?_, fun i hi => ?_⟩, hbk⟩
      · have := hown.cell (8 - m + i) (by omega)
        rw [Nat.zero_add, if_pos (by omega), pf_tail n m i hm hi] at this
        exact this
      · have := hown.free (8 - m + i) (by omega)
        rw [Nat.zero_add] at this
        exact this
end Go.Proofs.Ytpddodjecbcmlaa
