/- Names of files. -/
import Derived.Test.YtapmbgmmonhdoaaGreatDoorBase
namespace Go.Proofs.YtapmbgmmonhdoaaGreatDoor
set_option maxRecDepth 100000
open Go.RowKit
set_option linter.unusedSimpArgs false
set_option linter.unusedVariables false

theorem l1InN_yes (n lo hi : Int) (w : World) (h1 : lo ≤ n) (h2 : n ≤ hi) :
    Calls Tryz.prog 9 #[.int .i64 n, .int .i64 lo, .int .i64 hi] w fun e w' => e = .returned (.bool true) ∧ w' = w := by
  go_enter Tryz.func9, Tryz.ntmps9
  go_wp2
  go_ret
  exact ⟨rfl, rfl⟩
theorem l1InN_no (n lo hi : Int) (w : World) (h : ¬ (lo ≤ n ∧ n ≤ hi)) :
    Calls Tryz.prog 9 #[.int .i64 n, .int .i64 lo, .int .i64 hi] w fun e w' => e = .returned (.bool false) ∧ w' = w := by
  by_cases h1 : lo ≤ n
  · have h2 : ¬ n ≤ hi := fun h2 => h ⟨h1, h2⟩
    clear h
    go_enter Tryz.func9, Tryz.ntmps9
    go_wp2
    go_ret
    exact ⟨rfl, rfl⟩
  · have h2 : decide (lo ≤ n) = false := by simpa using h1
    clear h
    go_enter Tryz.func9, Tryz.ntmps9
    go_wp2
    go_ret
    exact ⟨rfl, rfl⟩

def IsFB (c : Int) : Prop := (97 ≤ c ∧ c ≤ 122) ∨ (48 ≤ c ∧ c ≤ 57) ∨ c = 45

theorem isFileByte_yes (c : Int) (w : World) (h : IsFB c) : Calls Tryz.prog 80 #[.int .u8 c] w fun e w' => e = .returned (.bool true) ∧ w' = w := by
  rcases h with ⟨h1, h2⟩ | ⟨h1, h2⟩ | rfl
  · go_enter Tryz.func80, Tryz.ntmps80
    go_wp2
    go_ret
    exact ⟨rfl, rfl⟩
  · have hd : decide (97 ≤ c) = false := by simp; omega
    go_enter Tryz.func80, Tryz.ntmps80
    go_wp2
    go_ret
    exact ⟨rfl, rfl⟩
  · go_enter Tryz.func80, Tryz.ntmps80
    go_wp2
    go_ret
    exact ⟨rfl, rfl⟩
/-- The ways in which a byte is none of a name. -/
theorem noFB {c : Int} (h : ¬ IsFB c) : (97 ≤ c ∧ decide (c ≤ 122) = false ∧ 48 ≤ c ∧ decide (c ≤ 57) = false ∧ (c == 45) = false) ∨ (decide (97 ≤ c) = false ∧ 48 ≤ c ∧ decide (c ≤ 57) = false ∧ (c == 45) = false) ∨ (decide (97 ≤ c) = false ∧ decide (48 ≤ c) = false ∧ (c == 45) = false) := by
  unfold IsFB at h
  simp
  omega
theorem isFileByte_no (c : Int) (w : World) (h : ¬ IsFB c) : Calls Tryz.prog 80 #[.int .u8 c] w fun e w' => e = .returned (.bool false) ∧ w' = w := by
  have h0 := noFB h
  clear h
  rcases h0 with ⟨h1, h2, h3, h4, h5⟩ | ⟨h1, h2, h3, h4⟩ | ⟨h1, h2, h3⟩
  all_goals
    go_enter Tryz.func80, Tryz.ntmps80
    go_wp2
    go_ret
    exact ⟨rfl, rfl⟩

/-- Whether a text is a file's name. -/
def fnB (s : ByteArray) : Bool := decide (1 ≤ s.size) && decide (s.size ≤ 20) && s.data.toList.all fun c => decide ((97 ≤ (c.toNat : Int) ∧ (c.toNat : Int) ≤ 122) ∨ (48 ≤ (c.toNat : Int) ∧ (c.toNat : Int) ≤ 57) ∨ (c.toNat : Int) = 45)
theorem fnB_yes {s : ByteArray} (h1 : 1 ≤ s.size) (h2 : s.size ≤ 20) (h : ∀ j (hj : j < s.size), IsFB (s[j].toNat : Int)) : fnB s = true := by
  simp only [fnB, h1, h2, decide_true, Bool.and_self, Bool.true_and, List.all_eq_true]
  intro c hc
  obtain ⟨j, hj, rfl⟩ := List.getElem_of_mem hc
  have := h j (by simpa using hj)
  unfold IsFB at this
  simp only [decide_eq_true_eq, Array.getElem_toList]
  exact this
theorem fnB_short {s : ByteArray} (h : ¬ 1 ≤ s.size) : fnB s = false := by simp [fnB, h]
theorem fnB_long {s : ByteArray} (h : ¬ s.size ≤ 20) : fnB s = false := by simp [fnB, h]
theorem fnB_no {s : ByteArray} (j : Nat) (hj : j < s.size) (h : ¬ IsFB (s[j].toNat : Int)) : fnB s = false := by
  have hm : s[j] ∈ s.data.toList := by
    rw [show s[j] = s.data.toList[j]'(by simpa using hj) from by simp; rfl]
    exact List.getElem_mem _
  cases hb : fnB s with
  | false => rfl
  | true =>
    simp only [fnB, Bool.and_eq_true, List.all_eq_true] at hb
    have := of_decide_eq_true (hb.2 _ hm)
    exact absurd this h
theorem fnB_size {s : ByteArray} (h : fnB s = true) : 1 ≤ s.size ∧ s.size ≤ 20 := by
  simp only [fnB, Bool.and_eq_true, decide_eq_true_eq] at h
  exact ⟨h.1.1, h.1.2⟩

set_option maxHeartbeats 400000 in
theorem isFileName_is (s : ByteArray) (B : Bool) (HB : Hid (fnB s = B)) (w : World) (hs : s.size ≤ 1048576) : Calls Tryz.prog 53 #[.string s] w fun e w' => e = .returned (.bool B) ∧ w' = w := by
  by_cases h1 : 1 ≤ s.size
  · have hd1 : decide ((s.size : Int) < 1) = false := by simp; omega
    by_cases h2 : s.size ≤ 20
    · have hd2 : decide ((20 : Int) < (s.size : Int)) = false := by simp; omega
      go_enter Tryz.func53, Tryz.ntmps53
      go_wp2
      go_loopw [14] (fun i wr => ∃ k : Nat, k ≤ s.size ∧ i = .int .i64 k ∧ Hid (∀ j (hj : j < s.size), j < k → IsFB (s[j].toNat : Int)) ∧ wr = w) (fun i _ => s.size - (intOf i).toNat)
      case atStart => exact ⟨0, by omega, rfl, fun j _ h => by omega, rfl⟩
      case round =>
        obtain ⟨k, hk, rfl, HL, rfl⟩ := hrel
        by_cases hlt : k < s.size
        · by_cases hL : IsFB (s[k].toNat : Int)
          · have HL' : Hid (∀ j (hj : j < s.size), j < k + 1 → IsFB (s[j].toNat : Int)) := fun j hj h => by
              rcases Nat.lt_succ_iff_lt_or_eq.1 h with h | h
              · exact HL.out j hj h
              · subst h; exact hL
            go_wp2_with fail
            refine (isFileByte_yes _ _ hL).mono ?_
            rintro e w' ⟨rfl, rfl⟩
            go_wp2
            go_roundw
            case rel => exact ⟨k + 1, by omega, by go_num, HL', trivial⟩
            case measure => simp [intOf]; omega
          · have HF : Hid (B = false) := by unfold Hid; rw [← HB.out, fnB_no k hlt hL]
            go_wp2_with fail
            refine (isFileByte_no _ _ hL).mono ?_
            rintro e w' ⟨rfl, rfl⟩
            go_wp2
            go_ret
            rw [HF.out]
            exact ⟨rfl, rfl⟩
        · have HT : Hid (B = true) := by unfold Hid; rw [← HB.out, fnB_yes h1 h2 (fun j hj => HL.out j hj (by omega))]
          go_wp2
          go_ret
          rw [HT.out]
          exact ⟨rfl, rfl⟩
    · have HF : Hid (B = false) := by unfold Hid; rw [← HB.out, fnB_long h2]
      have h2' : (20 : Int) < (s.size : Int) := by omega
      go_enter Tryz.func53, Tryz.ntmps53
      go_wp2
      go_ret
      rw [HF.out]
      exact ⟨rfl, rfl⟩
  · have HF : Hid (B = false) := by unfold Hid; rw [← HB.out, fnB_short h1]
    have h1' : (s.size : Int) < 1 := by omega
    go_enter Tryz.func53, Tryz.ntmps53
    go_wp2
    go_ret
    rw [HF.out]
    exact ⟨rfl, rfl⟩

end Go.Proofs.YtapmbgmmonhdoaaGreatDoor
