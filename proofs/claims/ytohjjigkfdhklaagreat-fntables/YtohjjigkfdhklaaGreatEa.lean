/- The model: a number of varying length at any place. -/
import Derived.Test.YtohjjigkfdhklaaGreatBr
namespace Go.Proofs.YtohjjigkfdhklaaGreat
set_option maxRecDepth 100000
open Go.RowKit
set_option linter.unusedSimpArgs false
set_option linter.unusedVariables false

set_option maxHeartbeats 1000000 in
theorem l1Var_any (b off : Nat) (n cap : Nat) (f : Nat → Int) (q : Nat) (w : World) (hr : Row w (some ⟨b, off, none⟩) n f) (hblt : b < w.heap.size) (hn : n ≤ 1048576) (hq : q ≤ n) :
    Calls Tryz.prog 96 #[.slice (some ⟨b, off, none⟩) n cap, .int .i64 q] w fun e w' => e = .returned (.tuple #[.int .u64 (rvAll f n q).1, .int .i64 (rvAll f n q).2]) ∧ Below w.heap.size w w' := by
  obtain ⟨hbd, hl⟩ := hr
  have hc : ∀ i, i < n → w.cell? ⟨b, off + i, none⟩ = some (.int .u8 (f i)) := fun i hi => by
    obtain ⟨b', off', e, _, h⟩ := hl.resolve_left (by omega)
    injection e with e
    injection e with e1 e2 _
    subst e1 e2
    exact h i hi
  generalize hrv : rvAll f n q = R
  have HR : Hid (rv f n q 10 0 0 = R) := hrv
  clear hrv
  go_enter Tryz.func96, Tryz.ntmps96
  go_wp2
  go_loopw [6, 7] (fun a i wr => ∃ k : Nat, ∃ acc : Int, k ≤ 10 ∧ i = .int .i64 k ∧ a = .int .u64 acc ∧ Hid (rv f n q (10 - k) k acc = R) ∧ Below w.heap.size w wr) (fun _ i _ => 10 - (intOf i).toNat)
  case atStart => exact ⟨0, 0, by omega, rfl, rfl, HR, Below.refl _ _⟩
  case round =>
    obtain ⟨k, acc, hk, rfl, rfl, HK, hbk⟩ := hrel
    by_cases hlt : k < 10
    · by_cases hin : q + k < n
      · have h1 : wr.cell? ⟨b, off + (q + k), none⟩ = some (.int .u8 (f (q + k))) := (hbk.cell (p := ⟨b, off + (q + k), none⟩) hblt).trans (hc _ hin)
        have hb := hbd (q + k)
        clear hc hl hbd
        by_cases h2 : k = 9 ∧ 1 < f (q + k)
        · have e := rv_high f n q k acc hlt h2
          have HE : Hid (R = (0, 0)) := HK.out.symm.trans e
          clear e
          have e9 : ((k : Int) == 9) = true := by simp; omega
          have e1 := h2.2
          clear h2
          go_wp2
          go_ret2
          rw [HE.out]
          exact ⟨rfl, hbk⟩
        · by_cases h3 : f (q + k) < 128
          · by_cases h4 : 0 < k ∧ f (q + k) = 0
            · have e := rv_nought f n q k acc hlt h4
              have HE : Hid (R = (0, 0)) := HK.out.symm.trans e
              clear e
              have e0 : (f (q + k) == 0) = true := by simp; omega
              have e1 : ¬ 1 < f (q + k) := by omega
              have ek := h4.1
              have h9 : ((k : Int) == 9) = false ∨ ((k : Int) == 9) = true := by cases ((k : Int) == 9) <;> simp
              clear h2 h4
              rcases h9 with h9 | h9
              all_goals
                go_wp2
                go_ret2
                rw [HE.out]
                exact ⟨rfl, hbk⟩
            · have e := rv_last f n q k acc hlt hin h2 h3 h4
              have HE : Hid (R = (rvStep acc (f (q + k)) k, (q : Int) + k + 1)) := HK.out.symm.trans e
              clear e
              have h9 : ((k : Int) == 9) = false ∨ (((k : Int) == 9) = true ∧ ¬ 1 < f (q + k)) := by
                by_cases h : k = 9
                · exact .inr ⟨by simp; omega, fun h5 => h2 ⟨h, h5⟩⟩
                · exact .inl (by simp; omega)
              have h0 : ¬ 0 < k ∨ (0 < k ∧ (f (q + k) == 0) = false) := by
                by_cases h : 0 < k
                · exact .inr ⟨h, by simp; omega⟩
                · exact .inl h
              clear h2 h4
              rcases h9 with h9 | ⟨h9, h10⟩ <;> rcases h0 with h0 | ⟨h0, h00⟩
              all_goals
                go_wp2
                go_ret2
                rw [HE.out]
                exact ⟨rfl, hbk⟩
          · have e := rv_more f n q k acc hlt hin h2 h3
            have HE : Hid (rv f n q (10 - (k + 1)) (k + 1) (rvStep acc (f (q + k)) k) = R) := e.symm.trans HK.out
            clear e
            have h9 : ((k : Int) == 9) = false ∨ (((k : Int) == 9) = true ∧ ¬ 1 < f (q + k)) := by
              by_cases h : k = 9
              · exact .inr ⟨by simp; omega, fun h5 => h2 ⟨h, h5⟩⟩
              · exact .inl (by simp; omega)
            clear h2
            rcases h9 with h9 | ⟨h9, h10⟩
            · go_wp2
              go_roundw
              case rel => exact ⟨k + 1, _, by omega, by go_num, rfl, HE, hbk⟩
              case measure => simp [intOf]; omega
            · omega
      · have e := rv_out f n q k acc hlt hin
        have HE : Hid (R = (0, 0)) := HK.out.symm.trans e
        clear e
        go_wp2
        go_ret2
        rw [HE.out]
        exact ⟨rfl, hbk⟩
    · have e := rv_end f n q k acc hlt
      have HE : Hid (R = (0, 0)) := HK.out.symm.trans e
      clear e
      go_wp2
      go_ret2
      rw [HE.out]
      exact ⟨rfl, hbk⟩

theorem rv_full (f : Nat → Int) (n : Nat) : rvAll f n n = (0, 0) := by
  have := rv_out f n n 0 0 (by omega) (by omega)
  simpa [rvAll] using this
/-- What the model's reader says of a number, in the readers' words. -/
theorem rdVar_rv {f : Nat → Int} {n q : Nat} (hq : q ≤ n) : rdVar f n (q : Int) = ((rvAll f n q).1, (rvAll f n q).2, decide (0 < (rvAll f n q).2)) := by
  unfold rdVar
  by_cases h : q < n
  · rw [if_pos (by omega)]
    simp
  · obtain rfl : q = n := by omega
    rw [if_neg (by omega), rv_full]
    simp
theorem rv_nn (f : Nat → Int) (n q : Nat) : ∀ t k acc, 0 ≤ (rv f n q t k acc).2
  | 0, _, _ => by simp [rv]
  | t + 1, k, acc => by
    unfold rv
    repeat' split
    · simp
    · simp
    · simp only; omega
    · exact rv_nn f n q t _ _
    · simp
theorem rvAll_nn (f : Nat → Int) (n q : Nat) : 0 ≤ (rvAll f n q).2 := rv_nn f n q 10 0 0
theorem rvAll_le (f : Nat → Int) (n q : Nat) (h : 0 < (rvAll f n q).2) : (q : Int) < (rvAll f n q).2 ∧ (rvAll f n q).2 ≤ n := rv_pos f n q 10 0 0 h
theorem rvAll_bd (f : Nat → Int) (n q : Nat) : 0 ≤ (rvAll f n q).1 ∧ (rvAll f n q).1 ≤ 18446744073709551615 := rv_bd f n q 10 0 0
end Go.Proofs.YtohjjigkfdhklaaGreat
