/- Good files, both texts. -/
import Derived.Test.YtapmbgmmonhdoaaGreatDoorToFiles
namespace Go.Proofs.YtapmbgmmonhdoaaGreatDoor
set_option maxRecDepth 100000
open Go.RowKit
set_option linter.unusedSimpArgs false
set_option linter.unusedVariables false

/-- Whether the file at place i stands where it may, and its synced bytes are bytes of it. -/
def fileOk (F : Nat → Fil) (i : Nat) : Bool := fnB (F i).nm && (decide (i = 0) || Op.bytesLess (F (i - 1)).nm.toList (F i).nm.toList) && decide (0 ≤ (F i).sy) && decide ((F i).sy ≤ ((F i).len : Int))
def filesOk (n : Nat) (F : Nat → Fil) : Bool := (List.range n).all (fileOk F)
/-- All bytes of the first k files. -/
def used (F : Nat → Fil) : Nat → Nat
  | 0 => 0
  | k + 1 => used F k + (F k).len
def goodF (Q : Int) (n : Nat) (F : Nat → Fil) : Bool := decide (0 ≤ Q) && decide (Q ≤ 60000) && decide (n ≤ 40) && filesOk n F && decide ((used F n : Int) ≤ Q)
theorem filesOk_yes {n : Nat} {F : Nat → Fil} (h : ∀ i, i < n → fileOk F i = true) : filesOk n F = true := by
  unfold filesOk; rw [List.all_eq_true]; exact fun i hi => h i (List.mem_range.1 hi)
theorem filesOk_no {n : Nat} {F : Nat → Fil} (i : Nat) (hi : i < n) (h : fileOk F i = false) : filesOk n F = false := by
  unfold filesOk; rw [List.all_eq_false]; exact ⟨i, List.mem_range.2 hi, by simp [h]⟩
theorem used_mono {F : Nat → Fil} : ∀ {d k : Nat}, used F k ≤ used F (k + d)
  | 0, k => Nat.le_refl _
  | d + 1, k => by have := used_mono (F := F) (d := d) (k := k); show used F k ≤ used F (k + d) + _; omega
theorem used_le {F : Nat → Fil} {k n : Nat} (h : k ≤ n) : used F k ≤ used F n := by
  have := used_mono (F := F) (d := n - k) (k := k)
  rwa [show k + (n - k) = n from by omega] at this
theorem used_bd {F : Nat → Fil} {n B : Nat} (h : FSize n F B) : ∀ k, k ≤ n → used F k ≤ B * k
  | 0, _ => by simp [used]
  | k + 1, hk => by
    have h1 := used_bd h k (by omega)
    have h2 := (h k (by omega)).2
    simp only [used, Nat.mul_succ]
    omega
section
variable {Q : Int} {n : Nat} {F : Nat → Fil}
theorem good_q0 (h : ¬ 0 ≤ Q) : goodF Q n F = false := by simp [goodF, h]
theorem good_q1 (h : ¬ Q ≤ 60000) : goodF Q n F = false := by simp [goodF, h]
theorem good_n (h : ¬ n ≤ 40) : goodF Q n F = false := by simp [goodF, h]
theorem good_i (i : Nat) (hi : i < n) (h : fileOk F i = false) : goodF Q n F = false := by simp [goodF, filesOk_no i hi h]
theorem good_u (h : ¬ (used F n : Int) ≤ Q) : goodF Q n F = false := by simp [goodF, h]
theorem good_yes (h0 : 0 ≤ Q) (h1 : Q ≤ 60000) (h2 : n ≤ 40) (h : ∀ i, i < n → fileOk F i = true) (hu : (used F n : Int) ≤ Q) : goodF Q n F = true := by simp [goodF, h0, h1, h2, filesOk_yes h, hu]
end

/-- The files' box in block b. -/
structure QAt (w : World) (b : Nat) (Q : Int) (sv : Value) : Prop where
  lt : b < w.heap.size
  c0 : w.cell? ⟨b, 0, none⟩ = some (.int .i64 Q)
  c1 : w.cell? ⟨b, 1, none⟩ = some sv
theorem QAt.keep {w w' : World} {b : Nat} {Q : Int} {sv : Value} (h : QAt w b Q sv) (hb : Below w.heap.size w w') : QAt w' b Q sv :=
  ⟨Nat.lt_of_lt_of_le h.lt hb.size, (hb.cell (p := ⟨b, 0, none⟩) h.lt).trans h.c0, (hb.cell (p := ⟨b, 1, none⟩) h.lt).trans h.c1⟩
theorem QAt.new (w : World) (Q : Int) (sv : Value) (T : Nat) : QAt (w.alloc (.cells #[.int .i64 Q, sv] T)) w.heap.size Q sv :=
  ⟨by simp, by simp [go_sem], by simp [go_sem]⟩

set_option maxHeartbeats 4000000 in
theorem goodFiles_impl (Q : Int) (ao : Option Addr) (n cap : Nat) (F : Nat → Fil) (G : Bool) (HG : Hid (goodF Q n F = G)) (w : World) (hr : FRow w ao n F) (hq : -9223372036854775808 ≤ Q ∧ Q ≤ 9223372036854775807) (hn : n ≤ 1048576) (hz : FSize n F 1048576) :
    Calls Tryz.prog 52 #[.agg #[.int .i64 Q, .slice ao n cap]] w fun e w' => e = .returned (.bool G) ∧ Below w.heap.size w w' := by
  have hB : Below w.heap.size w (w.alloc (.cells #[.int .i64 Q, .slice ao n cap] 24)) := (Below.refl _ _).alloc (Nat.le_refl _) _
  by_cases h0 : 0 ≤ Q
  · have hd0 : decide (Q < 0) = false := by simp; omega
    by_cases h1 : Q ≤ 60000
    · have hd1 : decide (60000 < Q) = false := by simp; omega
      by_cases h2 : n ≤ 40
      · have hd2 : decide ((40 : Int) < (n : Int)) = false := by simp; omega
        go_enter Tryz.func52, Tryz.ntmps52
        go_wp2
        go_loopw [3, 25] (fun r i wr => ∃ k : Nat, k ≤ n ∧ i = .int .i64 k ∧ r = .int .i64 (Q - (used F k : Int)) ∧ (used F k : Int) ≤ Q ∧ Hid (∀ i, i < k → fileOk F i = true) ∧ Below (w.heap.size + 1) (w.alloc (.cells #[.int .i64 Q, .slice ao n cap] 24)) wr) (fun _ i _ => n - (intOf i).toNat)
        case atStart => exact ⟨0, Nat.zero_le _, rfl, by simp [used], by simpa [used] using h0, fun i h => by omega, Below.refl _ _⟩
        case round =>
          obtain ⟨k, hk, rfl, rfl, hu, HK, hbk⟩ := hrel
          have hszk : w.heap.size + 1 ≤ wr.heap.size := by have := hbk.size; simpa using this
          have hbw : Below w.heap.size w wr := hB.trans (hbk.mono (by omega))
          have hkey : wr.cell? ⟨w.heap.size, 1, none⟩ = some (.slice ao n cap) := (hbk.cell (p := ⟨w.heap.size, 1, none⟩) (by simp)).trans (by simp [go_sem])
          by_cases hlt : k < n
          · obtain ⟨b, off, rfl, hblt, hc⟩ := hr.lies.resolve_left (by omega)
            obtain ⟨da, dc, hf⟩ := hc k hlt
            have hc1 : wr.cell? ⟨b, off + k * 3, none⟩ = some (.string (F k).nm) := (hbw.cell (p := ⟨b, off + k * 3, none⟩) hblt).trans hf.c0
            have hc2 : wr.cell? ⟨b, off + k * 3 + 1, none⟩ = some (.slice da (F k).len dc) := (hbw.cell (p := ⟨b, off + k * 3 + 1, none⟩) hblt).trans hf.c1
            have hc3 : wr.cell? ⟨b, off + k * 3 + 2, none⟩ = some (.int .i64 (F k).sy) := (hbw.cell (p := ⟨b, off + k * 3 + 2, none⟩) hblt).trans hf.c2
            have hsk := hz k hlt
            have hbn := fun O => hbk.alloc (B := w.heap.size + 1) hszk O
            have hbn2 := fun O => hbw.alloc (B := w.heap.size) hbw.size O
            have hbne : b < wr.heap.size := Nat.lt_of_lt_of_le hblt hbw.size
            have hwne : w.heap.size < wr.heap.size := by omega
            have hkey' : ∀ O, (wr.alloc O).cell? ⟨w.heap.size, 1, none⟩ = some (.slice (some ⟨b, off, none⟩) n cap) := fun O => (World.cell?_alloc_old _ _ _ (Nat.ne_of_lt hwne)).trans hkey
            have hkm : 0 < k → ∀ O, (wr.alloc O).cell? ⟨b, off + (k - 1) * 3, none⟩ = some (.string (F (k - 1)).nm) := fun hp O => by
              obtain ⟨da', dc', hf'⟩ := hc (k - 1) (by omega)
              exact (World.cell?_alloc_old _ _ _ (Nat.ne_of_lt hbne)).trans ((hbw.cell (p := ⟨b, off + (k - 1) * 3, none⟩) hblt).trans hf'.c0)
            have huk : used F (k + 1) = used F k + (F k).len := rfl
            have hun := used_le (F := F) (show k + 1 ≤ n by omega)
            generalize hb1 : fnB (F k).nm = b1
            have Q1 : Hid (fnB (F k).nm = b1) := hb1
            clear hb1 hc hf
            cases b1
            · have HF : Hid (G = false) := by unfold Hid; rw [← HG.out]; exact good_i k hlt (by simp [fileOk, Q1.out])
              clear hkm
              go_wp2
              go_quiet ((go_at_call 53; exact Calls.quiet_of_same (isFileName_is _ _ Q1 _ hsk.1)))
              go_wp2
              go_ret
              rw [HF.out]
              exact ⟨rfl, below_drewN (hbn2 _) _⟩
            · by_cases hord : k = 0 ∨ Op.bytesLess (F (k - 1)).nm.toList (F k).nm.toList = true
              · have HO : Hid (k = 0 ∨ Op.bytesLess (F (k - 1)).nm.toList (F k).nm.toList = true) := hord
                rcases hord with hk0 | hL
                · have hd3 : decide (0 < k) = false := by simp; omega
                  have hd4 : decide ((0 : Int) < (k : Int)) = false := by simp; omega
                  have hke : ¬ 0 < k := by omega
                  clear hkm hk0
                  go_wp2
                  go_quiet ((go_at_call 53; exact Calls.quiet_of_same (isFileName_is _ _ Q1 _ hsk.1)))
                  by_cases s0 : 0 ≤ (F k).sy
                  · have e0 : decide ((F k).sy < 0) = false := by simp; omega
                    by_cases s1 : (F k).sy ≤ ((F k).len : Int)
                    · have e1 : decide (((F k).len : Int) < (F k).sy) = false := by simp; omega
                      by_cases s2 : (used F (k + 1) : Int) ≤ Q
                      · have e2 : decide (Q - (used F k : Int) < ((F k).len : Int)) = false := by simp; omega
                        have HK' : Hid (∀ i, i < k + 1 → fileOk F i = true) := fun i h => by
                          rcases Nat.lt_succ_iff_lt_or_eq.1 h with h | h
                          · exact HK.out i h
                          · subst h
                            have := HO.out
                            simp [fileOk, Q1.out, s0, s1]
                            exact this
                        go_wp2
                        go_roundw
                        case rel => exact ⟨k + 1, by omega, by go_num, by rw [huk]; congr 1; omega, s2, HK', below_drewN (hbn _) _⟩
                        case measure => simp [intOf]; omega
                      · have HF : Hid (G = false) := by unfold Hid; rw [← HG.out]; exact good_u (by omega)
                        have e2 : Q - (used F k : Int) < ((F k).len : Int) := by omega
                        go_wp2
                        go_ret
                        rw [HF.out]
                        exact ⟨rfl, below_drewN (hbn2 _) _⟩
                    · have HF : Hid (G = false) := by unfold Hid; rw [← HG.out]; exact good_i k hlt (by simp [fileOk, s1])
                      have e1 : ((F k).len : Int) < (F k).sy := by omega
                      go_wp2
                      go_ret
                      rw [HF.out]
                      exact ⟨rfl, below_drewN (hbn2 _) _⟩
                  · have HF : Hid (G = false) := by unfold Hid; rw [← HG.out]; exact good_i k hlt (by simp [fileOk, s0])
                    have e0 : (F k).sy < 0 := by omega
                    go_wp2
                    go_ret
                    rw [HF.out]
                    exact ⟨rfl, below_drewN (hbn2 _) _⟩
                · have hp : 0 < k ∨ k = 0 := by omega
                  rcases hp with hp | hp
                  · have hp2 : (0 : Int) < (k : Int) := by omega
                    have hkm' := hkm hp
                    clear hkm
                    go_wp2
                    go_quiet ((go_at_call 53; exact Calls.quiet_of_same (isFileName_is _ _ Q1 _ hsk.1)))
                    by_cases s0 : 0 ≤ (F k).sy
                    · have e0 : decide ((F k).sy < 0) = false := by simp; omega
                      by_cases s1 : (F k).sy ≤ ((F k).len : Int)
                      · have e1 : decide (((F k).len : Int) < (F k).sy) = false := by simp; omega
                        by_cases s2 : (used F (k + 1) : Int) ≤ Q
                        · have e2 : decide (Q - (used F k : Int) < ((F k).len : Int)) = false := by simp; omega
                          have HK' : Hid (∀ i, i < k + 1 → fileOk F i = true) := fun i h => by
                            rcases Nat.lt_succ_iff_lt_or_eq.1 h with h | h
                            · exact HK.out i h
                            · subst h
                              have := HO.out
                              simp [fileOk, Q1.out, s0, s1]
                              exact this
                          go_wp2
                          go_roundw
                          case rel => exact ⟨k + 1, by omega, by go_num, by rw [huk]; congr 1; omega, s2, HK', below_drewN (hbn _) _⟩
                          case measure => simp [intOf]; omega
                        · have HF : Hid (G = false) := by unfold Hid; rw [← HG.out]; exact good_u (by omega)
                          have e2 : Q - (used F k : Int) < ((F k).len : Int) := by omega
                          go_wp2
                          go_ret
                          rw [HF.out]
                          exact ⟨rfl, below_drewN (hbn2 _) _⟩
                      · have HF : Hid (G = false) := by unfold Hid; rw [← HG.out]; exact good_i k hlt (by simp [fileOk, s1])
                        have e1 : ((F k).len : Int) < (F k).sy := by omega
                        go_wp2
                        go_ret
                        rw [HF.out]
                        exact ⟨rfl, below_drewN (hbn2 _) _⟩
                    · have HF : Hid (G = false) := by unfold Hid; rw [← HG.out]; exact good_i k hlt (by simp [fileOk, s0])
                      have e0 : (F k).sy < 0 := by omega
                      go_wp2
                      go_ret
                      rw [HF.out]
                      exact ⟨rfl, below_drewN (hbn2 _) _⟩
                  · have hd3 : decide (0 < k) = false := by simp; omega
                    have hd4 : decide ((0 : Int) < (k : Int)) = false := by simp; omega
                    have hke : ¬ 0 < k := by omega
                    clear hkm hp hL
                    go_wp2
                    go_quiet ((go_at_call 53; exact Calls.quiet_of_same (isFileName_is _ _ Q1 _ hsk.1)))
                    by_cases s0 : 0 ≤ (F k).sy
                    · have e0 : decide ((F k).sy < 0) = false := by simp; omega
                      by_cases s1 : (F k).sy ≤ ((F k).len : Int)
                      · have e1 : decide (((F k).len : Int) < (F k).sy) = false := by simp; omega
                        by_cases s2 : (used F (k + 1) : Int) ≤ Q
                        · have e2 : decide (Q - (used F k : Int) < ((F k).len : Int)) = false := by simp; omega
                          have HK' : Hid (∀ i, i < k + 1 → fileOk F i = true) := fun i h => by
                            rcases Nat.lt_succ_iff_lt_or_eq.1 h with h | h
                            · exact HK.out i h
                            · subst h
                              have := HO.out
                              simp [fileOk, Q1.out, s0, s1]
                              exact this
                          go_wp2
                          go_roundw
                          case rel => exact ⟨k + 1, by omega, by go_num, by rw [huk]; congr 1; omega, s2, HK', below_drewN (hbn _) _⟩
                          case measure => simp [intOf]; omega
                        · have HF : Hid (G = false) := by unfold Hid; rw [← HG.out]; exact good_u (by omega)
                          have e2 : Q - (used F k : Int) < ((F k).len : Int) := by omega
                          go_wp2
                          go_ret
                          rw [HF.out]
                          exact ⟨rfl, below_drewN (hbn2 _) _⟩
                      · have HF : Hid (G = false) := by unfold Hid; rw [← HG.out]; exact good_i k hlt (by simp [fileOk, s1])
                        have e1 : ((F k).len : Int) < (F k).sy := by omega
                        go_wp2
                        go_ret
                        rw [HF.out]
                        exact ⟨rfl, below_drewN (hbn2 _) _⟩
                    · have HF : Hid (G = false) := by unfold Hid; rw [← HG.out]; exact good_i k hlt (by simp [fileOk, s0])
                      have e0 : (F k).sy < 0 := by omega
                      go_wp2
                      go_ret
                      rw [HF.out]
                      exact ⟨rfl, below_drewN (hbn2 _) _⟩
              · have hp : 0 < k := by omega
                have hp2 : (0 : Int) < (k : Int) := by omega
                have hkm' := hkm hp
                have hL' : Op.bytesLess (F (k - 1)).nm.toList (F k).nm.toList = false := by
                  cases h : Op.bytesLess (F (k - 1)).nm.toList (F k).nm.toList with
                  | false => rfl
                  | true => exact absurd (.inr h) hord
                have HF : Hid (G = false) := by unfold Hid; rw [← HG.out]; exact good_i k hlt (by simp [fileOk, hL', show ¬ k = 0 by omega])
                clear hkm hord
                go_wp2
                go_quiet ((go_at_call 53; exact Calls.quiet_of_same (isFileName_is _ _ Q1 _ hsk.1)))
                go_wp2
                go_ret
                rw [HF.out]
                exact ⟨rfl, below_drewN (hbn2 _) _⟩
          · have e : k = n := by omega
            subst e
            have HT : Hid (G = true) := by unfold Hid; rw [← HG.out]; exact good_yes h0 h1 h2 HK.out hu
            go_wp2
            go_ret
            rw [HT.out]
            exact ⟨rfl, hbw⟩
      · have HF : Hid (G = false) := by unfold Hid; rw [← HG.out]; exact good_n h2
        have hd2 : (40 : Int) < (n : Int) := by omega
        go_enter Tryz.func52, Tryz.ntmps52
        go_wp2
        go_ret
        rw [HF.out]
        exact ⟨rfl, hB⟩
    · have HF : Hid (G = false) := by unfold Hid; rw [← HG.out]; exact good_q1 h1
      have hd1 : 60000 < Q := by omega
      go_enter Tryz.func52, Tryz.ntmps52
      go_wp2
      go_ret
      rw [HF.out]
      exact ⟨rfl, hB⟩
  · have HF : Hid (G = false) := by unfold Hid; rw [← HG.out]; exact good_q0 h0
    have hd0 : Q < 0 := by omega
    go_enter Tryz.func52, Tryz.ntmps52
    go_wp2
    go_ret
    rw [HF.out]
    exact ⟨rfl, hB⟩
end Go.Proofs.YtapmbgmmonhdoaaGreatDoor
