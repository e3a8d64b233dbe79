/- Good files, the model's text; all bytes. -/
import Derived.Test.YtiojjihonmonkaaDoorGood
namespace Go.Proofs.YtiojjihonmonkaaDoor
open Go.RowKit
set_option linter.unusedSimpArgs false
set_option linter.unusedVariables false

set_option maxHeartbeats 1000000 in
theorem l2Used_any (Q : Int) (ao : Option Addr) (n cap : Nat) (F : Nat → Fil) (w : World) (hr : FRow w ao n F) (hn : n ≤ 1048576) (hz : FSize n F 1048576) :
    Calls Tryd.prog 37 #[.agg #[.int .i64 Q, .slice ao n cap]] w fun e w' => e = .returned (.int .i64 (used F n)) ∧ Below w.heap.size w w' := by
  have hB : Below w.heap.size w (w.alloc (.cells #[.int .i64 Q, .slice ao n cap] 25)) := (Below.refl _ _).alloc (Nat.le_refl _) _
  have hub := used_bd hz
  go_enter Tryd.func37, Tryd.ntmps37
  go_wp2
  go_loopw [3, 9] (fun s i wr => ∃ k : Nat, k ≤ n ∧ i = .int .i64 k ∧ s = .int .i64 (used F k) ∧ Below w.heap.size w wr) (fun _ i _ => n - (intOf i).toNat)
  case atStart => exact ⟨0, Nat.zero_le _, rfl, by simp [used], hB⟩
  case round =>
    obtain ⟨k, hk, rfl, rfl, hbk⟩ := hrel
    by_cases hlt : k < n
    · obtain ⟨b, off, rfl, hblt, hc⟩ := hr.lies.resolve_left (by omega)
      obtain ⟨da, dc, hf⟩ := hc k hlt
      have hc1 : wr.cell? ⟨b, off + k * 3, none⟩ = some (.string (F k).nm) := (hbk.cell (p := ⟨b, off + k * 3, none⟩) hblt).trans hf.c0
      have hc2 : wr.cell? ⟨b, off + k * 3 + 1, none⟩ = some (.slice da (F k).len dc) := (hbk.cell (p := ⟨b, off + k * 3 + 1, none⟩) hblt).trans hf.c1
      have hc3 : wr.cell? ⟨b, off + k * 3 + 2, none⟩ = some (.int .i64 (F k).sy) := (hbk.cell (p := ⟨b, off + k * 3 + 2, none⟩) hblt).trans hf.c2
      have hlen := (hz k hlt).2
      have huk := hub k (by omega)
      have hbn := fun O => hbk.alloc (B := w.heap.size) hbk.size O
      clear hc hf hub
      go_wp2
      go_roundw
      case rel => exact ⟨k + 1, by omega, by go_num, by simp [used], hbn _⟩
      case measure => simp [intOf]; omega
    · have e : k = n := by omega
      subst e
      go_wp2
      go_ret
      exact ⟨rfl, hbk⟩

set_option maxHeartbeats 4000000 in
theorem goodFiles_spec (Q : Int) (ao : Option Addr) (n cap : Nat) (F : Nat → Fil) (G : Bool) (HG : Hid (goodF Q n F = G)) (w : World) (hr : FRow w ao n F) (hq : -9223372036854775808 ≤ Q ∧ Q ≤ 9223372036854775807) (hn : n ≤ 1048576) (hz : FSize n F 1048576) :
    Calls Tryd.prog 15 #[.agg #[.int .i64 Q, .slice ao n cap]] w fun e w' => e = .returned (.bool G) ∧ Below w.heap.size w w' := by
  have hB : Below w.heap.size w (w.alloc (.cells #[.int .i64 Q, .slice ao n cap] 25)) := (Below.refl _ _).alloc (Nat.le_refl _) _
  by_cases h01 : 0 ≤ Q ∧ Q ≤ 60000
  · by_cases h2 : n ≤ 40
    · have hd2 : decide ((40 : Int) < (n : Int)) = false := by simp; omega
      go_enter Tryd.func15, Tryd.ntmps15
      go_wp2_with fail
      refine (l1In_yes _ _ _ _ h01.1 h01.2).mono ?_
      rintro e w' ⟨rfl, rfl⟩
      go_wp2
      go_loopw [18] (fun i wr => ∃ k : Nat, k ≤ n ∧ i = .int .i64 k ∧ Hid (∀ i, i < k → fileOk F i = true) ∧ Below (w.heap.size + 1) (w.alloc (.cells #[.int .i64 Q, .slice ao n cap] 25)) wr) (fun i _ => n - (intOf i).toNat)
      case atStart => exact ⟨0, Nat.zero_le _, rfl, fun i h => by omega, Below.refl _ _⟩
      case round =>
        obtain ⟨k, hk, rfl, HK, hbk⟩ := hrel
        have hszk : w.heap.size + 1 ≤ wr.heap.size := by have := hbk.size; simpa using this
        have hbw : Below w.heap.size w wr := hB.trans (hbk.mono (by omega))
        have hkey0 : wr.cell? ⟨w.heap.size, 0, none⟩ = some (.int .i64 Q) := (hbk.cell (p := ⟨w.heap.size, 0, none⟩) (by simp)).trans (by simp [go_sem])
        have hkey : wr.cell? ⟨w.heap.size, 1, none⟩ = some (.slice ao n cap) := (hbk.cell (p := ⟨w.heap.size, 1, none⟩) (by simp)).trans (by simp [go_sem])
        by_cases hlt : k < n
        · obtain ⟨b, off, rfl, hblt, hc⟩ := hr.lies.resolve_left (by omega)
          obtain ⟨da, dc, hf⟩ := hc k hlt
          have hc1 : wr.cell? ⟨b, off + k * 3, none⟩ = some (.string (F k).nm) := (hbw.cell (p := ⟨b, off + k * 3, none⟩) hblt).trans hf.c0
          have hc2 : wr.cell? ⟨b, off + k * 3 + 1, none⟩ = some (.slice da (F k).len dc) := (hbw.cell (p := ⟨b, off + k * 3 + 1, none⟩) hblt).trans hf.c1
          have hc3 : wr.cell? ⟨b, off + k * 3 + 2, none⟩ = some (.int .i64 (F k).sy) := (hbw.cell (p := ⟨b, off + k * 3 + 2, none⟩) hblt).trans hf.c2
          have hsk := hz k hlt
          have hbn := fun O => hbk.alloc (B := w.heap.size + 1) hszk O
          have hbn2 := fun O => hbw.alloc (B := w.heap.size) hbw.size O
          have hbne : b < wr.heap.size := Nat.lt_of_lt_of_le hblt hbw.size
          have hwne : w.heap.size < wr.heap.size := by omega
          have hkey' : ∀ O, (wr.alloc O).cell? ⟨w.heap.size, 1, none⟩ = some (.slice (some ⟨b, off, none⟩) n cap) := fun O => (World.cell?_alloc_old _ _ _ (Nat.ne_of_lt hwne)).trans hkey
          have hkm : 0 < k → ∀ O, (wr.alloc O).cell? ⟨b, off + (k - 1) * 3, none⟩ = some (.string (F (k - 1)).nm) := fun hp O => by
            obtain ⟨da', dc', hf'⟩ := hc (k - 1) (by omega)
            exact (World.cell?_alloc_old _ _ _ (Nat.ne_of_lt hbne)).trans ((hbw.cell (p := ⟨b, off + (k - 1) * 3, none⟩) hblt).trans hf'.c0)
          generalize hb1 : fnB (F k).nm = b1
          have Q1 : Hid (fnB (F k).nm = b1) := hb1
          clear hb1 hc hf
          cases b1
          · have HF : Hid (G = false) := by unfold Hid; rw [← HG.out]; exact good_i k hlt (by simp [fileOk, Q1.out])
            clear hkm
            go_wp2
            go_quiet ((go_at_call 36; exact Calls.quiet_of_same (l2Name_is _ _ Q1 _ hsk.1)))
            go_wp2
            go_ret
            rw [HF.out]
            exact ⟨rfl, below_drewN (hbn2 _) _⟩
          · by_cases hord : k = 0 ∨ Op.bytesLess (F (k - 1)).nm.toList (F k).nm.toList = true
            · have HO : Hid (k = 0 ∨ Op.bytesLess (F (k - 1)).nm.toList (F k).nm.toList = true) := hord
              have hp : 0 < k ∨ k = 0 := by omega
              rcases hp with hp | hp
              · have hp2 : (0 : Int) < (k : Int) := by omega
                have hkm' := hkm hp
                have hL := hord.resolve_left (by omega)
                clear hkm hord
                by_cases s01 : 0 ≤ (F k).sy ∧ (F k).sy ≤ ((F k).len : Int)
                · have HK' : Hid (∀ i, i < k + 1 → fileOk F i = true) := fun i h => by
                    rcases Nat.lt_succ_iff_lt_or_eq.1 h with h | h
                    · exact HK.out i h
                    · subst h
                      have := HO.out
                      simp [fileOk, Q1.out, s01.1, s01.2]
                      exact this
                  go_wp2
                  go_quiet ((first | (go_at_call 36; exact Calls.quiet_of_same (l2Name_is _ _ Q1 _ hsk.1)) | (go_at_call 35; exact Calls.quiet_of_same (l1In_yes _ _ _ _ s01.1 s01.2))))
                  go_wp2
                  go_roundw
                  case rel => exact ⟨k + 1, by omega, by go_num, HK', below_drewN (hbn _) _⟩
                  case measure => simp [intOf]; omega
                · have HF : Hid (G = false) := by
                    unfold Hid; rw [← HG.out]
                    refine good_i k hlt ?_
                    by_cases s0 : 0 ≤ (F k).sy
                    · have : ¬ (F k).sy ≤ ((F k).len : Int) := fun h => s01 ⟨s0, h⟩
                      simp [fileOk, this]
                    · simp [fileOk, s0]
                  go_wp2
                  go_quiet ((first | (go_at_call 36; exact Calls.quiet_of_same (l2Name_is _ _ Q1 _ hsk.1)) | (go_at_call 35; exact Calls.quiet_of_same (l1In_no _ _ _ _ s01))))
                  go_wp2
                  go_ret
                  rw [HF.out]
                  exact ⟨rfl, below_drewN (hbn2 _) _⟩
              · have hd3 : decide (0 < k) = false := by simp; omega
                have hd4 : decide ((0 : Int) < (k : Int)) = false := by simp; omega
                have hke : ¬ 0 < k := by omega
                clear hkm hp hord
                by_cases s01 : 0 ≤ (F k).sy ∧ (F k).sy ≤ ((F k).len : Int)
                · have HK' : Hid (∀ i, i < k + 1 → fileOk F i = true) := fun i h => by
                    rcases Nat.lt_succ_iff_lt_or_eq.1 h with h | h
                    · exact HK.out i h
                    · subst h
                      have := HO.out
                      simp [fileOk, Q1.out, s01.1, s01.2]
                      exact this
                  go_wp2
                  go_quiet ((first | (go_at_call 36; exact Calls.quiet_of_same (l2Name_is _ _ Q1 _ hsk.1)) | (go_at_call 35; exact Calls.quiet_of_same (l1In_yes _ _ _ _ s01.1 s01.2))))
                  go_wp2
                  go_roundw
                  case rel => exact ⟨k + 1, by omega, by go_num, HK', below_drewN (hbn _) _⟩
                  case measure => simp [intOf]; omega
                · have HF : Hid (G = false) := by
                    unfold Hid; rw [← HG.out]
                    refine good_i k hlt ?_
                    by_cases s0 : 0 ≤ (F k).sy
                    · have : ¬ (F k).sy ≤ ((F k).len : Int) := fun h => s01 ⟨s0, h⟩
                      simp [fileOk, this]
                    · simp [fileOk, s0]
                  go_wp2
                  go_quiet ((first | (go_at_call 36; exact Calls.quiet_of_same (l2Name_is _ _ Q1 _ hsk.1)) | (go_at_call 35; exact Calls.quiet_of_same (l1In_no _ _ _ _ s01))))
                  go_wp2
                  go_ret
                  rw [HF.out]
                  exact ⟨rfl, below_drewN (hbn2 _) _⟩
            · have hp : 0 < k := by omega
              have hp2 : (0 : Int) < (k : Int) := by omega
              have hkm' := hkm hp
              have hL' : Op.bytesLess (F (k - 1)).nm.toList (F k).nm.toList = false := by
                cases h : Op.bytesLess (F (k - 1)).nm.toList (F k).nm.toList with
                | false => rfl
                | true => exact absurd (.inr h) hord
              have HF : Hid (G = false) := by unfold Hid; rw [← HG.out]; exact good_i k hlt (by simp [fileOk, hL', show ¬ k = 0 by omega])
              clear hkm hord
              go_wp2
              go_quiet ((go_at_call 36; exact Calls.quiet_of_same (l2Name_is _ _ Q1 _ hsk.1)))
              go_wp2
              go_ret
              rw [HF.out]
              exact ⟨rfl, below_drewN (hbn2 _) _⟩
        · have e : k = n := by omega
          subst e
          have HT : Hid (decide ((used F k : Int) ≤ Q) = G) := by
            unfold Hid
            rw [← HG.out]
            simp [goodF, h01.1, h01.2, h2, filesOk_yes HK.out]
          have hrr := (hr.keep hbw).keep (Below.refl _ _).drew
          have hwne : w.heap.size < wr.heap.size := by omega
          go_wp2
          go_region_held3 (fun w' => w'.cell? ⟨w.heap.size, 0, none⟩ = some (.int .i64 Q) ∧ w'.cell? ⟨w.heap.size, 1, none⟩ = some (.slice ao k cap)) (go_keep) (first | (go_at_call 37; refine (l2Used_any Q ao k cap F _ hrr hn hz).mono ?_; rintro e w1 ⟨rfl, hb1⟩; have hb1' := (Below.refl _ wr).drew.trans hb1; have g0 := (hb1'.cell (p := ⟨w.heap.size, 0, none⟩) hwne).trans hkey0; have g1 := (hb1'.cell (p := ⟨w.heap.size, 1, none⟩) hwne).trans hkey; have bw1 : Below w.heap.size w w1 := hbw.trans (hb1'.mono hbw.size)))
          go_wp2
          go_ret
          exact ⟨by rw [HT.out]; rfl, bw1⟩
    · have HF : Hid (G = false) := by unfold Hid; rw [← HG.out]; exact good_n h2
      have hd2 : (40 : Int) < (n : Int) := by omega
      go_enter Tryd.func15, Tryd.ntmps15
      go_wp2_with fail
      refine (l1In_yes _ _ _ _ h01.1 h01.2).mono ?_
      rintro e w' ⟨rfl, rfl⟩
      go_wp2
      go_ret
      rw [HF.out]
      exact ⟨rfl, hB⟩
  · have HF : Hid (G = false) := by
      unfold Hid; rw [← HG.out]
      by_cases h0 : 0 ≤ Q
      · exact good_q1 (fun h => h01 ⟨h0, h⟩)
      · exact good_q0 h0
    go_enter Tryd.func15, Tryd.ntmps15
    go_wp2_with fail
    refine (l1In_no _ _ _ _ h01).mono ?_
    rintro e w' ⟨rfl, rfl⟩
    go_wp2
    go_ret
    rw [HF.out]
    exact ⟨rfl, hB⟩
end Go.Proofs.YtiojjihonmonkaaDoor
