/- Good keys: the two texts agree. -/
import Derived.Test.YtjdijikmdlklkaaGoodKey
namespace Go.Proofs.Ytjdijikmdlklkaa
open Go.RowKit
set_option linter.unusedSimpArgs false
set_option linter.unusedVariables false

theorem goodB_eq (m : ByteArray) (n : Nat) (nm vl : Nat → ByteArray) (st : Int) (a b c d : Bool) (h1 : nmB m = a) (h2 : goodTagsB n nm vl = b) (h3 : decide (0 ≤ st) = c) (h4 : decide (st ≤ 1000000000) = d) : goodB m n nm vl st = (a && b && c && d) := by
  unfold goodB; rw [h1, h2, h3, h4]

set_option maxHeartbeats 1000000 in
theorem goodKey_impl (m : ByteArray) (st : Int) (ao : Option Addr) (n cap : Nat) (nm vl : Nat → ByteArray) (w : World) (hr : TRow w ao n nm vl) (hm : m.size ≤ 1048576) (hn : n ≤ 1048576) (hs : TSize n nm vl 1048576) :
    Calls Try.prog 16 #[.agg #[.string m, .slice ao n cap, .int .i64 st]] w fun e w' => e = .returned (.bool (goodB m n nm vl st)) ∧ Below w.heap.size w w' := by
  have hB : Below w.heap.size w (w.alloc (.cells #[.string m, .slice ao n cap, .int .i64 st] 42)) := (Below.refl _ _).alloc (Nat.le_refl _) _
  generalize hG : goodB m n nm vl st = G
  have HG : Hid (goodB m n nm vl st = G) := hG
  clear hG
  generalize h1 : nmB m = b1
  have H1 : Hid (nmB m = b1) := h1
  clear h1
  go_enter Try.func16, Try.ntmps16
  go_wp2_with fail
  refine (isName_any _ _ hm).mono ?_
  rintro e w' ⟨rfl, rfl⟩
  rw [H1.out]
  cases b1
  · have HF : Hid (G = false) := by unfold Hid; rw [← HG.out]; simp [goodB, H1.out]
    go_wp2
    go_ret
    rw [HF.out]
    exact ⟨rfl, hB⟩
  · generalize h2 : goodTagsB n nm vl = b2
    have H2 : Hid (goodTagsB n nm vl = b2) := h2
    clear h2
    go_wp2_with fail
    refine (goodTags_any ao n cap nm vl _ (hr.keep hB) hn hs).mono ?_
    rintro e w1 ⟨rfl, hb1⟩
    rw [H2.out]
    have c0 : w1.cell? ⟨w.heap.size, 2, none⟩ = some (.int .i64 st) := (hb1.cell (p := ⟨w.heap.size, 2, none⟩) (by simp)).trans (by simp [go_sem])
    have hbw : Below w.heap.size w w1 := hB.trans (hb1.mono (by simp))
    cases b2
    · have HF : Hid (G = false) := by unfold Hid; rw [← HG.out]; simp [goodB, H1.out, H2.out]
      go_wp2
      go_ret
      rw [HF.out]
      exact ⟨rfl, hbw⟩
    · by_cases h3 : 0 ≤ st
      · by_cases h4 : st ≤ 1000000000
        · have HF : Hid (G = true) := by unfold Hid; rw [← HG.out]; simp [goodB, H1.out, H2.out, h3, h4]
          go_wp2
          go_ret
          rw [HF.out]
          exact ⟨rfl, hbw⟩
        · have HF : Hid (G = false) := by unfold Hid; rw [← HG.out]; simp [goodB, H1.out, H2.out, h3, h4]
          have h4' : decide (st ≤ 1000000000) = false := by simp; omega
          go_wp2
          go_ret
          rw [HF.out]
          exact ⟨rfl, hbw⟩
      · have HF : Hid (G = false) := by unfold Hid; rw [← HG.out]; simp [goodB, H1.out, H2.out, h3]
        have h3' : decide (0 ≤ st) = false := by simp; omega
        go_wp2
        go_ret
        rw [HF.out]
        exact ⟨rfl, hbw⟩

theorem l1Name_is (s : ByteArray) (B : Bool) (h : Hid (nmB s = B)) (w : World) (hs : s.size ≤ 1048576) : Calls Try.prog 30 #[.string s] w fun e w' => e = .returned (.bool B) ∧ w' = w := by
  have := l1Name_any s w hs
  rw [h.out] at this
  exact this

set_option maxHeartbeats 2000000 in
theorem goodKey_spec (m : ByteArray) (st : Int) (ao : Option Addr) (n cap : Nat) (nm vl : Nat → ByteArray) (w : World) (hr : TRow w ao n nm vl) (hm : m.size ≤ 1048576) (hn : n ≤ 1048576) (hs : TSize n nm vl 1048576) :
    Calls Try.prog 12 #[.agg #[.string m, .slice ao n cap, .int .i64 st]] w fun e w' => e = .returned (.bool (goodB m n nm vl st)) ∧ Below w.heap.size w w' := by
  have hB : Below w.heap.size w (w.alloc (.cells #[.string m, .slice ao n cap, .int .i64 st] 42)) := (Below.refl _ _).alloc (Nat.le_refl _) _
  generalize hG : goodB m n nm vl st = G
  have HG : Hid (goodB m n nm vl st = G) := hG
  clear hG
  generalize h1 : nmB m = b1
  have H1 : Hid (nmB m = b1) := h1
  clear h1
  go_enter Try.func12, Try.ntmps12
  go_wp2_with fail
  refine (l1Name_any _ _ hm).mono ?_
  rintro e w' ⟨rfl, rfl⟩
  rw [H1.out]
  cases b1
  · have HF : Hid (G = false) := by unfold Hid; rw [← HG.out]; simp [goodB, H1.out]
    go_wp2
    go_ret
    rw [HF.out]
    exact ⟨rfl, hB⟩
  · by_cases h4 : n ≤ 4
    · have h4' : decide ((4 : Int) < (n : Int)) = false := by simp; omega
      by_cases h5 : 0 ≤ st ∧ st ≤ 1000000000
      · have HG2 : Hid (G = tagsOk n nm vl) := by unfold Hid; rw [← HG.out]; simp [goodB, goodTagsB, H1.out, h4, h5.1, h5.2]
        go_wp2_with fail
        refine (l1In_yes _ _ _ _ h5.1 h5.2).mono ?_
        rintro e w' ⟨rfl, rfl⟩
        go_wp2
        go_loopw [24] (fun i wr => ∃ k : Nat, k ≤ n ∧ i = .int .i64 k ∧ Hid (∀ i, i < k → tagOk nm vl i = true) ∧ Below (w.heap.size + 1) (w.alloc (.cells #[.string m, .slice ao n cap, .int .i64 st] 42)) wr) (fun i _ => n - (intOf i).toNat)
        case atStart => exact ⟨0, Nat.zero_le _, rfl, fun i h => by omega, Below.refl _ _⟩
        case round =>
          obtain ⟨k, hk, rfl, HK, hbk⟩ := hrel
          have hszk : w.heap.size + 1 ≤ wr.heap.size := by have := hbk.size; simpa using this
          have hbw : Below w.heap.size w wr := hB.trans (hbk.mono (by omega))
          have hkey : wr.cell? ⟨w.heap.size, 1, none⟩ = some (.slice ao n cap) := (hbk.cell (p := ⟨w.heap.size, 1, none⟩) (by simp)).trans (by simp [go_sem])
          by_cases hlt : k < n
          · obtain ⟨b, off, rfl, hblt, hc⟩ := hr.lies.resolve_left (by omega)
            have hc1 : wr.cell? ⟨b, off + k * 2, none⟩ = some (.string (nm k)) := (hbw.cell (p := ⟨b, off + k * 2, none⟩) hblt).trans (hc k hlt).1
            have hc2 : wr.cell? ⟨b, off + k * 2 + 1, none⟩ = some (.string (vl k)) := (hbw.cell (p := ⟨b, off + k * 2 + 1, none⟩) hblt).trans (hc k hlt).2
            have hsk := hs k hlt
            have hbn := fun O => hbk.alloc (B := w.heap.size + 1) hszk O
            have hbn2 := fun O => hbw.alloc (B := w.heap.size) hbw.size O
            have hbne : b < wr.heap.size := Nat.lt_of_lt_of_le hblt hbw.size
            have hwne : w.heap.size < wr.heap.size := by omega
            have hkey' : ∀ O, (wr.alloc O).cell? ⟨w.heap.size, 1, none⟩ = some (.slice (some ⟨b, off, none⟩) n cap) := fun O => (World.cell?_alloc_old _ _ _ (Nat.ne_of_lt hwne)).trans hkey
            generalize h1 : nmB (nm k) = b1
            have Q1 : Hid (nmB (nm k) = b1) := h1
            clear h1
            generalize h2 : nmB (vl k) = b2
            have Q2 : Hid (nmB (vl k) = b2) := h2
            clear h2
            cases b1
            · have HF : Hid (G = false) := by unfold Hid; rw [HG2.out]; exact tagsOk_no k hlt (by simp [tagOk, Q1.out])
              clear hc
              go_wp2
              go_quiet ((go_at_call 30; exact Calls.quiet_of_same (l1Name_is _ _ Q1 _ hsk.1)))
              go_wp2
              go_ret
              rw [HF.out]
              exact ⟨rfl, below_drewN (hbn2 _) _⟩
            · cases b2
              · have HF : Hid (G = false) := by unfold Hid; rw [HG2.out]; exact tagsOk_no k hlt (by simp [tagOk, Q1.out, Q2.out])
                clear hc
                go_wp2
                go_quiet ((first | (go_at_call_of 30 (Value.string (nm k)); exact Calls.quiet_of_same (l1Name_is _ _ Q1 _ hsk.1)) | (go_at_call_of 30 (Value.string (vl k)); exact Calls.quiet_of_same (l1Name_is _ _ Q2 _ hsk.2))))
                go_wp2
                go_ret
                rw [HF.out]
                exact ⟨rfl, below_drewN (hbn2 _) _⟩
              · by_cases hk0 : k = 0
                · have HK' : Hid (∀ i, i < k + 1 → tagOk nm vl i = true) := fun i h => by
                    have : i = k := by omega
                    subst this
                    unfold tagOk
                    rw [Q1.out, Q2.out]
                    simp [hk0]
                  have hd0 : decide (0 < k) = false := by simp; omega
                  have hd1 : decide ((0 : Int) < (k : Int)) = false := by simp; omega
                  have hke : ¬ 0 < k := by omega
                  clear hc hk0
                  go_wp2
                  go_quiet ((first | (go_at_call_of 30 (Value.string (nm k)); exact Calls.quiet_of_same (l1Name_is _ _ Q1 _ hsk.1)) | (go_at_call_of 30 (Value.string (vl k)); exact Calls.quiet_of_same (l1Name_is _ _ Q2 _ hsk.2))))
                  go_wp2
                  go_roundw
                  case rel => exact ⟨k + 1, by omega, by go_num, HK', below_drewN (hbn _) _⟩
                  case measure => simp [intOf]; omega
                · have hpos : 0 < k := by omega
                  have hpos2 : (0 : Int) < (k : Int) := by omega
                  have hc0 : wr.cell? ⟨b, off + (k - 1) * 2, none⟩ = some (.string (nm (k - 1))) := (hbw.cell (p := ⟨b, off + (k - 1) * 2, none⟩) hblt).trans (hc (k - 1) (by omega)).1
                  have hc0' : ∀ O, (wr.alloc O).cell? ⟨b, off + (k - 1) * 2, none⟩ = some (.string (nm (k - 1))) := fun O => (World.cell?_alloc_old _ _ _ (Nat.ne_of_lt hbne)).trans hc0
                  by_cases hL : Op.bytesLess (nm (k - 1)).toList (nm k).toList = true
                  · have HK' : Hid (∀ i, i < k + 1 → tagOk nm vl i = true) := fun i h => by
                      rcases Nat.lt_succ_iff_lt_or_eq.1 h with h | h
                      · exact HK.out i h
                      · subst h; simp [tagOk, Q1.out, Q2.out, hL]
                    clear hc hk0
                    go_wp2
                    go_quiet ((first | (go_at_call_of 30 (Value.string (nm k)); exact Calls.quiet_of_same (l1Name_is _ _ Q1 _ hsk.1)) | (go_at_call_of 30 (Value.string (vl k)); exact Calls.quiet_of_same (l1Name_is _ _ Q2 _ hsk.2))))
                    go_wp2
                    go_roundw
                    case rel => exact ⟨k + 1, by omega, by go_num, HK', below_drewN (hbn _) _⟩
                    case measure => simp [intOf]; omega
                  · have hL' : Op.bytesLess (nm (k - 1)).toList (nm k).toList = false := by simpa using hL
                    have HF : Hid (G = false) := by unfold Hid; rw [HG2.out]; exact tagsOk_no k hlt (by simp [tagOk, Q1.out, Q2.out, hL', hk0])
                    clear hL hc hk0
                    go_wp2
                    go_quiet ((first | (go_at_call_of 30 (Value.string (nm k)); exact Calls.quiet_of_same (l1Name_is _ _ Q1 _ hsk.1)) | (go_at_call_of 30 (Value.string (vl k)); exact Calls.quiet_of_same (l1Name_is _ _ Q2 _ hsk.2))))
                    go_wp2
                    go_ret
                    rw [HF.out]
                    exact ⟨rfl, below_drewN (hbn2 _) _⟩
          · have HT : Hid (G = true) := by unfold Hid; rw [HG2.out]; exact tagsOk_yes (fun i hi => HK.out i (by omega))
            go_wp2
            go_ret
            rw [HT.out]
            exact ⟨rfl, hbw⟩
      · have HF : Hid (G = false) := by
          unfold Hid; rw [← HG.out]
          by_cases h6 : 0 ≤ st
          · have : ¬ st ≤ 1000000000 := fun h => h5 ⟨h6, h⟩
            simp [goodB, this]
          · simp [goodB, h6]
        go_wp2_with fail
        refine (l1In_no _ _ _ _ h5).mono ?_
        rintro e w' ⟨rfl, rfl⟩
        go_wp2
        go_ret
        rw [HF.out]
        exact ⟨rfl, hB⟩
    · have h4' : (4 : Int) < (n : Int) := by omega
      have HF : Hid (G = false) := by unfold Hid; rw [← HG.out]; simp [goodB, goodTagsB, h4]
      go_wp2
      go_ret
      rw [HF.out]
      exact ⟨rfl, hB⟩
end Go.Proofs.Ytjdijikmdlklkaa
