/- Good keys, both texts. -/
import Derived.Test.YtjdijikmdlklkaaSzKey
namespace Go.Proofs.Ytjdijikmdlklkaa
open Go.RowKit
set_option linter.unusedSimpArgs false
set_option linter.unusedVariables false

/-- Whether the tag at place i stands where it may. -/
def tagOk (nm vl : Nat → ByteArray) (i : Nat) : Bool := nmB (nm i) && nmB (vl i) && (decide (i = 0) || Op.bytesLess (nm (i - 1)).toList (nm i).toList)
def tagsOk (n : Nat) (nm vl : Nat → ByteArray) : Bool := (List.range n).all (tagOk nm vl)
def goodTagsB (n : Nat) (nm vl : Nat → ByteArray) : Bool := decide (n ≤ 4) && tagsOk n nm vl
def goodB (m : ByteArray) (n : Nat) (nm vl : Nat → ByteArray) (st : Int) : Bool := nmB m && goodTagsB n nm vl && decide (0 ≤ st) && decide (st ≤ 1000000000)

theorem tagsOk_yes {n : Nat} {nm vl : Nat → ByteArray} (h : ∀ i, i < n → tagOk nm vl i = true) : tagsOk n nm vl = true := by
  unfold tagsOk; rw [List.all_eq_true]; exact fun i hi => h i (List.mem_range.1 hi)
theorem tagsOk_no {n : Nat} {nm vl : Nat → ByteArray} (i : Nat) (hi : i < n) (h : tagOk nm vl i = false) : tagsOk n nm vl = false := by
  unfold tagsOk; rw [List.all_eq_false]; exact ⟨i, List.mem_range.2 hi, by simp [h]⟩

set_option maxHeartbeats 1000000 in
theorem goodTags_any (ao : Option Addr) (n cap : Nat) (nm vl : Nat → ByteArray) (w : World) (hr : TRow w ao n nm vl) (hn : n ≤ 1048576) (hs : TSize n nm vl 1048576) :
    Calls Try.prog 36 #[.slice ao n cap] w fun e w' => e = .returned (.bool (goodTagsB n nm vl)) ∧ Below w.heap.size w w' := by
  obtain ⟨hlies⟩ := hr
  generalize hB : goodTagsB n nm vl = B
  have HB : Hid (goodTagsB n nm vl = B) := hB
  clear hB
  by_cases h4 : n ≤ 4
  · have h4' : ¬ (4 : Int) < (n : Int) := by omega
    have HB2 : Hid (B = tagsOk n nm vl) := by unfold Hid; rw [← HB.out]; simp [goodTagsB, h4]
    clear HB
    go_enter Try.func36, Try.ntmps36
    go_wp2
    go_loopw [10] (fun i wr => ∃ k : Nat, k ≤ n ∧ i = .int .i64 k ∧ Hid (∀ i, i < k → tagOk nm vl i = true) ∧ Below w.heap.size w wr) (fun i _ => n - (intOf i).toNat)
    case atStart => exact ⟨0, Nat.zero_le _, rfl, fun i h => by omega, Below.refl _ _⟩
    case round =>
      obtain ⟨k, hk, rfl, HK, hbk⟩ := hrel
      by_cases hlt : k < n
      · obtain ⟨b, off, rfl, hblt, hc⟩ := hlies.resolve_left (by omega)
        have hc1 : wr.cell? ⟨b, off + k * 2, none⟩ = some (.string (nm k)) := (hbk.cell (p := ⟨b, off + k * 2, none⟩) hblt).trans (hc k hlt).1
        have hc2 : wr.cell? ⟨b, off + k * 2 + 1, none⟩ = some (.string (vl k)) := (hbk.cell (p := ⟨b, off + k * 2 + 1, none⟩) hblt).trans (hc k hlt).2
        have hsk := hs k hlt
        have hbn := fun O => hbk.alloc (B := w.heap.size) hbk.size O
        generalize h1 : nmB (nm k) = b1
        have H1 : Hid (nmB (nm k) = b1) := h1
        clear h1
        go_wp2_with fail
        refine (isName_any _ _ hsk.1).mono ?_
        rintro e w' ⟨rfl, rfl⟩
        rw [H1.out]
        cases b1
        · have HF : Hid (B = false) := by unfold Hid; rw [HB2.out]; exact tagsOk_no k hlt (by simp [tagOk, H1.out])
          go_wp2
          go_ret
          rw [HF.out]
          exact ⟨rfl, hbn _⟩
        · generalize h2 : nmB (vl k) = b2
          have H2 : Hid (nmB (vl k) = b2) := h2
          clear h2
          go_wp2_with fail
          refine (isName_any _ _ hsk.2).mono ?_
          rintro e w' ⟨rfl, rfl⟩
          rw [H2.out]
          cases b2
          · have HF : Hid (B = false) := by unfold Hid; rw [HB2.out]; exact tagsOk_no k hlt (by simp [tagOk, H1.out, H2.out])
            go_wp2
            go_ret
            rw [HF.out]
            exact ⟨rfl, hbn _⟩
          · by_cases hk0 : k = 0
            · subst hk0
              have HK' : Hid (∀ i, i < 0 + 1 → tagOk nm vl i = true) := fun i h => by
                have : i = 0 := by omega
                subst this
                simp [tagOk, H1.out, H2.out]
              have hd2 : decide ((0 : Int) < ((0 : Nat) : Int)) = false := by simp
              go_wp2
              go_quiet (fail)
              go_wp2
              go_roundw
              case rel => exact ⟨0 + 1, by omega, by go_num, HK', below_drewN (hbn _) _⟩
              case measure => simp [intOf]; omega
            · have hpos : 0 < k := by omega
              have hpos2 : (0 : Int) < (k : Int) := by omega
              have hc0 : wr.cell? ⟨b, off + (k - 1) * 2, none⟩ = some (.string (nm (k - 1))) := (hbk.cell (p := ⟨b, off + (k - 1) * 2, none⟩) hblt).trans (hc (k - 1) (by omega)).1
              have hbne : b < wr.heap.size := Nat.lt_of_lt_of_le hblt hbk.size
              have hc0' : ∀ O, (wr.alloc O).cell? ⟨b, off + (k - 1) * 2, none⟩ = some (.string (nm (k - 1))) := fun O => (World.cell?_alloc_old _ _ _ (Nat.ne_of_lt hbne)).trans hc0
              by_cases hL : Op.bytesLess (nm (k - 1)).toList (nm k).toList = true
              · have HK' : Hid (∀ i, i < k + 1 → tagOk nm vl i = true) := fun i h => by
                  rcases Nat.lt_succ_iff_lt_or_eq.1 h with h | h
                  · exact HK.out i h
                  · subst h; simp [tagOk, H1.out, H2.out, hL]
                clear hc hlies
                go_wp2
                go_quiet (fail)
                go_wp2
                go_roundw
                case rel => exact ⟨k + 1, by omega, by go_num, HK', below_drewN (hbn _) _⟩
                case measure => simp [intOf]; omega
              · have hL' : Op.bytesLess (nm (k - 1)).toList (nm k).toList = false := by simpa using hL
                have HF : Hid (B = false) := by unfold Hid; rw [HB2.out]; exact tagsOk_no k hlt (by simp [tagOk, H1.out, H2.out, hL', hk0])
                clear hL hc hlies
                go_wp2
                go_quiet (fail)
                go_wp2
                go_ret
                rw [HF.out]
                exact ⟨rfl, below_drewN (hbn _) _⟩
      · have HT : Hid (B = true) := by unfold Hid; rw [HB2.out]; exact tagsOk_yes (fun i hi => HK.out i (by omega))
        go_wp2
        go_ret
        rw [HT.out]
        exact ⟨rfl, hbk⟩
  · have h4' : (4 : Int) < (n : Int) := by omega
    have HF : Hid (B = false) := by unfold Hid; rw [← HB.out]; simp [goodTagsB, h4]
    go_enter Try.func36, Try.ntmps36
    go_wp2
    go_ret
    rw [HF.out]
    exact ⟨rfl, Below.refl _ _⟩
end Go.Proofs.Ytjdijikmdlklkaa
