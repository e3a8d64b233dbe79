/- Whether a filter may have a key, in the model. -/
import Derived.Test.YtjcmjoipicaoeaaPl
import Derived.Test.YtjcmjoipicaoeaaGf
namespace Go.Proofs.Ytjcmjoipicaoeaa
open Go.RowKit
set_option linter.unusedSimpArgs false
set_option linter.unusedVariables false

theorem plL_get {h d M : Int} {y k : Nat} (hk : k < y) : fi (plL h d M y) k = pl h d M k := by simp [fi, plL, hk]

set_option maxHeartbeats 1600000 in
theorem l6May_any (s : ByteArray) (y : Nat) (ao : Option Addr) (m cap : Nat) (f : Nat → Int) (w : World) (hr : Row w ao m f) (hs : s.size ≤ 1048576) (hy : y ≤ 8) (hm : 1 ≤ m ∧ m ≤ 200) :
    Calls Try.prog 50 #[.agg #[.int .i64 y, .slice ao m cap], .string s] w fun e w' => e = .returned (.bool (allSet f (plL (hOf s 0) (hOf s 1) (8 * m) y))) ∧ Below w.heap.size w w' := by
  have hB := below_new w (.cells #[.int .i64 y, .slice ao m cap] 31)
  have A0 := FAt.new w y (.slice ao m cap) 31
  have cP := fun W => l6Places_any s y m W hs hy hm
  generalize hOf s 0 = h at *
  generalize hOf s 1 = d at *
  obtain ⟨M, hMe⟩ : ∃ M : Int, 8 * (m : Int) = M := ⟨_, rfl⟩
  have hM : 0 < M := by omega
  rw [hMe] at cP ⊢
  obtain ⟨R, hR⟩ : ∃ R, allSet f (plL h d M y) = R := ⟨_, rfl⟩
  rw [hR]
  have HR : Hid (allSet f (plL h d M y) = R) := hR
  clear hR
  go_enter Try.func50, Try.ntmps50
  go_wp2_with fail
  refine (cP _).mono ?_
  rintro e w1 ⟨v, rfl, ho, hb1⟩
  obtain ⟨lo, lc, rfl, hlc, hI⟩ := ho.form
  have A1 := A0.keep hb1
  have B1 : Below w.heap.size w w1 := hB.trans (hb1.mono (by simp))
  have r1 := hr.keep B1
  have hl := plL_len h d M y
  rw [hl] at hI ⊢
  obtain ⟨b, off, rfl, hblt, hcell⟩ := r1.lies.resolve_left (by omega)
  clear cP hB A0 hb1 ho hr
  go_wp2
  go_loopw [15] (fun i wr => ∃ k : Nat, k ≤ y ∧ i = .int .i64 k ∧ Hid (∀ i, i < k → isSet f (pl h d M i) = true) ∧ wr = w1) (fun i _ => y - (intOf i).toNat)
  case atStart => exact ⟨0, Nat.zero_le _, rfl, fun i hi => by omega, rfl⟩
  case round =>
    obtain ⟨k, hk, rfl, HA, hw⟩ := hrel
    have hw2 := hw.symm
    clear hw
    subst hw2
    by_cases hlt : k < y
    · obtain ⟨b2, o2, rfl, hb2, hc2⟩ := hI.lies.resolve_left (by omega)
      have c1 := hc2 k hlt
      rw [plL_get hlt] at c1
      have hp := pl_bd h d hM k
      have HE : Hid (isSet f (pl h d M k) = false → R = false) := fun hh => by
        rw [← HR.out]
        unfold allSet
        rw [List.all_eq_false]
        exact ⟨pl h d M k, by simp [plL]; exact ⟨k, hlt, rfl⟩, by simp [hh]⟩
      have HN : Hid (isSet f (pl h d M k) = true → ∀ i, i < k + 1 → isSet f (pl h d M i) = true) := fun hh i hi => by
        rcases Nat.lt_succ_iff_lt_or_eq.1 hi with h' | rfl
        · exact HA.out i h'
        · exact hh
      generalize pl h d M k = x at *
      have hcq : w1.cell? ⟨b, off + (x / 8).toNat, none⟩ = some (.int .u8 (f (x / 8).toNat)) := hcell _ (by omega)
      have HS : Hid (isSet f x = !(bits .and .u8 (f (x / 8).toNat) (bt (x % 8)) == 0)) := rfl
      have hzb := r1.bd (x / 8).toNat
      have hqa : 0 ≤ x / 8 := by omega
      have hqb : x / 8 < (m : Int) := by omega
      have hqc : (x / 8).toNat < m := by omega
      generalize f (x / 8).toNat = z at hcq HS hzb
      obtain ⟨la, a0, a1⟩ := A1
      generalize isSet f x = B at HS HE HN
      clear hc2 hI hcell r1
      rcases bit_case hzb HS.out with ⟨hj, hz⟩ | ⟨hj, hz⟩ | ⟨hj, hz⟩ | ⟨hj, hz⟩ | ⟨hj, hz⟩ | ⟨hj, hz⟩ | ⟨hj, hz⟩ | ⟨hj, hz⟩
      all_goals
        clear HS
        cases B
        · have HF : Hid (R = false) := HE.out rfl
          simp only [Bool.not_false] at hz
          go_wp2
          exact bodyPost_ret (v := .bool false) (by simp [results, Try.results50, go_sem]) rfl ⟨by rw [HF.out], B1⟩
        · have HF : Hid (∀ i, i < k + 1 → isSet f (pl h d M i) = true) := HN.out rfl
          simp only [Bool.not_true] at hz
          go_wp2
          go_roundw
          case rel => exact ⟨k + 1, by omega, by go_num, HF, by first | rfl | trivial⟩
          case measure => simp [intOf]; omega
    · obtain rfl : k = y := by omega
      have HF : Hid (R = true) := by
        unfold Hid
        rw [← HR.out]
        unfold allSet
        rw [List.all_eq_true]
        intro x hx
        obtain ⟨i, hi, rfl⟩ := List.mem_map.1 hx
        exact HA.out i (List.mem_range.1 hi)
      go_wp2
      exact bodyPost_ret (v := .bool true) (by simp [results, Try.results50, go_sem]) rfl ⟨by rw [HF.out], B1⟩
end Go.Proofs.Ytjcmjoipicaoeaa
