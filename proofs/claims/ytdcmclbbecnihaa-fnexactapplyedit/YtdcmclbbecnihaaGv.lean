/- Metas and versions that are good, in both texts. -/
import Derived.Test.YtdcmclbbecnihaaVr

import Derived.Deep.RegionHeld3
namespace Go.Proofs.Ytdcmclbbecnihaa
open Go.RowKit
set_option linter.unusedSimpArgs false
set_option linter.unusedVariables false

/-- At most, by bytes. -/
def leS (a b : ByteArray) : Bool := Op.bytesLess a.toList b.toList || a.toList == b.toList
/-- A file's number. -/
def fN (n : Int) : Bool := btw 1 n 100000
/-- A key's text. -/
def kT (s : ByteArray) : Bool := btw 1 s.size 140
/-- A good meta. -/
def gm (x : Met) : Bool := fN x.file && kT x.least && kT x.most && leS x.least x.most && btw 1 x.many 100

theorem l9File_any (n : Int) (w : World) : Calls Try.prog 50 #[.int .i64 n] w fun e w' => e = .returned (.bool (fN n)) ∧ w' = w := by
  go_enter Try.func50, Try.ntmps50
  go_wp2_with fail
  refine (l1In_any n 1 100000 _).mono ?_
  rintro e w1 ⟨rfl, rfl⟩
  go_wp2
  go_ret
  exact ⟨rfl, rfl⟩
theorem isFileNumber_any (n : Int) (w : World) : Calls Try.prog 54 #[.int .i64 n] w fun e w' => e = .returned (.bool (fN n)) ∧ w' = w := by
  have H : Hid (fN n = (decide (1 ≤ n) && decide (n ≤ 100000))) := by simp [Hid, fN, btw, Bool.decide_and]
  generalize fN n = F at H ⊢
  cases h1 : decide (1 ≤ n)
  · go_enter Try.func54, Try.ntmps54
    go_wp2
    go_ret
    exact ⟨by rw [H.out, h1]; rfl, rfl⟩
  · go_enter Try.func54, Try.ntmps54
    go_wp2
    refine bodyPost_ret (v := .bool (decide (n ≤ 100000))) (by simp [results, Try.results54, go_sem]) rfl ⟨by rw [H.out, h1]; rfl, rfl⟩
theorem isLastSeq_any (n : Int) (w : World) : Calls Try.prog 55 #[.int .i64 n] w fun e w' => e = .returned (.bool (isC n)) ∧ w' = w := by
  have H : Hid (isC n = (decide (0 ≤ n) && decide (n ≤ 1000000000))) := by simp [Hid, isC, btw, Bool.decide_and]
  generalize isC n = F at H ⊢
  cases h1 : decide (0 ≤ n)
  · go_enter Try.func55, Try.ntmps55
    go_wp2
    go_ret
    exact ⟨by rw [H.out, h1]; rfl, rfl⟩
  · go_enter Try.func55, Try.ntmps55
    go_wp2
    refine bodyPost_ret (v := .bool (decide (n ≤ 1000000000))) (by simp [results, Try.results55, go_sem]) rfl ⟨by rw [H.out, h1]; rfl, rfl⟩
theorem isKeyText_any (s : ByteArray) (w : World) : Calls Try.prog 131 #[.string s] w fun e w' => e = .returned (.bool (kT s)) ∧ w' = w := by
  have H : Hid (kT s = (decide (1 ≤ (s.size : Int)) && decide ((s.size : Int) ≤ 140))) := by simp [Hid, kT, btw, Bool.decide_and]
  generalize kT s = F at H ⊢
  cases h1 : decide (1 ≤ (s.size : Int))
  · go_enter Try.func131, Try.ntmps131
    go_wp2
    go_ret
    exact ⟨by rw [H.out, h1]; rfl, rfl⟩
  · go_enter Try.func131, Try.ntmps131
    go_wp2
    refine bodyPost_ret (v := .bool (decide ((s.size : Int) ≤ 140))) (by simp [results, Try.results131, go_sem]) rfl ⟨by rw [H.out, h1]; rfl, rfl⟩

set_option maxHeartbeats 1600000 in
theorem l9Meta_any (x : Met) (w : World) : Calls Try.prog 52 #[.agg #[.int .i64 x.file, .string x.least, .string x.most, .int .i64 x.many]] w fun e w' => e = .returned (.bool (gm x)) ∧ Below w.heap.size w w' := by
  have hB := fun o => below_new w o
  have H : Hid (gm x = (fN x.file && kT x.least && kT x.most && leS x.least x.most && btw 1 x.many 100)) := rfl
  generalize gm x = G at H ⊢
  have hk1 : btw 1 (x.least.size : Int) 140 = kT x.least := rfl
  have hk2 : btw 1 (x.most.size : Int) 140 = kT x.most := rfl
  have hl : Hid (leS x.least x.most = (Op.bytesLess x.least.toList x.most.toList || x.least.toList == x.most.toList)) := rfl
  generalize leS x.least x.most = LS at H hl
  go_enter Try.func52, Try.ntmps52
  go_wp2_with fail
  refine (l9File_any x.file _).mono ?_
  rintro e w1 ⟨rfl, rfl⟩
  cases h1 : fN x.file
  · go_wp2
    go_ret
    exact ⟨by rw [H.out, h1]; simp, hB _⟩
  go_wp2_with fail
  refine (l1In_any x.least.size 1 140 _).mono ?_
  rintro e w1 ⟨rfl, rfl⟩
  rw [hk1]
  cases h2 : kT x.least
  · go_wp2
    go_ret
    exact ⟨by rw [H.out, h1, h2]; simp, hB _⟩
  go_wp2_with fail
  refine (l1In_any x.most.size 1 140 _).mono ?_
  rintro e w1 ⟨rfl, rfl⟩
  rw [hk2]
  cases h3 : kT x.most
  · go_wp2
    go_ret
    exact ⟨by rw [H.out, h1, h2, h3]; simp, hB _⟩
  cases h4 : (Op.bytesLess x.least.toList x.most.toList || x.least.toList == x.most.toList)
  · have h5 := h4
    simp only [Bool.or_eq_false_iff] at h5
    obtain ⟨h6, h7⟩ := h5
    rw [h4] at hl
    clear h4
    go_wp2
    go_ret
    exact ⟨by rw [H.out, h1, h2, h3, hl.out]; simp, hB _⟩
  rw [h4] at hl
  have hx : (Op.bytesLess x.least.toList x.most.toList = true) ∨ (Op.bytesLess x.least.toList x.most.toList = false ∧ (x.least.toList == x.most.toList) = true) := by
    cases h : Op.bytesLess x.least.toList x.most.toList
    · rw [h] at h4; exact .inr ⟨rfl, by simpa using h4⟩
    · exact .inl rfl
  clear h4
  rcases hx with h5 | ⟨h5, h6⟩
  · go_wp2_with fail
    refine (l1In_any x.many 1 100 _).mono ?_
    rintro e w1 ⟨rfl, rfl⟩
    go_wp2
    refine bodyPost_ret (v := .bool (btw 1 x.many 100)) (by simp [results, Try.results52, go_sem]) rfl ⟨by rw [H.out, h1, h2, h3, hl.out]; simp, hB _⟩
  · go_wp2_with fail
    refine (l1In_any x.many 1 100 _).mono ?_
    rintro e w1 ⟨rfl, rfl⟩
    go_wp2
    refine bodyPost_ret (v := .bool (btw 1 x.many 100)) (by simp [results, Try.results52, go_sem]) rfl ⟨by rw [H.out, h1, h2, h3, hl.out]; simp, hB _⟩

set_option maxHeartbeats 1600000 in
theorem goodMeta_any (x : Met) (w : World) : Calls Try.prog 112 #[.agg #[.int .i64 x.file, .string x.least, .string x.most, .int .i64 x.many]] w fun e w' => e = .returned (.bool (gm x)) ∧ Below w.heap.size w w' := by
  have hB := fun o => below_new w o
  have H : Hid (gm x = (fN x.file && kT x.least && kT x.most && leS x.least x.most && (decide (1 ≤ x.many) && decide (x.many ≤ 100)))) := by simp [Hid, gm, btw, Bool.decide_and]
  generalize gm x = G at H ⊢
  have hl : Hid (leS x.least x.most = (Op.bytesLess x.least.toList x.most.toList || x.least.toList == x.most.toList)) := rfl
  generalize leS x.least x.most = LS at H hl
  go_enter Try.func112, Try.ntmps112
  go_wp2_with fail
  refine (isFileNumber_any x.file _).mono ?_
  rintro e w1 ⟨rfl, rfl⟩
  cases h1 : fN x.file
  · go_wp2
    go_ret
    exact ⟨by rw [H.out, h1]; simp, hB _⟩
  go_wp2_with fail
  refine (isKeyText_any x.least _).mono ?_
  rintro e w1 ⟨rfl, rfl⟩
  cases h2 : kT x.least
  · go_wp2
    go_ret
    exact ⟨by rw [H.out, h1, h2]; simp, hB _⟩
  go_wp2_with fail
  refine (isKeyText_any x.most _).mono ?_
  rintro e w1 ⟨rfl, rfl⟩
  cases h3 : kT x.most
  · go_wp2
    go_ret
    exact ⟨by rw [H.out, h1, h2, h3]; simp, hB _⟩
  cases h4 : (Op.bytesLess x.least.toList x.most.toList || x.least.toList == x.most.toList)
  · have h5 := h4
    simp only [Bool.or_eq_false_iff] at h5
    obtain ⟨h6, h7⟩ := h5
    rw [h4] at hl
    clear h4
    go_wp2
    go_ret
    exact ⟨by rw [H.out, h1, h2, h3, hl.out]; simp, hB _⟩
  rw [h4] at hl
  have hx : (Op.bytesLess x.least.toList x.most.toList = true) ∨ (Op.bytesLess x.least.toList x.most.toList = false ∧ (x.least.toList == x.most.toList) = true) := by
    cases h : Op.bytesLess x.least.toList x.most.toList
    · rw [h] at h4; exact .inr ⟨rfl, by simpa using h4⟩
    · exact .inl rfl
  clear h4
  cases h8 : decide (1 ≤ x.many)
  · rcases hx with h5 | ⟨h5, h6⟩
    · go_wp2
      go_ret
      exact ⟨by rw [H.out, h8]; simp, hB _⟩
    · go_wp2
      go_ret
      exact ⟨by rw [H.out, h8]; simp, hB _⟩
  rcases hx with h5 | ⟨h5, h6⟩
  · go_wp2
    refine bodyPost_ret (v := .bool (decide (x.many ≤ 100))) (by simp [results, Try.results112, go_sem]) rfl ⟨by rw [H.out, h1, h2, h3, hl.out, h8]; simp, hB _⟩
  · go_wp2
    refine bodyPost_ret (v := .bool (decide (x.many ≤ 100))) (by simp [results, Try.results112, go_sem]) rfl ⟨by rw [H.out, h1, h2, h3, hl.out, h8]; simp, hB _⟩
end Go.Proofs.Ytdcmclbbecnihaa
