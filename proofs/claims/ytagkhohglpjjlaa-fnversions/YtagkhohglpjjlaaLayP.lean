/- Metas and versions that are good, in both texts. / slices.Sort and slices.Compact over ints, found again at this program (numbers of the seat Ytagkhohglpjjlaa). -/
import Derived.Test.YtagkhohglpjjlaaVr
import Derived.Deep.RegionHeld3
import Derived.Shelf.Sort.Plain
import Derived.Shelf.Slices.CompactI
import Derived.Shelf.Slices.In.SortNone
import Derived.Test.YtagkhohglpjjlaaProg
namespace Go.Proofs.Ytagkhohglpjjlaa
open Go.RowKit
set_option linter.unusedSimpArgs false
set_option linter.unusedVariables false

/-- At most, by bytes. -/
def leS (a b : ByteArray) : Bool := Op.bytesLess a.toList b.toList || a.toList == b.toList
/-- A file's number. -/
def fN (n : Int) : Bool := btw 1 n 100000
/-- A key's text. -/
def kT (s : ByteArray) : Bool := btw 1 s.size 140
/-- A good meta. -/
def gm (x : Met) : Bool := fN x.file && kT x.least && kT x.most && leS x.least x.most && btw 1 x.many 100

theorem l9File_any (n : Int) (w : World) : Calls Try.prog 41 #[.int .i64 n] w fun e w' => e = .returned (.bool (fN n)) ∧ w' = w := by
  go_enter Try.func41, Try.ntmps41
  go_wp2_with fail
  refine (l1In_any n 1 100000 _).mono ?_
  rintro e w1 ⟨rfl, rfl⟩
  go_wp2
  go_ret
  exact ⟨rfl, rfl⟩
theorem isFileNumber_any (n : Int) (w : World) : Calls Try.prog 20 #[.int .i64 n] w fun e w' => e = .returned (.bool (fN n)) ∧ w' = w := by
  have H : Hid (fN n = (decide (1 ≤ n) && decide (n ≤ 100000))) := by simp [Hid, fN, btw, Bool.decide_and]
  generalize fN n = F at H ⊢
  cases h1 : decide (1 ≤ n)
  · go_enter Try.func20, Try.ntmps20
    go_wp2
    go_ret
    exact ⟨by rw [H.out, h1]; rfl, rfl⟩
  · go_enter Try.func20, Try.ntmps20
    go_wp2
    refine bodyPost_ret (v := .bool (decide (n ≤ 100000))) (by simp [results, Try.results20, go_sem]) rfl ⟨by rw [H.out, h1]; rfl, rfl⟩
theorem isLastSeq_any (n : Int) (w : World) : Calls Try.prog 21 #[.int .i64 n] w fun e w' => e = .returned (.bool (isC n)) ∧ w' = w := by
  have H : Hid (isC n = (decide (0 ≤ n) && decide (n ≤ 1000000000))) := by simp [Hid, isC, btw, Bool.decide_and]
  generalize isC n = F at H ⊢
  cases h1 : decide (0 ≤ n)
  · go_enter Try.func21, Try.ntmps21
    go_wp2
    go_ret
    exact ⟨by rw [H.out, h1]; rfl, rfl⟩
  · go_enter Try.func21, Try.ntmps21
    go_wp2
    refine bodyPost_ret (v := .bool (decide (n ≤ 1000000000))) (by simp [results, Try.results21, go_sem]) rfl ⟨by rw [H.out, h1]; rfl, rfl⟩
theorem isKeyText_any (s : ByteArray) (w : World) : Calls Try.prog 64 #[.string s] w fun e w' => e = .returned (.bool (kT s)) ∧ w' = w := by
  have H : Hid (kT s = (decide (1 ≤ (s.size : Int)) && decide ((s.size : Int) ≤ 140))) := by simp [Hid, kT, btw, Bool.decide_and]
  generalize kT s = F at H ⊢
  cases h1 : decide (1 ≤ (s.size : Int))
  · go_enter Try.func64, Try.ntmps64
    go_wp2
    go_ret
    exact ⟨by rw [H.out, h1]; rfl, rfl⟩
  · go_enter Try.func64, Try.ntmps64
    go_wp2
    refine bodyPost_ret (v := .bool (decide ((s.size : Int) ≤ 140))) (by simp [results, Try.results64, go_sem]) rfl ⟨by rw [H.out, h1]; rfl, rfl⟩

set_option maxHeartbeats 1600000 in
theorem l9Meta_any (x : Met) (w : World) : Calls Try.prog 43 #[.agg #[.int .i64 x.file, .string x.least, .string x.most, .int .i64 x.many]] w fun e w' => e = .returned (.bool (gm x)) ∧ Below w.heap.size w w' := by
  have hB := fun o => below_new w o
  have H : Hid (gm x = (fN x.file && kT x.least && kT x.most && leS x.least x.most && btw 1 x.many 100)) := rfl
  generalize gm x = G at H ⊢
  have hk1 : btw 1 (x.least.size : Int) 140 = kT x.least := rfl
  have hk2 : btw 1 (x.most.size : Int) 140 = kT x.most := rfl
  have hl : Hid (leS x.least x.most = (Op.bytesLess x.least.toList x.most.toList || x.least.toList == x.most.toList)) := rfl
  generalize leS x.least x.most = LS at H hl
  go_enter Try.func43, Try.ntmps43
  go_wp2_with fail
  refine (l9File_any x.file _).mono ?_
  rintro e w1 ⟨rfl, rfl⟩
  cases h1 : fN x.file
  · go_wp2
    go_ret
    exact ⟨by rw [H.out, h1]; simp, hB _⟩
  go_wp2_with fail
  refine (l1In_any x.least.size 1 140 _).mono ?_
  rintro e w1 ⟨rfl, rfl⟩
  rw [hk1]
  cases h2 : kT x.least
  · go_wp2
    go_ret
    exact ⟨by rw [H.out, h1, h2]; simp, hB _⟩
  go_wp2_with fail
  refine (l1In_any x.most.size 1 140 _).mono ?_
  rintro e w1 ⟨rfl, rfl⟩
  rw [hk2]
  cases h3 : kT x.most
  · go_wp2
    go_ret
    exact ⟨by rw [H.out, h1, h2, h3]; simp, hB _⟩
  cases h4 : (Op.bytesLess x.least.toList x.most.toList || x.least.toList == x.most.toList)
  · have h5 := h4
    simp only [Bool.or_eq_false_iff] at h5
    obtain ⟨h6, h7⟩ := h5
    rw [h4] at hl
    clear h4
    go_wp2
    go_ret
    exact ⟨by rw [H.out, h1, h2, h3, hl.out]; simp, hB _⟩
  rw [h4] at hl
  have hx : (Op.bytesLess x.least.toList x.most.toList = true) ∨ (Op.bytesLess x.least.toList x.most.toList = false ∧ (x.least.toList == x.most.toList) = true) := by
    cases h : Op.bytesLess x.least.toList x.most.toList
    · rw [h] at h4; exact .inr ⟨rfl, by simpa using h4⟩
    · exact .inl rfl
  clear h4
  rcases hx with h5 | ⟨h5, h6⟩
  · go_wp2_with fail
    refine (l1In_any x.many 1 100 _).mono ?_
    rintro e w1 ⟨rfl, rfl⟩
    go_wp2
    refine bodyPost_ret (v := .bool (btw 1 x.many 100)) (by simp [results, Try.results43, go_sem]) rfl ⟨by rw [H.out, h1, h2, h3, hl.out]; simp, hB _⟩
  · go_wp2_with fail
    refine (l1In_any x.many 1 100 _).mono ?_
    rintro e w1 ⟨rfl, rfl⟩
    go_wp2
    refine bodyPost_ret (v := .bool (btw 1 x.many 100)) (by simp [results, Try.results43, go_sem]) rfl ⟨by rw [H.out, h1, h2, h3, hl.out]; simp, hB _⟩

set_option maxHeartbeats 1600000 in
theorem goodMeta_any (x : Met) (w : World) : Calls Try.prog 56 #[.agg #[.int .i64 x.file, .string x.least, .string x.most, .int .i64 x.many]] w fun e w' => e = .returned (.bool (gm x)) ∧ Below w.heap.size w w' := by
  have hB := fun o => below_new w o
  have H : Hid (gm x = (fN x.file && kT x.least && kT x.most && leS x.least x.most && (decide (1 ≤ x.many) && decide (x.many ≤ 100)))) := by simp [Hid, gm, btw, Bool.decide_and]
  generalize gm x = G at H ⊢
  have hl : Hid (leS x.least x.most = (Op.bytesLess x.least.toList x.most.toList || x.least.toList == x.most.toList)) := rfl
  generalize leS x.least x.most = LS at H hl
  go_enter Try.func56, Try.ntmps56
  go_wp2_with fail
  refine (isFileNumber_any x.file _).mono ?_
  rintro e w1 ⟨rfl, rfl⟩
  cases h1 : fN x.file
  · go_wp2
    go_ret
    exact ⟨by rw [H.out, h1]; simp, hB _⟩
  go_wp2_with fail
  refine (isKeyText_any x.least _).mono ?_
  rintro e w1 ⟨rfl, rfl⟩
  cases h2 : kT x.least
  · go_wp2
    go_ret
    exact ⟨by rw [H.out, h1, h2]; simp, hB _⟩
  go_wp2_with fail
  refine (isKeyText_any x.most _).mono ?_
  rintro e w1 ⟨rfl, rfl⟩
  cases h3 : kT x.most
  · go_wp2
    go_ret
    exact ⟨by rw [H.out, h1, h2, h3]; simp, hB _⟩
  cases h4 : (Op.bytesLess x.least.toList x.most.toList || x.least.toList == x.most.toList)
  · have h5 := h4
    simp only [Bool.or_eq_false_iff] at h5
    obtain ⟨h6, h7⟩ := h5
    rw [h4] at hl
    clear h4
    go_wp2
    go_ret
    exact ⟨by rw [H.out, h1, h2, h3, hl.out]; simp, hB _⟩
  rw [h4] at hl
  have hx : (Op.bytesLess x.least.toList x.most.toList = true) ∨ (Op.bytesLess x.least.toList x.most.toList = false ∧ (x.least.toList == x.most.toList) = true) := by
    cases h : Op.bytesLess x.least.toList x.most.toList
    · rw [h] at h4; exact .inr ⟨rfl, by simpa using h4⟩
    · exact .inl rfl
  clear h4
  cases h8 : decide (1 ≤ x.many)
  · rcases hx with h5 | ⟨h5, h6⟩
    · go_wp2
      go_ret
      exact ⟨by rw [H.out, h8]; simp, hB _⟩
    · go_wp2
      go_ret
      exact ⟨by rw [H.out, h8]; simp, hB _⟩
  rcases hx with h5 | ⟨h5, h6⟩
  · go_wp2
    refine bodyPost_ret (v := .bool (decide (x.many ≤ 100))) (by simp [results, Try.results56, go_sem]) rfl ⟨by rw [H.out, h1, h2, h3, hl.out, h8]; simp, hB _⟩
  · go_wp2
    refine bodyPost_ret (v := .bool (decide (x.many ≤ 100))) (by simp [results, Try.results56, go_sem]) rfl ⟨by rw [H.out, h1, h2, h3, hl.out, h8]; simp, hB _⟩
end Go.Proofs.Ytagkhohglpjjlaa
namespace Go.Proofs.Ytagkhohglpjjlaa
open Go.Shelf
def sortInts_ren : Go.Shelf.Ren := ⟨fun | 189 => 67 | 125 => 73 | 257 => 72 | 128 => 83 | 129 => 84 | 294 => 74 | 295 => 75 | 296 => 76 | 297 => 77 | 298 => 78 | 299 => 79 | 216 => 80 | 300 => 81 | 301 => 82 | 328 => 85 | 329 => 86 | 330 => 87 | 331 => 88 | 332 => 89 | 215 => 90 | 343 => 91 | n => n, fun | 28 => 26 | 3 => 3 | 46 => 99 | 0 => 0 | 51 => 117 | 53 => 41 | 4 => 4 | 183 => 109 | 182 => 108 | 131 => 114 | 5 => 5 | 9 => 9 | 218 => 119 | 222 => 123 | 228 => 125 | 229 => 126 | n => n, fun | n => n⟩
theorem sortInts : Go.Proofs.Lays.n189 Try.prog sortInts_ren := {
  mixed := by kernel_rfl
  f125 := Try.func73.trans (congrArg some (by kernel_rfl))
  f128 := Try.func83.trans (congrArg some (by kernel_rfl))
  f129 := Try.func84.trans (congrArg some (by kernel_rfl))
  f189 := Try.func67.trans (congrArg some (by kernel_rfl))
  f215 := Try.func90.trans (congrArg some (by kernel_rfl))
  f216 := Try.func80.trans (congrArg some (by kernel_rfl))
  f257 := Try.func72.trans (congrArg some (by kernel_rfl))
  f294 := Try.func74.trans (congrArg some (by kernel_rfl))
  f295 := Try.func75.trans (congrArg some (by kernel_rfl))
  f296 := Try.func76.trans (congrArg some (by kernel_rfl))
  f297 := Try.func77.trans (congrArg some (by kernel_rfl))
  f298 := Try.func78.trans (congrArg some (by kernel_rfl))
  f299 := Try.func79.trans (congrArg some (by kernel_rfl))
  f300 := Try.func81.trans (congrArg some (by kernel_rfl))
  f301 := Try.func82.trans (congrArg some (by kernel_rfl))
  f328 := Try.func85.trans (congrArg some (by kernel_rfl))
  f329 := Try.func86.trans (congrArg some (by kernel_rfl))
  f330 := Try.func87.trans (congrArg some (by kernel_rfl))
  f331 := Try.func88.trans (congrArg some (by kernel_rfl))
  f332 := Try.func89.trans (congrArg some (by kernel_rfl))
  f343 := Try.func91.trans (congrArg some (by kernel_rfl))
  t0 := Try.underlying0
  a0 := Try.isAgg0
  z0 := Try.sizeOf0
  v0 := Try.zeroValue0
  t3 := Try.underlying3
  a3 := Try.isAgg3
  z3 := Try.sizeOf3
  v3 := Try.zeroValue3
  t4 := Try.underlying4
  a4 := Try.isAgg4
  z4 := Try.sizeOf4
  v4 := Try.zeroValue4
  t5 := Try.underlying5
  a5 := Try.isAgg5
  z5 := Try.sizeOf5
  v5 := Try.zeroValue5
  t9 := Try.underlying9
  a9 := Try.isAgg9
  z9 := Try.sizeOf9
  v9 := Try.zeroValue9
  t28 := Try.underlying26
  a28 := Try.isAgg26
  z28 := Try.sizeOf26
  v28 := Try.zeroValue26
  t46 := Try.underlying99
  a46 := Try.isAgg99
  z46 := Try.sizeOf99
  v46 := Try.zeroValue99
  t51 := Try.underlying117
  a51 := Try.isAgg117
  z51 := Try.sizeOf117
  v51 := Try.zeroValue117
  t53 := Try.underlying41
  a53 := Try.isAgg41
  z53 := Try.sizeOf41
  v53 := Try.zeroValue41
  t131 := Try.underlying114
  a131 := Try.isAgg114
  z131 := Try.sizeOf114
  v131 := Try.zeroValue114
  t182 := Try.underlying108
  a182 := Try.isAgg108
  z182 := Try.sizeOf108
  v182 := Try.zeroValue108
  t183 := Try.underlying109
  a183 := Try.isAgg109
  z183 := Try.sizeOf109
  v183 := Try.zeroValue109
  t218 := Try.underlying119
  a218 := Try.isAgg119
  z218 := Try.sizeOf119
  v218 := Try.zeroValue119
  t222 := Try.underlying123
  a222 := Try.isAgg123
  z222 := Try.sizeOf123
  v222 := Try.zeroValue123
  t228 := Try.underlying125
  a228 := Try.isAgg125
  z228 := Try.sizeOf125
  v228 := Try.zeroValue125
  t229 := Try.underlying126
  a229 := Try.isAgg126
  z229 := Try.sizeOf126
  v229 := Try.zeroValue126 }
def compInts_ren : Go.Shelf.Ren := ⟨fun | 20 => 61 | n => n, fun | 22 => 26 | 3 => 3 | 4 => 4 | 0 => 0 | n => n, fun | n => n⟩
theorem compInts : Go.Proofs.Lays2.n20 Try.prog compInts_ren := {
  mixed := by kernel_rfl
  f20 := Try.func61.trans (congrArg some (by kernel_rfl))
  t0 := Try.underlying0
  a0 := Try.isAgg0
  z0 := Try.sizeOf0
  v0 := Try.zeroValue0
  t3 := Try.underlying3
  a3 := Try.isAgg3
  z3 := Try.sizeOf3
  v3 := Try.zeroValue3
  t4 := Try.underlying4
  a4 := Try.isAgg4
  z4 := Try.sizeOf4
  v4 := Try.zeroValue4
  t22 := Try.underlying26
  a22 := Try.isAgg26
  z22 := Try.sizeOf26
  v22 := Try.zeroValue26
  i3 := by kernel_rfl }
end Go.Proofs.Ytagkhohglpjjlaa
