/- Metas and versions that are good, in both texts. / slices.Sort and slices.Compact over ints, found again at this program (numbers of the seat Ytofdhgffnkhdfaa). -/
import Derived.Test.YtofdhgffnkhdfaaVr
import Derived.Deep.RegionHeld3
import Derived.Shelf.Sort.Plain
import Derived.Shelf.Slices.CompactI
import Derived.Shelf.Slices.In.SortNone
import Derived.Test.YtofdhgffnkhdfaaProg
namespace Go.Proofs.Ytofdhgffnkhdfaa
open Go.RowKit
set_option linter.unusedSimpArgs false
set_option linter.unusedVariables false

/-- At most, by bytes. -/
def leS (a b : ByteArray) : Bool := Op.bytesLess a.toList b.toList || a.toList == b.toList
/-- A file's number. -/
def fN (n : Int) : Bool := btw 1 n 100000
/-- A key's text. -/
def kT (s : ByteArray) : Bool := btw 1 s.size 140
/-- A good meta. -/
def gm (x : Met) : Bool := fN x.file && kT x.least && kT x.most && leS x.least x.most && btw 1 x.many 100

theorem l9File_any (n : Int) (w : World) : Calls Try.prog 59 #[.int .i64 n] w fun e w' => e = .returned (.bool (fN n)) ∧ w' = w := by
  go_enter Try.func59, Try.ntmps59
  go_wp2_with fail
  refine (l1In_any n 1 100000 _).mono ?_
  rintro e w1 ⟨rfl, rfl⟩
  go_wp2
  go_ret
  exact ⟨rfl, rfl⟩
theorem isFileNumber_any (n : Int) (w : World) : Calls Try.prog 46 #[.int .i64 n] w fun e w' => e = .returned (.bool (fN n)) ∧ w' = w := by
  have H : Hid (fN n = (decide (1 ≤ n) && decide (n ≤ 100000))) := by simp [Hid, fN, btw, Bool.decide_and]
  generalize fN n = F at H ⊢
  cases h1 : decide (1 ≤ n)
  · go_enter Try.func46, Try.ntmps46
    go_wp2
    go_ret
    exact ⟨by rw [H.out, h1]; rfl, rfl⟩
  · go_enter Try.func46, Try.ntmps46
    go_wp2
    refine bodyPost_ret (v := .bool (decide (n ≤ 100000))) (by simp [results, Try.results46, go_sem]) rfl ⟨by rw [H.out, h1]; rfl, rfl⟩
theorem isLastSeq_any (n : Int) (w : World) : Calls Try.prog 47 #[.int .i64 n] w fun e w' => e = .returned (.bool (isC n)) ∧ w' = w := by
  have H : Hid (isC n = (decide (0 ≤ n) && decide (n ≤ 1000000000))) := by simp [Hid, isC, btw, Bool.decide_and]
  generalize isC n = F at H ⊢
  cases h1 : decide (0 ≤ n)
  · go_enter Try.func47, Try.ntmps47
    go_wp2
    go_ret
    exact ⟨by rw [H.out, h1]; rfl, rfl⟩
  · go_enter Try.func47, Try.ntmps47
    go_wp2
    refine bodyPost_ret (v := .bool (decide (n ≤ 1000000000))) (by simp [results, Try.results47, go_sem]) rfl ⟨by rw [H.out, h1]; rfl, rfl⟩
theorem isKeyText_any (s : ByteArray) (w : World) : Calls Try.prog 73 #[.string s] w fun e w' => e = .returned (.bool (kT s)) ∧ w' = w := by
  have H : Hid (kT s = (decide (1 ≤ (s.size : Int)) && decide ((s.size : Int) ≤ 140))) := by simp [Hid, kT, btw, Bool.decide_and]
  generalize kT s = F at H ⊢
  cases h1 : decide (1 ≤ (s.size : Int))
  · go_enter Try.func73, Try.ntmps73
    go_wp2
    go_ret
    exact ⟨by rw [H.out, h1]; rfl, rfl⟩
  · go_enter Try.func73, Try.ntmps73
    go_wp2
    refine bodyPost_ret (v := .bool (decide ((s.size : Int) ≤ 140))) (by simp [results, Try.results73, go_sem]) rfl ⟨by rw [H.out, h1]; rfl, rfl⟩

set_option maxHeartbeats 1600000 in
theorem l9Meta_any (x : Met) (w : World) : Calls Try.prog 61 #[.agg #[.int .i64 x.file, .string x.least, .string x.most, .int .i64 x.many]] w fun e w' => e = .returned (.bool (gm x)) ∧ Below w.heap.size w w' := by
  have hB := fun o => below_new w o
  have H : Hid (gm x = (fN x.file && kT x.least && kT x.most && leS x.least x.most && btw 1 x.many 100)) := rfl
  generalize gm x = G at H ⊢
  have hk1 : btw 1 (x.least.size : Int) 140 = kT x.least := rfl
  have hk2 : btw 1 (x.most.size : Int) 140 = kT x.most := rfl
  have hl : Hid (leS x.least x.most = (Op.bytesLess x.least.toList x.most.toList || x.least.toList == x.most.toList)) := rfl
  generalize leS x.least x.most = LS at H hl
  go_enter Try.func61, Try.ntmps61
  go_wp2_with fail
  refine (l9File_any x.file _).mono ?_
  rintro e w1 ⟨rfl, rfl⟩
  cases h1 : fN x.file
  · go_wp2
    go_ret
    exact ⟨by rw [H.out, h1]; simp, hB _⟩
  go_wp2_with fail
  refine (l1In_any x.least.size 1 140 _).mono ?_
  rintro e w1 ⟨rfl, rfl⟩
  rw [hk1]
  cases h2 : kT x.least
  · go_wp2
    go_ret
    exact ⟨by rw [H.out, h1, h2]; simp, hB _⟩
  go_wp2_with fail
  refine (l1In_any x.most.size 1 140 _).mono ?_
  rintro e w1 ⟨rfl, rfl⟩
  rw [hk2]
  cases h3 : kT x.most
  · go_wp2
    go_ret
    exact ⟨by rw [H.out, h1, h2, h3]; simp, hB _⟩
  cases h4 : (Op.bytesLess x.least.toList x.most.toList || x.least.toList == x.most.toList)
  · have h5 := h4
    simp only [Bool.or_eq_false_iff] at h5
    obtain ⟨h6, h7⟩ := h5
    rw [h4] at hl
    clear h4
    go_wp2
    go_ret
    exact ⟨by rw [H.out, h1, h2, h3, hl.out]; simp, hB _⟩
  rw [h4] at hl
  have hx : (Op.bytesLess x.least.toList x.most.toList = true) ∨ (Op.bytesLess x.least.toList x.most.toList = false ∧ (x.least.toList == x.most.toList) = true) := by
    cases h : Op.bytesLess x.least.toList x.most.toList
    · rw [h] at h4; exact .inr ⟨rfl, by simpa using h4⟩
    · exact .inl rfl
  clear h4
  rcases hx with h5 | ⟨h5, h6⟩
  · go_wp2_with fail
    refine (l1In_any x.many 1 100 _).mono ?_
    rintro e w1 ⟨rfl, rfl⟩
    go_wp2
    refine bodyPost_ret (v := .bool (btw 1 x.many 100)) (by simp [results, Try.results61, go_sem]) rfl ⟨by rw [H.out, h1, h2, h3, hl.out]; simp, hB _⟩
  · go_wp2_with fail
    refine (l1In_any x.many 1 100 _).mono ?_
    rintro e w1 ⟨rfl, rfl⟩
    go_wp2
    refine bodyPost_ret (v := .bool (btw 1 x.many 100)) (by simp [results, Try.results61, go_sem]) rfl ⟨by rw [H.out, h1, h2, h3, hl.out]; simp, hB _⟩

set_option maxHeartbeats 1600000 in
theorem goodMeta_any (x : Met) (w : World) : Calls Try.prog 67 #[.agg #[.int .i64 x.file, .string x.least, .string x.most, .int .i64 x.many]] w fun e w' => e = .returned (.bool (gm x)) ∧ Below w.heap.size w w' := by
  have hB := fun o => below_new w o
  have H : Hid (gm x = (fN x.file && kT x.least && kT x.most && leS x.least x.most && (decide (1 ≤ x.many) && decide (x.many ≤ 100)))) := by simp [Hid, gm, btw, Bool.decide_and]
  generalize gm x = G at H ⊢
  have hl : Hid (leS x.least x.most = (Op.bytesLess x.least.toList x.most.toList || x.least.toList == x.most.toList)) := rfl
  generalize leS x.least x.most = LS at H hl
  go_enter Try.func67, Try.ntmps67
  go_wp2_with fail
  refine (isFileNumber_any x.file _).mono ?_
  rintro e w1 ⟨rfl, rfl⟩
  cases h1 : fN x.file
  · go_wp2
    go_ret
    exact ⟨by rw [H.out, h1]; simp, hB _⟩
  go_wp2_with fail
  refine (isKeyText_any x.least _).mono ?_
  rintro e w1 ⟨rfl, rfl⟩
  cases h2 : kT x.least
  · go_wp2
    go_ret
    exact ⟨by rw [H.out, h1, h2]; simp, hB _⟩
  go_wp2_with fail
  refine (isKeyText_any x.most _).mono ?_
  rintro e w1 ⟨rfl, rfl⟩
  cases h3 : kT x.most
  · go_wp2
    go_ret
    exact ⟨by rw [H.out, h1, h2, h3]; simp, hB _⟩
  cases h4 : (Op.bytesLess x.least.toList x.most.toList || x.least.toList == x.most.toList)
  · have h5 := h4
    simp only [Bool.or_eq_false_iff] at h5
    obtain ⟨h6, h7⟩ := h5
    rw [h4] at hl
    clear h4
    go_wp2
    go_ret
    exact ⟨by rw [H.out, h1, h2, h3, hl.out]; simp, hB _⟩
  rw [h4] at hl
  have hx : (Op.bytesLess x.least.toList x.most.toList = true) ∨ (Op.bytesLess x.least.toList x.most.toList = false ∧ (x.least.toList == x.most.toList) = true) := by
    cases h : Op.bytesLess x.least.toList x.most.toList
    · rw [h] at h4; exact .inr ⟨rfl, by simpa using h4⟩
    · exact .inl rfl
  clear h4
  cases h8 : decide (1 ≤ x.many)
  · rcases hx with h5 | ⟨h5, h6⟩
    · go_wp2
      go_ret
      exact ⟨by rw [H.out, h8]; simp, hB _⟩
    · go_wp2
      go_ret
      exact ⟨by rw [H.out, h8]; simp, hB _⟩
  rcases hx with h5 | ⟨h5, h6⟩
  · go_wp2
    refine bodyPost_ret (v := .bool (decide (x.many ≤ 100))) (by simp [results, Try.results67, go_sem]) rfl ⟨by rw [H.out, h1, h2, h3, hl.out, h8]; simp, hB _⟩
  · go_wp2
    refine bodyPost_ret (v := .bool (decide (x.many ≤ 100))) (by simp [results, Try.results67, go_sem]) rfl ⟨by rw [H.out, h1, h2, h3, hl.out, h8]; simp, hB _⟩
end Go.Proofs.Ytofdhgffnkhdfaa
namespace Go.Proofs.Ytofdhgffnkhdfaa
open Go.Shelf
def sortInts_ren : Go.Shelf.Ren := ⟨fun | 189 => 76 | 125 => 81 | 257 => 80 | 128 => 91 | 129 => 92 | 294 => 82 | 295 => 83 | 296 => 84 | 297 => 85 | 298 => 86 | 299 => 87 | 216 => 88 | 300 => 89 | 301 => 90 | 328 => 93 | 329 => 94 | 330 => 95 | 331 => 96 | 332 => 97 | 215 => 98 | 343 => 99 | n => n, fun | 28 => 37 | 3 => 3 | 46 => 109 | 0 => 0 | 51 => 120 | 53 => 122 | 4 => 4 | 183 => 112 | 182 => 111 | 131 => 117 | 5 => 5 | 9 => 9 | 218 => 123 | 222 => 127 | 228 => 129 | 229 => 130 | n => n, fun | n => n⟩
theorem sortInts : Go.Proofs.Lays.n189 Try.prog sortInts_ren := {
  mixed := by kernel_rfl
  f125 := Try.func81.trans (congrArg some (by kernel_rfl))
  f128 := Try.func91.trans (congrArg some (by kernel_rfl))
  f129 := Try.func92.trans (congrArg some (by kernel_rfl))
  f189 := Try.func76.trans (congrArg some (by kernel_rfl))
  f215 := Try.func98.trans (congrArg some (by kernel_rfl))
  f216 := Try.func88.trans (congrArg some (by kernel_rfl))
  f257 := Try.func80.trans (congrArg some (by kernel_rfl))
  f294 := Try.func82.trans (congrArg some (by kernel_rfl))
  f295 := Try.func83.trans (congrArg some (by kernel_rfl))
  f296 := Try.func84.trans (congrArg some (by kernel_rfl))
  f297 := Try.func85.trans (congrArg some (by kernel_rfl))
  f298 := Try.func86.trans (congrArg some (by kernel_rfl))
  f299 := Try.func87.trans (congrArg some (by kernel_rfl))
  f300 := Try.func89.trans (congrArg some (by kernel_rfl))
  f301 := Try.func90.trans (congrArg some (by kernel_rfl))
  f328 := Try.func93.trans (congrArg some (by kernel_rfl))
  f329 := Try.func94.trans (congrArg some (by kernel_rfl))
  f330 := Try.func95.trans (congrArg some (by kernel_rfl))
  f331 := Try.func96.trans (congrArg some (by kernel_rfl))
  f332 := Try.func97.trans (congrArg some (by kernel_rfl))
  f343 := Try.func99.trans (congrArg some (by kernel_rfl))
  t0 := Try.underlying0
  a0 := Try.isAgg0
  z0 := Try.sizeOf0
  v0 := Try.zeroValue0
  t3 := Try.underlying3
  a3 := Try.isAgg3
  z3 := Try.sizeOf3
  v3 := Try.zeroValue3
  t4 := Try.underlying4
  a4 := Try.isAgg4
  z4 := Try.sizeOf4
  v4 := Try.zeroValue4
  t5 := Try.underlying5
  a5 := Try.isAgg5
  z5 := Try.sizeOf5
  v5 := Try.zeroValue5
  t9 := Try.underlying9
  a9 := Try.isAgg9
  z9 := Try.sizeOf9
  v9 := Try.zeroValue9
  t28 := Try.underlying37
  a28 := Try.isAgg37
  z28 := Try.sizeOf37
  v28 := Try.zeroValue37
  t46 := Try.underlying109
  a46 := Try.isAgg109
  z46 := Try.sizeOf109
  v46 := Try.zeroValue109
  t51 := Try.underlying120
  a51 := Try.isAgg120
  z51 := Try.sizeOf120
  v51 := Try.zeroValue120
  t53 := Try.underlying122
  a53 := Try.isAgg122
  z53 := Try.sizeOf122
  v53 := Try.zeroValue122
  t131 := Try.underlying117
  a131 := Try.isAgg117
  z131 := Try.sizeOf117
  v131 := Try.zeroValue117
  t182 := Try.underlying111
  a182 := Try.isAgg111
  z182 := Try.sizeOf111
  v182 := Try.zeroValue111
  t183 := Try.underlying112
  a183 := Try.isAgg112
  z183 := Try.sizeOf112
  v183 := Try.zeroValue112
  t218 := Try.underlying123
  a218 := Try.isAgg123
  z218 := Try.sizeOf123
  v218 := Try.zeroValue123
  t222 := Try.underlying127
  a222 := Try.isAgg127
  z222 := Try.sizeOf127
  v222 := Try.zeroValue127
  t228 := Try.underlying129
  a228 := Try.isAgg129
  z228 := Try.sizeOf129
  v228 := Try.zeroValue129
  t229 := Try.underlying130
  a229 := Try.isAgg130
  z229 := Try.sizeOf130
  v229 := Try.zeroValue130 }
def compInts_ren : Go.Shelf.Ren := ⟨fun | 20 => 72 | n => n, fun | 22 => 37 | 3 => 3 | 4 => 4 | 0 => 0 | n => n, fun | n => n⟩
theorem compInts : Go.Proofs.Lays2.n20 Try.prog compInts_ren := {
  mixed := by kernel_rfl
  f20 := Try.func72.trans (congrArg some (by kernel_rfl))
  t0 := Try.underlying0
  a0 := Try.isAgg0
  z0 := Try.sizeOf0
  v0 := Try.zeroValue0
  t3 := Try.underlying3
  a3 := Try.isAgg3
  z3 := Try.sizeOf3
  v3 := Try.zeroValue3
  t4 := Try.underlying4
  a4 := Try.isAgg4
  z4 := Try.sizeOf4
  v4 := Try.zeroValue4
  t22 := Try.underlying37
  a22 := Try.isAgg37
  z22 := Try.sizeOf37
  v22 := Try.zeroValue37
  i3 := by kernel_rfl }
end Go.Proofs.Ytofdhgffnkhdfaa
