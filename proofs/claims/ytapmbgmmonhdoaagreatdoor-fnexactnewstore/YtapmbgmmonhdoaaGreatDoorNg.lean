/- The names of an empty store; its files are tidied. -/
import Derived.Test.YtapmbgmmonhdoaaGreatDoorNd
import Derived.Deep.RegionHeld3
namespace Go.Proofs.YtapmbgmmonhdoaaGreatDoor
set_option maxRecDepth 100000
open Go.RowKit
open Go.ChangeMaps (setBlock)
set_option linter.unusedSimpArgs false
set_option linter.unusedVariables false

set_option maxHeartbeats 1000000 in
theorem files_no (nx lg sq : Int) (g : Nat) (w : World) (hV : VRow w (some ⟨g, 0, none⟩) 3 noR noM) :
    Calls Tryz.prog 107 #[.agg #[.int .i64 nx, .int .i64 lg, .int .i64 sq, .slice (some ⟨g, 0, none⟩) 3 3]] w fun e w' => e = .returned (.slice none 0 0) ∧ Below w.heap.size w w' := by
  have hB := below_new w (.cells #[.int .i64 nx, .int .i64 lg, .int .i64 sq, .slice (some ⟨g, 0, none⟩) 3 3] 27)
  have hV0 := hV.keep hB
  go_enter Tryz.func107, Tryz.ntmps107
  go_wp2
  obtain ⟨b, off, hg, hblt, hc⟩ := hV0.lies.resolve_left (by omega)
  injection hg with hg
  injection hg with hg1 hg2 _
  subst hg1 hg2
  generalize w.alloc (.cells #[.int .i64 nx, .int .i64 lg, .int .i64 sq, .slice (some ⟨g, 0, none⟩) 3 3] 27) = w1 at *
  go_loopw [3, 11] (fun l i wr => ∃ k : Nat, k ≤ 3 ∧ l = .slice none 0 0 ∧ i = .int .i64 k ∧ Below w1.heap.size w1 wr) (fun _ i _ => 3 - (intOf i).toNat)
  case atStart => exact ⟨0, Nat.zero_le _, rfl, rfl, Below.refl _ _⟩
  case round =>
    obtain ⟨k, hk, rfl, rfl, hbk⟩ := hrel
    by_cases hlt : k < 3
    · obtain ⟨da, dc, h0, _⟩ := hc k hlt
      have h1 : wr.cell? ⟨g, 0 + k, none⟩ = some (.slice da 0 dc) := (hbk.cell (p := ⟨g, 0 + k, none⟩) hblt).trans h0
      simp only [Nat.zero_add] at h1
      clear hc h0
      go_wp2
      refine wp_loop_rounds 1 ?_
      rw [rounds_succ]
      go_wp2
      go_roundw
      case rel => exact ⟨k + 1, by omega, rfl, by go_num, hbk⟩
      case measure => simp [intOf]; omega
    · obtain rfl : k = 3 := by omega
      have hbw := hB.trans (hbk.mono hB.size)
      clear hc
      go_wp2
      go_ret
      exact ⟨rfl, hbw⟩

/-- One text in a block of its own. -/
def NmO (s : ByteArray) (w : World) (e : Ending) (w' : World) : Prop :=
  ∃ nb, e = .returned (.slice (some ⟨nb, 0, none⟩) 1 1) ∧ w.heap.size ≤ nb ∧ nb < w'.heap.size ∧ w'.cell? ⟨nb, 0, none⟩ = some (.string s) ∧ Below w.heap.size w w'
set_option maxHeartbeats 1000000 in
theorem namesOf_no (g : Nat) (w : World) (hV : VRow w (some ⟨g, 0, none⟩) 3 noR noM) :
    Calls Tryz.prog 65 #[.agg #[.int .i64 2, .int .i64 1, .int .i64 0, .slice (some ⟨g, 0, none⟩) 3 3]] w fun e w' => NmO sLog w e w' := by
  have hB := below_new w (.cells #[.int .i64 2, .int .i64 1, .int .i64 0, .slice (some ⟨g, 0, none⟩) 3 3] 27)
  have Y0 := VX.new w 2 1 0 (some ⟨g, 0, none⟩) 3 3 27
  have hV0 := hV.keep hB
  go_enter Tryz.func65, Tryz.ntmps65
  go_wp2_with fail
  generalize w.alloc (.cells #[.int .i64 2, .int .i64 1, .int .i64 0, .slice (some ⟨g, 0, none⟩) 3 3] 27) = w1 at *
  refine (logName_one _).mono ?_
  rintro e w' ⟨rfl, rfl⟩
  have hA : Below w'.heap.size w' (w'.alloc (.cells #[.string sLog] 9)) := (Below.refl _ _).alloc (Nat.le_refl _) _
  have hc0 : (w'.alloc (.cells #[.string sLog] 9)).cell? ⟨w'.heap.size, 0, none⟩ = some (.string sLog) := by simp [go_sem]
  obtain ⟨ly, y0, y1, y2, y3⟩ := Y0.keep hA
  have hV1 := hV0.keep hA
  have hbA := hB.trans (hA.mono hB.size)
  have hlt : w'.heap.size < (w'.alloc (.cells #[.string sLog] 9)).heap.size := by simp
  have hle := hB.size
  clear hA Y0 hV0 hV hB
  go_wp2_with fail
  refine (files_no 2 1 0 g _ hV1).mono ?_
  rintro e w2 ⟨rfl, hb2⟩
  have hc2 := (hb2.cell (p := ⟨w'.heap.size, 0, none⟩) hlt).trans hc0
  have hbw := hbA.trans (hb2.mono hbA.size)
  have hl2 := Nat.lt_of_lt_of_le hlt hb2.size
  clear hb2 hc0 hbA
  go_wp2
  refine wp_loop_rounds 1 ?_
  rw [rounds_succ]
  go_wp2
  go_ret
  exact ⟨_, rfl, hle, hl2, hc2, hbw⟩

/-- A text begins with another. -/
def preS (p s : ByteArray) : Bool := decide (p.size ≤ s.size) && ((s.extract 0 p.size).toList == p.toList)
set_option maxHeartbeats 1000000 in
theorem slHasPrefix_any (s p : ByteArray) (w : World) (hs : s.size ≤ 4611686018427387904) (hp : p.size ≤ 4611686018427387904) :
    Calls Tryz.prog 158 #[.string s, .string p] w fun e w' => e = .returned (.bool (preS p s)) ∧ w' = w := by
  by_cases h : p.size ≤ s.size
  · go_enter Tryz.func158, Tryz.ntmps158
    go_wp2
    exact bodyPost_ret (v := .bool ((s.extract 0 p.size).toList == p.toList)) (by simp [results, Tryz.results158, go_sem]) rfl ⟨by simp [preS, h], rfl⟩
  · go_enter Tryz.func158, Tryz.ntmps158
    go_wp2
    exact bodyPost_ret (v := .bool false) (by simp [results, Tryz.results158, go_sem]) rfl ⟨by simp [preS, h], rfl⟩
theorem hasPrefix_any (s p : ByteArray) (w : World) (hs : s.size ≤ 4611686018427387904) (hp : p.size ≤ 4611686018427387904) :
    Calls Tryz.prog 110 #[.string s, .string p] w fun e w' => e = .returned (.bool (preS p s)) ∧ w' = w := by
  generalize hr : preS p s = r
  have hc := slHasPrefix_any s p w hs hp
  rw [hr] at hc
  clear hr
  go_enter Tryz.func110, Tryz.ntmps110
  go_wp2_with fail
  refine hc.mono ?_
  rintro e w' ⟨rfl, rfl⟩
  go_wp2
  exact bodyPost_ret (v := .bool r) (by simp [results, Tryz.results110, go_sem]) rfl ⟨rfl, rfl⟩
/-- A name of the store's own. -/
def stN (s : ByteArray) : Bool := preS ⟨#[108, 111, 103, 45]⟩ s || preS ⟨#[116, 97, 98, 108, 101, 45]⟩ s
set_option maxHeartbeats 1000000 in
theorem isStoreName_any (s : ByteArray) (w : World) (hs : s.size ≤ 4611686018427387904) :
    Calls Tryz.prog 67 #[.string s] w fun e w' => e = .returned (.bool (stN s)) ∧ w' = w := by
  have h1 := fun w => hasPrefix_any s ⟨#[108, 111, 103, 45]⟩ w hs (by decide)
  have h2 := fun w => hasPrefix_any s ⟨#[116, 97, 98, 108, 101, 45]⟩ w hs (by decide)
  unfold stN
  generalize preS ⟨#[108, 111, 103, 45]⟩ s = r1 at *
  generalize preS ⟨#[116, 97, 98, 108, 101, 45]⟩ s = r2 at *
  cases r1
  · go_enter Tryz.func67, Tryz.ntmps67
    go_wp2_with fail
    refine (h1 _).mono ?_
    rintro e w' ⟨rfl, rfl⟩
    go_wp2_with fail
    refine (h2 _).mono ?_
    rintro e w' ⟨rfl, rfl⟩
    go_wp2
    exact bodyPost_ret (v := .bool r2) (by simp [results, Tryz.results67, go_sem]) rfl ⟨by simp, rfl⟩
  · go_enter Tryz.func67, Tryz.ntmps67
    go_wp2_with fail
    refine (h1 _).mono ?_
    rintro e w' ⟨rfl, rfl⟩
    go_wp2
    exact bodyPost_ret (v := .bool true) (by simp [results, Tryz.results67, go_sem]) rfl ⟨by simp, rfl⟩

set_option maxHeartbeats 1000000 in
theorem containsS_one (s : ByteArray) (nb : Nat) (w : World) (hc : w.cell? ⟨nb, 0, none⟩ = some (.string s)) :
    Calls Tryz.prog 68 #[.slice (some ⟨nb, 0, none⟩) 1 1, .string s] w fun e w' => e = .returned (.bool true) ∧ w' = w := by
  have hI : Calls Tryz.prog 111 #[.slice (some ⟨nb, 0, none⟩) 1 1, .string s] w fun e w' => e = .returned (.int .i64 0) ∧ w' = w := by
    go_enter Tryz.func111, Tryz.ntmps111
    go_wp2
    refine wp_loop_rounds 1 ?_
    rw [rounds_succ]
    go_wp2
    go_ret
    exact ⟨rfl, rfl⟩
  go_enter Tryz.func68, Tryz.ntmps68
  go_wp2_with fail
  refine hI.mono ?_
  rintro e w' ⟨rfl, rfl⟩
  go_wp2
  go_ret
  exact ⟨rfl, rfl⟩
end Go.Proofs.YtapmbgmmonhdoaaGreatDoor
