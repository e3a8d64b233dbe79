/- An empty store is opened: its log, its tables, its names. / An empty store is opened: its log, its tables, its names. -/
import Derived.Test.YtapmbgmmonhdoaaGreatDoorNd
import Derived.Deep.RegionHeld3
namespace Go.Proofs.YtapmbgmmonhdoaaGreatDoor
set_option maxRecDepth 100000
open Go.RowKit
open Go.ChangeMaps (setBlock)
set_option linter.unusedSimpArgs false
set_option linter.unusedVariables false

set_option maxHeartbeats 4000000 in
theorem readMem_no (Q : Int) (bm : Nat) (a0 : Option Addr) (c0 : Nat) (a1 : Option Addr) (c1 g : Nat) (w : World) (hM : MHas w bm (L2 a0 c0 a1 c1) 2) :
    Calls Tryz.prog 40 #[.agg #[.int .i64 Q, .map (some bm)], .agg #[.int .i64 2, .int .i64 1, .int .i64 0, .slice (some ⟨g, 0, none⟩) 3 3]] w fun e w' => e = .returned (.tuple #[.slice none 0 0, .bool true]) ∧ MHas w' bm (L2 a0 0 a1 c1) 2 ∧ KD w.heap.size bm w w' := by
  have hlt := hM.lt
  have hB : Below w.heap.size w ((w.alloc (.cells #[.int .i64 Q, .map (some bm)] 68)).alloc (.cells #[.int .i64 2, .int .i64 1, .int .i64 0, .slice (some ⟨g, 0, none⟩) 3 3] 27)) := ((Below.refl _ _).alloc (Nat.le_refl _) _).alloc (by simp) _
  have X0 : QAt ((w.alloc (.cells #[.int .i64 Q, .map (some bm)] 68)).alloc (.cells #[.int .i64 2, .int .i64 1, .int .i64 0, .slice (some ⟨g, 0, none⟩) 3 3] 27)) w.heap.size Q (.map (some bm)) := (QAt.new w Q (.map (some bm)) 68).keep ((Below.refl _ _).alloc (Nat.le_refl _) _)
  have Y0 := VX.new (w.alloc (.cells #[.int .i64 Q, .map (some bm)] 68)) 2 1 0 (some ⟨g, 0, none⟩) 3 3 27
  rw [World.size_alloc] at Y0
  have hM0 := (hM.keep hB).keep (Below.refl _ _).drew
  have hs0 : w.heap.size + 2 ≤ ((w.alloc (.cells #[.int .i64 Q, .map (some bm)] 68)).alloc (.cells #[.int .i64 2, .int .i64 1, .int .i64 0, .slice (some ⟨g, 0, none⟩) 3 3] 27)).drew.heap.size := by show _ ≤ ((w.alloc _).alloc _).heap.size; simp
  have hk0 : KD w.heap.size bm w ((w.alloc (.cells #[.int .i64 Q, .map (some bm)] 68)).alloc (.cells #[.int .i64 2, .int .i64 1, .int .i64 0, .slice (some ⟨g, 0, none⟩) 3 3] 27)).drew := (KD.of_below hB).drew
  go_enter Tryz.func40, Tryz.ntmps40
  go_wp2
  generalize (w.alloc (.cells #[.int .i64 Q, .map (some bm)] 68)).alloc (.cells #[.int .i64 2, .int .i64 1, .int .i64 0, .slice (some ⟨g, 0, none⟩) 3 3] 27) = w0 at *
  obtain ⟨lx, x0, x1⟩ := id X0
  obtain ⟨lv, v0, v1, v2, v3⟩ := id Y0
  have X0d := X0.keep (Below.refl _ _).drew
  have Y0d := Y0.keep (Below.refl _ _).drew
  clear X0 Y0
  go_region_held3 (fun w' => w'.cell? ⟨w.heap.size, 0, none⟩ = some (.int .i64 Q) ∧ w'.cell? ⟨w.heap.size, 1, none⟩ = some (.map (some bm)) ∧ w'.cell? ⟨w.heap.size + 1, 1, none⟩ = some (.int .i64 1)) (go_keep) (first | (go_at_call 12; refine (logName_one _).mono ?_; rintro e w' ⟨rfl, rfl⟩) | (go_at_call 54; refine (recM Q bm 2 (L2 a0 c0 a1 c1) 0 sLog a0 c0 0 0 rfl _ hM0).mono ?_; rintro e w2 ⟨rfl, hM2, hk2⟩; have X2 := qat_kd X0d hk2 (by omega) (by omega); have Y2 := vx_keep Y0d hk2 (by omega) (by omega); obtain ⟨lx2, y0, y1⟩ := id X2; obtain ⟨ly2, u0, u1, u2, u3⟩ := id Y2) | fail)
  have hM2' : MHas w2 bm (L2 a0 0 a1 c1) 2 := hM2
  have hkw : KD w.heap.size bm w w2 := hk0.trans (hk2.mono hk0.size)
  clear hM2 hk2 hk0 hM0 X0d Y0d x0 x1 v0 v1 v2 v3 hB hM
  go_wp2
  refine wp_loop_rounds 1 ?_
  rw [rounds_succ]
  go_wp2_with fail
  refine (sortE_no _).mono ?_
  rintro e w' ⟨rfl, rfl⟩
  go_wp2_with fail
  refine (goodEntries_no _ _ _).mono ?_
  rintro e w3 ⟨rfl, hb3⟩
  have Y3 := Y2.keep hb3
  obtain ⟨ly3, s0, s1, s2, s3⟩ := id Y3
  have hM3 := hM2'.keep hb3
  have hk3 := hkw.trans (KD.of_below (hb3.mono hkw.size))
  clear hb3 hkw hM2'
  go_wp2_with fail
  refine (allAbove_no _ _ _ _).mono ?_
  rintro e w4 ⟨rfl, hb4⟩
  have hM4 := hM3.keep hb4
  have hk4 := hk3.trans (KD.of_below (hb4.mono hk3.size))
  clear hb4 hk3 hM3
  go_wp2
  exact bodyPost_ret (v := .tuple #[.slice none 0 0, .bool true]) (by simp [results, Tryz.results40, go_sem]) rfl ⟨rfl, hM4, hk4⟩

end Go.Proofs.YtapmbgmmonhdoaaGreatDoor
namespace Go.Proofs.YtapmbgmmonhdoaaGreatDoor
set_option maxRecDepth 100000
open Go.RowKit
open Go.ChangeMaps (setBlock)
set_option linter.unusedSimpArgs false
set_option linter.unusedVariables false

set_option maxHeartbeats 400000 in
theorem readTables_no (Q : Int) (bm g : Nat) (w : World) (hV : VRow w (some ⟨g, 0, none⟩) 3 noR noM) :
    Calls Tryz.prog 41 #[.agg #[.int .i64 Q, .map (some bm)], .agg #[.int .i64 2, .int .i64 1, .int .i64 0, .slice (some ⟨g, 0, none⟩) 3 3]] w fun e w' => ∃ m, e = .returned (.tuple #[.map (some m), .bool true]) ∧ Below w.heap.size w w' := by
  have hmm := @run_makeMap Tryz.prog
  have hB : Below w.heap.size w (((w.alloc (.cells #[.int .i64 Q, .map (some bm)] 68)).alloc (.cells #[.int .i64 2, .int .i64 1, .int .i64 0, .slice (some ⟨g, 0, none⟩) 3 3] 27)).alloc (.map #[] 0)) := (((Below.refl _ _).alloc (Nat.le_refl _) _).alloc (by simp) _).alloc (by simp; omega) _
  have Y0 := (VX.new (w.alloc (.cells #[.int .i64 Q, .map (some bm)] 68)) 2 1 0 (some ⟨g, 0, none⟩) 3 3 27).keep ((Below.refl _ _).alloc (Nat.le_refl _) (.map #[] 0))
  rw [World.size_alloc] at Y0
  have hV0 := hV.keep hB
  go_enter Tryz.func41, Tryz.ntmps41
  go_wp2
  obtain ⟨b, off, hg, hblt, hc⟩ := hV0.lies.resolve_left (by omega)
  injection hg with hg
  injection hg with hg1 hg2 _
  subst hg1 hg2
  generalize ((w.alloc (.cells #[.int .i64 Q, .map (some bm)] 68)).alloc (.cells #[.int .i64 2, .int .i64 1, .int .i64 0, .slice (some ⟨g, 0, none⟩) 3 3] 27)).alloc (.map #[] 0) = w1 at *
  go_loopw [7, 18] (fun l i wr => ∃ k : Nat, k ≤ 3 ∧ l = .slice none 0 0 ∧ i = .int .i64 k ∧ Below w1.heap.size w1 wr) (fun _ i _ => 3 - (intOf i).toNat)
  case atStart => exact ⟨0, Nat.zero_le _, rfl, rfl, Below.refl _ _⟩
  case round =>
    obtain ⟨k, hk, rfl, rfl, hbk⟩ := hrel
    by_cases hlt : k < 3
    · obtain ⟨da, dc, h0, _⟩ := hc k hlt
      have h1 : wr.cell? ⟨g, 0 + k, none⟩ = some (.slice da 0 dc) := (hbk.cell (p := ⟨g, 0 + k, none⟩) hblt).trans h0
      simp only [Nat.zero_add] at h1
      clear hc h0
      go_wp2
      refine wp_loop_rounds 1 ?_
      rw [rounds_succ]
      go_wp2
      go_roundw
      case rel => exact ⟨k + 1, by omega, rfl, by go_num, hbk⟩
      case measure => simp [intOf]; omega
    · obtain rfl : k = 3 := by omega
      obtain ⟨ly, y0, y1, y2, y3⟩ := Y0.keep hbk
      have hbw := hB.trans (hbk.mono hB.size)
      clear hc
      go_wp2_with fail
      refine (noSeqTwice_no _ _ _).mono ?_
      rintro e w2 ⟨rfl, hb2⟩
      obtain ⟨ly2, s0, s1, s2, s3⟩ := (Y0.keep hbk).keep hb2
      have hbw2 := hbw.trans (hb2.mono hbw.size)
      clear hb2 hbw
      go_wp2_with fail
      refine (noneAbove_no _ _ _ _).mono ?_
      rintro e w3 ⟨rfl, hb3⟩
      have hbw3 := hbw2.trans (hb3.mono hbw2.size)
      go_wp2
      exact bodyPost_ret (v := .tuple #[.map (some (w.heap.size + 1 + 1)), .bool true]) (by simp [results, Tryz.results41, go_sem]) rfl ⟨_, rfl, hbw3⟩
end Go.Proofs.YtapmbgmmonhdoaaGreatDoor
