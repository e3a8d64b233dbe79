/- An empty store's files are tidied: all stay. -/
import Derived.Test.YtapmbgmmonhdoaaGreatDoorNg
import Derived.Deep.RegionHeld3
namespace Go.Proofs.YtapmbgmmonhdoaaGreatDoor
set_option maxRecDepth 100000
open Go.RowKit
open Go.ChangeMaps (setBlock)
set_option linter.unusedSimpArgs false
set_option linter.unusedVariables false

theorem st_log : stN sLog = true := by decide +kernel
theorem st_man : stN sMan = false := by decide +kernel
theorem log_man : Op.bytesLess sLog.toList sMan.toList = true := by decide +kernel
theorem l2_rise (a0 : Option Addr) (c0 : Nat) (a1 : Option Addr) (c1 : Nat) : ((L2 a0 c0 a1 c1).map (·.1)).Pairwise (fun x y => Op.bytesLess x.1.toList y.1.toList = true) := by
  simp only [L2, List.map_cons, List.map_nil]
  exact List.pairwise_cons.2 ⟨fun y hy => by rw [List.mem_singleton.1 hy]; exact log_man, List.pairwise_singleton _ _⟩
/-- The row of an empty store's files. -/
theorem row2_at {w : World} {base : Nat} {v : Value} {a0 : Option Addr} {c0 : Nat} {a1 : Option Addr} {c1 : Nat} (h : w.ownsRow base 40 3 v 2 (((L2 a0 c0 a1 c1).map (·.1)).flatMap fenc)) :
    ∃ r cap, v = .slice (some ⟨r, 0, none⟩) 2 cap ∧ base ≤ r ∧ r < w.heap.size ∧ (∀ j, w.frozen? ⟨r, j, none⟩ = false) ∧ w.cell? ⟨r, 0, none⟩ = some (.string sLog) ∧ w.cell? ⟨r, 1, none⟩ = some (.slice a0 0 c0) ∧ w.cell? ⟨r, 2, none⟩ = some (.int .i64 0) ∧ w.cell? ⟨r, 3, none⟩ = some (.string sMan) ∧ w.cell? ⟨r, 4, none⟩ = some (.slice a1 0 c1) ∧ w.cell? ⟨r, 5, none⟩ = some (.int .i64 0) := by
  rcases id h.2 with ⟨_, h0⟩ | ⟨g, cap, cur, e, hbg, hg, _⟩
  · omega
  · subst e
    exact ⟨g, cap, rfl, hbg, (Array.getElem?_eq_some_iff.1 hg).1, fun j => h.frozenAt j, h.cellAt 0 (by omega), h.cellAt 1 (by omega), h.cellAt 2 (by omega), h.cellAt 3 (by omega), h.cellAt 4 (by omega), h.cellAt 5 (by omega)⟩

set_option maxHeartbeats 4000000 in
theorem tidy_no (Q : Int) (bm : Nat) (a0 : Option Addr) (c0 : Nat) (a1 : Option Addr) (c1 g : Nat) (w : World) (hM : MHas w bm (L2 a0 c0 a1 c1) 2) (hV : VRow w (some ⟨g, 0, none⟩) 3 noR noM) :
    Calls Tryz.prog 42 #[.agg #[.int .i64 Q, .map (some bm)], .agg #[.int .i64 2, .int .i64 1, .int .i64 0, .slice (some ⟨g, 0, none⟩) 3 3]] w fun e w' => e = .returned (.tuple #[]) ∧ MHas w' bm (L2 a0 c0 a1 c1) 2 ∧ KD w.heap.size bm w w' := by
  have hlt := hM.lt
  have hB : Below w.heap.size w ((w.alloc (.cells #[.int .i64 Q, .map (some bm)] 68)).alloc (.cells #[.int .i64 2, .int .i64 1, .int .i64 0, .slice (some ⟨g, 0, none⟩) 3 3] 27)) := ((Below.refl _ _).alloc (Nat.le_refl _) _).alloc (by simp) _
  have X0 : QAt ((w.alloc (.cells #[.int .i64 Q, .map (some bm)] 68)).alloc (.cells #[.int .i64 2, .int .i64 1, .int .i64 0, .slice (some ⟨g, 0, none⟩) 3 3] 27)) w.heap.size Q (.map (some bm)) := (QAt.new w Q (.map (some bm)) 68).keep ((Below.refl _ _).alloc (Nat.le_refl _) _)
  have hV0 := hV.keep hB
  have hM0 := hM.keep hB
  have hst1 := fun w => isStoreName_any sLog w (by decide)
  have hst2 := fun w => isStoreName_any sMan w (by decide)
  rw [st_log] at hst1
  rw [st_man] at hst2
  go_enter Tryz.func42, Tryz.ntmps42
  go_wp2_with fail
  generalize (w.alloc (.cells #[.int .i64 Q, .map (some bm)] 68)).alloc (.cells #[.int .i64 2, .int .i64 1, .int .i64 0, .slice (some ⟨g, 0, none⟩) 3 3] 27) = w0 at *
  refine (namesOf_no g _ hV0).mono ?_
  rintro e w1 ⟨nb, rfl, hn1, hn2, hnc, hb1⟩
  have X1 := X0.keep hb1
  have hM1 := hM0.keep hb1
  have hbw1 := hB.trans (hb1.mono hB.size)
  have hnw := hB.size
  have lx0 := X0.lt
  obtain ⟨lx, x0, x1⟩ := id X1
  clear hb1 hM0 X0 hV0 hV hB
  go_wp2_with fail
  refine (risingD_any Q bm 2 (L2 a0 c0 a1 c1) _ hM1 (by show 2 ≤ 1048576; omega) (sort_any _)).mono ?_
  rintro e w2 ⟨v, ys, rfl, hp, hs, ho, hb2⟩
  obtain rfl := eq_of_rising0 hp hs (l2_rise a0 c0 a1 c1)
  obtain ⟨r, cap, rfl, hr1, hr2, hrf, k0, k1, k2, k3, k4, k5⟩ := row2_at ho
  have X2 := X1.keep hb2
  have hM2 := hM1.keep hb2
  have hbw2 := hbw1.trans (hb2.mono hbw1.size)
  have hnc2 := (hb2.cell (p := ⟨nb, 0, none⟩) hn2).trans hnc
  have hn22 := Nat.lt_of_lt_of_le hn2 hb2.size
  have hbs := hbw1.size
  clear hb2 hM1 X1 ho hp hs hbw1 x0 x1 lx hnc hM
  go_wp2
  go_loopw [12] (fun i wr => ∃ k : Nat, k ≤ 2 ∧ i = .int .i64 k ∧ MHas wr bm (L2 a0 c0 a1 c1) 2 ∧ KD w2.heap.size bm w2 wr) (fun i _ => 2 - (intOf i).toNat)
  case atStart => exact ⟨0, Nat.zero_le _, rfl, hM2, KD.refl _ _ _⟩
  case round =>
    obtain ⟨k, hk, rfl, hMr, hkr⟩ := hrel
    obtain ⟨lx, x0, x1⟩ := qat_kd X2 hkr X2.lt (by omega)
    have hncr := (hkr.cell (j := 0) hn22 (by omega)).trans hnc2
    have j0 := (hkr.cell (j := 0) hr2 (by omega)).trans k0
    have j1 := (hkr.cell (j := 1) hr2 (by omega)).trans k1
    have j2 := (hkr.cell (j := 2) hr2 (by omega)).trans k2
    have j3 := (hkr.cell (j := 3) hr2 (by omega)).trans k3
    have j4 := (hkr.cell (j := 4) hr2 (by omega)).trans k4
    have j5 := (hkr.cell (j := 5) hr2 (by omega)).trans k5
    have hsr := hkr.size
    clear k0 k1 k2 k3 k4 k5 hnc2
    rcases (show k = 0 ∨ k = 1 ∨ k = 2 by omega) with rfl | rfl | rfl
    · clear hst2 j3 j4 j5
      have F0 := FX.new wr (sLog, (a0, 0, c0), 0) 40
      have hA : Below wr.heap.size wr (wr.alloc (.cells #[.string sLog, .slice a0 0 c0, .int .i64 0] 40)) := (Below.refl _ _).alloc (Nat.le_refl _) _
      have hMA := hMr.keep hA
      have hkA := hkr.alloc (Nat.le_refl _) (.cells #[.string sLog, .slice a0 0 c0, .int .i64 0] 40)
      have hncA := (hA.cell (p := ⟨nb, 0, none⟩) (show nb < wr.heap.size by omega)).trans hncr
      obtain ⟨lf, f0, f1, f2, ff⟩ := F0
      have xA0 := (hA.cell (p := ⟨w.heap.size, 0, none⟩) lx).trans x0
      have xA1 := (hA.cell (p := ⟨w.heap.size, 1, none⟩) lx).trans x1
      clear hA hMr hkr hncr
      go_wp2_with fail
      refine (hst1 _).mono ?_
      rintro e w' ⟨rfl, hw'⟩
      subst hw'
      go_wp2_with fail
      refine (containsS_one sLog nb _ hncA).mono ?_
      rintro e w' ⟨rfl, hw'⟩
      subst hw'
      go_wp2_with fail
      refine (syncM_hit Q bm 2 (L2 a0 c0 a1 c1) 0 ((sLog, (a0, 0, c0), 0), 0) rfl _ hMA).mono ?_
      rintro e w3 ⟨rfl, hM3, hk3⟩
      have hM3' : MHas w3 bm (L2 a0 c0 a1 c1) 2 := hM3
      have hk4 := hkA.trans (hk3.mono (by have := hkA.size; omega))
      clear hM3 hk3 hkA hMA
      go_wp2
      go_roundw
      case rel => exact ⟨1, by omega, by go_num, hM3', hk4⟩
      case measure => simp [intOf]
    · clear hst1 j0 j1 j2
      have F0 := FX.new wr (sMan, (a1, 0, c1), 0) 40
      have hA : Below wr.heap.size wr (wr.alloc (.cells #[.string sMan, .slice a1 0 c1, .int .i64 0] 40)) := (Below.refl _ _).alloc (Nat.le_refl _) _
      have hMA := hMr.keep hA
      have hkA := hkr.alloc (Nat.le_refl _) (.cells #[.string sMan, .slice a1 0 c1, .int .i64 0] 40)
      obtain ⟨lf, f0, f1, f2, ff⟩ := F0
      have xA0 := (hA.cell (p := ⟨w.heap.size, 0, none⟩) lx).trans x0
      have xA1 := (hA.cell (p := ⟨w.heap.size, 1, none⟩) lx).trans x1
      clear hA hMr hkr hncr
      go_wp2_with fail
      refine (hst2 _).mono ?_
      rintro e w' ⟨rfl, hw'⟩
      subst hw'
      go_wp2_with fail
      refine (syncM_hit Q bm 2 (L2 a0 c0 a1 c1) 1 ((sMan, (a1, 0, c1), 0), 1) rfl _ hMA).mono ?_
      rintro e w3 ⟨rfl, hM3, hk3⟩
      have hM3' : MHas w3 bm (L2 a0 c0 a1 c1) 2 := hM3
      have hk4 := hkA.trans (hk3.mono (by have := hkA.size; omega))
      clear hM3 hk3 hkA hMA
      go_wp2
      go_roundw
      case rel => exact ⟨2, by omega, by go_num, hM3', hk4⟩
      case measure => simp [intOf]
    · have hkw := (KD.of_below (B := bm) hbw2).trans (hkr.mono hbw2.size)
      go_wp2
      go_end0
      exact ⟨rfl, hMr, hkw⟩
end Go.Proofs.YtapmbgmmonhdoaaGreatDoor
