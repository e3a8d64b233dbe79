/- markFiles, walked. -/
import Derived.Test.YtapmbgmmonhdoaaGreatDoorMarkFiles
namespace Go.Proofs.YtapmbgmmonhdoaaGreatDoor
set_option maxRecDepth 100000
open Go.RowKit
set_option linter.unusedSimpArgs false
set_option linter.unusedVariables false

theorem markB (g n cap : Nat) (f : Nat → Int) (K : Nat) (w : World) (ho : Own w g 0 n f) (hn : n ≤ 1048576) (hK : K + 1 ≤ 4194304) :
    Calls Tryz.prog 47 #[.slice (some ⟨g, 0, none⟩) n cap, .int .i64 ((K : Int) + 1)] w fun e w' => e = .returned (.int .i64 ((K : Int) + 1 + (n : Int))) ∧ Own w' g 0 n (fun j => ((K + 1 + j : Nat) : Int) % 256) ∧ Others g w w' := by
  have h := markByteS_any g 0 n cap f (K + 1) w ho hn hK
  rw [show ((K + 1 : Nat) : Int) = (K : Int) + 1 from by omega] at h
  refine h.mono ?_
  rintro e w' ⟨rfl, h1, h2⟩
  exact ⟨by rw [show ((K + 1 + n : Nat) : Int) = (K : Int) + 1 + (n : Int) from by omega], h1, h2⟩

/-- Marking the bytes of one file: none, or those in block G. -/
theorem markD (da : Option Addr) (g n cap : Nat) (f : Nat → Int) (K : Nat) (w : World) (hd : n = 0 ∨ da = some ⟨g, 0, none⟩ ∧ Own w g 0 n f) (hn : n ≤ 1048576) (hK : K + 1 ≤ 4194304) :
    Calls Tryz.prog 47 #[.slice da n cap, .int .i64 ((K : Int) + 1)] w fun e w' => e = .returned (.int .i64 ((K : Int) + 1 + (n : Int))) ∧ (n = 0 ∨ da = some ⟨g, 0, none⟩ ∧ Own w' g 0 n (fun j => ((K + 1 + j : Nat) : Int) % 256)) ∧ ((n = 0 ∧ w' = w) ∨ (n ≠ 0 ∧ Others g w w')) := by
  by_cases h0 : n = 0
  · subst h0
    refine (markByteS_none da cap _ w (by omega)).mono ?_
    rintro e w' ⟨rfl, rfl⟩
    exact ⟨by simp, .inl rfl, .inl ⟨rfl, rfl⟩⟩
  · obtain ⟨rfl, ho⟩ := hd.resolve_left h0
    refine (markB g n cap f K w ho hn hK).mono ?_
    rintro e w' ⟨rfl, h1, h2⟩
    exact ⟨rfl, .inr ⟨rfl, h1⟩, .inr ⟨h0, h2⟩⟩

set_option maxHeartbeats 1000000 in
theorem markFileS_any (b n cap : Nat) (F : Nat → Fil) (G : Nat → Nat) (B U : Nat) (w : World) (h : FBox w b n F G B U) (hn : n ≤ 1048576) (hz : FSize n F 1048576) (hK : cK F n ≤ 4194304) :
    Calls Tryz.prog 30 #[.slice (some ⟨b, 0, none⟩) n cap, .int .i64 1] w fun e w' => e = .returned (.int .i64 (cK F n)) ∧ FBox w' b n (fpart F n) G B U ∧ Mid B U w w' := by
  have h0 : FBox w b n (fpart F 0) G B U := by rw [fpart_zero]; exact h
  clear h
  go_enter Tryz.func30, Tryz.ntmps30
  go_wp2
  go_loopw [1, 5] (fun q i wr => ∃ k : Nat, k ≤ n ∧ i = .int .i64 k ∧ q = .int .i64 (cK F k) ∧ FBox wr b n (fpart F k) G B U ∧ Mid B U w wr) (fun _ i _ => n - (intOf i).toNat)
  case atStart => exact ⟨0, Nat.zero_le _, rfl, rfl, h0, Mid.refl _ _ _⟩
  case round =>
    clear h0
    obtain ⟨k, hk, rfl, rfl, hB, hM⟩ := hrel
    by_cases hlt : k < n
    · have hck := cK_le (F := F) (show k + 1 ≤ n by omega)
      have hcs := cK_succ F k
      have hc1 : 1 ≤ cK F k := by unfold cK; omega
      have hlen := (hz k hlt).2
      obtain ⟨da, dc, c0, c1, c2, hd⟩ := hB.cell k hlt
      rw [fpart_ge (by omega)] at c0 c1 c2 hd
      have f0 := hB.free (k * 3) (by omega)
      have f2 := hB.free (k * 3 + 2) (by omega)
      have hbl := hB.lt
      obtain ⟨r1, r2, r3⟩ := hB.range
      have r3k := r3 k hlt
      have hself := hB.self k hlt
      rw [fpart_len] at r3k hself
      go_wp2_with fail
      refine (markText_any _ _ (by omega) (by omega)).mono ?_
      rintro e w1 ⟨rfl, hb1⟩
      have d0 := (hb1.cell (p := ⟨b, k * 3, none⟩) hbl).trans c0
      have d1 := (hb1.cell (p := ⟨b, k * 3 + 1, none⟩) hbl).trans c1
      have d2 := (hb1.cell (p := ⟨b, k * 3 + 2, none⟩) hbl).trans c2
      have g0 := (hb1.frozen (p := ⟨b, k * 3, none⟩) hbl).trans f0
      have g2 := (hb1.frozen (p := ⟨b, k * 3 + 2, none⟩) hbl).trans f2
      have o1 : Others b w1 (w1.setCell ⟨b, k * 3, none⟩ (.string (mt ((cK F k : Nat) : Int)))) := Others.setCell _ _ _ _
      have x0 : (w1.setCell ⟨b, k * 3, none⟩ (.string (mt ((cK F k : Nat) : Int)))).cell? ⟨b, k * 3, none⟩ = some (.string (mt ((cK F k : Nat) : Int))) := World.cell?_setCell_same _ _ _ d0
      have x1 : (w1.setCell ⟨b, k * 3, none⟩ (.string (mt ((cK F k : Nat) : Int)))).cell? ⟨b, k * 3 + 1, none⟩ = some (.slice da (F k).len dc) := (World.cell?_setCell_other _ _ _ _ (by intro hh; injection hh with _ h3 _; omega)).trans d1
      have x2 : (w1.setCell ⟨b, k * 3, none⟩ (.string (mt ((cK F k : Nat) : Int)))).cell? ⟨b, k * 3 + 2, none⟩ = some (.int .i64 (F k).sy) := (World.cell?_setCell_other _ _ _ _ (by intro hh; injection hh with _ h3 _; omega)).trans d2
      have xo : ∀ j, j ≠ k * 3 → (w1.setCell ⟨b, k * 3, none⟩ (.string (mt ((cK F k : Nat) : Int)))).cell? ⟨b, j, none⟩ = wr.cell? ⟨b, j, none⟩ := fun j hj => (World.cell?_setCell_other _ _ _ _ (by intro hh; injection hh with _ h3 _; omega)).trans (hb1.cell (p := ⟨b, j, none⟩) hbl)
      have xf : ∀ j, (w1.setCell ⟨b, k * 3, none⟩ (.string (mt ((cK F k : Nat) : Int)))).frozen? ⟨b, j, none⟩ = wr.frozen? ⟨b, j, none⟩ := fun j => by rw [World.frozen?_setCell]; exact hb1.frozen (p := ⟨b, j, none⟩) hbl
      have hd2 : (F k).len = 0 ∨ da = some ⟨G k, 0, none⟩ ∧ Own (w1.setCell ⟨b, k * 3, none⟩ (.string (mt ((cK F k : Nat) : Int)))) (G k) 0 (F k).len (F k).f := by
        by_cases hl : (F k).len = 0
        · exact .inl hl
        · obtain ⟨e, ho⟩ := hd.resolve_left hl
          exact .inr ⟨e, o1.row (ho.keep hb1) (hself hl)⟩
      have y2 : ∀ j, j < wr.heap.size → j ≠ b → (w1.setCell ⟨b, k * 3, none⟩ (.string (mt ((cK F k : Nat) : Int)))).heap[j]? = wr.heap[j]? := fun j hj hne => (o1.block j hne).trans (hb1.block j hj)
      have s2 : wr.heap.size ≤ (w1.setCell ⟨b, k * 3, none⟩ (.string (mt ((cK F k : Nat) : Int)))).heap.size := by rw [o1.size]; exact hb1.size
      have M2 : Mid B U wr (w1.setCell ⟨b, k * 3, none⟩ (.string (mt ((cK F k : Nat) : Int)))) := (Mid.of_below hb1).trans (Mid.of_others o1 r1 r2)
      go_wp2_with fail
      generalize w1.setCell ⟨b, k * 3, none⟩ (.string (mt ((cK F k : Nat) : Int))) = w2 at *
      refine (markD da (G k) (F k).len dc (F k).f (cK F k) _ hd2 hlen (by omega)).mono ?_
      rintro e w3 ⟨rfl, hd3, hw3⟩
      have hx3 : ∀ j, j ≠ G k ∨ (F k).len = 0 → w3.heap[j]? = w2.heap[j]? := fun j hj => by
        rcases hw3 with ⟨_, rfl⟩ | ⟨h3, ho⟩
        · rfl
        · rcases hj with hj | hj
          · exact ho.block j hj
          · exact absurd hj h3
      have sz3 : w3.heap.size = w2.heap.size := by
        rcases hw3 with ⟨_, rfl⟩ | ⟨_, ho⟩
        · rfl
        · exact ho.size
      have hbG : b ≠ G k ∨ (F k).len = 0 := by
        by_cases hl : (F k).len = 0
        · exact .inr hl
        · exact .inl (Ne.symm (hself hl))
      have cl3 : ∀ j, w3.cell? ⟨b, j, none⟩ = w2.cell? ⟨b, j, none⟩ := fun j => World.cell?_of_block (w := w2) (a := ⟨b, j, none⟩) (hx3 b hbG)
      have fz3 : ∀ j, w3.frozen? ⟨b, j, none⟩ = w2.frozen? ⟨b, j, none⟩ := fun j => World.frozen?_of_block (w := w2) (a := ⟨b, j, none⟩) (hx3 b hbG)
      have M3 : Mid B U w2 w3 := by
        rcases hw3 with ⟨_, rfl⟩ | ⟨hl, ho⟩
        · exact Mid.refl _ _ _
        · exact Mid.of_others ho (r3k hl).1 (r3k hl).2
      have e2 := (cl3 (k * 3 + 2)).trans x2
      have ef : w3.frozen? ⟨b, k * 3 + 2, none⟩ = false := (fz3 _).trans ((xf _).trans f2)
      have o4 : Others b w3 (w3.setCell ⟨b, k * 3 + 2, none⟩ (.int .i64 ((cK F k : Int) + 1 + ((F k).len : Int)))) := Others.setCell _ _ _ _
      have hnext : FBox (w3.setCell ⟨b, k * 3 + 2, none⟩ (.int .i64 ((cK F k : Int) + 1 + ((F k).len : Int)))) b n (fpart F (k + 1)) G B U := by
        refine hB.mark hlt (by rw [o4.size, sz3]; exact s2) da dc ?_ ?_ ?_ ?_ (fun j h1 h2 h3 => ?_) (fun j => ?_) (fun g hg hne hgk => ?_)
        · exact (World.cell?_setCell_other _ _ _ _ (by intro hh; injection hh with _ h3 _; omega)).trans ((cl3 _).trans x0)
        · exact (World.cell?_setCell_other _ _ _ _ (by intro hh; injection hh with _ h3 _; omega)).trans ((cl3 _).trans x1)
        · rw [World.cell?_setCell_same _ _ _ e2]; simp only [fmark]; congr 2
        · by_cases hl : (F k).len = 0
          · exact .inl hl
          · obtain ⟨e, ho⟩ := hd3.resolve_left hl
            exact .inr ⟨e, o4.row ho (hself hl)⟩
        · exact (World.cell?_setCell_other _ _ _ _ (by intro hh; injection hh with _ h3 _; omega)).trans ((cl3 j).trans (xo j h1))
        · rw [World.frozen?_setCell]; exact (fz3 j).trans (xf j)
        · refine (o4.block g hne).trans ((hx3 g ?_).trans (y2 g hg hne))
          by_cases hl : (F k).len = 0
          · exact .inr hl
          · exact .inl (hgk hl)
      have M4 := ((hM.trans M2).trans M3).trans (Mid.of_others o4 r1 r2)
      clear hd2 hd3 hw3 hx3 cl3 fz3 M2 M3 xo xf y2 s2 hd d0 d1 d2 g0 g2 x0 x1 x2 o1 hb1 hM hB c0 c1 c2 f0
      go_wp2
      go_roundw
      case rel => exact ⟨k + 1, by omega, by go_num, by rw [hcs]; congr 1, hnext, M4⟩
      case measure => simp [intOf]; omega
    · have e : k = n := by omega
      subst e
      go_wp2
      go_ret
      exact ⟨rfl, hB, hM⟩

set_option maxHeartbeats 400000 in
theorem markFiles_any (Q : Int) (b n cap : Nat) (F : Nat → Fil) (G : Nat → Nat) (B U : Nat) (w : World) (h : FBox w b n F G B U) (hn : n ≤ 1048576) (hz : FSize n F 1048576) (hK : cK F n ≤ 4194304) :
    Calls Tryz.prog 18 #[.agg #[.int .i64 Q, .slice (some ⟨b, 0, none⟩) n cap], .int .i64 1] w fun e w' => e = .returned (.int .i64 (cK F n)) ∧ FBox w' b n (fpart F n) G B U ∧ Mid B U w w' := by
  have hB : Below w.heap.size w (w.alloc (.cells #[.int .i64 Q, .slice (some ⟨b, 0, none⟩) n cap] 24)) := (Below.refl _ _).alloc (Nat.le_refl _) _
  go_enter Tryz.func18, Tryz.ntmps18
  go_wp2_with fail
  refine (markFileS_any b n cap F G B U _ (h.keep hB) hn hz hK).mono ?_
  rintro e w1 ⟨rfl, h1, h2⟩
  go_wp2
  go_ret
  exact ⟨rfl, h1, (Mid.of_below hB).trans h2⟩
end Go.Proofs.YtapmbgmmonhdoaaGreatDoor
