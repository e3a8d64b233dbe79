/- crash, walked. -/
import Derived.Test.YtiojjihonmonkaaDoorRemM
namespace Go.Proofs.YtiojjihonmonkaaDoor
open Go.RowKit
open Go.ChangeMaps (setBlock)
set_option linter.unusedSimpArgs false
set_option linter.unusedVariables false

set_option maxRecDepth 100000 in
set_option maxHeartbeats 8000000 in
theorem crash_any (Q : Int) (bm n : Nat) (F : Nat → Fil) (S : Nat → Value) (bo : Option Addr) (dn bc : Nat) (d : Nat → Int) (hdn : dn ≤ bc) (hbc : dn ≤ 1048576) (HK : Hid (∀ i, i < n → fileOk F i = true)) (hn : n ≤ 40) (hz : FSize n F 1048576) (w : World) (hb : w.heap[bm]? = some (.map (ents F S n) n)) (HS : Hid (∀ i, i < n → ∃ da dc, S i = .slice da (F i).len dc ∧ (F i).len ≤ dc ∧ ((F i).len ≠ 0 → ∃ g, da = some ⟨g, 0, none⟩))) (hd : IRow w bo dn d) (hlo : ∀ b off, bo = some ⟨b, off, none⟩ → dn ≠ 0 → b ≠ bm) :
    Calls Tryd.prog 13 #[.agg #[.int .i64 Q, .map (some bm)], .slice bo dn bc] w fun e w' => e = .returned (.tuple #[]) ∧ MHas w' bm (lOf (crF F dn d n) (Sk F S dn d n) n) n ∧ Below bm w w' ∧ ∀ j, j < w.heap.size → j ≠ bm → w'.heap[j]? = w.heap[j]? := by
  have hM := mhas_of HK.out (fun i hi => by obtain ⟨da, dc, e, _⟩ := HS.out i hi; exact ⟨da, dc, e⟩) hb
  have hbm := hM.lt
  have hB : Below w.heap.size w (w.alloc (.cells #[.int .i64 Q, .map (some bm)] 46)) := (Below.refl _ _).alloc (Nat.le_refl _) _
  have X0 := QAt.new w Q (.map (some bm)) 46
  have hMA := hM.keep hB
  go_enter Tryd.func13, Tryd.ntmps13
  go_wp2_with fail
  refine (rising_any Q bm n _ _ hMA (by rw [lOf_len]; omega) (sort_any _)).mono ?_
  rintro e w1 ⟨v, ys, rfl, hperm, hsort, hrow, hb1⟩
  obtain rfl := eq_of_rising hperm hsort (rising_of HK.out)
  have hyl : ((lOf F S n).map (·.1)).length = n := by rw [List.length_map, lOf_len]
  rw [hyl, World.size_alloc] at hrow
  obtain ⟨p, c, rfl⟩ := row_slice hrow
  have bw1 : Below w.heap.size w w1 := hB.trans (hb1.mono (by simp))
  have C0 : CR w Q bm n F S dn d (w.heap.size + 3) (.slice p n c) 0 (.slice bo dn bc) w1 := by
    refine ⟨⟨bo, bc, rfl, ⟨hdn, ?_⟩, fun b off e h0 => hlo b off e (by simpa [uD] using h0)⟩, ?_, hrow, X0.keep hb1, bw1.mono (Nat.le_of_lt hbm), fun j h1 _ => bw1.block j h1⟩
    · have := hd.keep bw1
      simpa [uD] using this
    · rw [cr_zero]; exact hM.keep bw1
  clear hperm hsort hb1 hMA hM hB X0 hrow hyl
  go_wp2
  go_loopw [1, 12] (fun q i wr => ∃ k : Nat, k ≤ n ∧ i = .int .i64 k ∧ CR w Q bm n F S dn d (w.heap.size + 3) (.slice p n c) k q wr) (fun _ i _ => n - (intOf i).toNat)
  case atStart => exact ⟨0, Nat.zero_le _, rfl, C0⟩
  case round =>
    obtain ⟨k, hk, rfl, C⟩ := hrel
    by_cases hlt : k < n
    · obtain ⟨da, dc, hSk, hdc, hdg⟩ := HS.out k hlt
      have hsz := C.bel.size
      obtain ⟨s0, s1⟩ := ok_sy (HK.out k hlt)
      have hst := stay_bd (dn := dn) (d := d) s0 s1
      have hlen := (hz k hlt).2
      obtain ⟨ao, cap, rfl, ⟨hcap, hdr⟩, hnb⟩ := C.draws
      have hu := uD_le F dn k
      obtain ⟨g, hpg, hg1, hg2⟩ : ∃ g, p = some ⟨g, 0, none⟩ ∧ w.heap.size + 3 ≤ g ∧ g < wr.heap.size := by
        rcases C.row.2 with ⟨_, h0⟩ | ⟨g, cap, cur, e, h1, h2, _⟩
        · omega
        · injection e with e _ _
          exact ⟨g, e, h1, (Array.getElem?_eq_some_iff.1 h2).1⟩
      subst hpg
      have hxk : ((lOf F S n).map (·.1))[k]? = some ((F k).nm, (da, (F k).len, dc), (F k).sy) := by
        rw [List.getElem?_map, lOf_at F S hlt]
        simp [fOf, hSk, sAd, sCp]
      obtain ⟨k0, k1, k2⟩ := fm_cells _ hxk
      have c0 : wr.cell? ⟨g, k * 3, none⟩ = some (.string (F k).nm) := by rw [C.row.cellAt _ (by omega), k0]
      have c1 : wr.cell? ⟨g, k * 3 + 1, none⟩ = some (.slice da (F k).len dc) := by rw [C.row.cellAt _ (by omega), k1]
      have c2 : wr.cell? ⟨g, k * 3 + 2, none⟩ = some (.int .i64 (F k).sy) := by rw [C.row.cellAt _ (by omega), k2]
      have hA : Below wr.heap.size wr (wr.alloc (.cells #[.string (F k).nm, .slice da (F k).len dc, .int .i64 (F k).sy] 35)) := (Below.refl _ _).alloc (Nat.le_refl _) _
      have CA := C.keep hsz hA
      have hw1 : IntKind.i64.wrap (((F k).len : Int) - (F k).sy) = ((F k).len : Int) - (F k).sy := by rw [IntKind.wrap_i64] <;> omega
      have hkn : (k : Int) < n := by omega
      by_cases hl0 : loose F k = 0
      · have hl1 : ((F k).len : Int) - (F k).sy = 0 := hl0
        have hul : uD F dn (k + 1) = uD F dn k := by simp [uD, hl0]
        have hCk : CR w Q bm n F S dn d (w.heap.size + 3) (.slice (some ⟨g, 0, none⟩) n c) (k + 1) (.slice ao (dn - uD F dn k) cap) (wr.alloc (.cells #[.string (F k).nm, .slice da (F k).len dc, .int .i64 (F k).sy] 35)) := by
          obtain ⟨x1, x2, x3, x4, x5, x6⟩ := CA
          exact ⟨by rw [hul]; exact x1, by rw [cr_skip hl0]; exact x2, x3, x4, x5, x6⟩
        have HCk : Hid (CR w Q bm n F S dn d (w.heap.size + 3) (.slice (some ⟨g, 0, none⟩) n c) (k + 1) (.slice ao (dn - uD F dn k) cap) (wr.alloc (.cells #[.string (F k).nm, .slice da (F k).len dc, .int .i64 (F k).sy] 35))) := hCk
        clear hCk CA C hdr hul k0 k1 k2 hxk hst
        go_wp2
        go_roundw
        case rel => exact ⟨k + 1, by omega, by go_num, HCk.out⟩
        case measure => simp [intOf]; omega
      · have hl1 : ¬ ((F k).len : Int) - (F k).sy = 0 := hl0
        have hln : (F k).len ≠ 0 := fun h => by rw [h] at s1; exact hl1 (by rw [h]; omega)
        obtain ⟨gd, rfl⟩ := hdg hln
        obtain ⟨T, hT⟩ : ∃ T : Nat, stayD F dn d k = (T : Int) := ⟨(stayD F dn d k).toNat, by omega⟩
        rw [hT] at hst
        have hw2 : IntKind.i64.wrap (((F k).len : Int) - (F k).sy + 1) = ((F k).len : Int) - (F k).sy + 1 := by rw [IntKind.wrap_i64] <;> omega
        have T1 : (0 : Int) ≤ (T : Int) := by omega
        have T2 : (T : Int) ≤ (dc : Int) := by omega
        have xlt : wr.heap.size < (wr.alloc (.cells #[.string (F k).nm, .slice (some ⟨gd, 0, none⟩) (F k).len dc, .int .i64 (F k).sy] 35)).heap.size := by simp
        have a0 : (wr.alloc (.cells #[.string (F k).nm, .slice (some ⟨gd, 0, none⟩) (F k).len dc, .int .i64 (F k).sy] 35)).cell? ⟨wr.heap.size, 0, none⟩ = some (.string (F k).nm) := by simp [go_sem]
        have a1 : (wr.alloc (.cells #[.string (F k).nm, .slice (some ⟨gd, 0, none⟩) (F k).len dc, .int .i64 (F k).sy] 35)).cell? ⟨wr.heap.size, 1, none⟩ = some (.slice (some ⟨gd, 0, none⟩) (F k).len dc) := by simp [go_sem]
        have a2 : (wr.alloc (.cells #[.string (F k).nm, .slice (some ⟨gd, 0, none⟩) (F k).len dc, .int .i64 (F k).sy] 35)).cell? ⟨wr.heap.size, 2, none⟩ = some (.int .i64 (F k).sy) := by simp [go_sem]
        have af : ∀ j, (wr.alloc (.cells #[.string (F k).nm, .slice (some ⟨gd, 0, none⟩) (F k).len dc, .int .i64 (F k).sy] 35)).frozen? ⟨wr.heap.size, j, none⟩ = false := fun j => by simp [go_sem]
        have hdb := hdr.bd
        by_cases hud : uD F dn k < dn
        · have hdz : (0 : Int) < ((dn - uD F dn k : Nat) : Int) := by omega
          have hD0 : drawD F dn d k = d (uD F dn k) := by simp [drawD, hud]
          obtain ⟨db, doff, rfl, hdlt, hdc2⟩ := hdr.lies.resolve_left (by omega)
          have hd0 : (wr.alloc (.cells #[.string (F k).nm, .slice (some ⟨gd, 0, none⟩) (F k).len dc, .int .i64 (F k).sy] 35)).cell? ⟨db, doff, none⟩ = some (.int .i64 (d (uD F dn k))) := (hA.cell (p := ⟨db, doff, none⟩) hdlt).trans (by have := hdc2 0 (by omega); simpa only [Nat.add_zero] using this)
          have hdcH : Hid (∀ i, i < dn - uD F dn k → wr.cell? ⟨db, doff + i, none⟩ = some (.int .i64 (d (uD F dn k + i)))) := hdc2
          have hdbk := hdb 0
          have q1 : (1 : Int) ≤ ((dn - uD F dn k : Nat) : Int) := by omega
          have q2 : ((dn - uD F dn k : Nat) : Int) ≤ (cap : Int) := by omega
          clear hdc2
          have hmd : IntKind.i64.wrap ((F k).sy + md (d (uD F dn k)) (((F k).len : Int) - (F k).sy + 1)) = (T : Int) := by
            have e : (F k).sy + md (d (uD F dn k)) (((F k).len : Int) - (F k).sy + 1) = (T : Int) := by rw [← hT]; unfold stayD loose; rw [hD0]
            rw [e, IntKind.wrap_i64] <;> omega
          have hq9 := fun W => modOf_any (d (uD F dn k)) (((F k).len : Int) - (F k).sy + 1) (by simpa using hdbk) (by omega) W
          have HC : Hid (CR w Q bm n F S dn d (w.heap.size + 3) (.slice (some ⟨g, 0, none⟩) n c) k (.slice (some ⟨db, doff, none⟩) (dn - uD F dn k) cap) (wr.alloc (.cells #[.string (F k).nm, .slice (some ⟨gd, 0, none⟩) (F k).len dc, .int .i64 (F k).sy] 35))) := CA
          clear CA C hdr k0 k1 k2 hxk
          obtain ⟨ad, had⟩ : ∃ ad, (if cap = 1 then some (⟨db, doff, none⟩ : Addr) else some ⟨db, doff + 1, none⟩) = ad := ⟨_, rfl⟩
          have HAD : Hid (dn - uD F dn k - 1 ≠ 0 → ad = some ⟨db, doff + 1, none⟩) := fun h => by rw [← had, if_neg (by omega)]
          go_wp2
          go_quiet (fail)
          clear had
          generalize wr.alloc (.cells #[.string (F k).nm, .slice (some ⟨gd, 0, none⟩) (F k).len dc, .int .i64 (F k).sy] 35) = wA at *
          have hbu0 := below_drewN (Below.refl wA.heap.size wA) nq
          generalize wA.drewN nq = u0 at hbu0 ⊢
          have CU0 := HC.out.keep (Nat.le_trans hsz hA.size) hbu0
          have x2lt : wr.heap.size < u0.heap.size := Nat.lt_of_lt_of_le xlt hbu0.size
          have e20 := (hbu0.cell (p := ⟨wr.heap.size, 2, none⟩) xlt).trans a2
          go_wp2
          go_quiet ((go_at_call 32; exact Calls.quiet_of_same (hq9 _)))
          have hbu1 := below_drewN (Below.refl u0.heap.size u0) nq
          generalize u0.drewN nq = u at hbu1 ⊢
          have hbu := hbu0.trans (hbu1.mono hbu0.size)
          have CU := HC.out.keep (Nat.le_trans hsz hA.size) hbu
          clear hbu0 hbu1 CU0 e20 x2lt
          have e0 := (hbu.cell (p := ⟨wr.heap.size, 0, none⟩) xlt).trans a0
          have e1 := (hbu.cell (p := ⟨wr.heap.size, 1, none⟩) xlt).trans a1
          have e2 := (hbu.cell (p := ⟨wr.heap.size, 2, none⟩) xlt).trans a2
          have ef : ∀ j, u.frozen? ⟨wr.heap.size, j, none⟩ = false := fun j => (hbu.frozen (p := ⟨wr.heap.size, j, none⟩) xlt).trans (af j)
          have ed := CU.box.c1
          have hMu : MHas ((u.setCell ⟨wr.heap.size, 1, none⟩ (.slice (some ⟨gd, 0, none⟩) T T)).setCell ⟨wr.heap.size, 2, none⟩ (.int .i64 (T : Int))) bm (lOf (crF F dn d k) (Sk F S dn d k) n) n := ⟨(Below.heap_setCell _ _ _ _ (by show bm ≠ wr.heap.size; omega)).trans ((Below.heap_setCell _ _ _ _ (by show bm ≠ wr.heap.size; omega)).trans CU.map.map), CU.map.born, CU.map.old, CU.map.names⟩
          have hup := upd_old (P := Tryd.prog) (et := 35) Tryd.underlying44 Tryd.underlying9 hMu (cr_at hlt) ((F k).nm, (some ⟨gd, 0, none⟩, T, T), (T : Int)) rfl
          have HN : Hid (CR w Q bm n F S dn d (w.heap.size + 3) (.slice (some ⟨g, 0, none⟩) n c) (k + 1) (.slice ad (dn - uD F dn k - 1) (cap - 1)) (setBlock ((u.setCell ⟨wr.heap.size, 1, none⟩ (.slice (some ⟨gd, 0, none⟩) T T)).setCell ⟨wr.heap.size, 2, none⟩ (.int .i64 (T : Int))) bm (.map (esOf ((lOf (crF F dn d k) (Sk F S dn d k) n).set k (((F k).nm, (some ⟨gd, 0, none⟩, T, T), (T : Int)), k))) n))) := by
            have hu1 : uD F dn (k + 1) = uD F dn k + 1 := by simp [uD, hl0, hud]
            refine CU.step hlt hl0 hT hSk hbm (by have := HC.out.box.lt; omega) (Nat.lt_of_lt_of_le xlt hbu.size) (fun b e => by
              have : b = g := Option.some.inj e
              omega) (by rw [hu1]; omega) ⟨by omega, ?_⟩ (fun b off e h0 => by
                have := HAD.out h0
                rw [this] at e
                injection e with e
                injection e with e _ _
                subst e
                exact hnb _ _ rfl (by omega))
            refine ⟨by rw [hu1]; exact fun i => by have := hdb (1 + i); rw [Nat.add_assoc]; exact this, ?_⟩
            by_cases h0 : dn - uD F dn k - 1 = 0
            · exact .inl h0
            · have hxl : wr.heap.size ≠ db := by omega
              refine .inr ⟨db, doff + 1, HAD.out h0, by simpa using Nat.lt_of_lt_of_le (Nat.lt_of_lt_of_le hdlt hA.size) hbu.size, fun i hi => ?_⟩
              have h1 := hdcH.out (1 + i) (by omega)
              have h2 : u.cell? ⟨db, doff + (1 + i), none⟩ = some (.int .i64 (d (uD F dn k + (1 + i)))) := (hbu.cell (p := ⟨db, doff + (1 + i), none⟩) (Nat.lt_of_lt_of_le hdlt hA.size)).trans ((hA.cell (p := ⟨db, doff + (1 + i), none⟩) hdlt).trans h1)
              rw [World.cell?_setCell_other _ _ _ _ (by intro hh; injection hh with h3 _ _; omega), World.cell?_setCell_other _ _ _ _ (by intro hh; injection hh with h3 _ _; omega), hu1, Nat.add_assoc doff, h2, Nat.add_assoc]
          clear CU hMu HC hbu a0 a1 a2 af hq9
          go_wp2_with (at_mapUpdate; refine wpList_mapUpdate_run _ rfl (.tmp 48) (.tmp 50) (.tmp 51) 44 rfl _ _ _ rfl rfl rfl _ hup ?_)
          go_roundw
          case rel => exact ⟨k + 1, by omega, by go_num, HN.out⟩
          case measure => simp [intOf]; omega
        · have hdz : ¬ (0 : Int) < ((dn - uD F dn k : Nat) : Int) := by omega
          have hD0 : drawD F dn d k = 0 := by simp [drawD, hud]
          have hmd : IntKind.i64.wrap ((F k).sy + md 0 (((F k).len : Int) - (F k).sy + 1)) = (T : Int) := by
            have e : (F k).sy + md 0 (((F k).len : Int) - (F k).sy + 1) = (T : Int) := by rw [← hT]; unfold stayD loose; rw [hD0]
            rw [e, IntKind.wrap_i64] <;> omega
          have hq9 := fun W => modOf_any 0 (((F k).len : Int) - (F k).sy + 1) (by omega) (by omega) W
          have HC : Hid (CR w Q bm n F S dn d (w.heap.size + 3) (.slice (some ⟨g, 0, none⟩) n c) k (.slice ao (dn - uD F dn k) cap) (wr.alloc (.cells #[.string (F k).nm, .slice (some ⟨gd, 0, none⟩) (F k).len dc, .int .i64 (F k).sy] 35))) := CA
          clear CA C hdr k0 k1 k2 hxk
          go_wp2
          go_quiet ((go_at_call 32; exact Calls.quiet_of_same (hq9 _)))
          generalize wr.alloc (.cells #[.string (F k).nm, .slice (some ⟨gd, 0, none⟩) (F k).len dc, .int .i64 (F k).sy] 35) = wA at *
          have hbu := below_drewN (Below.refl wA.heap.size wA) nq
          generalize wA.drewN nq = u at hbu ⊢
          have CU := HC.out.keep (Nat.le_trans hsz hA.size) hbu
          have e0 := (hbu.cell (p := ⟨wr.heap.size, 0, none⟩) xlt).trans a0
          have e1 := (hbu.cell (p := ⟨wr.heap.size, 1, none⟩) xlt).trans a1
          have e2 := (hbu.cell (p := ⟨wr.heap.size, 2, none⟩) xlt).trans a2
          have ef : ∀ j, u.frozen? ⟨wr.heap.size, j, none⟩ = false := fun j => (hbu.frozen (p := ⟨wr.heap.size, j, none⟩) xlt).trans (af j)
          have ed := CU.box.c1
          have hMu : MHas ((u.setCell ⟨wr.heap.size, 1, none⟩ (.slice (some ⟨gd, 0, none⟩) T T)).setCell ⟨wr.heap.size, 2, none⟩ (.int .i64 (T : Int))) bm (lOf (crF F dn d k) (Sk F S dn d k) n) n := ⟨(Below.heap_setCell _ _ _ _ (by show bm ≠ wr.heap.size; omega)).trans ((Below.heap_setCell _ _ _ _ (by show bm ≠ wr.heap.size; omega)).trans CU.map.map), CU.map.born, CU.map.old, CU.map.names⟩
          have hup := upd_old (P := Tryd.prog) (et := 35) Tryd.underlying44 Tryd.underlying9 hMu (cr_at hlt) ((F k).nm, (some ⟨gd, 0, none⟩, T, T), (T : Int)) rfl
          have HN : Hid (CR w Q bm n F S dn d (w.heap.size + 3) (.slice (some ⟨g, 0, none⟩) n c) (k + 1) (.slice ao (dn - uD F dn k) cap) (setBlock ((u.setCell ⟨wr.heap.size, 1, none⟩ (.slice (some ⟨gd, 0, none⟩) T T)).setCell ⟨wr.heap.size, 2, none⟩ (.int .i64 (T : Int))) bm (.map (esOf ((lOf (crF F dn d k) (Sk F S dn d k) n).set k (((F k).nm, (some ⟨gd, 0, none⟩, T, T), (T : Int)), k))) n))) := by
            have hu1 : uD F dn (k + 1) = uD F dn k := by simp [uD, hl0, hud]
            refine CU.step hlt hl0 hT hSk hbm (by have := HC.out.box.lt; omega) (Nat.lt_of_lt_of_le xlt hbu.size) (fun b e => by
              have : b = g := Option.some.inj e
              omega) (by rw [hu1]) ⟨hcap, ?_⟩ hnb
            exact ⟨by rw [hu1]; exact hdb, .inl (by omega)⟩
          clear CU hMu HC hbu a0 a1 a2 af hq9
          go_wp2_with (at_mapUpdate; refine wpList_mapUpdate_run _ rfl (.tmp 48) (.tmp 50) (.tmp 51) 44 rfl _ _ _ rfl rfl rfl _ hup ?_)
          go_roundw
          case rel => exact ⟨k + 1, by omega, by go_num, HN.out⟩
          case measure => simp [intOf]; omega
    · have e : k = n := by omega
      subst e
      go_wp2
      go_end0
      exact ⟨rfl, C.map, C.bel, C.oth⟩
end Go.Proofs.YtiojjihonmonkaaDoor
