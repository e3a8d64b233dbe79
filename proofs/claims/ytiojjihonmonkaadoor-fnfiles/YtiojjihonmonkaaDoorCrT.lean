/- The model's crash, walked. -/
import Derived.Test.YtiojjihonmonkaaDoorCrS
namespace Go.Proofs.YtiojjihonmonkaaDoor
open Go.RowKit
set_option linter.unusedSimpArgs false
set_option linter.unusedVariables false

set_option maxRecDepth 100000 in
set_option maxHeartbeats 16000000 in
theorem l2Crash_some (Q : Int) (fb g n c base : Nat) (F : Nat → Fil) (bo : Option Addr) (dn bc : Nat) (d : Nat → Int) (hn : n ≤ 40) (hz : FSize n F 1048576) (HK : Hid (∀ i, i < n → fileOk F i = true)) (hfb : fb < base) (hgb : base ≤ g) (w : World) (hbs : base ≤ w.heap.size) (C0 : SC w Q fb g n c base F dn d 0 (.slice bo dn bc) w) :
    Calls Tryd.prog 17 #[.pointer (some ⟨fb, 0, none⟩), .slice bo dn bc] w fun e w' => e = .returned (.tuple #[]) ∧ ∃ dv, SC w Q fb g n c base F dn d n dv w' := by
  obtain ⟨l0, b0, b1⟩ := C0.box
  go_enter Tryd.func17, Tryd.ntmps17
  go_wp2
  clear l0 b0 b1
  go_loopw [1, 14] (fun q i wr => ∃ k : Nat, k ≤ n ∧ i = .int .i64 k ∧ SC w Q fb g n c base F dn d k q wr) (fun _ i _ => n - (intOf i).toNat)
  case atStart => exact ⟨0, Nat.zero_le _, rfl, C0⟩
  case round =>
    obtain ⟨k, hk, rfl, C⟩ := hrel
    clear C0
    by_cases hlt : k < n
    · have hsz := C.bel.size
      obtain ⟨s0, s1⟩ := ok_sy (HK.out k hlt)
      have hst := stay_bd (dn := dn) (d := d) s0 s1
      have hlen := (hz k hlt).2
      obtain ⟨ao, cap, rfl, ⟨hcap, hdr⟩, hnb⟩ := C.draws
      have hu := uD_le F dn k
      have hg2 := C.glt
      obtain ⟨da, dc, hf, hdc, hda⟩ := C.cel k hlt
      have ek : crF F dn d k k = F k := by unfold crF; rw [if_neg (by omega)]
      rw [ek] at hf hda
      have hdc := hdc (Nat.le_refl _)
      obtain ⟨c0, c1, c2, frow⟩ := hf
      have hkn : (k : Int) < n := by omega
      have hw1 : IntKind.i64.wrap (((F k).len : Int) - (F k).sy) = ((F k).len : Int) - (F k).sy := by rw [IntKind.wrap_i64] <;> omega
      have hbw : base ≤ wr.heap.size := by omega
      by_cases hl0 : loose F k = 0
      · have hl1 : ((F k).len : Int) - (F k).sy = 0 := hl0
        have hA : Below wr.heap.size wr (wr.alloc (.cells #[.string (F k).nm, .slice da (F k).len dc, .int .i64 (F k).sy] 35)) := (Below.refl _ _).alloc (Nat.le_refl _) _
        have HCk : Hid (SC w Q fb g n c base F dn d (k + 1) (.slice ao (dn - uD F dn k) cap) (wr.alloc (.cells #[.string (F k).nm, .slice da (F k).len dc, .int .i64 (F k).sy] 35))) := (C.keep hbw hA).skip hl0
        clear C hdr hst frow
        go_wp2
        go_roundw
        case rel => exact ⟨k + 1, by omega, by go_num, HCk.out⟩
        case measure => simp [intOf]; omega
      · have hl1 : ¬ ((F k).len : Int) - (F k).sy = 0 := hl0
        have hln : (F k).len ≠ 0 := fun h => by rw [h] at s1; exact hl1 (by rw [h]; omega)
        obtain ⟨gd, og, rfl, hgdlt, _⟩ := frow.lies.resolve_left hln
        have hA : Below wr.heap.size wr (wr.alloc (.cells #[.string (F k).nm, .slice (some ⟨gd, og, none⟩) (F k).len dc, .int .i64 (F k).sy] 35)) := (Below.refl _ _).alloc (Nat.le_refl _) _
        have CA := C.keep hbw hA
        obtain ⟨T, hT⟩ : ∃ T : Nat, stayD F dn d k = (T : Int) := ⟨(stayD F dn d k).toNat, by omega⟩
        rw [hT] at hst
        have hw2 : IntKind.i64.wrap (((F k).len : Int) - (F k).sy + 1) = ((F k).len : Int) - (F k).sy + 1 := by rw [IntKind.wrap_i64] <;> omega
        have T1 : (0 : Int) ≤ (T : Int) := by omega
        have T2 : (T : Int) ≤ (dc : Int) := by omega
        have xlt : wr.heap.size < (wr.alloc (.cells #[.string (F k).nm, .slice (some ⟨gd, og, none⟩) (F k).len dc, .int .i64 (F k).sy] 35)).heap.size := by simp
        have a0 : (wr.alloc (.cells #[.string (F k).nm, .slice (some ⟨gd, og, none⟩) (F k).len dc, .int .i64 (F k).sy] 35)).cell? ⟨wr.heap.size, 0, none⟩ = some (.string (F k).nm) := by simp [go_sem]
        have a1 : (wr.alloc (.cells #[.string (F k).nm, .slice (some ⟨gd, og, none⟩) (F k).len dc, .int .i64 (F k).sy] 35)).cell? ⟨wr.heap.size, 1, none⟩ = some (.slice (some ⟨gd, og, none⟩) (F k).len dc) := by simp [go_sem]
        have a2 : (wr.alloc (.cells #[.string (F k).nm, .slice (some ⟨gd, og, none⟩) (F k).len dc, .int .i64 (F k).sy] 35)).cell? ⟨wr.heap.size, 2, none⟩ = some (.int .i64 (F k).sy) := by simp [go_sem]
        have af : ∀ j, (wr.alloc (.cells #[.string (F k).nm, .slice (some ⟨gd, og, none⟩) (F k).len dc, .int .i64 (F k).sy] 35)).frozen? ⟨wr.heap.size, j, none⟩ = false := fun j => by simp [go_sem]
        have hdb := hdr.bd
        by_cases hud : uD F dn k < dn
        · have hdz : (0 : Int) < ((dn - uD F dn k : Nat) : Int) := by omega
          have hD0 : drawD F dn d k = d (uD F dn k) := by simp [drawD, hud]
          obtain ⟨db, doff, rfl, hdlt, hdc2⟩ := hdr.lies.resolve_left (by omega)
          have hd0 : (wr.alloc (.cells #[.string (F k).nm, .slice (some ⟨gd, og, none⟩) (F k).len dc, .int .i64 (F k).sy] 35)).cell? ⟨db, doff, none⟩ = some (.int .i64 (d (uD F dn k))) := (hA.cell (p := ⟨db, doff, none⟩) hdlt).trans (by have := hdc2 0 (by omega); simpa only [Nat.add_zero] using this)
          have hdcH : Hid (∀ i, i < dn - uD F dn k → wr.cell? ⟨db, doff + i, none⟩ = some (.int .i64 (d (uD F dn k + i)))) := hdc2
          have hdbk : -9223372036854775808 ≤ d (uD F dn k) ∧ d (uD F dn k) ≤ 9223372036854775807 := by have := hdb 0; simpa using this
          have q1 : (1 : Int) ≤ ((dn - uD F dn k : Nat) : Int) := by omega
          have q2 : ((dn - uD F dn k : Nat) : Int) ≤ (cap : Int) := by omega
          clear hdc2
          have hmd : IntKind.i64.wrap ((F k).sy + md (d (uD F dn k)) (((F k).len : Int) - (F k).sy + 1)) = (T : Int) := by
            have e : (F k).sy + md (d (uD F dn k)) (((F k).len : Int) - (F k).sy + 1) = (T : Int) := by rw [← hT]; unfold stayD loose; rw [hD0]
            rw [e, IntKind.wrap_i64] <;> omega
          have hq9 := fun W => l1Mod_any (d (uD F dn k)) (((F k).len : Int) - (F k).sy + 1) hdbk (by omega) W
          have HC : Hid (SC w Q fb g n c base F dn d k (.slice (some ⟨db, doff, none⟩) (dn - uD F dn k) cap) (wr.alloc (.cells #[.string (F k).nm, .slice (some ⟨gd, og, none⟩) (F k).len dc, .int .i64 (F k).sy] 35))) := CA
          clear CA C hdr
          obtain ⟨ad, had⟩ : ∃ ad, (if cap = 1 then some (⟨db, doff, none⟩ : Addr) else some ⟨db, doff + 1, none⟩) = ad := ⟨_, rfl⟩
          have HAD : Hid (dn - uD F dn k - 1 ≠ 0 → ad = some ⟨db, doff + 1, none⟩) := fun h => by rw [← had, if_neg (by omega)]
          go_wp2
          go_quiet ((go_at_call 38; exact Calls.quiet_of_same (hq9 _)))
          clear had
          generalize wr.alloc (.cells #[.string (F k).nm, .slice (some ⟨gd, og, none⟩) (F k).len dc, .int .i64 (F k).sy] 35) = wA at *
          have hbu := below_drewN (Below.refl wA.heap.size wA) nq
          generalize wA.drewN nq = u at hbu ⊢
          have CU := HC.out.keep (by have := hA.size; omega) hbu
          have e1 := (hbu.cell (p := ⟨wr.heap.size, 1, none⟩) xlt).trans a1
          have e2 := (hbu.cell (p := ⟨wr.heap.size, 2, none⟩) xlt).trans a2
          have lxu : wr.heap.size < u.heap.size := Nat.lt_of_lt_of_le xlt hbu.size
          have hgu := CU.glt
          obtain ⟨ka, kc, ⟨y0, y1, y2, yrow⟩, _, _⟩ := CU.cel k hlt
          obtain ⟨lfb, x0, x1⟩ := CU.box
          have hU : Below u.heap.size u (u.drew.alloc (.cells #[] 5)) := (Below.refl _ u).drew.alloc (Nat.le_refl _) _
          have sU : (u.drew.alloc (.cells #[] 5)).heap.size = u.heap.size + 1 := by simp
          have hU0 : (u.drew.alloc (.cells #[] 5)).heap[u.heap.size]? = some (.cells #[] 5 (0, 0)) := heap_alloc_new u.drew _
          have hrowT : Row (u.drew.alloc (.cells #[] 5)) (some ⟨gd, og, none⟩) T (F k).f := by
            have h1 := ((frow.keep hA).keep hbu).keep hU
            refine ⟨h1.bd, ?_⟩
            obtain ⟨b', o', e', h2, h3⟩ := h1.lies.resolve_left hln
            exact .inr ⟨b', o', e', h2, fun i hi => h3 i (by omega)⟩
          obtain ⟨p4, c4, w4, hrun, own4, hgr4, hat4⟩ := copy2_runX _ u.heap.size hU0 (some ⟨gd, og, none⟩) T dc (F k).f hrowT (by omega)
          have s4 := hgr4.size
          have b4 : ∀ j, j < u.heap.size → w4.heap[j]? = u.heap[j]? := fun j hj => (hgr4.block j (by omega) (fun e => by have := Option.some.inj e; omega)).trans (hU.block j hj)
          have HN : Hid (SC w Q fb g n c base F dn d (k + 1) (.slice ad (dn - uD F dn k - 1) (cap - 1)) ((w4.setCell ⟨g, k * 3 + 1, none⟩ (.slice p4 T c4)).setCell ⟨g, k * 3 + 2, none⟩ (.int .i64 (T : Int)))) := by
            have hu1 : uD F dn (k + 1) = uD F dn k + 1 := by simp [uD, hl0, hud]
            refine CU.step hlt hl0 hT (by omega) hgb (by have := hA.size; have := hbu.size; omega) (by omega) (hgr4.os.trans hU.os) (hgr4.tape.trans hU.tape) (hgr4.output.trans hU.output) b4 frow.bd own4 (by rw [hu1]; omega) ⟨by omega, ?_⟩ (fun b off e h0 => by
                have := HAD.out h0
                rw [this] at e
                injection e with e
                injection e with e _ _
                subst e
                exact hnb _ _ rfl (by omega))
            refine ⟨by rw [hu1]; exact fun i => by have := hdb (1 + i); rw [Nat.add_assoc]; exact this, ?_⟩
            by_cases h0 : dn - uD F dn k - 1 = 0
            · exact .inl h0
            · refine .inr ⟨db, doff + 1, HAD.out h0, Nat.lt_of_lt_of_le (Nat.lt_of_lt_of_le hdlt hA.size) hbu.size, fun i hi => ?_⟩
              have h1 := hdcH.out (1 + i) (by omega)
              have h2 : u.cell? ⟨db, doff + (1 + i), none⟩ = some (.int .i64 (d (uD F dn k + (1 + i)))) := (hbu.cell (p := ⟨db, doff + (1 + i), none⟩) (Nat.lt_of_lt_of_le hdlt hA.size)).trans ((hA.cell (p := ⟨db, doff + (1 + i), none⟩) hdlt).trans h1)
              rw [hu1, Nat.add_assoc doff, h2, Nat.add_assoc]
          have u1 : (u.drew.alloc (.cells #[] 5)).cell? ⟨fb, 1, none⟩ = some (.slice (some ⟨g, 0, none⟩) n c) := (hU.cell (p := ⟨fb, 1, none⟩) lfb).trans x1
          have v1 : w4.cell? ⟨fb, 1, none⟩ = some (.slice (some ⟨g, 0, none⟩) n c) := (World.cell?_of_block (w := u) (a := ⟨fb, 1, none⟩) (b4 fb lfb)).trans x1
          have ue1 : (u.drew.alloc (.cells #[] 5)).cell? ⟨wr.heap.size, 1, none⟩ = some (.slice (some ⟨gd, og, none⟩) (F k).len dc) := (hU.cell (p := ⟨wr.heap.size, 1, none⟩) lxu).trans e1
          have ve1 : w4.cell? ⟨wr.heap.size, 1, none⟩ = some (.slice (some ⟨gd, og, none⟩) (F k).len dc) := (World.cell?_of_block (w := u) (a := ⟨wr.heap.size, 1, none⟩) (b4 _ lxu)).trans e1
          have vy1 : w4.cell? ⟨g, k * 3 + 1, none⟩ = some (.slice ka (crF F dn d k k).len kc) := (World.cell?_of_block (w := u) (a := ⟨g, k * 3 + 1, none⟩) (b4 g hgu)).trans y1
          have vy2 : w4.cell? ⟨g, k * 3 + 2, none⟩ = some (.int .i64 (crF F dn d k k).sy) := (World.cell?_of_block (w := u) (a := ⟨g, k * 3 + 2, none⟩) (b4 g hgu)).trans y2
          have vz : ∀ j, w4.frozen? ⟨g, j, none⟩ = false := fun j => (World.frozen?_of_block (w := u) (a := ⟨g, j, none⟩) (b4 g hgu)).trans (CU.fz j)
          have hgf : fb ≠ g := by omega
          have su : u.drew.heap.size = u.heap.size := rfl
          clear CU HC hbu a0 a1 a2 af hq9 b4 hgr4 hat4 own4 hrowT hU hU0 sU yrow y0 y1 y2 hA frow
          go_wp2
          go_region_law (first
            | (refine step_append_run (by rfl) (.tmp 47) (.tmp 51) 22 (by rfl) (.slice (some ⟨u.heap.size, 0, none⟩) 0 0) (.slice (some ⟨gd, og, none⟩) T dc) (.slice p4 T c4) (by simp [Act.eval, Act.put]) (by simp [Act.eval, Act.put]) w4 hrun ?_))
          all_goals
            go_wp2
            go_roundw
            case rel => exact ⟨k + 1, by omega, by go_num, HN.out⟩
            case measure => simp [intOf]; omega
        · have hdz : ¬ (0 : Int) < ((dn - uD F dn k : Nat) : Int) := by omega
          have hD0 : drawD F dn d k = 0 := by simp [drawD, hud]
          have hmd : IntKind.i64.wrap ((F k).sy + md (0) (((F k).len : Int) - (F k).sy + 1)) = (T : Int) := by
            have e : (F k).sy + md (0) (((F k).len : Int) - (F k).sy + 1) = (T : Int) := by rw [← hT]; unfold stayD loose; rw [hD0]
            rw [e, IntKind.wrap_i64] <;> omega
          have hq9 := fun W => l1Mod_any (0) (((F k).len : Int) - (F k).sy + 1) (by omega) (by omega) W
          have HC : Hid (SC w Q fb g n c base F dn d k (.slice ao (dn - uD F dn k) cap) (wr.alloc (.cells #[.string (F k).nm, .slice (some ⟨gd, og, none⟩) (F k).len dc, .int .i64 (F k).sy] 35))) := CA
          clear CA C hdr
          go_wp2
          go_quiet ((go_at_call 38; exact Calls.quiet_of_same (hq9 _)))
          generalize wr.alloc (.cells #[.string (F k).nm, .slice (some ⟨gd, og, none⟩) (F k).len dc, .int .i64 (F k).sy] 35) = wA at *
          have hbu := below_drewN (Below.refl wA.heap.size wA) nq
          generalize wA.drewN nq = u at hbu ⊢
          have CU := HC.out.keep (by have := hA.size; omega) hbu
          have e1 := (hbu.cell (p := ⟨wr.heap.size, 1, none⟩) xlt).trans a1
          have e2 := (hbu.cell (p := ⟨wr.heap.size, 2, none⟩) xlt).trans a2
          have lxu : wr.heap.size < u.heap.size := Nat.lt_of_lt_of_le xlt hbu.size
          have hgu := CU.glt
          obtain ⟨ka, kc, ⟨y0, y1, y2, yrow⟩, _, _⟩ := CU.cel k hlt
          obtain ⟨lfb, x0, x1⟩ := CU.box
          have hU : Below u.heap.size u (u.drew.alloc (.cells #[] 5)) := (Below.refl _ u).drew.alloc (Nat.le_refl _) _
          have sU : (u.drew.alloc (.cells #[] 5)).heap.size = u.heap.size + 1 := by simp
          have hU0 : (u.drew.alloc (.cells #[] 5)).heap[u.heap.size]? = some (.cells #[] 5 (0, 0)) := heap_alloc_new u.drew _
          have hrowT : Row (u.drew.alloc (.cells #[] 5)) (some ⟨gd, og, none⟩) T (F k).f := by
            have h1 := ((frow.keep hA).keep hbu).keep hU
            refine ⟨h1.bd, ?_⟩
            obtain ⟨b', o', e', h2, h3⟩ := h1.lies.resolve_left hln
            exact .inr ⟨b', o', e', h2, fun i hi => h3 i (by omega)⟩
          obtain ⟨p4, c4, w4, hrun, own4, hgr4, hat4⟩ := copy2_runX _ u.heap.size hU0 (some ⟨gd, og, none⟩) T dc (F k).f hrowT (by omega)
          have s4 := hgr4.size
          have b4 : ∀ j, j < u.heap.size → w4.heap[j]? = u.heap[j]? := fun j hj => (hgr4.block j (by omega) (fun e => by have := Option.some.inj e; omega)).trans (hU.block j hj)
          have HN : Hid (SC w Q fb g n c base F dn d (k + 1) (.slice ao (dn - uD F dn k) cap) ((w4.setCell ⟨g, k * 3 + 1, none⟩ (.slice p4 T c4)).setCell ⟨g, k * 3 + 2, none⟩ (.int .i64 (T : Int)))) := by
            have hu1 : uD F dn (k + 1) = uD F dn k := by simp [uD, hl0, hud]
            refine CU.step hlt hl0 hT (by omega) hgb (by have := hA.size; have := hbu.size; omega) (by omega) (hgr4.os.trans hU.os) (hgr4.tape.trans hU.tape) (hgr4.output.trans hU.output) b4 frow.bd own4 (by rw [hu1]) ⟨hcap, ?_⟩ hnb
            exact ⟨by rw [hu1]; exact hdb, .inl (by omega)⟩
          have u1 : (u.drew.alloc (.cells #[] 5)).cell? ⟨fb, 1, none⟩ = some (.slice (some ⟨g, 0, none⟩) n c) := (hU.cell (p := ⟨fb, 1, none⟩) lfb).trans x1
          have v1 : w4.cell? ⟨fb, 1, none⟩ = some (.slice (some ⟨g, 0, none⟩) n c) := (World.cell?_of_block (w := u) (a := ⟨fb, 1, none⟩) (b4 fb lfb)).trans x1
          have ue1 : (u.drew.alloc (.cells #[] 5)).cell? ⟨wr.heap.size, 1, none⟩ = some (.slice (some ⟨gd, og, none⟩) (F k).len dc) := (hU.cell (p := ⟨wr.heap.size, 1, none⟩) lxu).trans e1
          have ve1 : w4.cell? ⟨wr.heap.size, 1, none⟩ = some (.slice (some ⟨gd, og, none⟩) (F k).len dc) := (World.cell?_of_block (w := u) (a := ⟨wr.heap.size, 1, none⟩) (b4 _ lxu)).trans e1
          have vy1 : w4.cell? ⟨g, k * 3 + 1, none⟩ = some (.slice ka (crF F dn d k k).len kc) := (World.cell?_of_block (w := u) (a := ⟨g, k * 3 + 1, none⟩) (b4 g hgu)).trans y1
          have vy2 : w4.cell? ⟨g, k * 3 + 2, none⟩ = some (.int .i64 (crF F dn d k k).sy) := (World.cell?_of_block (w := u) (a := ⟨g, k * 3 + 2, none⟩) (b4 g hgu)).trans y2
          have vz : ∀ j, w4.frozen? ⟨g, j, none⟩ = false := fun j => (World.frozen?_of_block (w := u) (a := ⟨g, j, none⟩) (b4 g hgu)).trans (CU.fz j)
          have hgf : fb ≠ g := by omega
          have su : u.drew.heap.size = u.heap.size := rfl
          clear CU HC hbu a0 a1 a2 af hq9 b4 hgr4 hat4 own4 hrowT hU hU0 sU yrow y0 y1 y2 hA frow
          go_wp2
          go_region_law (first
            | (refine step_append_run (by rfl) (.tmp 47) (.tmp 51) 22 (by rfl) (.slice (some ⟨u.heap.size, 0, none⟩) 0 0) (.slice (some ⟨gd, og, none⟩) T dc) (.slice p4 T c4) (by simp [Act.eval, Act.put]) (by simp [Act.eval, Act.put]) w4 hrun ?_))
          all_goals
            go_wp2
            go_roundw
            case rel => exact ⟨k + 1, by omega, by go_num, HN.out⟩
            case measure => simp [intOf]; omega
    · have e : k = n := by omega
      subst e
      go_wp2
      go_end0
      exact ⟨rfl, _, C⟩
end Go.Proofs.YtiojjihonmonkaaDoor
