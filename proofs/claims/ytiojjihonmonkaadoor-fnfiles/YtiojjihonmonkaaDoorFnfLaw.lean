/- The law of FnFiles, walked. -/
import Derived.Test.YtiojjihonmonkaaDoorFa
import Derived.Test.YtiojjihonmonkaaDoorCreM
import Derived.Test.YtiojjihonmonkaaDoorDc
import Derived.Laws.BytesArg
namespace Go.Proofs.YtiojjihonmonkaaDoor
open Go.RowKit
set_option linter.unusedSimpArgs false
set_option linter.unusedVariables false

theorem row_take {w : World} {da : Option Addr} {len k : Nat} {f : Nat → Int} (h : Row w da len f) (hk : k ≤ len) : Row w da k f :=
  ⟨h.bd, h.lies.elim (fun e => .inl (by omega)) fun ⟨b, off, e, hlt, hc⟩ => .inr ⟨b, off, e, hlt, fun i hi => hc i (by omega)⟩⟩
theorem conv_rowF {w : World} {da : Option Addr} {len : Nat} {f : Nat → Int} (h : Row w da len f) (c : Nat) : (convert 22 9 (.slice da len c)).run Tryd.prog w = .ok (.string (strOfNums ((List.range len).map f))) w := by
  by_cases h0 : len = 0
  · subst h0
    cases da with
    | none => exact run_convert_bytes_nil (P := Tryd.prog) w 22 5 Tryd.underlying22 Tryd.underlying5 0 c 9 Tryd.underlying9
    | some a =>
      rw [run_convert_bytes_string (P := Tryd.prog) w 22 9 5 _ 0 c Tryd.underlying22 Tryd.underlying5 Tryd.underlying9, run_bytesToString (P := Tryd.prog) w _ 0 c [] (by simp [loadCells, loadCellsFrom]), foldl_push_bytes]
      simp [strOfNums, ByteArray.empty, ByteArray.emptyWithCapacity]
      rfl
  · obtain ⟨b, off, rfl, hlt, hc⟩ := h.lies.resolve_left h0
    exact run_convert_bytes_arg (P := Tryd.prog) w 22 5 Tryd.underlying22 Tryd.underlying5 b off len c _ (by simp) (fun i hi => by rw [hc i hi]; simp [hi]) 9 Tryd.underlying9

set_option maxRecDepth 100000 in
set_option maxHeartbeats 16000000 in
theorem fnFiles_law (ao : Option Addr) (n cap : Nat) (f : Nat → Int) (w : World) (hE : ET w) (hr : Row w ao n f) (hnx : n ≤ 9223372036854775807) :
    Calls Tryd.prog 3 #[.slice ao n cap] w fun e w' => e = .returned (.bool true) ∧ Below w.heap.size w w' := by
  by_cases hbig : 1048576 < n
  · have hb2 : (1048576 : Int) < (n : Int) := by omega
    go_enter Tryd.func3, Tryd.ntmps3
    go_wp2
    go_ret
    exact ⟨rfl, Below.refl _ _⟩
  · have hb2 : ¬ (1048576 : Int) < (n : Int) := by omega
    go_enter Tryd.func3, Tryd.ntmps3
    go_wp2_with fail
    refine (drawCrash_any ao n cap f w hr (by omega)).mono ?_
    rintro e w1 ⟨Q, p, m, c, F, lo, lc, L, rfl, hQ, hD, hS, hL3, hlc, hI, b1⟩
    have hm41 := hD.le
    have bn2 := below_new w1 (.cells #[.int .i64 Q, .slice p m c] 25)
    have Fb2 := QAt.new w1 Q (.slice p m c) 25
    have hS2 := hS.keep bn2
    have hI2 := hI.keep bn2
    have hE2 := (hE.keep b1).keep bn2
    have q2 := b1.trans (bn2.mono b1.size)
    have hq64 : -9223372036854775808 ≤ Q ∧ Q ≤ 9223372036854775807 := by omega
    clear hS hI b1 bn2 hr
    obtain ⟨_, f0, f1⟩ := id Fb2
    cases hG : goodF Q m F
    · go_wp2_with fail
      generalize w1.alloc (.cells #[.int .i64 Q, .slice p m c] 25) = w2 at *
      generalize w1.heap.size = fb at *
      refine (crashFiles_impl_bad Q p m c F F _ hG w2 hS2.row hq64 (by omega) hD.sz).mono ?_
      rintro e w3 ⟨a3, c3, G3, rfl, hV3, b3⟩
      have bn4 := below_new w3 (.cells #[.int .i64 0, .slice a3 0 c3] 25)
      have q4 := (q2.trans (b3.mono q2.size)).trans (bn4.mono (q2.trans (b3.mono q2.size)).size)
      have Fb4 := (Fb2.keep b3).keep bn4
      have hS4 := (hS2.keep b3).keep bn4
      clear f0 f1 hV3 b3 bn4 Fb2 hS2
      obtain ⟨_, f0, f1⟩ := id Fb4
      go_wp2_with fail
      generalize w3.alloc (.cells #[.int .i64 0, .slice a3 0 c3] 25) = w4 at *
      refine (crashFiles_spec_bad Q p m c F F _ hG w4 hS4.row hq64 (by omega) hD.sz).mono ?_
      rintro e w5 ⟨a5, c5, rfl, hV5, b5⟩
      have bn6 := below_new w5 (.cells #[.int .i64 0, .slice a5 0 c5] 25)
      have q6 := (q4.trans (b5.mono q4.size)).trans (bn6.mono (q4.trans (b5.mono q4.size)).size)
      clear f0 f1 Fb4 hS4 hV5 b5 bn6 q4
      go_wp2
      go_ret
      exact ⟨rfl, q6⟩
    · obtain ⟨p1, p2, p3, hK, p4⟩ := good_parts hG
      have hG' := good_cr (dn := L.length) (d := fi L) hG
      obtain ⟨-, -, -, hK', p4'⟩ := good_parts hG'
      have HK : Hid (∀ i, i < m → fileOk F i = true) := hK
      have hsz : FSize m F 1048576 := hD.sz
      have hszC : FSize m (crF F L.length (fi L) m) 1048576 := fun i hi => by
        have hc := crd_of (dn := L.length) (d := fi L) hi (hK i hi)
        exact ⟨by rw [hc.nm]; exact (hsz i hi).1, Nat.le_trans hc.hi (hsz i hi).2⟩
      have hu0 : used (crF F L.length (fi L) m) m ≤ 60000 := by omega
      clear hK hK' p4
      go_wp2_with fail
      generalize w1.alloc (.cells #[.int .i64 Q, .slice p m c] 25) = w2 at *
      generalize w1.heap.size = fb at *
      refine (crashFiles_impl_good Q p m c F lo L.length lc (fi L) hlc (by omega) hG HK.out hD.bd p3 w2 hI2 hE2 hS2.row hq64 hsz).mono ?_
      rintro e w3 ⟨a3, c3, G3, rfl, hV3, b3⟩
      have bn4 := below_new w3 (.cells #[.int .i64 Q, .slice a3 m c3] 25)
      have Xb4 := QAt.new w3 Q (.slice a3 m c3) 25
      have q4 := (q2.trans (b3.mono q2.size)).trans (bn4.mono (q2.trans (b3.mono q2.size)).size)
      have Fb4 := (Fb2.keep b3).keep bn4
      have hS4 := (hS2.keep b3).keep bn4
      have hI4 := (hI2.keep b3).keep bn4
      have hV4 := hV3.row.keep bn4
      clear f0 f1 hV3 b3 bn4 Fb2 hS2 hI2 hE2
      obtain ⟨_, f0, f1⟩ := id Fb4
      go_wp2_with fail
      generalize w3.alloc (.cells #[.int .i64 Q, .slice a3 m c3] 25) = w4 at *
      generalize w3.heap.size = xb at *
      refine (crashFiles_spec_good Q p m c F lo L.length lc (fi L) hlc hG HK.out p3 w4 hI4 hS4.row hq64 hsz).mono ?_
      rintro e w5 ⟨a5, c5, rfl, hV5, b5⟩
      have bn6 := below_new w5 (.cells #[.int .i64 Q, .slice a5 m c5] 25)
      have q6 := (q4.trans (b5.mono q4.size)).trans (bn6.mono (q4.trans (b5.mono q4.size)).size)
      have Fb6 := (Fb4.keep b5).keep bn6
      have Xb6 := (Xb4.keep b5).keep bn6
      have hS6 := (hS4.keep b5).keep bn6
      have hV6 := (hV4.keep b5).keep bn6
      clear f0 f1 Fb4 Xb4 hS4 hV5 b5 bn6 q4 hI4 hV4
      obtain ⟨_, v0, v1⟩ := id Xb6
      go_wp2_with fail
      generalize w5.alloc (.cells #[.int .i64 Q, .slice a5 m c5] 25) = w6 at *
      refine (usedBytes_impl Q a3 m c3 (crF F L.length (fi L) m) true hG' w6 hV6 hq64 (by omega) hszC).mono ?_
      rintro e w7 ⟨rfl, b7⟩
      have Fb7 := Fb6.keep b7
      have Xb7 := Xb6.keep b7
      have hS7 := hS6.keep b7
      have hV7 := hV6.keep b7
      have q7 := q6.trans (b7.mono q6.size)
      clear v0 v1 Fb6 Xb6 hS6 hV6 b7 q6
      unfold ubAns
      generalize hud : used (crF F L.length (fi L) m) m = ub at *
      clear hud
      obtain ⟨_, v0, v1⟩ := id Xb7
      have hug : ¬ (Q < ((ub : Nat) : Int)) := by omega
      have hug2 : decide (Q < ((ub : Nat) : Int)) = false := decide_eq_false hug
      simp only [if_true]
      go_wp2_with fail
      refine (goodFiles_impl Q a3 m c3 (crF F L.length (fi L) m) true hG' w7 hV7 hq64 (by omega) hszC).mono ?_
      rintro e w8 ⟨rfl, b8⟩
      have Fb8 := Fb7.keep b8
      have Xb8 := Xb7.keep b8
      have hS8 := hS7.keep b8
      have hV8 := hV7.keep b8
      have q8 := q7.trans (b8.mono q7.size)
      clear v0 v1 Fb7 Xb7 hS7 hV7 b8 q7
      obtain ⟨_, v0, v1⟩ := id Xb8
      obtain ⟨_, f0, f1⟩ := id Fb8
      go_upto_block 0 with fail
      clear v0 v1 f0 f1
      go_wp2_with fail
      go_loopw [69] (fun i wr => ∃ k : Nat, k ≤ m ∧ i = .int .i64 k ∧ Below w8.heap.size w8 wr) (fun i _ => m - (intOf i).toNat)
      case atStart => exact ⟨0, Nat.zero_le _, rfl, Below.refl _ _⟩
      case round =>
        obtain ⟨k, hk, rfl, hbk⟩ := hrel
        by_cases hlt : k < m
        · obtain ⟨g, rfl, hg1, hg2, _, hgc⟩ := hS8.at (by omega)
          obtain ⟨dy, cy, hy, _⟩ := hgc k hlt
          have hcap := hS8.cap hlt hy.c1
          obtain ⟨hcl, hcO⟩ := hcap
          obtain ⟨b3, o3, rfl, hb3, hc3⟩ := hV8.lies.resolve_left (by omega)
          obtain ⟨dz, cz, hz⟩ := hc3 k hlt
          have hcr := crd_of (dn := L.length) (d := fi L) hlt (HK.out k hlt)
          clear hgc hc3
          obtain ⟨y0, y1, y2, yr⟩ := hy.keep (B := 0) hg2 hbk
          obtain ⟨z0, z1, z2, zr⟩ := hz.keep (B := 0) hb3 hbk
          rw [hcr.nm] at z0
          rw [hcr.sy] at z2
          rw [hcr.f] at zr
          have h1 := hcr.lo
          have h2 := hcr.hi
          have hy60 := (hsz k hlt).2
          clear hy hz hcr
          generalize F k = x at *
          generalize crF F L.length (fi L) m k = z at *
          have l1 : decide ((z.len : Int) < x.sy) = false := decide_eq_false (by omega)
          have l2 : decide ((x.len : Int) < (z.len : Int)) = false := decide_eq_false (by omega)
          have l3 : (0 : Int) ≤ (z.len : Int) := by omega
          have l4 : (z.len : Int) ≤ (cy : Int) := by omega
          have l5 : (x.len : Int) ≤ (cy : Int) := by omega
          have l6 : (z.len : Int) ≤ (x.len : Int) := by omega
          have hkd : decide ((k : Int) < (m : Int)) = true := decide_eq_true (by omega)
          obtain ⟨lf, f0, f1⟩ := id (Fb8.keep hbk)
          obtain ⟨lx, v0, v1⟩ := id (Xb8.keep hbk)
          have lb3 : b3 < wr.heap.size := Nat.lt_of_lt_of_le hb3 hbk.size
          have lg : g < wr.heap.size := Nat.lt_of_lt_of_le hg2 hbk.size
          have hk2 : (k : Int) < (m : Int) := by omega
          have bA : Below wr.heap.size wr ((wr.alloc (.cells #[.string x.nm, .slice dy x.len cy, .int .i64 x.sy] 35)).alloc (.cells #[.string x.nm, .slice dz z.len cz, .int .i64 (z.len : Int)] 35)) := (below_new _ _).trans ((below_new _ _).mono (by simp))
          have yr2 := (row_take yr h2).keep bA
          have zr2 := zr.keep bA
          go_upto_region 17 with fail
          obtain ⟨ST, hST⟩ : ∃ ST, strOfNums ((List.range z.len).map x.f) = ST := ⟨_, rfl⟩
          have hS0 : (fun W : World => W.cell? ⟨wr.heap.size, 0, none⟩ = some (.string x.nm) ∧ W.cell? ⟨wr.heap.size, 1, none⟩ = some (.slice dy x.len cy) ∧ W.cell? ⟨wr.heap.size, 2, none⟩ = some (.int .i64 x.sy) ∧ W.cell? ⟨wr.heap.size + 1, 0, none⟩ = some (.string x.nm) ∧ W.cell? ⟨wr.heap.size + 1, 1, none⟩ = some (.slice dz z.len cz) ∧ W.cell? ⟨wr.heap.size + 1, 2, none⟩ = some (.int .i64 (z.len : Int)) ∧ (convert 22 9 (.slice dz z.len cz)).run Tryd.prog W = .ok (.string ST) W ∧ (convert 22 9 (.slice dy z.len cy)).run Tryd.prog W = .ok (.string ST) W) ((wr.alloc (.cells #[.string x.nm, .slice dy x.len cy, .int .i64 x.sy] 35)).alloc (.cells #[.string x.nm, .slice dz z.len cz, .int .i64 (z.len : Int)] 35)).drew := by
            have e1 := conv_rowF (zr2.keep (Below.refl _ _).drew) cz
            have e2 := conv_rowF (yr2.keep (Below.refl _ _).drew) cy
            rw [hST] at e1 e2
            exact ⟨by simp [go_sem], by simp [go_sem], by simp [go_sem], by simp [go_sem], by simp [go_sem], by simp [go_sem], e1, e2⟩
          have bw9 : Below w8.heap.size w8 ((wr.alloc (.cells #[.string x.nm, .slice dy x.len cy, .int .i64 x.sy] 35)).alloc (.cells #[.string x.nm, .slice dz z.len cz, .int .i64 (z.len : Int)] 35)).drew := hbk.trans ((bA.drew).mono hbk.size)
          clear hST yr2 zr2 bA yr zr y0 y1 y2 z0 z1 z2 f0 f1 v0 v1
          refine wp_region_w (fun W : World => W.cell? ⟨wr.heap.size, 0, none⟩ = some (.string x.nm) ∧ W.cell? ⟨wr.heap.size, 1, none⟩ = some (.slice dy x.len cy) ∧ W.cell? ⟨wr.heap.size, 2, none⟩ = some (.int .i64 x.sy) ∧ W.cell? ⟨wr.heap.size + 1, 0, none⟩ = some (.string x.nm) ∧ W.cell? ⟨wr.heap.size + 1, 1, none⟩ = some (.slice dz z.len cz) ∧ W.cell? ⟨wr.heap.size + 1, 2, none⟩ = some (.int .i64 (z.len : Int)) ∧ (convert 22 9 (.slice dz z.len cz)).run Tryd.prog W = .ok (.string ST) W ∧ (convert 22 9 (.slice dy z.len cy)).run Tryd.prog W = .ok (.string ST) W) (fun _ => true) (by kernel_rfl) ?_
          change wpW _ _ _ _ _ _ 43 _ _ ((wr.alloc (.cells #[.string x.nm, .slice dy x.len cy, .int .i64 x.sy] 35)).alloc (.cells #[.string x.nm, .slice dz z.len cz, .int .i64 (z.len : Int)] 35)).drew
          generalize ((wr.alloc (.cells #[.string x.nm, .slice dy x.len cy, .int .i64 x.sy] 35)).alloc (.cells #[.string x.nm, .slice dz z.len cz, .int .i64 (z.len : Int)] 35)).drew = w9 at *
          refine wpW_take 0 _ (.pointer (some ⟨wr.heap.size + 1, 0, none⟩)) rfl (by kernel_rfl) (by kernel_rfl) (by kernel_rfl) (fun _ _ _ h => h) (by kernel_rfl) (.inl ⟨rfl, fun w' hS' => by go_simp⟩) hS0 ?_
          simp only [Act.put, List.getElem_toArray, List.getElem_cons_succ, List.getElem_cons_zero, List.setIfInBounds_toArray, List.set_cons_zero, List.set_cons_succ]
          refine wpW_take 1 _ (.string x.nm) rfl (by kernel_rfl) (by kernel_rfl) (by kernel_rfl) (fun _ _ _ h => h) (by kernel_rfl) (.inl ⟨rfl, fun w' hS' => by obtain ⟨s0, s1, s2, s3, s4, s5, s6, s7⟩ := hS'; go_simp⟩) hS0 ?_
          simp only [Act.put, List.getElem_toArray, List.getElem_cons_succ, List.getElem_cons_zero, List.setIfInBounds_toArray, List.set_cons_zero, List.set_cons_succ]
          refine wpW_take 2 _ (.pointer (some ⟨wr.heap.size, 0, none⟩)) rfl (by kernel_rfl) (by kernel_rfl) (by kernel_rfl) (fun _ _ _ h => h) (by kernel_rfl) (.inl ⟨rfl, fun w' hS' => by go_simp⟩) hS0 ?_
          simp only [Act.put, List.getElem_toArray, List.getElem_cons_succ, List.getElem_cons_zero, List.setIfInBounds_toArray, List.set_cons_zero, List.set_cons_succ]
          refine wpW_take 3 _ (.string x.nm) rfl (by kernel_rfl) (by kernel_rfl) (by kernel_rfl) (fun _ _ _ h => h) (by kernel_rfl) (.inl ⟨rfl, fun w' hS' => by obtain ⟨s0, s1, s2, s3, s4, s5, s6, s7⟩ := hS'; go_simp⟩) hS0 ?_
          simp only [Act.put, List.getElem_toArray, List.getElem_cons_succ, List.getElem_cons_zero, List.setIfInBounds_toArray, List.set_cons_zero, List.set_cons_succ]
          refine wpW_take 4 _ (.bool false) rfl (by kernel_rfl) (by kernel_rfl) (by kernel_rfl) (fun _ _ _ h => h) (by kernel_rfl) (.inl ⟨rfl, fun w' hS' => by go_simp⟩) hS0 ?_
          simp only [Act.put, List.getElem_toArray, List.getElem_cons_succ, List.getElem_cons_zero, List.setIfInBounds_toArray, List.set_cons_zero, List.set_cons_succ]
          refine wpW_take 5 _ (.bool false) rfl (by kernel_rfl) (by kernel_rfl) (by kernel_rfl) (fun _ _ _ h => h) (by kernel_rfl) (.inl ⟨rfl, fun w' hS' => by go_simp⟩) hS0 ?_
          simp only [Act.put, List.getElem_toArray, List.getElem_cons_succ, List.getElem_cons_zero, List.setIfInBounds_toArray, List.set_cons_zero, List.set_cons_succ]
          refine wpW_take 6 _ (.pointer (some ⟨wr.heap.size + 1, 1, none⟩)) rfl (by kernel_rfl) (by kernel_rfl) (by kernel_rfl) (fun _ _ _ h => h) (by kernel_rfl) (.inl ⟨rfl, fun w' hS' => by go_simp⟩) hS0 ?_
          simp only [Act.put, List.getElem_toArray, List.getElem_cons_succ, List.getElem_cons_zero, List.setIfInBounds_toArray, List.set_cons_zero, List.set_cons_succ]
          refine wpW_take 7 _ (.slice dz z.len cz) rfl (by kernel_rfl) (by kernel_rfl) (by kernel_rfl) (fun _ _ _ h => h) (by kernel_rfl) (.inl ⟨rfl, fun w' hS' => by obtain ⟨s0, s1, s2, s3, s4, s5, s6, s7⟩ := hS'; go_simp⟩) hS0 ?_
          simp only [Act.put, List.getElem_toArray, List.getElem_cons_succ, List.getElem_cons_zero, List.setIfInBounds_toArray, List.set_cons_zero, List.set_cons_succ]
          refine wpW_take 8 _ (.int .i64 (z.len : Int)) rfl (by kernel_rfl) (by kernel_rfl) (by kernel_rfl) (fun _ _ _ h => h) (by kernel_rfl) (.inl ⟨rfl, fun w' hS' => by go_simp⟩) hS0 ?_
          simp only [Act.put, List.getElem_toArray, List.getElem_cons_succ, List.getElem_cons_zero, List.setIfInBounds_toArray, List.set_cons_zero, List.set_cons_succ]
          refine wpW_take 9 _ (.pointer (some ⟨wr.heap.size, 2, none⟩)) rfl (by kernel_rfl) (by kernel_rfl) (by kernel_rfl) (fun _ _ _ h => h) (by kernel_rfl) (.inl ⟨rfl, fun w' hS' => by go_simp⟩) hS0 ?_
          simp only [Act.put, List.getElem_toArray, List.getElem_cons_succ, List.getElem_cons_zero, List.setIfInBounds_toArray, List.set_cons_zero, List.set_cons_succ]
          refine wpW_take 10 _ (.int .i64 x.sy) rfl (by kernel_rfl) (by kernel_rfl) (by kernel_rfl) (fun _ _ _ h => h) (by kernel_rfl) (.inl ⟨rfl, fun w' hS' => by obtain ⟨s0, s1, s2, s3, s4, s5, s6, s7⟩ := hS'; go_simp⟩) hS0 ?_
          simp only [Act.put, List.getElem_toArray, List.getElem_cons_succ, List.getElem_cons_zero, List.setIfInBounds_toArray, List.set_cons_zero, List.set_cons_succ]
          refine wpW_take 11 _ (.bool false) rfl (by kernel_rfl) (by kernel_rfl) (by kernel_rfl) (fun _ _ _ h => h) (by kernel_rfl) (.inl ⟨rfl, fun w' hS' => by go_simp⟩) hS0 ?_
          simp only [Act.put, List.getElem_toArray, List.getElem_cons_succ, List.getElem_cons_zero, List.setIfInBounds_toArray, List.set_cons_zero, List.set_cons_succ]
          refine wpW_take 12 _ (.bool false) rfl (by kernel_rfl) (by kernel_rfl) (by kernel_rfl) (fun _ _ _ h => h) (by kernel_rfl) (.inl ⟨rfl, fun w' hS' => by go_simp⟩) hS0 ?_
          simp only [Act.put, List.getElem_toArray, List.getElem_cons_succ, List.getElem_cons_zero, List.setIfInBounds_toArray, List.set_cons_zero, List.set_cons_succ]
          refine wpW_take 13 _ (.bool false) rfl (by kernel_rfl) (by kernel_rfl) (by kernel_rfl) (fun _ _ _ h => h) (by kernel_rfl) (.inl ⟨rfl, fun w' hS' => by go_simp⟩) hS0 ?_
          simp only [Act.put, List.getElem_toArray, List.getElem_cons_succ, List.getElem_cons_zero, List.setIfInBounds_toArray, List.set_cons_zero, List.set_cons_succ]
          refine wpW_take 14 _ (.pointer (some ⟨wr.heap.size + 1, 1, none⟩)) rfl (by kernel_rfl) (by kernel_rfl) (by kernel_rfl) (fun _ _ _ h => h) (by kernel_rfl) (.inl ⟨rfl, fun w' hS' => by go_simp⟩) hS0 ?_
          simp only [Act.put, List.getElem_toArray, List.getElem_cons_succ, List.getElem_cons_zero, List.setIfInBounds_toArray, List.set_cons_zero, List.set_cons_succ]
          refine wpW_take 15 _ (.slice dz z.len cz) rfl (by kernel_rfl) (by kernel_rfl) (by kernel_rfl) (fun _ _ _ h => h) (by kernel_rfl) (.inl ⟨rfl, fun w' hS' => by obtain ⟨s0, s1, s2, s3, s4, s5, s6, s7⟩ := hS'; go_simp⟩) hS0 ?_
          simp only [Act.put, List.getElem_toArray, List.getElem_cons_succ, List.getElem_cons_zero, List.setIfInBounds_toArray, List.set_cons_zero, List.set_cons_succ]
          refine wpW_take 16 _ (.int .i64 (z.len : Int)) rfl (by kernel_rfl) (by kernel_rfl) (by kernel_rfl) (fun _ _ _ h => h) (by kernel_rfl) (.inl ⟨rfl, fun w' hS' => by go_simp⟩) hS0 ?_
          simp only [Act.put, List.getElem_toArray, List.getElem_cons_succ, List.getElem_cons_zero, List.setIfInBounds_toArray, List.set_cons_zero, List.set_cons_succ]
          refine wpW_take 17 _ (.pointer (some ⟨wr.heap.size, 1, none⟩)) rfl (by kernel_rfl) (by kernel_rfl) (by kernel_rfl) (fun _ _ _ h => h) (by kernel_rfl) (.inl ⟨rfl, fun w' hS' => by go_simp⟩) hS0 ?_
          simp only [Act.put, List.getElem_toArray, List.getElem_cons_succ, List.getElem_cons_zero, List.setIfInBounds_toArray, List.set_cons_zero, List.set_cons_succ]
          refine wpW_take 18 _ (.slice dy x.len cy) rfl (by kernel_rfl) (by kernel_rfl) (by kernel_rfl) (fun _ _ _ h => h) (by kernel_rfl) (.inl ⟨rfl, fun w' hS' => by obtain ⟨s0, s1, s2, s3, s4, s5, s6, s7⟩ := hS'; go_simp⟩) hS0 ?_
          simp only [Act.put, List.getElem_toArray, List.getElem_cons_succ, List.getElem_cons_zero, List.setIfInBounds_toArray, List.set_cons_zero, List.set_cons_succ]
          refine wpW_take 19 _ (.int .i64 (x.len : Int)) rfl (by kernel_rfl) (by kernel_rfl) (by kernel_rfl) (fun _ _ _ h => h) (by kernel_rfl) (.inl ⟨rfl, fun w' hS' => by go_simp⟩) hS0 ?_
          simp only [Act.put, List.getElem_toArray, List.getElem_cons_succ, List.getElem_cons_zero, List.setIfInBounds_toArray, List.set_cons_zero, List.set_cons_succ]
          refine wpW_take 20 _ (.bool false) rfl (by kernel_rfl) (by kernel_rfl) (by kernel_rfl) (fun _ _ _ h => h) (by kernel_rfl) (.inl ⟨rfl, fun w' hS' => by go_simp⟩) hS0 ?_
          simp only [Act.put, List.getElem_toArray, List.getElem_cons_succ, List.getElem_cons_zero, List.setIfInBounds_toArray, List.set_cons_zero, List.set_cons_succ]
          refine wpW_take 21 _ (.bool false) rfl (by kernel_rfl) (by kernel_rfl) (by kernel_rfl) (fun _ _ _ h => h) (by kernel_rfl) (.inl ⟨rfl, fun w' hS' => by go_simp⟩) hS0 ?_
          simp only [Act.put, List.getElem_toArray, List.getElem_cons_succ, List.getElem_cons_zero, List.setIfInBounds_toArray, List.set_cons_zero, List.set_cons_succ]
          refine wpW_take 22 _ (.bool false) rfl (by kernel_rfl) (by kernel_rfl) (by kernel_rfl) (fun _ _ _ h => h) (by kernel_rfl) (.inl ⟨rfl, fun w' hS' => by go_simp⟩) hS0 ?_
          simp only [Act.put, List.getElem_toArray, List.getElem_cons_succ, List.getElem_cons_zero, List.setIfInBounds_toArray, List.set_cons_zero, List.set_cons_succ]
          refine wpW_take 23 _ (.pointer (some ⟨wr.heap.size + 1, 1, none⟩)) rfl (by kernel_rfl) (by kernel_rfl) (by kernel_rfl) (fun _ _ _ h => h) (by kernel_rfl) (.inl ⟨rfl, fun w' hS' => by go_simp⟩) hS0 ?_
          simp only [Act.put, List.getElem_toArray, List.getElem_cons_succ, List.getElem_cons_zero, List.setIfInBounds_toArray, List.set_cons_zero, List.set_cons_succ]
          refine wpW_take 24 _ (.slice dz z.len cz) rfl (by kernel_rfl) (by kernel_rfl) (by kernel_rfl) (fun _ _ _ h => h) (by kernel_rfl) (.inl ⟨rfl, fun w' hS' => by obtain ⟨s0, s1, s2, s3, s4, s5, s6, s7⟩ := hS'; go_simp⟩) hS0 ?_
          simp only [Act.put, List.getElem_toArray, List.getElem_cons_succ, List.getElem_cons_zero, List.setIfInBounds_toArray, List.set_cons_zero, List.set_cons_succ]
          refine wpW_take 25 _ (.string ST) rfl (by kernel_rfl) (by kernel_rfl) (by kernel_rfl) (fun _ _ _ h => h) (by kernel_rfl) (.inl ⟨rfl, fun w' hS' => by obtain ⟨s0, s1, s2, s3, s4, s5, s6, s7⟩ := hS'; go_simp⟩) hS0 ?_
          simp only [Act.put, List.getElem_toArray, List.getElem_cons_succ, List.getElem_cons_zero, List.setIfInBounds_toArray, List.set_cons_zero, List.set_cons_succ]
          refine wpW_take 26 _ (.pointer (some ⟨wr.heap.size, 1, none⟩)) rfl (by kernel_rfl) (by kernel_rfl) (by kernel_rfl) (fun _ _ _ h => h) (by kernel_rfl) (.inl ⟨rfl, fun w' hS' => by go_simp⟩) hS0 ?_
          simp only [Act.put, List.getElem_toArray, List.getElem_cons_succ, List.getElem_cons_zero, List.setIfInBounds_toArray, List.set_cons_zero, List.set_cons_succ]
          refine wpW_take 27 _ (.slice dy x.len cy) rfl (by kernel_rfl) (by kernel_rfl) (by kernel_rfl) (fun _ _ _ h => h) (by kernel_rfl) (.inl ⟨rfl, fun w' hS' => by obtain ⟨s0, s1, s2, s3, s4, s5, s6, s7⟩ := hS'; go_simp⟩) hS0 ?_
          simp only [Act.put, List.getElem_toArray, List.getElem_cons_succ, List.getElem_cons_zero, List.setIfInBounds_toArray, List.set_cons_zero, List.set_cons_succ]
          refine wpW_take 28 _ (.pointer (some ⟨wr.heap.size + 1, 1, none⟩)) rfl (by kernel_rfl) (by kernel_rfl) (by kernel_rfl) (fun _ _ _ h => h) (by kernel_rfl) (.inl ⟨rfl, fun w' hS' => by go_simp⟩) hS0 ?_
          simp only [Act.put, List.getElem_toArray, List.getElem_cons_succ, List.getElem_cons_zero, List.setIfInBounds_toArray, List.set_cons_zero, List.set_cons_succ]
          refine wpW_take 29 _ (.slice dz z.len cz) rfl (by kernel_rfl) (by kernel_rfl) (by kernel_rfl) (fun _ _ _ h => h) (by kernel_rfl) (.inl ⟨rfl, fun w' hS' => by obtain ⟨s0, s1, s2, s3, s4, s5, s6, s7⟩ := hS'; go_simp⟩) hS0 ?_
          simp only [Act.put, List.getElem_toArray, List.getElem_cons_succ, List.getElem_cons_zero, List.setIfInBounds_toArray, List.set_cons_zero, List.set_cons_succ]
          refine wpW_take 30 _ (.int .i64 (z.len : Int)) rfl (by kernel_rfl) (by kernel_rfl) (by kernel_rfl) (fun _ _ _ h => h) (by kernel_rfl) (.inl ⟨rfl, fun w' hS' => by go_simp⟩) hS0 ?_
          simp only [Act.put, List.getElem_toArray, List.getElem_cons_succ, List.getElem_cons_zero, List.setIfInBounds_toArray, List.set_cons_zero, List.set_cons_succ]
          refine wpW_take 31 _ (.slice dy z.len cy) rfl (by kernel_rfl) (by kernel_rfl) (by kernel_rfl) (fun _ _ _ h => h) (by kernel_rfl) (.inl ⟨rfl, fun w' hS' => by rcases hcO with ⟨rfl, rfl⟩ | ⟨b9, o9, rfl⟩; (go_simp; intro h9; exact absurd (by omega) h9); go_simp⟩) hS0 ?_
          simp only [Act.put, List.getElem_toArray, List.getElem_cons_succ, List.getElem_cons_zero, List.setIfInBounds_toArray, List.set_cons_zero, List.set_cons_succ]
          refine wpW_take 32 _ (.string ST) rfl (by kernel_rfl) (by kernel_rfl) (by kernel_rfl) (fun _ _ _ h => h) (by kernel_rfl) (.inl ⟨rfl, fun w' hS' => by obtain ⟨s0, s1, s2, s3, s4, s5, s6, s7⟩ := hS'; go_simp⟩) hS0 ?_
          simp only [Act.put, List.getElem_toArray, List.getElem_cons_succ, List.getElem_cons_zero, List.setIfInBounds_toArray, List.set_cons_zero, List.set_cons_succ]
          refine wpW_take 33 _ (.bool false) rfl (by kernel_rfl) (by kernel_rfl) (by kernel_rfl) (fun _ _ _ h => h) (by kernel_rfl) (.inl ⟨rfl, fun w' hS' => by go_simp⟩) hS0 ?_
          simp only [Act.put, List.getElem_toArray, List.getElem_cons_succ, List.getElem_cons_zero, List.setIfInBounds_toArray, List.set_cons_zero, List.set_cons_succ]
          refine wpW_take 34 _ (.bool false) rfl (by kernel_rfl) (by kernel_rfl) (by kernel_rfl) (fun _ _ _ h => h) (by kernel_rfl) (.inl ⟨rfl, fun w' hS' => by go_simp⟩) hS0 ?_
          simp only [Act.put, List.getElem_toArray, List.getElem_cons_succ, List.getElem_cons_zero, List.setIfInBounds_toArray, List.set_cons_zero, List.set_cons_succ]
          refine wpW_take 35 _ (.bool false) rfl (by kernel_rfl) (by kernel_rfl) (by kernel_rfl) (fun _ _ _ h => h) (by kernel_rfl) (.inl ⟨rfl, fun w' hS' => by go_simp⟩) hS0 ?_
          simp only [Act.put, List.getElem_toArray, List.getElem_cons_succ, List.getElem_cons_zero, List.setIfInBounds_toArray, List.set_cons_zero, List.set_cons_succ]
          refine wpW_take 36 _ (.pointer (some ⟨wr.heap.size + 1, 2, none⟩)) rfl (by kernel_rfl) (by kernel_rfl) (by kernel_rfl) (fun _ _ _ h => h) (by kernel_rfl) (.inl ⟨rfl, fun w' hS' => by go_simp⟩) hS0 ?_
          simp only [Act.put, List.getElem_toArray, List.getElem_cons_succ, List.getElem_cons_zero, List.setIfInBounds_toArray, List.set_cons_zero, List.set_cons_succ]
          refine wpW_take 37 _ (.int .i64 (z.len : Int)) rfl (by kernel_rfl) (by kernel_rfl) (by kernel_rfl) (fun _ _ _ h => h) (by kernel_rfl) (.inl ⟨rfl, fun w' hS' => by obtain ⟨s0, s1, s2, s3, s4, s5, s6, s7⟩ := hS'; go_simp⟩) hS0 ?_
          simp only [Act.put, List.getElem_toArray, List.getElem_cons_succ, List.getElem_cons_zero, List.setIfInBounds_toArray, List.set_cons_zero, List.set_cons_succ]
          refine wpW_take 38 _ (.pointer (some ⟨wr.heap.size + 1, 1, none⟩)) rfl (by kernel_rfl) (by kernel_rfl) (by kernel_rfl) (fun _ _ _ h => h) (by kernel_rfl) (.inl ⟨rfl, fun w' hS' => by go_simp⟩) hS0 ?_
          simp only [Act.put, List.getElem_toArray, List.getElem_cons_succ, List.getElem_cons_zero, List.setIfInBounds_toArray, List.set_cons_zero, List.set_cons_succ]
          refine wpW_take 39 _ (.slice dz z.len cz) rfl (by kernel_rfl) (by kernel_rfl) (by kernel_rfl) (fun _ _ _ h => h) (by kernel_rfl) (.inl ⟨rfl, fun w' hS' => by obtain ⟨s0, s1, s2, s3, s4, s5, s6, s7⟩ := hS'; go_simp⟩) hS0 ?_
          simp only [Act.put, List.getElem_toArray, List.getElem_cons_succ, List.getElem_cons_zero, List.setIfInBounds_toArray, List.set_cons_zero, List.set_cons_succ]
          refine wpW_take 40 _ (.int .i64 (z.len : Int)) rfl (by kernel_rfl) (by kernel_rfl) (by kernel_rfl) (fun _ _ _ h => h) (by kernel_rfl) (.inl ⟨rfl, fun w' hS' => by go_simp⟩) hS0 ?_
          simp only [Act.put, List.getElem_toArray, List.getElem_cons_succ, List.getElem_cons_zero, List.setIfInBounds_toArray, List.set_cons_zero, List.set_cons_succ]
          refine wpW_take 41 _ (.bool false) rfl (by kernel_rfl) (by kernel_rfl) (by kernel_rfl) (fun _ _ _ h => h) (by kernel_rfl) (.inl ⟨rfl, fun w' hS' => by go_simp⟩) hS0 ?_
          simp only [Act.put, List.getElem_toArray, List.getElem_cons_succ, List.getElem_cons_zero, List.setIfInBounds_toArray, List.set_cons_zero, List.set_cons_succ]
          refine wpW_take 42 _ (.bool false) rfl (by kernel_rfl) (by kernel_rfl) (by kernel_rfl) (fun _ _ _ h => h) (by kernel_rfl) (.inl ⟨rfl, fun w' hS' => by go_simp⟩) hS0 ?_
          simp only [Act.put, List.getElem_toArray, List.getElem_cons_succ, List.getElem_cons_zero, List.setIfInBounds_toArray, List.set_cons_zero, List.set_cons_succ]
          refine wpW_done (by kernel_rfl) ?_
          clear hS0
          go_wp2
          go_roundw
          case rel => exact ⟨k + 1, by omega, by go_num, bw9⟩
          case measure => simp [intOf]; omega
        · obtain rfl : k = m := by omega
          go_wp2
          go_ret
          exact ⟨rfl, q8.trans (hbk.mono q8.size)⟩
end Go.Proofs.YtiojjihonmonkaaDoor
