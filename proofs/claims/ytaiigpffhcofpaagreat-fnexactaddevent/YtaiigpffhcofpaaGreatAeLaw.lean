/- The law of AddEvent, walked (made by aelaw.py). -/
import Derived.Test.YtaiigpffhcofpaaGreatAeK
import Derived.Deep.RegionHeld3
import Derived.Deep.CutRange
import Derived.Deep.CutBlock
namespace Go.Proofs.YtaiigpffhcofpaaGreat
set_option maxRecDepth 100000
open Go.RowKit
set_option linter.unusedSimpArgs false
set_option linter.unusedVariables false

set_option maxRecDepth 100000 in
set_option maxHeartbeats 12800000 in
theorem addEvent_law (z h mk : Int) (ao : Option Addr) (n cap : Nat) (X : Nat → Wn) (m : ByteArray) (st : Int) (ko : Option Addr) (tn kc : Nat) (nm vl : Nat → ByteArray) (t v : Int) (w : World) (hr : WiRow w ao n X) (rk : TRow w ko tn nm vl) (hb4 : (-9223372036854775808 ≤ z ∧ z ≤ 9223372036854775807) ∧ (-9223372036854775808 ≤ h ∧ h ≤ 9223372036854775807) ∧ (-9223372036854775808 ≤ mk ∧ mk ≤ 9223372036854775807)) (hnx : n ≤ 9223372036854775807) (hmx : m.size ≤ 9223372036854775807) (htx : tn ≤ 9223372036854775807) (hsx : TSize tn nm vl 9223372036854775807) (hst : -9223372036854775808 ≤ st ∧ st ≤ 9223372036854775807) (ht9 : -9223372036854775808 ≤ t ∧ t ≤ 9223372036854775807) (hv9 : -9223372036854775808 ≤ v ∧ v ≤ 9223372036854775807) :
    Calls Tryz.prog 3 #[.agg #[.int .i64 z, .int .i64 h, .int .i64 mk, .slice ao n cap], .agg #[.string m, .slice ko tn kc, .int .i64 st], .int .i64 t, .int .i64 v] w fun e w' => e = .returned (.bool true) ∧ Below w.heap.size w w' := by
  have hbd := hr.bd
  have hfb := hr.fb
  have b1 := below_new w (.cells #[.int .i64 z, .int .i64 h, .int .i64 mk, .slice ao n cap] 24)
  have A1 := BdAt.new w z h mk (.slice ao n cap) 24
  have s1 : (w.alloc (.cells #[.int .i64 z, .int .i64 h, .int .i64 mk, .slice ao n cap] 24)).heap.size = w.heap.size + 1 := by simp
  clear hb4 hst ht9 hv9
  go_enter Tryz.func3, Tryz.ntmps3
  go_wp2_with fail
  generalize w.alloc (.cells #[.int .i64 z, .int .i64 h, .int .i64 mk, .slice ao n cap] 24) = wa at *
  have b2 := below_new wa (.cells #[.string m, .slice ko tn kc, .int .i64 st] 27)
  have E2 := KAt.new wa m (.slice ko tn kc) st 27
  have A2 := A1.keep b2
  have bw2 := b1.trans (b2.mono b1.size)
  have s2 : (wa.alloc (.cells #[.string m, .slice ko tn kc, .int .i64 st] 27)).heap.size = w.heap.size + 2 := by simp [s1]
  rw [s1] at E2
  clear A1 b1 b2
  generalize wa.alloc (.cells #[.string m, .slice ko tn kc, .int .i64 st] 27) = wb at *
  refine (szBoard_any z h mk ao n cap X 1048576 _ (hr.keep bw2) ⟨by omega, by omega⟩ hnx).mono ?_
  rintro e w1 ⟨v1, rfl, h1, h2, h3, hb1⟩
  have A3 := A2.keep hb1
  have E3 := E2.keep hb1
  have bw3 := bw2.trans (hb1.mono bw2.size)
  have s3 := hb1.size
  clear hb1 A2 E2 bw2
  by_cases hv : v1 < 0
  · clear h3
    go_wp2
    go_ret
    exact ⟨rfl, bw3⟩
  obtain ⟨hn, hz⟩ := h3 (by omega)
  have hv2 : v1 ≤ 1048576 := by omega
  have hv0 : decide (v1 < 0) = false := decide_eq_false hv
  clear h3 hnx
  obtain ⟨_, x0, x1, x2⟩ := id E3
  go_wp2_with fail
  refine (szKey_any m st ko tn kc nm vl v1 w1 (rk.keep bw3) ⟨by omega, by omega⟩ hmx htx hsx).mono ?_
  rintro e w2 ⟨v2, rfl, g1, g2, g3, hb2⟩
  have A4 := A3.keep hb2
  have E4 := E3.keep hb2
  have bw4 := bw3.trans (hb2.mono bw3.size)
  have s4 := hb2.size
  clear hb2 A3 E3 bw3 x0 x1 x2
  by_cases hv3 : v2 < 0
  · clear g3
    go_wp2
    go_ret
    exact ⟨rfl, bw4⟩
  have hv30 : decide (v2 < 0) = false := decide_eq_false hv3
  obtain ⟨km, hk, kz⟩ := g3 (by omega)
  clear g3
  obtain ⟨z', h', mk', n', X', c, WK, hS, hI⟩ := ae_out z h mk t v n X ⟨m, tn, nm, vl, st, 0, 0, 0, 0, 0, fun _ => 0, false, 0, false⟩ ⟨km, hk, kz⟩ hn hbd hfb hz
  obtain ⟨hnn, hbd', hfb', hz'⟩ := WK
  have HSP : Hid (∀ g gk W, WiRow W (some ⟨g, 0, none⟩) n X → TRow W (some ⟨gk, 0, none⟩) tn nm vl → Calls Tryz.prog 6 #[.agg #[.int .i64 z, .int .i64 h, .int .i64 mk, .slice (some ⟨g, 0, none⟩) n n], .agg #[.string m, .slice (some ⟨gk, 0, none⟩) tn tn, .int .i64 st], .int .i64 t, .int .i64 v] W fun e w' => BAns z' h' mk' n' X' c W e w') := fun g gk W k1 k2 => hS _ _ n tn W k1 k2
  have HIM : Hid (∀ g gk W, WiRow W (some ⟨g, 0, none⟩) n X → TRow W (some ⟨gk, 0, none⟩) tn nm vl → Calls Tryz.prog 9 #[.agg #[.int .i64 z, .int .i64 h, .int .i64 mk, .slice (some ⟨g, 0, none⟩) n n], .agg #[.string m, .slice (some ⟨gk, 0, none⟩) tn tn, .int .i64 st], .int .i64 t, .int .i64 v] W fun e w' => BAns z' h' mk' n' X' c W e w') := fun g gk W k1 k2 => hI _ _ n tn W k1 k2
  clear hS hI hmx htx hsx
  have hok : (c != c) = false := by simp
  have hoq : (c == c) = true := by simp
  have EE := E4
  have AA := A4
  have bwX := bw4
  obtain ⟨la, a0, a1, a2, a3⟩ := id A4
  obtain ⟨lx, x0, x1, x2⟩ := id E4
  have bd := (Below.refl w2.heap.size w2).drew
  go_upto_region 8 with fail
  go_cut [10, 11] from 31 (fun s6 s7 wx => ∃ B6 ma mb, s6 = .pointer (some ⟨B6, 0, none⟩) ∧ s7 = .int .i64 c ∧ BoxB w2 wx B6 z' h' mk' n' X' ma mb)
  case first =>
    refine wp_region_w (fun w' : World => w'.cell? ⟨w.heap.size, 0, none⟩ = some (.int .i64 z) ∧ w'.cell? ⟨w.heap.size, 1, none⟩ = some (.int .i64 h) ∧ w'.cell? ⟨w.heap.size, 2, none⟩ = some (.int .i64 mk) ∧ w'.cell? ⟨w.heap.size, 3, none⟩ = some (.slice ao n cap) ∧ w'.cell? ⟨w.heap.size + 1, 0, none⟩ = some (.string m) ∧ w'.cell? ⟨w.heap.size + 1, 1, none⟩ = some (.slice ko tn kc) ∧ w'.cell? ⟨w.heap.size + 1, 2, none⟩ = some (.int .i64 st)) (fun _ => true) (by kernel_rfl) ?_
    change wpW _ _ _ _ _ _ 13 _ _ w2.drew
    have SS : ∀ W, Below w2.heap.size w2 W → (fun w' : World => w'.cell? ⟨w.heap.size, 0, none⟩ = some (.int .i64 z) ∧ w'.cell? ⟨w.heap.size, 1, none⟩ = some (.int .i64 h) ∧ w'.cell? ⟨w.heap.size, 2, none⟩ = some (.int .i64 mk) ∧ w'.cell? ⟨w.heap.size, 3, none⟩ = some (.slice ao n cap) ∧ w'.cell? ⟨w.heap.size + 1, 0, none⟩ = some (.string m) ∧ w'.cell? ⟨w.heap.size + 1, 1, none⟩ = some (.slice ko tn kc) ∧ w'.cell? ⟨w.heap.size + 1, 2, none⟩ = some (.int .i64 st)) W := fun W hW => ⟨(AA.keep hW).c0, (AA.keep hW).c1, (AA.keep hW).c2, (AA.keep hW).c3, (EE.keep hW).c0, (EE.keep hW).c1, (EE.keep hW).c2⟩
    have hS0 := SS _ bd
    refine wpW_take 0 _ (.agg #[.int .i64 z, .int .i64 h, .int .i64 mk, .slice ao n cap]) rfl (by kernel_rfl) (by kernel_rfl) (by kernel_rfl) (fun _ _ _ h => h) (by kernel_rfl) (.inl ⟨rfl, fun w' hS' => by obtain ⟨s0, s1, s2, s3, s4, s5, s6⟩ := hS'; go_simp⟩) hS0 ?_
    refine wpW_take 2 _ (.agg #[.string m, .slice ko tn kc, .int .i64 st]) rfl (by kernel_rfl) (by kernel_rfl) (by kernel_rfl) (fun _ _ _ h => h) (by kernel_rfl) (.inl ⟨rfl, fun w' hS' => by obtain ⟨s0, s1, s2, s3, s4, s5, s6⟩ := hS'; go_simp⟩) hS0 ?_
    refine wpW_take 4 _ (.int .i64 t) rfl (by kernel_rfl) (by kernel_rfl) (by kernel_rfl) (fun _ _ _ h => h) (by kernel_rfl) (.inl ⟨rfl, fun w' hS' => by obtain ⟨s0, s1, s2, s3, s4, s5, s6⟩ := hS'; go_simp⟩) hS0 ?_
    refine wpW_take 5 _ (.int .i64 v) rfl (by kernel_rfl) (by kernel_rfl) (by kernel_rfl) (fun _ _ _ h => h) (by kernel_rfl) (.inl ⟨rfl, fun w' hS' => by obtain ⟨s0, s1, s2, s3, s4, s5, s6⟩ := hS'; go_simp⟩) hS0 ?_
    simp only [Act.put, List.getElem_toArray, List.getElem_cons_succ, List.getElem_cons_zero, List.setIfInBounds_toArray, List.set_cons_zero, List.set_cons_succ]
    refine wpW_two 1 10 _ _ rfl rfl (by kernel_rfl) ?_ ?_
    · skip
      refine (step_c1 rfl 32 7 24 rfl _ (by simp [Act.eval, Act.put]) cf_tBd (toBoard_any z h mk ao n cap X w2.drew (hr.keep (bwX.trans (bd.mono bwX.size))) hn hz) ?_)
      rintro e w3 ⟨g3, _, _, rfl, _, V3, hb3⟩
      have cw3 := bd.trans (hb3.mono bd.size)
      have v3 := V3.row hbd
      refine ⟨_, rfl, fun _ => SS _ cw3, ?_⟩
      simp only [Act.put, List.getElem_toArray, List.getElem_cons_succ, List.getElem_cons_zero, List.setIfInBounds_toArray, List.set_cons_zero, List.set_cons_succ]
      refine wpW_two 3 10 _ _ rfl rfl (by kernel_rfl) ?_ ?_
      · skip
        refine (step_c1 rfl 34 8 27 rfl _ (by simp [Act.eval, Act.put]) cf_tKy (toKey_any m st ko tn kc nm vl w3 (rk.keep (bwX.trans (cw3.mono bwX.size))) hk) ?_)
        rintro e w4 ⟨g4, rfl, _, E4', hb4⟩
        have cw4 := cw3.trans (hb4.mono cw3.size)
        have v4 := v3.keep hb4
        refine ⟨_, rfl, fun _ => SS _ cw4, ?_⟩
        simp only [Act.put, List.getElem_toArray, List.getElem_cons_succ, List.getElem_cons_zero, List.setIfInBounds_toArray, List.set_cons_zero, List.set_cons_succ]
        refine wpW_two 6 10 _ _ rfl rfl (by kernel_rfl) ?_ ?_
        · skip
          refine (step_c4 rfl 33 35 36 37 6 32 38 3 3 rfl _ _ _ _ (by simp [Act.eval, Act.put]) (by simp [Act.eval, Act.put]) (by simp [Act.eval, Act.put]) (by simp [Act.eval, Act.put]) cf_sAdd (HSP.out g3 g4 w4 v4 E4'.row) ?_)
          rintro e w5 ⟨v5, rfl, W5, hb5⟩
          obtain ⟨ma, mb, rfl⟩ := W5.form
          have cw5 := cw4.trans (hb5.mono cw4.size)
          have hS5 := SS _ cw5
          refine ⟨_, rfl, fun _ => hS5, ?_⟩
          refine wpW_take 7 _ (.tuple #[.agg #[.int .i64 z', .int .i64 h', .int .i64 mk', .slice ma n' mb], .int .i64 c]) rfl (by kernel_rfl) (by kernel_rfl) (by kernel_rfl) (fun _ _ _ h => h) (by kernel_rfl) (.inl ⟨rfl, fun w' hS' => by obtain ⟨s0, s1, s2, s3, s4, s5, s6⟩ := hS'; go_simp⟩) hS5 ?_
          refine wpW_take 8 _ (.agg #[.int .i64 z', .int .i64 h', .int .i64 mk', .slice ma n' mb]) rfl (by kernel_rfl) (by kernel_rfl) (by kernel_rfl) (fun _ _ _ h => h) (by kernel_rfl) (.inl ⟨rfl, fun w' hS' => by obtain ⟨s0, s1, s2, s3, s4, s5, s6⟩ := hS'; go_simp⟩) hS5 ?_
          refine wpW_take 9 _ (.int .i64 c) rfl (by kernel_rfl) (by kernel_rfl) (by kernel_rfl) (fun _ _ _ h => h) (by kernel_rfl) (.inl ⟨rfl, fun w' hS' => by obtain ⟨s0, s1, s2, s3, s4, s5, s6⟩ := hS'; go_simp⟩) hS5 ?_
          simp only [Act.put, List.getElem_toArray, List.getElem_cons_succ, List.getElem_cons_zero, List.setIfInBounds_toArray, List.set_cons_zero, List.set_cons_succ]
          refine wpW_one 10 _ rfl (by kernel_rfl) ?_
          refine (step_allocB rfl rfl ?_)
          have bz := cw5.trans ((below_new w5 (.cells #[.int .i64 0, .int .i64 0, .int .i64 0, .slice none 0 0] 32)).mono cw5.size)
          have nz := below_new w5 (.cells #[.int .i64 0, .int .i64 0, .int .i64 0, .slice none 0 0] 32)
          have Zb := BZ.new w5 32
          have gz : w2.heap.size ≤ w5.heap.size := cw5.size
          have lz : w5.heap.size < (w5.alloc (.cells #[.int .i64 0, .int .i64 0, .int .i64 0, .slice none 0 0] 32)).heap.size := by simp
          obtain ⟨Bz, hBz⟩ : ∃ B, B = w5.heap.size := ⟨_, rfl⟩
          rw [← hBz] at Zb gz lz ⊢
          have HBz : Hid (Bz = w5.heap.size) := hBz
          clear hBz
          refine ⟨fun _ => SS _ bz, ?_⟩
          simp only [Act.put, List.getElem_toArray, List.getElem_cons_succ, List.getElem_cons_zero, List.setIfInBounds_toArray, List.set_cons_zero, List.set_cons_succ]
          generalize w5.alloc (.cells #[.int .i64 0, .int .i64 0, .int .i64 0, .slice none 0 0] 32) = wz at *
          refine wpW_one 11 _ rfl (by kernel_rfl) (step_storeBd rfl 10 39 rfl Bz z' h' mk' ma n' mb (by simp [Act.eval, Act.put]) (by simp [Act.eval, Act.put]) Zb ?_)
          have QB := BoxB.early (z := z') (h := h') (mk := mk') Zb (W5.keep nz) cw4.size (.inr (Nat.le_of_eq HBz.out.symm)) gz bz
          refine ⟨fun _ => SS _ QB.bl, ?_⟩
          simp only [Act.put, List.getElem_toArray, List.getElem_cons_succ, List.getElem_cons_zero, List.setIfInBounds_toArray, List.set_cons_zero, List.set_cons_succ]
          refine wpW_one 12 _ rfl (by kernel_rfl) (step_assignI rfl 40 rfl c (by simp [Act.eval, Act.put]) ?_)
          refine ⟨fun _ => SS _ QB.bl, ?_⟩
          refine wpW_done (by kernel_rfl) ?_
          simp only [Act.put, List.getElem_toArray, List.getElem_cons_succ, List.getElem_cons_zero, List.setIfInBounds_toArray, List.set_cons_zero, List.set_cons_succ]
          go_wp2_with fail
          go_meet
          case rel => exact ⟨_, ma, mb, rfl, rfl, QB⟩
        · skip
          refine (step_allocB rfl rfl ?_)
          have bz := cw4.trans ((below_new w4 (.cells #[.int .i64 0, .int .i64 0, .int .i64 0, .slice none 0 0] 32)).mono cw4.size)
          have nz := below_new w4 (.cells #[.int .i64 0, .int .i64 0, .int .i64 0, .slice none 0 0] 32)
          have Zb := BZ.new w4 32
          have gz : w2.heap.size ≤ w4.heap.size := cw4.size
          have lz : w4.heap.size < (w4.alloc (.cells #[.int .i64 0, .int .i64 0, .int .i64 0, .slice none 0 0] 32)).heap.size := by simp
          obtain ⟨Bz, hBz⟩ : ∃ B, B = w4.heap.size := ⟨_, rfl⟩
          rw [← hBz] at Zb gz lz ⊢
          have HBz : Hid (Bz = w4.heap.size) := hBz
          clear hBz
          refine ⟨fun _ => SS _ bz, ?_⟩
          simp only [Act.put, List.getElem_toArray, List.getElem_cons_succ, List.getElem_cons_zero, List.setIfInBounds_toArray, List.set_cons_zero, List.set_cons_succ]
          generalize w4.alloc (.cells #[.int .i64 0, .int .i64 0, .int .i64 0, .slice none 0 0] 32) = wz at *
          refine wpW_one 6 _ rfl (by kernel_rfl) ?_
          refine (step_c4 rfl 33 35 36 37 6 32 38 3 3 rfl _ _ _ _ (by simp [Act.eval, Act.put]) (by simp [Act.eval, Act.put]) (by simp [Act.eval, Act.put]) (by simp [Act.eval, Act.put]) cf_sAdd (HSP.out g3 g4 wz (v4.keep nz) (E4'.row.keep nz)) ?_)
          rintro e w5 ⟨v5, rfl, W5, hb5⟩
          obtain ⟨ma, mb, rfl⟩ := W5.form
          have cw5 := bz.trans (hb5.mono bz.size)
          have hS5 := SS _ cw5
          refine ⟨_, rfl, fun _ => hS5, ?_⟩
          refine wpW_take 7 _ (.tuple #[.agg #[.int .i64 z', .int .i64 h', .int .i64 mk', .slice ma n' mb], .int .i64 c]) rfl (by kernel_rfl) (by kernel_rfl) (by kernel_rfl) (fun _ _ _ h => h) (by kernel_rfl) (.inl ⟨rfl, fun w' hS' => by obtain ⟨s0, s1, s2, s3, s4, s5, s6⟩ := hS'; go_simp⟩) hS5 ?_
          refine wpW_take 8 _ (.agg #[.int .i64 z', .int .i64 h', .int .i64 mk', .slice ma n' mb]) rfl (by kernel_rfl) (by kernel_rfl) (by kernel_rfl) (fun _ _ _ h => h) (by kernel_rfl) (.inl ⟨rfl, fun w' hS' => by obtain ⟨s0, s1, s2, s3, s4, s5, s6⟩ := hS'; go_simp⟩) hS5 ?_
          refine wpW_take 9 _ (.int .i64 c) rfl (by kernel_rfl) (by kernel_rfl) (by kernel_rfl) (fun _ _ _ h => h) (by kernel_rfl) (.inl ⟨rfl, fun w' hS' => by obtain ⟨s0, s1, s2, s3, s4, s5, s6⟩ := hS'; go_simp⟩) hS5 ?_
          simp only [Act.put, List.getElem_toArray, List.getElem_cons_succ, List.getElem_cons_zero, List.setIfInBounds_toArray, List.set_cons_zero, List.set_cons_succ]
          refine wpW_one 11 _ rfl (by kernel_rfl) (step_storeBd rfl 10 39 rfl Bz z' h' mk' ma n' mb (by simp [Act.eval, Act.put]) (by simp [Act.eval, Act.put]) (Zb.keep hb5) ?_)
          have QB := BoxB.early (z := z') (h := h') (mk := mk') (Zb.keep hb5) W5 (Nat.le_trans gz (Nat.le_of_lt lz)) (.inl lz) gz cw5
          refine ⟨fun _ => SS _ QB.bl, ?_⟩
          simp only [Act.put, List.getElem_toArray, List.getElem_cons_succ, List.getElem_cons_zero, List.setIfInBounds_toArray, List.set_cons_zero, List.set_cons_succ]
          refine wpW_one 12 _ rfl (by kernel_rfl) (step_assignI rfl 40 rfl c (by simp [Act.eval, Act.put]) ?_)
          refine ⟨fun _ => SS _ QB.bl, ?_⟩
          refine wpW_done (by kernel_rfl) ?_
          simp only [Act.put, List.getElem_toArray, List.getElem_cons_succ, List.getElem_cons_zero, List.setIfInBounds_toArray, List.set_cons_zero, List.set_cons_succ]
          go_wp2_with fail
          go_meet
          case rel => exact ⟨_, ma, mb, rfl, rfl, QB⟩
      · skip
        refine (step_allocB rfl rfl ?_)
        have bz := cw3.trans ((below_new w3 (.cells #[.int .i64 0, .int .i64 0, .int .i64 0, .slice none 0 0] 32)).mono cw3.size)
        have nz := below_new w3 (.cells #[.int .i64 0, .int .i64 0, .int .i64 0, .slice none 0 0] 32)
        have Zb := BZ.new w3 32
        have gz : w2.heap.size ≤ w3.heap.size := cw3.size
        have lz : w3.heap.size < (w3.alloc (.cells #[.int .i64 0, .int .i64 0, .int .i64 0, .slice none 0 0] 32)).heap.size := by simp
        obtain ⟨Bz, hBz⟩ : ∃ B, B = w3.heap.size := ⟨_, rfl⟩
        rw [← hBz] at Zb gz lz ⊢
        have HBz : Hid (Bz = w3.heap.size) := hBz
        clear hBz
        refine ⟨fun _ => SS _ bz, ?_⟩
        simp only [Act.put, List.getElem_toArray, List.getElem_cons_succ, List.getElem_cons_zero, List.setIfInBounds_toArray, List.set_cons_zero, List.set_cons_succ]
        generalize w3.alloc (.cells #[.int .i64 0, .int .i64 0, .int .i64 0, .slice none 0 0] 32) = wz at *
        refine wpW_one 3 _ rfl (by kernel_rfl) ?_
        refine (step_c1 rfl 34 8 27 rfl _ (by simp [Act.eval, Act.put]) cf_tKy (toKey_any m st ko tn kc nm vl wz (rk.keep (bwX.trans (bz.mono bwX.size))) hk) ?_)
        rintro e w4 ⟨g4, rfl, _, E4', hb4⟩
        have cw4 := bz.trans (hb4.mono bz.size)
        have v4 := (v3.keep nz).keep hb4
        refine ⟨_, rfl, fun _ => SS _ cw4, ?_⟩
        simp only [Act.put, List.getElem_toArray, List.getElem_cons_succ, List.getElem_cons_zero, List.setIfInBounds_toArray, List.set_cons_zero, List.set_cons_succ]
        refine wpW_one 6 _ rfl (by kernel_rfl) ?_
        refine (step_c4 rfl 33 35 36 37 6 32 38 3 3 rfl _ _ _ _ (by simp [Act.eval, Act.put]) (by simp [Act.eval, Act.put]) (by simp [Act.eval, Act.put]) (by simp [Act.eval, Act.put]) cf_sAdd (HSP.out g3 g4 w4 v4 E4'.row) ?_)
        rintro e w5 ⟨v5, rfl, W5, hb5⟩
        obtain ⟨ma, mb, rfl⟩ := W5.form
        have cw5 := cw4.trans (hb5.mono cw4.size)
        have hS5 := SS _ cw5
        refine ⟨_, rfl, fun _ => hS5, ?_⟩
        refine wpW_take 7 _ (.tuple #[.agg #[.int .i64 z', .int .i64 h', .int .i64 mk', .slice ma n' mb], .int .i64 c]) rfl (by kernel_rfl) (by kernel_rfl) (by kernel_rfl) (fun _ _ _ h => h) (by kernel_rfl) (.inl ⟨rfl, fun w' hS' => by obtain ⟨s0, s1, s2, s3, s4, s5, s6⟩ := hS'; go_simp⟩) hS5 ?_
        refine wpW_take 8 _ (.agg #[.int .i64 z', .int .i64 h', .int .i64 mk', .slice ma n' mb]) rfl (by kernel_rfl) (by kernel_rfl) (by kernel_rfl) (fun _ _ _ h => h) (by kernel_rfl) (.inl ⟨rfl, fun w' hS' => by obtain ⟨s0, s1, s2, s3, s4, s5, s6⟩ := hS'; go_simp⟩) hS5 ?_
        refine wpW_take 9 _ (.int .i64 c) rfl (by kernel_rfl) (by kernel_rfl) (by kernel_rfl) (fun _ _ _ h => h) (by kernel_rfl) (.inl ⟨rfl, fun w' hS' => by obtain ⟨s0, s1, s2, s3, s4, s5, s6⟩ := hS'; go_simp⟩) hS5 ?_
        simp only [Act.put, List.getElem_toArray, List.getElem_cons_succ, List.getElem_cons_zero, List.setIfInBounds_toArray, List.set_cons_zero, List.set_cons_succ]
        refine wpW_one 11 _ rfl (by kernel_rfl) (step_storeBd rfl 10 39 rfl Bz z' h' mk' ma n' mb (by simp [Act.eval, Act.put]) (by simp [Act.eval, Act.put]) ((Zb.keep hb4).keep hb5) ?_)
        have QB := BoxB.early (z := z') (h := h') (mk := mk') ((Zb.keep hb4).keep hb5) W5 (Nat.le_trans gz (Nat.le_of_lt (Nat.lt_of_lt_of_le lz hb4.size))) (.inl (Nat.lt_of_lt_of_le lz hb4.size)) gz cw5
        refine ⟨fun _ => SS _ QB.bl, ?_⟩
        simp only [Act.put, List.getElem_toArray, List.getElem_cons_succ, List.getElem_cons_zero, List.setIfInBounds_toArray, List.set_cons_zero, List.set_cons_succ]
        refine wpW_one 12 _ rfl (by kernel_rfl) (step_assignI rfl 40 rfl c (by simp [Act.eval, Act.put]) ?_)
        refine ⟨fun _ => SS _ QB.bl, ?_⟩
        refine wpW_done (by kernel_rfl) ?_
        simp only [Act.put, List.getElem_toArray, List.getElem_cons_succ, List.getElem_cons_zero, List.setIfInBounds_toArray, List.set_cons_zero, List.set_cons_succ]
        go_wp2_with fail
        go_meet
        case rel => exact ⟨_, ma, mb, rfl, rfl, QB⟩
    · skip
      refine (step_allocB rfl rfl ?_)
      have bz := bd.trans ((below_new w2.drew (.cells #[.int .i64 0, .int .i64 0, .int .i64 0, .slice none 0 0] 32)).mono bd.size)
      have nz := below_new w2.drew (.cells #[.int .i64 0, .int .i64 0, .int .i64 0, .slice none 0 0] 32)
      have Zb := BZ.new w2.drew 32
      have gz : w2.heap.size ≤ w2.drew.heap.size := bd.size
      have lz : w2.drew.heap.size < (w2.drew.alloc (.cells #[.int .i64 0, .int .i64 0, .int .i64 0, .slice none 0 0] 32)).heap.size := by simp
      obtain ⟨Bz, hBz⟩ : ∃ B, B = w2.drew.heap.size := ⟨_, rfl⟩
      rw [← hBz] at Zb gz lz ⊢
      have HBz : Hid (Bz = w2.drew.heap.size) := hBz
      clear hBz
      refine ⟨fun _ => SS _ bz, ?_⟩
      simp only [Act.put, List.getElem_toArray, List.getElem_cons_succ, List.getElem_cons_zero, List.setIfInBounds_toArray, List.set_cons_zero, List.set_cons_succ]
      generalize w2.drew.alloc (.cells #[.int .i64 0, .int .i64 0, .int .i64 0, .slice none 0 0] 32) = wz at *
      refine wpW_one 1 _ rfl (by kernel_rfl) ?_
      refine (step_c1 rfl 32 7 24 rfl _ (by simp [Act.eval, Act.put]) cf_tBd (toBoard_any z h mk ao n cap X wz (hr.keep (bwX.trans (bz.mono bwX.size))) hn hz) ?_)
      rintro e w3 ⟨g3, _, _, rfl, _, V3, hb3⟩
      have cw3 := bz.trans (hb3.mono bz.size)
      have v3 := V3.row hbd
      refine ⟨_, rfl, fun _ => SS _ cw3, ?_⟩
      simp only [Act.put, List.getElem_toArray, List.getElem_cons_succ, List.getElem_cons_zero, List.setIfInBounds_toArray, List.set_cons_zero, List.set_cons_succ]
      refine wpW_one 3 _ rfl (by kernel_rfl) ?_
      refine (step_c1 rfl 34 8 27 rfl _ (by simp [Act.eval, Act.put]) cf_tKy (toKey_any m st ko tn kc nm vl w3 (rk.keep (bwX.trans (cw3.mono bwX.size))) hk) ?_)
      rintro e w4 ⟨g4, rfl, _, E4', hb4⟩
      have cw4 := cw3.trans (hb4.mono cw3.size)
      have v4 := v3.keep hb4
      refine ⟨_, rfl, fun _ => SS _ cw4, ?_⟩
      simp only [Act.put, List.getElem_toArray, List.getElem_cons_succ, List.getElem_cons_zero, List.setIfInBounds_toArray, List.set_cons_zero, List.set_cons_succ]
      refine wpW_one 6 _ rfl (by kernel_rfl) ?_
      refine (step_c4 rfl 33 35 36 37 6 32 38 3 3 rfl _ _ _ _ (by simp [Act.eval, Act.put]) (by simp [Act.eval, Act.put]) (by simp [Act.eval, Act.put]) (by simp [Act.eval, Act.put]) cf_sAdd (HSP.out g3 g4 w4 v4 E4'.row) ?_)
      rintro e w5 ⟨v5, rfl, W5, hb5⟩
      obtain ⟨ma, mb, rfl⟩ := W5.form
      have cw5 := cw4.trans (hb5.mono cw4.size)
      have hS5 := SS _ cw5
      refine ⟨_, rfl, fun _ => hS5, ?_⟩
      refine wpW_take 7 _ (.tuple #[.agg #[.int .i64 z', .int .i64 h', .int .i64 mk', .slice ma n' mb], .int .i64 c]) rfl (by kernel_rfl) (by kernel_rfl) (by kernel_rfl) (fun _ _ _ h => h) (by kernel_rfl) (.inl ⟨rfl, fun w' hS' => by obtain ⟨s0, s1, s2, s3, s4, s5, s6⟩ := hS'; go_simp⟩) hS5 ?_
      refine wpW_take 8 _ (.agg #[.int .i64 z', .int .i64 h', .int .i64 mk', .slice ma n' mb]) rfl (by kernel_rfl) (by kernel_rfl) (by kernel_rfl) (fun _ _ _ h => h) (by kernel_rfl) (.inl ⟨rfl, fun w' hS' => by obtain ⟨s0, s1, s2, s3, s4, s5, s6⟩ := hS'; go_simp⟩) hS5 ?_
      refine wpW_take 9 _ (.int .i64 c) rfl (by kernel_rfl) (by kernel_rfl) (by kernel_rfl) (fun _ _ _ h => h) (by kernel_rfl) (.inl ⟨rfl, fun w' hS' => by obtain ⟨s0, s1, s2, s3, s4, s5, s6⟩ := hS'; go_simp⟩) hS5 ?_
      simp only [Act.put, List.getElem_toArray, List.getElem_cons_succ, List.getElem_cons_zero, List.setIfInBounds_toArray, List.set_cons_zero, List.set_cons_succ]
      refine wpW_one 11 _ rfl (by kernel_rfl) (step_storeBd rfl 10 39 rfl Bz z' h' mk' ma n' mb (by simp [Act.eval, Act.put]) (by simp [Act.eval, Act.put]) (((Zb.keep hb3).keep hb4).keep hb5) ?_)
      have QB := BoxB.early (z := z') (h := h') (mk := mk') (((Zb.keep hb3).keep hb4).keep hb5) W5 (Nat.le_trans gz (Nat.le_of_lt (Nat.lt_of_lt_of_le lz (Nat.le_trans hb3.size hb4.size)))) (.inl (Nat.lt_of_lt_of_le lz (Nat.le_trans hb3.size hb4.size))) gz cw5
      refine ⟨fun _ => SS _ QB.bl, ?_⟩
      simp only [Act.put, List.getElem_toArray, List.getElem_cons_succ, List.getElem_cons_zero, List.setIfInBounds_toArray, List.set_cons_zero, List.set_cons_succ]
      refine wpW_one 12 _ rfl (by kernel_rfl) (step_assignI rfl 40 rfl c (by simp [Act.eval, Act.put]) ?_)
      refine ⟨fun _ => SS _ QB.bl, ?_⟩
      refine wpW_done (by kernel_rfl) ?_
      simp only [Act.put, List.getElem_toArray, List.getElem_cons_succ, List.getElem_cons_zero, List.setIfInBounds_toArray, List.set_cons_zero, List.set_cons_succ]
      go_wp2_with fail
      go_meet
      case rel => exact ⟨_, ma, mb, rfl, rfl, QB⟩
  case rest =>
    obtain ⟨B6, ma, mb, rfl, rfl, Q6⟩ := hcut
    generalize wc = w6 at *
    have bw6 := bwX.trans (Q6.bl.mono bwX.size)
    have A6 := A4.keep Q6.bl
    have E6 := E4.keep Q6.bl
    have V6 := Q6.at'
    have W6 := Q6.ba
    have u6 := V6.lt
    have s6 : w.heap.size + 2 ≤ w6.heap.size := by have := Q6.bl.size; omega
    obtain ⟨T6, hT6⟩ : ∃ T, T = w6.heap.size := ⟨_, rfl⟩
    rw [← hT6] at W6
    clear Q6 A4 E4 bwX bw4 bd EE AA a0 a1 a2 a3 la x0 x1 x2 lx HSP
    obtain ⟨_, a0, a1, a2, a3⟩ := id A6
    go_wp2_with fail
    refine (toBoard_any z h mk ao n cap X w6 (hr.keep bw6) hn hz).mono ?_
    rintro e w7 ⟨g7, L0, L1, rfl, hg7, G7, hb7⟩
    have A7 := A6.keep hb7
    have E7 := E6.keep hb7
    have V7 := V6.keep hb7
    have W7 := W6.keep hb7
    have bw7 := bw6.trans (hb7.mono bw6.size)
    clear A6 E6 V6 W6 bw6
    have s7 := hb7.size
    have g7lt := G7.lt
    clear hb7 a0 a1 a2 a3
    have bn8 := below_new w7 (.cells #[.int .i64 z, .int .i64 h, .int .i64 mk, .slice (some ⟨g7, 0, none⟩) n n] 32)
    have X8 := BdAt.new w7 z h mk (.slice (some ⟨g7, 0, none⟩) n n) 32
    have O7 := ba_own G7
    obtain ⟨T7, hT7⟩ : ∃ T, T = w7.heap.size := ⟨_, rfl⟩
    rw [← hT7] at O7
    have A8 := A7.keep bn8
    have E8 := E7.keep bn8
    have V8 := V7.keep bn8
    have W8 := W7.keep bn8
    have G8 := G7.keep bn8
    have O8 := O7.keep bn8
    have bw8 := bw7.trans (bn8.mono bw7.size)
    clear A7 E7 V7 W7 G7 O7 bw7
    have s8 : (w7.alloc (.cells #[.int .i64 z, .int .i64 h, .int .i64 mk, .slice (some ⟨g7, 0, none⟩) n n] 32)).heap.size = w7.heap.size + 1 := by simp
    obtain ⟨_, x0, x1, x2⟩ := id E8
    clear bn8
    go_wp2_with fail
    generalize w7.alloc (.cells #[.int .i64 z, .int .i64 h, .int .i64 mk, .slice (some ⟨g7, 0, none⟩) n n] 32) = w8 at *
    refine (toKey_any m st ko tn kc nm vl w8 (rk.keep bw8) hk).mono ?_
    rintro e w9 ⟨g9, rfl, hg9, H9, hb9⟩
    have A9 := A8.keep hb9
    have E9 := E8.keep hb9
    have V9 := V8.keep hb9
    have W9 := W8.keep hb9
    have G9 := G8.keep hb9
    have O9 := O8.keep hb9
    have X9 := X8.keep hb9
    have bw9 := bw8.trans (hb9.mono bw8.size)
    clear A8 E8 V8 W8 G8 O8 X8 bw8
    have s9 := hb9.size
    have g9lt := H9.lt
    clear hb9 x0 x1 x2
    have bn10 := below_new w9 (.cells #[.string m, .slice (some ⟨g9, 0, none⟩) tn tn, .int .i64 st] 38)
    have Y10 := KAt.new w9 m (.slice (some ⟨g9, 0, none⟩) tn tn) st 38
    have A10 := A9.keep bn10
    have E10 := E9.keep bn10
    have V10 := V9.keep bn10
    have W10 := W9.keep bn10
    have G10 := G9.keep bn10
    have O10 := O9.keep bn10
    have X10 := X9.keep bn10
    have H10 := H9.keep bn10
    have bw10 := bw9.trans (bn10.mono bw9.size)
    clear A9 E9 V9 W9 G9 O9 X9 H9 bw9
    have s10 : (w9.alloc (.cells #[.string m, .slice (some ⟨g9, 0, none⟩) tn tn, .int .i64 st] 38)).heap.size = w9.heap.size + 1 := by simp
    obtain ⟨_, x0, x1, x2, x3⟩ := id X10
    obtain ⟨_, y0, y1, y2⟩ := id Y10
    clear bn10
    go_wp2_with fail
    generalize w9.alloc (.cells #[.string m, .slice (some ⟨g9, 0, none⟩) tn tn, .int .i64 st] 38) = w10 at *
    refine (HIM.out g7 g9 w10 (G10.row hbd) H10.row).mono ?_
    rintro e w11 ⟨v11, rfl, U11, hb11⟩
    obtain ⟨ga, gc, rfl⟩ := U11.form
    have A11 := A10.keep hb11
    have E11 := E10.keep hb11
    have V11 := V10.keep hb11
    have W11 := W10.keep hb11
    have G11 := G10.keep hb11
    have O11 := O10.keep hb11
    have X11 := X10.keep hb11
    have H11 := H10.keep hb11
    have Y11 := Y10.keep hb11
    have bw11 := bw10.trans (hb11.mono bw10.size)
    clear A10 E10 V10 W10 G10 O10 X10 H10 Y10 bw10
    have s11 := hb11.size
    clear hb11 x0 x1 x2 x3 y0 y1 y2
    obtain ⟨T10, hT10⟩ : ∃ T, T = w10.heap.size := ⟨_, rfl⟩
    obtain ⟨T11, hT11⟩ : ∃ T, T = w11.heap.size := ⟨_, rfl⟩
    rw [← hT10, ← hT11] at U11
    have bn12 := below_new w11 (.cells #[.int .i64 z', .int .i64 h', .int .i64 mk', .slice ga n' gc] 32)
    have Z12 := BdAt.new w11 z' h' mk' (.slice ga n' gc) 32
    have A12 := A11.keep bn12
    have E12 := E11.keep bn12
    have V12 := V11.keep bn12
    have W12 := W11.keep bn12
    have G12 := G11.keep bn12
    have O12 := O11.keep bn12
    have X12 := X11.keep bn12
    have H12 := H11.keep bn12
    have Y12 := Y11.keep bn12
    have U12 := U11.keep bn12
    have bw12 := bw11.trans (bn12.mono bw11.size)
    clear A11 E11 V11 W11 G11 O11 X11 H11 Y11 U11 bw11
    have s12 : (w11.alloc (.cells #[.int .i64 z', .int .i64 h', .int .i64 mk', .slice ga n' gc] 32)).heap.size = w11.heap.size + 1 := by simp
    obtain ⟨_, vb0, vb1, vb2, vb3⟩ := id V12
    obtain ⟨_, zb0, zb1, zb2, zb3⟩ := id Z12
    clear bn12
    go_wp2_with fail
    generalize w11.alloc (.cells #[.int .i64 z', .int .i64 h', .int .i64 mk', .slice ga n' gc] 32) = w12 at *
    refine (eqBoard_same z' h' mk' ga ma n' gc mb X' w12 (U12.row hbd' hfb').2 (W12.row hbd' hfb').2 hnn hz').mono ?_
    rintro e w13 ⟨rfl, b13⟩
    have A13 := A12.keep b13
    have E13 := E12.keep b13
    have V13 := V12.keep b13
    have W13 := W12.keep b13
    have G13 := G12.keep b13
    have O13 := O12.keep b13
    have X13 := X12.keep b13
    have H13 := H12.keep b13
    have Y13 := Y12.keep b13
    have U13 := U12.keep b13
    have Z13 := Z12.keep b13
    have bw13 := bw12.trans (b13.mono bw12.size)
    clear A12 E12 V12 W12 G12 O12 X12 H12 Y12 U12 Z12 bw12
    have s13 := b13.size
    clear b13 vb0 vb1 vb2 vb3 zb0 zb1 zb2 zb3
    obtain ⟨_, a0, a1, a2, a3⟩ := id A13
    obtain ⟨_, x0, x1, x2, x3⟩ := id X13
    have hcv := toBoard_any z h mk ao n cap X w13.drew ((hr.keep bw13).keep (Below.refl _ _).drew) hn hz
    go_wp2
    go_region_held3 (fun w' => w'.cell? ⟨w7.heap.size, 0, none⟩ = some (.int .i64 z) ∧ w'.cell? ⟨w7.heap.size, 1, none⟩ = some (.int .i64 h) ∧ w'.cell? ⟨w7.heap.size, 2, none⟩ = some (.int .i64 mk) ∧ w'.cell? ⟨w7.heap.size, 3, none⟩ = some (.slice (some ⟨g7, 0, none⟩) n n) ∧ w'.cell? ⟨w.heap.size, 0, none⟩ = some (.int .i64 z) ∧ w'.cell? ⟨w.heap.size, 1, none⟩ = some (.int .i64 h) ∧ w'.cell? ⟨w.heap.size, 2, none⟩ = some (.int .i64 mk) ∧ w'.cell? ⟨w.heap.size, 3, none⟩ = some (.slice ao n cap)) (go_keep) (first | (go_at_call 7; refine hcv.mono ?_; rintro e w14 ⟨g14, J0, J1, rfl, _, J14, hb14⟩; have hb14' := (Below.refl _ w13).drew.trans hb14; have A14 := A13.keep hb14'; have E14 := E13.keep hb14'; have V14 := V13.keep hb14'; have W14 := W13.keep hb14'; have G14 := G13.keep hb14'; have O14 := O13.keep hb14'; have X14 := X13.keep hb14'; have H14 := H13.keep hb14'; have Y14 := Y13.keep hb14'; have U14 := U13.keep hb14'; have Z14 := Z13.keep hb14'; obtain ⟨_, p0, p1, p2, p3⟩ := id A14; obtain ⟨_, q0, q1, q2, q3⟩ := id X14; have bw14 := bw13.trans (hb14'.mono bw13.size); have s14 := hb14'.size; clear hb14 hb14') | (go_at_call 10; refine (eqBoard_same z h mk (some ⟨g7, 0, none⟩) (some ⟨g14, 0, none⟩) n n n X _ (G14.row hbd) (J14.row hbd) hn hz).mono ?_; rintro e w15 ⟨rfl, hb15⟩; have A15 := A14.keep hb15; have E15 := E14.keep hb15; have V15 := V14.keep hb15; have W15 := W14.keep hb15; have G15 := G14.keep hb15; have O15 := O14.keep hb15; have X15 := X14.keep hb15; have H15 := H14.keep hb15; have Y15 := Y14.keep hb15; have U15 := U14.keep hb15; have Z15 := Z14.keep hb15; have bw15 := bw14.trans (hb15.mono bw14.size); obtain ⟨_, r0, r1, r2, r3⟩ := id A15; obtain ⟨_, t0, t1, t2, t3⟩ := id X15; have s15 := hb15.size; clear hb15))
    clear hcv a0 a1 a2 a3 x0 x1 x2 x3 p0 p1 p2 p3 q0 q1 q2 q3 r0 r1 r2 r3 t0 t1 t2 t3 J14 A13 A14 E13 E14 V13 V14 W13 W14 G13 G14 O13 O14 X13 X14 H13 H14 Y13 Y14 U13 U14 Z13 Z14 bw13 bw14
    obtain ⟨_, a0, a1, a2⟩ := id E15
    obtain ⟨_, x0, x1, x2⟩ := id Y15
    have hcv := toKey_any m st ko tn kc nm vl w15.drew ((rk.keep bw15).keep (Below.refl _ _).drew) hk
    go_wp2
    go_region_held3 (fun w' => w'.cell? ⟨w9.heap.size, 0, none⟩ = some (.string m) ∧ w'.cell? ⟨w9.heap.size, 1, none⟩ = some (.slice (some ⟨g9, 0, none⟩) tn tn) ∧ w'.cell? ⟨w9.heap.size, 2, none⟩ = some (.int .i64 st) ∧ w'.cell? ⟨w.heap.size + 1, 0, none⟩ = some (.string m) ∧ w'.cell? ⟨w.heap.size + 1, 1, none⟩ = some (.slice ko tn kc) ∧ w'.cell? ⟨w.heap.size + 1, 2, none⟩ = some (.int .i64 st)) (go_keep) (first | (go_at_call 8; refine hcv.mono ?_; rintro e w16 ⟨g16, rfl, _, J16, hb16⟩; have hb16' := (Below.refl _ w15).drew.trans hb16; have A16 := A15.keep hb16'; have E16 := E15.keep hb16'; have V16 := V15.keep hb16'; have W16 := W15.keep hb16'; have G16 := G15.keep hb16'; have O16 := O15.keep hb16'; have X16 := X15.keep hb16'; have H16 := H15.keep hb16'; have Y16 := Y15.keep hb16'; have U16 := U15.keep hb16'; have Z16 := Z15.keep hb16'; obtain ⟨_, p0, p1, p2⟩ := id E16; obtain ⟨_, q0, q1, q2⟩ := id Y16; have bw16 := bw15.trans (hb16'.mono bw15.size); have s16 := hb16'.size; clear hb16 hb16') | (go_at_call 11; refine (eqKey_same m st (some ⟨g9, 0, none⟩) (some ⟨g16, 0, none⟩) tn tn tn nm vl _ H16.row J16.row hk).mono ?_; rintro e w17 ⟨rfl, hb17⟩; have A17 := A16.keep hb17; have E17 := E16.keep hb17; have V17 := V16.keep hb17; have W17 := W16.keep hb17; have G17 := G16.keep hb17; have O17 := O16.keep hb17; have X17 := X16.keep hb17; have H17 := H16.keep hb17; have Y17 := Y16.keep hb17; have U17 := U16.keep hb17; have Z17 := Z16.keep hb17; have bw17 := bw16.trans (hb17.mono bw16.size); obtain ⟨_, r0, r1, r2⟩ := id E17; obtain ⟨_, t0, t1, t2⟩ := id Y17; have s17 := hb17.size; clear hb17))
    clear hcv a0 a1 a2 x0 x1 x2 p0 p1 p2 q0 q1 q2 r0 r1 r2 t0 t1 t2 J16 A15 A16 E15 E16 V15 V16 W15 W16 G15 G16 O15 O16 X15 X16 H15 H16 Y15 Y16 U15 U16 Z15 Z16 bw15 bw16
    obtain ⟨_, x0, x1, x2, x3⟩ := id X17
    go_wp2_with fail
    refine (markBoard_any z h mk _ g7 T7 n 1 X w17 O17 (by omega) (by omega) hz hn).mono ?_
    rintro e w18 ⟨rfl, _, R18⟩
    have A18 := A17.rng R18 (by omega)
    have E18 := E17.rng R18 (by omega)
    have V18 := V17.rng R18 (by omega)
    have W18 := W17.rng R18 (by omega)
    have H18 := H17.rng R18 (by omega)
    have Y18 := Y17.rng R18 (by omega)
    have U18 := U17.rng R18 (by omega)
    have Z18 := Z17.rng R18 (by omega)
    have bw18 : Below w.heap.size w w18 := bw17.trans (R18.below (by omega) bw17.size)
    have s18 := R18.size
    clear A17 E17 V17 W17 G17 O17 X17 H17 Y17 U17 Z17 bw17
    clear R18 x0 x1 x2 x3
    obtain ⟨k0, hk0⟩ : ∃ k0, kOWi X 1 n = k0 := ⟨_, rfl⟩
    rw [hk0]
    have hk1 : 1 ≤ k0 ∧ k0 ≤ 8796093022208 := by have e1 := kOWi_ge X 1 n; have e2 := kOWi_le X 1 n hz; omega
    clear hk0
    obtain ⟨_, y0, y1, y2⟩ := id Y18
    go_wp2_with fail
    refine (markKey_k m st g9 tn tn k0 w18 nm vl H18 hk hk1.1 hk1.2).mono ?_
    rintro e w19 ⟨rfl, t19⟩
    have R19 := t19.rng (Nat.le_refl g9) (Nat.lt_succ_self g9)
    have A19 := A18.rng R19 (by omega)
    have E19 := E18.rng R19 (by omega)
    have V19 := V18.rng R19 (by omega)
    have W19 := W18.rng R19 (by omega)
    have U19 := U18.rng R19 (by omega)
    have Z19 := Z18.rng R19 (by omega)
    have bw19 : Below w.heap.size w w19 := bw18.trans (R19.below (by omega) bw18.size)
    have s19 := R19.size
    clear A18 E18 V18 W18 H18 Y18 U18 Z18 bw18
    clear R19 t19 y0 y1 y2
    have hkp : ¬ ((k0 : Int) + 2 * (tn : Int)) < 0 := by omega
    generalize ((k0 : Int) + 2 * (tn : Int)) = kk at hkp ⊢
    have hkd : decide (kk < 0) = false := decide_eq_false hkp
    obtain ⟨_, vb0, vb1, vb2, vb3⟩ := id V19
    obtain ⟨_, zb0, zb1, zb2, zb3⟩ := id Z19
    go_wp2_with fail
    refine (eqBoard_same z' h' mk' ga ma n' gc mb X' w19 (U19.row hbd' hfb').2 (W19.row hbd' hfb').2 hnn hz').mono ?_
    rintro e w20 ⟨rfl, b20⟩
    have A20 := A19.keep b20
    have E20 := E19.keep b20
    have V20 := V19.keep b20
    have W20 := W19.keep b20
    have U20 := U19.keep b20
    have Z20 := Z19.keep b20
    have bw20 := bw19.trans (b20.mono bw19.size)
    clear A19 E19 V19 W19 U19 Z19 bw19
    have s20 := b20.size
    clear b20 vb0 vb1 vb2 vb3 zb0 zb1 zb2 zb3
    obtain ⟨_, zb0, zb1, zb2, zb3⟩ := id Z20
    go_wp2_with fail
    refine (markBoard_any z' h' mk' _ T10 T11 n' 1 X' w20 U20 (by omega) (by omega) hz' hnn).mono ?_
    rintro e w21 ⟨rfl, hK21, R21⟩
    have K21 : Hid (MHeld 0 1 n' (.slice ga n' gc) X' w21) := hK21
    clear hK21
    have A21 := A20.rng R21 (by omega)
    have E21 := E20.rng R21 (by omega)
    have V21 := V20.rng R21 (by omega)
    have W21 := W20.rng R21 (by omega)
    have Z21 := Z20.rng R21 (by omega)
    have bw21 : Below w.heap.size w w21 := bw20.trans (R21.below (by omega) bw20.size)
    have s21 := R21.size
    clear A20 E20 V20 W20 U20 Z20 bw20
    clear R21 zb0 zb1 zb2 zb3
    have hhd := fun W hW => heldBoard_yes z' h' mk' (.slice ga n' gc) n' 1 X' w21 W ⟨_, _, rfl⟩ K21.out hW
    have hmd : decide (((kOWi X' 1 n' : Nat) : Int) < 0) = false := decide_eq_false (by omega)
    have f21 := Below.refl w21.heap.size w21
    generalize ((kOWi X' 1 n' : Nat) : Int) = mm at *
    clear K21
    obtain ⟨_, zb0, zb1, zb2, zb3⟩ := id Z21
    go_wp2_with fail
    refine (hhd w21 f21).mono ?_
    rintro e w22 ⟨rfl, b22⟩
    have f22 := f21.trans (b22.mono f21.size)
    have A22 := A21.keep b22
    have E22 := E21.keep b22
    have V22 := V21.keep b22
    have W22 := W21.keep b22
    have Z22 := Z21.keep b22
    have bw22 := bw21.trans (b22.mono bw21.size)
    clear A21 E21 V21 W21 Z21 bw21
    have s22 := b22.size
    clear b22 zb0 zb1 zb2 zb3
    have EE := E22
    have AA := A22
    have bwX := bw22
    obtain ⟨la, a0, a1, a2, a3⟩ := id A22
    obtain ⟨lx, x0, x1, x2⟩ := id E22
    have bd := (Below.refl w22.heap.size w22).drew
    go_upto_region 31 with fail
    go_cut [19, 20] from 102 (fun s15 s16 wx => ∃ B7 pa pb, s15 = .pointer (some ⟨B7, 0, none⟩) ∧ s16 = .int .i64 c ∧ BoxB w22 wx B7 z' h' mk' n' X' pa pb)
    case first =>
      clear V22 W22 Z22 hhd
      refine wp_region_w (fun w' : World => w'.cell? ⟨w.heap.size, 0, none⟩ = some (.int .i64 z) ∧ w'.cell? ⟨w.heap.size, 1, none⟩ = some (.int .i64 h) ∧ w'.cell? ⟨w.heap.size, 2, none⟩ = some (.int .i64 mk) ∧ w'.cell? ⟨w.heap.size, 3, none⟩ = some (.slice ao n cap) ∧ w'.cell? ⟨w.heap.size + 1, 0, none⟩ = some (.string m) ∧ w'.cell? ⟨w.heap.size + 1, 1, none⟩ = some (.slice ko tn kc) ∧ w'.cell? ⟨w.heap.size + 1, 2, none⟩ = some (.int .i64 st)) (fun _ => true) (by kernel_rfl) ?_
      change wpW _ _ _ _ _ _ 13 _ _ w22.drew
      have SS : ∀ W, Below w22.heap.size w22 W → (fun w' : World => w'.cell? ⟨w.heap.size, 0, none⟩ = some (.int .i64 z) ∧ w'.cell? ⟨w.heap.size, 1, none⟩ = some (.int .i64 h) ∧ w'.cell? ⟨w.heap.size, 2, none⟩ = some (.int .i64 mk) ∧ w'.cell? ⟨w.heap.size, 3, none⟩ = some (.slice ao n cap) ∧ w'.cell? ⟨w.heap.size + 1, 0, none⟩ = some (.string m) ∧ w'.cell? ⟨w.heap.size + 1, 1, none⟩ = some (.slice ko tn kc) ∧ w'.cell? ⟨w.heap.size + 1, 2, none⟩ = some (.int .i64 st)) W := fun W hW => ⟨(AA.keep hW).c0, (AA.keep hW).c1, (AA.keep hW).c2, (AA.keep hW).c3, (EE.keep hW).c0, (EE.keep hW).c1, (EE.keep hW).c2⟩
      have hS0 := SS _ bd
      refine wpW_take 0 _ (.agg #[.int .i64 z, .int .i64 h, .int .i64 mk, .slice ao n cap]) rfl (by kernel_rfl) (by kernel_rfl) (by kernel_rfl) (fun _ _ _ h => h) (by kernel_rfl) (.inl ⟨rfl, fun w' hS' => by obtain ⟨s0, s1, s2, s3, s4, s5, s6⟩ := hS'; go_simp⟩) hS0 ?_
      refine wpW_take 2 _ (.agg #[.string m, .slice ko tn kc, .int .i64 st]) rfl (by kernel_rfl) (by kernel_rfl) (by kernel_rfl) (fun _ _ _ h => h) (by kernel_rfl) (.inl ⟨rfl, fun w' hS' => by obtain ⟨s0, s1, s2, s3, s4, s5, s6⟩ := hS'; go_simp⟩) hS0 ?_
      refine wpW_take 4 _ (.int .i64 t) rfl (by kernel_rfl) (by kernel_rfl) (by kernel_rfl) (fun _ _ _ h => h) (by kernel_rfl) (.inl ⟨rfl, fun w' hS' => by obtain ⟨s0, s1, s2, s3, s4, s5, s6⟩ := hS'; go_simp⟩) hS0 ?_
      refine wpW_take 5 _ (.int .i64 v) rfl (by kernel_rfl) (by kernel_rfl) (by kernel_rfl) (fun _ _ _ h => h) (by kernel_rfl) (.inl ⟨rfl, fun w' hS' => by obtain ⟨s0, s1, s2, s3, s4, s5, s6⟩ := hS'; go_simp⟩) hS0 ?_
      simp only [Act.put, List.getElem_toArray, List.getElem_cons_succ, List.getElem_cons_zero, List.setIfInBounds_toArray, List.set_cons_zero, List.set_cons_succ]
      refine wpW_two 1 10 _ _ rfl rfl (by kernel_rfl) ?_ ?_
      · skip
        refine (step_c1 rfl 103 7 24 rfl _ (by simp [Act.eval, Act.put]) cf_tBd (toBoard_any z h mk ao n cap X w22.drew (hr.keep (bwX.trans (bd.mono bwX.size))) hn hz) ?_)
        rintro e w3 ⟨g3, _, _, rfl, _, V3, hb3⟩
        have cw3 := bd.trans (hb3.mono bd.size)
        have v3 := V3.row hbd
        refine ⟨_, rfl, fun _ => SS _ cw3, ?_⟩
        simp only [Act.put, List.getElem_toArray, List.getElem_cons_succ, List.getElem_cons_zero, List.setIfInBounds_toArray, List.set_cons_zero, List.set_cons_succ]
        refine wpW_two 3 10 _ _ rfl rfl (by kernel_rfl) ?_ ?_
        · skip
          refine (step_c1 rfl 105 8 27 rfl _ (by simp [Act.eval, Act.put]) cf_tKy (toKey_any m st ko tn kc nm vl w3 (rk.keep (bwX.trans (cw3.mono bwX.size))) hk) ?_)
          rintro e w4 ⟨g4, rfl, _, E4', hb4⟩
          have cw4 := cw3.trans (hb4.mono cw3.size)
          have v4 := v3.keep hb4
          refine ⟨_, rfl, fun _ => SS _ cw4, ?_⟩
          simp only [Act.put, List.getElem_toArray, List.getElem_cons_succ, List.getElem_cons_zero, List.setIfInBounds_toArray, List.set_cons_zero, List.set_cons_succ]
          refine wpW_two 6 10 _ _ rfl rfl (by kernel_rfl) ?_ ?_
          · skip
            refine (step_c4 rfl 104 106 107 108 9 32 38 3 3 rfl _ _ _ _ (by simp [Act.eval, Act.put]) (by simp [Act.eval, Act.put]) (by simp [Act.eval, Act.put]) (by simp [Act.eval, Act.put]) cf_iAdd (HIM.out g3 g4 w4 v4 E4'.row) ?_)
            rintro e w5 ⟨v5, rfl, W5, hb5⟩
            obtain ⟨pa, pb, rfl⟩ := W5.form
            have cw5 := cw4.trans (hb5.mono cw4.size)
            have hS5 := SS _ cw5
            refine ⟨_, rfl, fun _ => hS5, ?_⟩
            refine wpW_take 7 _ (.tuple #[.agg #[.int .i64 z', .int .i64 h', .int .i64 mk', .slice pa n' pb], .int .i64 c]) rfl (by kernel_rfl) (by kernel_rfl) (by kernel_rfl) (fun _ _ _ h => h) (by kernel_rfl) (.inl ⟨rfl, fun w' hS' => by obtain ⟨s0, s1, s2, s3, s4, s5, s6⟩ := hS'; go_simp⟩) hS5 ?_
            refine wpW_take 8 _ (.agg #[.int .i64 z', .int .i64 h', .int .i64 mk', .slice pa n' pb]) rfl (by kernel_rfl) (by kernel_rfl) (by kernel_rfl) (fun _ _ _ h => h) (by kernel_rfl) (.inl ⟨rfl, fun w' hS' => by obtain ⟨s0, s1, s2, s3, s4, s5, s6⟩ := hS'; go_simp⟩) hS5 ?_
            refine wpW_take 9 _ (.int .i64 c) rfl (by kernel_rfl) (by kernel_rfl) (by kernel_rfl) (fun _ _ _ h => h) (by kernel_rfl) (.inl ⟨rfl, fun w' hS' => by obtain ⟨s0, s1, s2, s3, s4, s5, s6⟩ := hS'; go_simp⟩) hS5 ?_
            simp only [Act.put, List.getElem_toArray, List.getElem_cons_succ, List.getElem_cons_zero, List.setIfInBounds_toArray, List.set_cons_zero, List.set_cons_succ]
            refine wpW_one 10 _ rfl (by kernel_rfl) ?_
            refine (step_allocB rfl rfl ?_)
            have bz := cw5.trans ((below_new w5 (.cells #[.int .i64 0, .int .i64 0, .int .i64 0, .slice none 0 0] 32)).mono cw5.size)
            have nz := below_new w5 (.cells #[.int .i64 0, .int .i64 0, .int .i64 0, .slice none 0 0] 32)
            have Zb := BZ.new w5 32
            have gz : w22.heap.size ≤ w5.heap.size := cw5.size
            have lz : w5.heap.size < (w5.alloc (.cells #[.int .i64 0, .int .i64 0, .int .i64 0, .slice none 0 0] 32)).heap.size := by simp
            obtain ⟨Bz, hBz⟩ : ∃ B, B = w5.heap.size := ⟨_, rfl⟩
            rw [← hBz] at Zb gz lz ⊢
            have HBz : Hid (Bz = w5.heap.size) := hBz
            clear hBz
            refine ⟨fun _ => SS _ bz, ?_⟩
            simp only [Act.put, List.getElem_toArray, List.getElem_cons_succ, List.getElem_cons_zero, List.setIfInBounds_toArray, List.set_cons_zero, List.set_cons_succ]
            generalize w5.alloc (.cells #[.int .i64 0, .int .i64 0, .int .i64 0, .slice none 0 0] 32) = wz at *
            refine wpW_one 11 _ rfl (by kernel_rfl) (step_storeBd rfl 19 110 rfl Bz z' h' mk' pa n' pb (by simp [Act.eval, Act.put]) (by simp [Act.eval, Act.put]) Zb ?_)
            have QB := BoxB.early (z := z') (h := h') (mk := mk') Zb (W5.keep nz) cw4.size (.inr (Nat.le_of_eq HBz.out.symm)) gz bz
            refine ⟨fun _ => SS _ QB.bl, ?_⟩
            simp only [Act.put, List.getElem_toArray, List.getElem_cons_succ, List.getElem_cons_zero, List.setIfInBounds_toArray, List.set_cons_zero, List.set_cons_succ]
            refine wpW_one 12 _ rfl (by kernel_rfl) (step_assignI rfl 111 rfl c (by simp [Act.eval, Act.put]) ?_)
            refine ⟨fun _ => SS _ QB.bl, ?_⟩
            refine wpW_done (by kernel_rfl) ?_
            simp only [Act.put, List.getElem_toArray, List.getElem_cons_succ, List.getElem_cons_zero, List.setIfInBounds_toArray, List.set_cons_zero, List.set_cons_succ]
            go_wp2_with fail
            go_meet
            case rel => exact ⟨_, pa, pb, rfl, rfl, QB⟩
          · skip
            refine (step_allocB rfl rfl ?_)
            have bz := cw4.trans ((below_new w4 (.cells #[.int .i64 0, .int .i64 0, .int .i64 0, .slice none 0 0] 32)).mono cw4.size)
            have nz := below_new w4 (.cells #[.int .i64 0, .int .i64 0, .int .i64 0, .slice none 0 0] 32)
            have Zb := BZ.new w4 32
            have gz : w22.heap.size ≤ w4.heap.size := cw4.size
            have lz : w4.heap.size < (w4.alloc (.cells #[.int .i64 0, .int .i64 0, .int .i64 0, .slice none 0 0] 32)).heap.size := by simp
            obtain ⟨Bz, hBz⟩ : ∃ B, B = w4.heap.size := ⟨_, rfl⟩
            rw [← hBz] at Zb gz lz ⊢
            have HBz : Hid (Bz = w4.heap.size) := hBz
            clear hBz
            refine ⟨fun _ => SS _ bz, ?_⟩
            simp only [Act.put, List.getElem_toArray, List.getElem_cons_succ, List.getElem_cons_zero, List.setIfInBounds_toArray, List.set_cons_zero, List.set_cons_succ]
            generalize w4.alloc (.cells #[.int .i64 0, .int .i64 0, .int .i64 0, .slice none 0 0] 32) = wz at *
            refine wpW_one 6 _ rfl (by kernel_rfl) ?_
            refine (step_c4 rfl 104 106 107 108 9 32 38 3 3 rfl _ _ _ _ (by simp [Act.eval, Act.put]) (by simp [Act.eval, Act.put]) (by simp [Act.eval, Act.put]) (by simp [Act.eval, Act.put]) cf_iAdd (HIM.out g3 g4 wz (v4.keep nz) (E4'.row.keep nz)) ?_)
            rintro e w5 ⟨v5, rfl, W5, hb5⟩
            obtain ⟨pa, pb, rfl⟩ := W5.form
            have cw5 := bz.trans (hb5.mono bz.size)
            have hS5 := SS _ cw5
            refine ⟨_, rfl, fun _ => hS5, ?_⟩
            refine wpW_take 7 _ (.tuple #[.agg #[.int .i64 z', .int .i64 h', .int .i64 mk', .slice pa n' pb], .int .i64 c]) rfl (by kernel_rfl) (by kernel_rfl) (by kernel_rfl) (fun _ _ _ h => h) (by kernel_rfl) (.inl ⟨rfl, fun w' hS' => by obtain ⟨s0, s1, s2, s3, s4, s5, s6⟩ := hS'; go_simp⟩) hS5 ?_
            refine wpW_take 8 _ (.agg #[.int .i64 z', .int .i64 h', .int .i64 mk', .slice pa n' pb]) rfl (by kernel_rfl) (by kernel_rfl) (by kernel_rfl) (fun _ _ _ h => h) (by kernel_rfl) (.inl ⟨rfl, fun w' hS' => by obtain ⟨s0, s1, s2, s3, s4, s5, s6⟩ := hS'; go_simp⟩) hS5 ?_
            refine wpW_take 9 _ (.int .i64 c) rfl (by kernel_rfl) (by kernel_rfl) (by kernel_rfl) (fun _ _ _ h => h) (by kernel_rfl) (.inl ⟨rfl, fun w' hS' => by obtain ⟨s0, s1, s2, s3, s4, s5, s6⟩ := hS'; go_simp⟩) hS5 ?_
            simp only [Act.put, List.getElem_toArray, List.getElem_cons_succ, List.getElem_cons_zero, List.setIfInBounds_toArray, List.set_cons_zero, List.set_cons_succ]
            refine wpW_one 11 _ rfl (by kernel_rfl) (step_storeBd rfl 19 110 rfl Bz z' h' mk' pa n' pb (by simp [Act.eval, Act.put]) (by simp [Act.eval, Act.put]) (Zb.keep hb5) ?_)
            have QB := BoxB.early (z := z') (h := h') (mk := mk') (Zb.keep hb5) W5 (Nat.le_trans gz (Nat.le_of_lt lz)) (.inl lz) gz cw5
            refine ⟨fun _ => SS _ QB.bl, ?_⟩
            simp only [Act.put, List.getElem_toArray, List.getElem_cons_succ, List.getElem_cons_zero, List.setIfInBounds_toArray, List.set_cons_zero, List.set_cons_succ]
            refine wpW_one 12 _ rfl (by kernel_rfl) (step_assignI rfl 111 rfl c (by simp [Act.eval, Act.put]) ?_)
            refine ⟨fun _ => SS _ QB.bl, ?_⟩
            refine wpW_done (by kernel_rfl) ?_
            simp only [Act.put, List.getElem_toArray, List.getElem_cons_succ, List.getElem_cons_zero, List.setIfInBounds_toArray, List.set_cons_zero, List.set_cons_succ]
            go_wp2_with fail
            go_meet
            case rel => exact ⟨_, pa, pb, rfl, rfl, QB⟩
        · skip
          refine (step_allocB rfl rfl ?_)
          have bz := cw3.trans ((below_new w3 (.cells #[.int .i64 0, .int .i64 0, .int .i64 0, .slice none 0 0] 32)).mono cw3.size)
          have nz := below_new w3 (.cells #[.int .i64 0, .int .i64 0, .int .i64 0, .slice none 0 0] 32)
          have Zb := BZ.new w3 32
          have gz : w22.heap.size ≤ w3.heap.size := cw3.size
          have lz : w3.heap.size < (w3.alloc (.cells #[.int .i64 0, .int .i64 0, .int .i64 0, .slice none 0 0] 32)).heap.size := by simp
          obtain ⟨Bz, hBz⟩ : ∃ B, B = w3.heap.size := ⟨_, rfl⟩
          rw [← hBz] at Zb gz lz ⊢
          have HBz : Hid (Bz = w3.heap.size) := hBz
          clear hBz
          refine ⟨fun _ => SS _ bz, ?_⟩
          simp only [Act.put, List.getElem_toArray, List.getElem_cons_succ, List.getElem_cons_zero, List.setIfInBounds_toArray, List.set_cons_zero, List.set_cons_succ]
          generalize w3.alloc (.cells #[.int .i64 0, .int .i64 0, .int .i64 0, .slice none 0 0] 32) = wz at *
          refine wpW_one 3 _ rfl (by kernel_rfl) ?_
          refine (step_c1 rfl 105 8 27 rfl _ (by simp [Act.eval, Act.put]) cf_tKy (toKey_any m st ko tn kc nm vl wz (rk.keep (bwX.trans (bz.mono bwX.size))) hk) ?_)
          rintro e w4 ⟨g4, rfl, _, E4', hb4⟩
          have cw4 := bz.trans (hb4.mono bz.size)
          have v4 := (v3.keep nz).keep hb4
          refine ⟨_, rfl, fun _ => SS _ cw4, ?_⟩
          simp only [Act.put, List.getElem_toArray, List.getElem_cons_succ, List.getElem_cons_zero, List.setIfInBounds_toArray, List.set_cons_zero, List.set_cons_succ]
          refine wpW_one 6 _ rfl (by kernel_rfl) ?_
          refine (step_c4 rfl 104 106 107 108 9 32 38 3 3 rfl _ _ _ _ (by simp [Act.eval, Act.put]) (by simp [Act.eval, Act.put]) (by simp [Act.eval, Act.put]) (by simp [Act.eval, Act.put]) cf_iAdd (HIM.out g3 g4 w4 v4 E4'.row) ?_)
          rintro e w5 ⟨v5, rfl, W5, hb5⟩
          obtain ⟨pa, pb, rfl⟩ := W5.form
          have cw5 := cw4.trans (hb5.mono cw4.size)
          have hS5 := SS _ cw5
          refine ⟨_, rfl, fun _ => hS5, ?_⟩
          refine wpW_take 7 _ (.tuple #[.agg #[.int .i64 z', .int .i64 h', .int .i64 mk', .slice pa n' pb], .int .i64 c]) rfl (by kernel_rfl) (by kernel_rfl) (by kernel_rfl) (fun _ _ _ h => h) (by kernel_rfl) (.inl ⟨rfl, fun w' hS' => by obtain ⟨s0, s1, s2, s3, s4, s5, s6⟩ := hS'; go_simp⟩) hS5 ?_
          refine wpW_take 8 _ (.agg #[.int .i64 z', .int .i64 h', .int .i64 mk', .slice pa n' pb]) rfl (by kernel_rfl) (by kernel_rfl) (by kernel_rfl) (fun _ _ _ h => h) (by kernel_rfl) (.inl ⟨rfl, fun w' hS' => by obtain ⟨s0, s1, s2, s3, s4, s5, s6⟩ := hS'; go_simp⟩) hS5 ?_
          refine wpW_take 9 _ (.int .i64 c) rfl (by kernel_rfl) (by kernel_rfl) (by kernel_rfl) (fun _ _ _ h => h) (by kernel_rfl) (.inl ⟨rfl, fun w' hS' => by obtain ⟨s0, s1, s2, s3, s4, s5, s6⟩ := hS'; go_simp⟩) hS5 ?_
          simp only [Act.put, List.getElem_toArray, List.getElem_cons_succ, List.getElem_cons_zero, List.setIfInBounds_toArray, List.set_cons_zero, List.set_cons_succ]
          refine wpW_one 11 _ rfl (by kernel_rfl) (step_storeBd rfl 19 110 rfl Bz z' h' mk' pa n' pb (by simp [Act.eval, Act.put]) (by simp [Act.eval, Act.put]) ((Zb.keep hb4).keep hb5) ?_)
          have QB := BoxB.early (z := z') (h := h') (mk := mk') ((Zb.keep hb4).keep hb5) W5 (Nat.le_trans gz (Nat.le_of_lt (Nat.lt_of_lt_of_le lz hb4.size))) (.inl (Nat.lt_of_lt_of_le lz hb4.size)) gz cw5
          refine ⟨fun _ => SS _ QB.bl, ?_⟩
          simp only [Act.put, List.getElem_toArray, List.getElem_cons_succ, List.getElem_cons_zero, List.setIfInBounds_toArray, List.set_cons_zero, List.set_cons_succ]
          refine wpW_one 12 _ rfl (by kernel_rfl) (step_assignI rfl 111 rfl c (by simp [Act.eval, Act.put]) ?_)
          refine ⟨fun _ => SS _ QB.bl, ?_⟩
          refine wpW_done (by kernel_rfl) ?_
          simp only [Act.put, List.getElem_toArray, List.getElem_cons_succ, List.getElem_cons_zero, List.setIfInBounds_toArray, List.set_cons_zero, List.set_cons_succ]
          go_wp2_with fail
          go_meet
          case rel => exact ⟨_, pa, pb, rfl, rfl, QB⟩
      · skip
        refine (step_allocB rfl rfl ?_)
        have bz := bd.trans ((below_new w22.drew (.cells #[.int .i64 0, .int .i64 0, .int .i64 0, .slice none 0 0] 32)).mono bd.size)
        have nz := below_new w22.drew (.cells #[.int .i64 0, .int .i64 0, .int .i64 0, .slice none 0 0] 32)
        have Zb := BZ.new w22.drew 32
        have gz : w22.heap.size ≤ w22.drew.heap.size := bd.size
        have lz : w22.drew.heap.size < (w22.drew.alloc (.cells #[.int .i64 0, .int .i64 0, .int .i64 0, .slice none 0 0] 32)).heap.size := by simp
        obtain ⟨Bz, hBz⟩ : ∃ B, B = w22.drew.heap.size := ⟨_, rfl⟩
        rw [← hBz] at Zb gz lz ⊢
        have HBz : Hid (Bz = w22.drew.heap.size) := hBz
        clear hBz
        refine ⟨fun _ => SS _ bz, ?_⟩
        simp only [Act.put, List.getElem_toArray, List.getElem_cons_succ, List.getElem_cons_zero, List.setIfInBounds_toArray, List.set_cons_zero, List.set_cons_succ]
        generalize w22.drew.alloc (.cells #[.int .i64 0, .int .i64 0, .int .i64 0, .slice none 0 0] 32) = wz at *
        refine wpW_one 1 _ rfl (by kernel_rfl) ?_
        refine (step_c1 rfl 103 7 24 rfl _ (by simp [Act.eval, Act.put]) cf_tBd (toBoard_any z h mk ao n cap X wz (hr.keep (bwX.trans (bz.mono bwX.size))) hn hz) ?_)
        rintro e w3 ⟨g3, _, _, rfl, _, V3, hb3⟩
        have cw3 := bz.trans (hb3.mono bz.size)
        have v3 := V3.row hbd
        refine ⟨_, rfl, fun _ => SS _ cw3, ?_⟩
        simp only [Act.put, List.getElem_toArray, List.getElem_cons_succ, List.getElem_cons_zero, List.setIfInBounds_toArray, List.set_cons_zero, List.set_cons_succ]
        refine wpW_one 3 _ rfl (by kernel_rfl) ?_
        refine (step_c1 rfl 105 8 27 rfl _ (by simp [Act.eval, Act.put]) cf_tKy (toKey_any m st ko tn kc nm vl w3 (rk.keep (bwX.trans (cw3.mono bwX.size))) hk) ?_)
        rintro e w4 ⟨g4, rfl, _, E4', hb4⟩
        have cw4 := cw3.trans (hb4.mono cw3.size)
        have v4 := v3.keep hb4
        refine ⟨_, rfl, fun _ => SS _ cw4, ?_⟩
        simp only [Act.put, List.getElem_toArray, List.getElem_cons_succ, List.getElem_cons_zero, List.setIfInBounds_toArray, List.set_cons_zero, List.set_cons_succ]
        refine wpW_one 6 _ rfl (by kernel_rfl) ?_
        refine (step_c4 rfl 104 106 107 108 9 32 38 3 3 rfl _ _ _ _ (by simp [Act.eval, Act.put]) (by simp [Act.eval, Act.put]) (by simp [Act.eval, Act.put]) (by simp [Act.eval, Act.put]) cf_iAdd (HIM.out g3 g4 w4 v4 E4'.row) ?_)
        rintro e w5 ⟨v5, rfl, W5, hb5⟩
        obtain ⟨pa, pb, rfl⟩ := W5.form
        have cw5 := cw4.trans (hb5.mono cw4.size)
        have hS5 := SS _ cw5
        refine ⟨_, rfl, fun _ => hS5, ?_⟩
        refine wpW_take 7 _ (.tuple #[.agg #[.int .i64 z', .int .i64 h', .int .i64 mk', .slice pa n' pb], .int .i64 c]) rfl (by kernel_rfl) (by kernel_rfl) (by kernel_rfl) (fun _ _ _ h => h) (by kernel_rfl) (.inl ⟨rfl, fun w' hS' => by obtain ⟨s0, s1, s2, s3, s4, s5, s6⟩ := hS'; go_simp⟩) hS5 ?_
        refine wpW_take 8 _ (.agg #[.int .i64 z', .int .i64 h', .int .i64 mk', .slice pa n' pb]) rfl (by kernel_rfl) (by kernel_rfl) (by kernel_rfl) (fun _ _ _ h => h) (by kernel_rfl) (.inl ⟨rfl, fun w' hS' => by obtain ⟨s0, s1, s2, s3, s4, s5, s6⟩ := hS'; go_simp⟩) hS5 ?_
        refine wpW_take 9 _ (.int .i64 c) rfl (by kernel_rfl) (by kernel_rfl) (by kernel_rfl) (fun _ _ _ h => h) (by kernel_rfl) (.inl ⟨rfl, fun w' hS' => by obtain ⟨s0, s1, s2, s3, s4, s5, s6⟩ := hS'; go_simp⟩) hS5 ?_
        simp only [Act.put, List.getElem_toArray, List.getElem_cons_succ, List.getElem_cons_zero, List.setIfInBounds_toArray, List.set_cons_zero, List.set_cons_succ]
        refine wpW_one 11 _ rfl (by kernel_rfl) (step_storeBd rfl 19 110 rfl Bz z' h' mk' pa n' pb (by simp [Act.eval, Act.put]) (by simp [Act.eval, Act.put]) (((Zb.keep hb3).keep hb4).keep hb5) ?_)
        have QB := BoxB.early (z := z') (h := h') (mk := mk') (((Zb.keep hb3).keep hb4).keep hb5) W5 (Nat.le_trans gz (Nat.le_of_lt (Nat.lt_of_lt_of_le lz (Nat.le_trans hb3.size hb4.size)))) (.inl (Nat.lt_of_lt_of_le lz (Nat.le_trans hb3.size hb4.size))) gz cw5
        refine ⟨fun _ => SS _ QB.bl, ?_⟩
        simp only [Act.put, List.getElem_toArray, List.getElem_cons_succ, List.getElem_cons_zero, List.setIfInBounds_toArray, List.set_cons_zero, List.set_cons_succ]
        refine wpW_one 12 _ rfl (by kernel_rfl) (step_assignI rfl 111 rfl c (by simp [Act.eval, Act.put]) ?_)
        refine ⟨fun _ => SS _ QB.bl, ?_⟩
        refine wpW_done (by kernel_rfl) ?_
        simp only [Act.put, List.getElem_toArray, List.getElem_cons_succ, List.getElem_cons_zero, List.setIfInBounds_toArray, List.set_cons_zero, List.set_cons_succ]
        go_wp2_with fail
        go_meet
        case rel => exact ⟨_, pa, pb, rfl, rfl, QB⟩
    case rest =>
      obtain ⟨B7, pa, pb, rfl, rfl, Q7⟩ := hcut
      generalize wc = w23 at *
      have bw23 := bw22.trans (Q7.bl.mono bw22.size)
      have V23 := V22.keep Q7.bl
      have W23 := W22.keep Q7.bl
      have Z23 := Z22.keep Q7.bl
      have f23 := f22.trans (Q7.bl.mono f22.size)
      have X23 := Q7.at'
      have H23 := Q7.ba
      clear Q7 V22 W22 Z22 f22 A22 E22 bw22 EE AA bwX bd a0 a1 a2 a3 la x0 x1 x2 lx HIM
      obtain ⟨_, yb0, yb1, yb2, yb3⟩ := id X23
      obtain ⟨_, vb0, vb1, vb2, vb3⟩ := id V23
      go_wp2_with fail
      refine (eqBoard_same z' h' mk' pa ma n' pb mb X' w23 (H23.row hbd' hfb').2 (W23.row hbd' hfb').2 hnn hz').mono ?_
      rintro e w24 ⟨rfl, b24⟩
      have bw24 := bw23.trans (b24.mono bw23.size)
      have Z24 := Z23.keep b24
      have f24 := f23.trans (b24.mono f23.size)
      clear b24 bw23 Z23 f23 V23 W23 X23 H23 yb0 yb1 yb2 yb3 vb0 vb1 vb2 vb3
      obtain ⟨_, zb0, zb1, zb2, zb3⟩ := id Z24
      go_wp2_with fail
      refine (hhd w24 f24).mono ?_
      rintro e w25 ⟨rfl, b25⟩
      have bw25 := bw24.trans (b25.mono bw24.size)
      clear b25 hhd Z24 zb0 zb1 zb2 zb3
      go_wp2
      go_ret
      exact ⟨rfl, bw25⟩
end Go.Proofs.YtaiigpffhcofpaaGreat
