/- The law of ApplyEdit, walked. -/
import Derived.Test.YtdcmclbbecnihaaCeA
import Derived.Deep.RegionHeld3
import Derived.Deep.CutRange
import Derived.Deep.CutBlock
namespace Go.Proofs.Ytdcmclbbecnihaa
open Go.RowKit
set_option linter.unusedSimpArgs false
set_option linter.unusedVariables false

/-- A list that bears these. -/
def lsM (R : Nat → Met) (n : Nat) : List Met := (List.range n).map R
theorem lsM_len (R : Nat → Met) (n : Nat) : (lsM R n).length = n := by simp [lsM]
theorem lsM_at (R : Nat → Met) {n j : Nat} (h : j < n) : mL (lsM R n) j = R j := by simp [mL, lsM, h]
theorem VRow.toL {w : World} {ao : Option Addr} {N : Nat} {R : Nat → Nat → Met} {M : Nat → Nat} (h : VRow w ao N R M) : VRow w ao N (fun i => mL (lsM (R i) (M i))) (fun i => (lsM (R i) (M i)).length) := by
  have e : ∀ i, (lsM (R i) (M i)).length = M i := fun i => lsM_len _ _
  refine ⟨fun i hi j hj => by rw [e i] at hj; show MB (mL (lsM (R i) (M i)) j); rw [lsM_at _ hj]; exact h.bd i hi j hj, fun i hi => by rw [e i]; exact h.len i hi, h.lies.elim .inl fun ⟨b, off, e1, hlt, hc⟩ => .inr ⟨b, off, e1, hlt, fun i hi => ?_⟩⟩
  obtain ⟨da, dc, h1, h2⟩ := hc i hi
  rw [e i]
  exact ⟨da, dc, h1, h2.congr (fun j hj => (lsM_at _ hj).symm)⟩
theorem VZ.put {w : World} {b : Nat} {nx lg sq : Int} {ao : Option Addr} {N cap : Nat} (h : VZ w b nx lg sq ao N cap) (n' l' s' : Int) (a' : Option Addr) (N' c' : Nat) :
    VX ((((w.setCell ⟨b, 0, none⟩ (.int .i64 n')).setCell ⟨b, 1, none⟩ (.int .i64 l')).setCell ⟨b, 2, none⟩ (.int .i64 s')).setCell ⟨b, 3, none⟩ (.slice a' N' c')) b n' l' s' a' N' c' := by
  obtain ⟨⟨lt, c0, c1, c2, c3⟩, fz⟩ := h
  refine ⟨by simpa using lt, ?_, ?_, ?_, ?_⟩
  · rw [World.cell?_setCell_other _ _ _ _ (by simp), World.cell?_setCell_other _ _ _ _ (by simp), World.cell?_setCell_other _ _ _ _ (by simp)]
    exact World.cell?_setCell_same _ _ _ c0
  · rw [World.cell?_setCell_other _ _ _ _ (by simp), World.cell?_setCell_other _ _ _ _ (by simp)]
    exact World.cell?_setCell_same _ _ _ ((World.cell?_setCell_other _ _ _ _ (by simp)).trans c1)
  · rw [World.cell?_setCell_other _ _ _ _ (by simp)]
    exact World.cell?_setCell_same _ _ _ ((World.cell?_setCell_other _ _ _ _ (by simp)).trans ((World.cell?_setCell_other _ _ _ _ (by simp)).trans c2))
  · exact World.cell?_setCell_same _ _ _ ((World.cell?_setCell_other _ _ _ _ (by simp)).trans ((World.cell?_setCell_other _ _ _ _ (by simp)).trans ((World.cell?_setCell_other _ _ _ _ (by simp)).trans c3)))
/-- What is known of a version that was answered and lies in a box. -/
structure BoxV (w2 w : World) (B : Nat) (nx lg sq : Int) (ao : Option Addr) (N c : Nat) (LA : Nat → List Met) : Prop where
  vx : VX w B nx lg sq ao N c
  va : ∃ lo hi, VA w lo hi ao N (fun i => mL (LA i)) (fun i => (LA i).length) ∧ w2.heap.size ≤ lo
  bl : Below w2.heap.size w2 w
  ge : w2.heap.size ≤ B
theorem BoxV.last {w2 w : World} {nx lg sq : Int} {ao : Option Addr} {N c lo : Nat} {LA : Nat → List Met} (hV : VA w lo w.heap.size ao N (fun i => mL (LA i)) (fun i => (LA i).length)) (hlo : w2.heap.size ≤ lo) (hb : Below w2.heap.size w2 w) (T : Nat) :
    BoxV w2 (w.alloc (.cells #[.int .i64 nx, .int .i64 lg, .int .i64 sq, .slice ao N c] T)) w.heap.size nx lg sq ao N c LA :=
  have bn := below_new w (.cells #[.int .i64 nx, .int .i64 lg, .int .i64 sq, .slice ao N c] T)
  ⟨VX.new w nx lg sq ao N c T, ⟨_, _, hV.keep bn, hlo⟩, hb.trans (bn.mono hb.size), hb.size⟩
theorem BoxV.early {w2 w : World} {B : Nat} {nx lg sq : Int} {ao : Option Addr} {N c lo : Nat} {LA : Nat → List Met} (Z : VZ w B 0 0 0 none 0 0) (hV : VA w lo w.heap.size ao N (fun i => mL (LA i)) (fun i => (LA i).length)) (hlo : w2.heap.size ≤ lo) (hB : B < lo) (hB2 : w2.heap.size ≤ B) (hb : Below w2.heap.size w2 w) :
    BoxV w2 ((((w.setCell ⟨B, 0, none⟩ (.int .i64 nx)).setCell ⟨B, 1, none⟩ (.int .i64 lg)).setCell ⟨B, 2, none⟩ (.int .i64 sq)).setCell ⟨B, 3, none⟩ (.slice ao N c)) B nx lg sq ao N c LA := by
  refine ⟨Z.put nx lg sq ao N c, ⟨lo, w.heap.size, hV.same (by simp) (fun k h1 _ => ?_), hlo⟩, ?_, hB2⟩
  · repeat' refine (Below.heap_setCell _ _ _ _ (by first | omega | (dsimp only; omega))).trans ?_
    rfl
  · exact (((hb.setCell (p := ⟨B, 0, none⟩) hB2 _).setCell (p := ⟨B, 1, none⟩) hB2 _).setCell (p := ⟨B, 2, none⟩) hB2 _).setCell (p := ⟨B, 3, none⟩) hB2 _
theorem lsI_fi (f : Nat → Int) (n : Nat) : (iL f n).length = n := by simp [iL]
theorem iL_at (f : Nat → Int) {n i : Nat} (h : i < n) : fi (iL f n) i = f i := by simp [fi, iL, h]
def lsA (Y : Nat → Adm) (n : Nat) : List Adm := (List.range n).map Y
theorem lsA_len (Y : Nat → Adm) (n : Nat) : (lsA Y n).length = n := by simp [lsA]
theorem lsA_at (Y : Nat → Adm) {n j : Nat} (h : j < n) : dL (lsA Y n) j = Y j := by simp [dL, lsA, h]

set_option maxRecDepth 100000 in
set_option maxHeartbeats 12800000 in
theorem applyEdit_lawX (vx vl vs : Int) (ao : Option Addr) (N cap : Nat) (LL : Nat → List Met) (nx lg sq : Int) (da : Option Addr) (cd : Nat) (D : List Int) (aa : Option Addr) (ca : Nat) (A : List Adm) (w : World)
    (hS : ∀ g gd ga W, N + totV (fun i => mL (LL i)) (fun i => (LL i).length) N ≤ 1048576 → D.length ≤ 1048576 → A.length ≤ 1048576 → VRow W (some ⟨g, 0, none⟩) N (fun i => mL (LL i)) (fun i => (LL i).length) → IRow W (some ⟨gd, 0, none⟩) D.length (fi D) → DRow W (some ⟨ga, 0, none⟩) A.length (dL A) → Calls Try.prog 20 #[.agg #[.int .i64 vx, .int .i64 vl, .int .i64 vs, .slice (some ⟨g, 0, none⟩) N N], .agg #[.int .i64 nx, .int .i64 lg, .int .i64 sq, .slice (some ⟨gd, 0, none⟩) D.length D.length, .slice (some ⟨ga, 0, none⟩) A.length A.length]] W fun e w' => ApO vx vl vs N LL nx lg sq D A W e w')
    (hr : VRow w ao N (fun i => mL (LL i)) (fun i => (LL i).length)) (hi : IRow w da D.length (fi D)) (hy : DRow w aa A.length (dL A)) (hvx : -9223372036854775808 ≤ vx ∧ vx ≤ 9223372036854775807) (hN : N ≤ 9223372036854775807) (hdx : D.length ≤ 9223372036854775807) (hax : A.length ≤ 9223372036854775807) :
    Calls Try.prog 5 #[.agg #[.int .i64 vx, .int .i64 vl, .int .i64 vs, .slice ao N cap], .agg #[.int .i64 nx, .int .i64 lg, .int .i64 sq, .slice da D.length cd, .slice aa A.length ca]] w fun e w' => e = .returned (.bool true) ∧ Below w.heap.size w w' := by
  have b1 := below_new w (.cells #[.int .i64 vx, .int .i64 vl, .int .i64 vs, .slice ao N cap] 31)
  have A1 := VX.new w vx vl vs ao N cap 31
  have s1 : (w.alloc (.cells #[.int .i64 vx, .int .i64 vl, .int .i64 vs, .slice ao N cap] 31)).heap.size = w.heap.size + 1 := by simp
  go_enter Try.func5, Try.ntmps5
  go_wp2_with fail
  generalize w.alloc (.cells #[.int .i64 vx, .int .i64 vl, .int .i64 vs, .slice ao N cap] 31) = wa at *
  have b2 := below_new wa (.cells #[.int .i64 nx, .int .i64 lg, .int .i64 sq, .slice da D.length cd, .slice aa A.length ca] 39)
  have E2 := EX.new wa nx lg sq (.slice da D.length cd) (.slice aa A.length ca) 39
  have A2 := A1.keep b2
  have bw2 := b1.trans (b2.mono b1.size)
  have s2 : (wa.alloc (.cells #[.int .i64 nx, .int .i64 lg, .int .i64 sq, .slice da D.length cd, .slice aa A.length ca] 39)).heap.size = w.heap.size + 2 := by simp [s1]
  rw [s1] at E2
  clear A1 b1 b2
  generalize wa.alloc (.cells #[.int .i64 nx, .int .i64 lg, .int .i64 sq, .slice da D.length cd, .slice aa A.length ca] 39) = wb at *
  refine (szVersion_ex vx vl vs ao N cap _ _ 1048576 _ (hr.keep bw2) ⟨by omega, by omega⟩ hN).mono ?_
  rintro e w1 ⟨v, rfl, h1, h3, hb1⟩
  have A3 := A2.keep hb1
  have E3 := E2.keep hb1
  have bw3 := bw2.trans (hb1.mono bw2.size)
  have s3 := hb1.size
  clear hb1 A2 E2 bw2
  by_cases hv : v < 0
  · clear h3
    go_wp2
    go_ret
    exact ⟨rfl, bw3⟩
  have HT : Hid (N + totV (fun i => mL (LL i)) (fun i => (LL i).length) N ≤ 1048576) := by have := h3 (by omega); show _ ≤ _; omega
  have hv2 : v ≤ 1048576 := by have := h3 (by omega); omega
  clear h3
  obtain ⟨_, x0, x1, x2, x3, x4⟩ := id E3
  go_wp2_with fail
  refine (szEdit_ex nx lg sq da D.length cd aa A.length ca (dL A) v w1 (hy.keep bw3) ⟨by omega, by omega⟩ hdx hax).mono ?_
  rintro e w2 ⟨v2, rfl, g1, g3, hb2⟩
  have A4 := A3.keep hb2
  have E4 := E3.keep hb2
  have bw4 := bw3.trans (hb2.mono bw3.size)
  have s4 := hb2.size
  clear hb2 A3 E3 bw3 x0 x1 x2 x3 x4
  by_cases hv3 : v2 < 0
  · clear g3
    go_wp2
    go_ret
    exact ⟨rfl, bw4⟩
  have hd : D.length ≤ 1048576 := by have := g3 (by omega); omega
  have ha : A.length ≤ 1048576 := by have := g3 (by omega); omega
  clear g3
  obtain ⟨nx', lg', sq', N', LA, ok, hAv, hAn⟩ := avs_ex vx vl vs N LL nx lg sq D A
  have hok : (ok != ok) = false := by simp
  have HAV : Hid (Avs nx' lg' sq' N' LA ok) := hAv
  have HSP : Hid (∀ g gd ga W, VRow W (some ⟨g, 0, none⟩) N (fun i => mL (LL i)) (fun i => (LL i).length) → IRow W (some ⟨gd, 0, none⟩) D.length (fi D) → DRow W (some ⟨ga, 0, none⟩) A.length (dL A) → Calls Try.prog 20 #[.agg #[.int .i64 vx, .int .i64 vl, .int .i64 vs, .slice (some ⟨g, 0, none⟩) N N], .agg #[.int .i64 nx, .int .i64 lg, .int .i64 sq, .slice (some ⟨gd, 0, none⟩) D.length D.length, .slice (some ⟨ga, 0, none⟩) A.length A.length]] W fun e w' => AvO nx' lg' sq' N' LA ok W e w') := fun g gd ga W k1 k2 k3 => (hS g gd ga W HT.out hd ha k1 k2 k3).mono (fun e w' h => hAn W e w' h)
  have HIM : Hid (∀ g gd ga W, VRow W (some ⟨g, 0, none⟩) N (fun i => mL (LL i)) (fun i => (LL i).length) → IRow W (some ⟨gd, 0, none⟩) D.length (fi D) → DRow W (some ⟨ga, 0, none⟩) A.length (dL A) → Calls Try.prog 22 #[.agg #[.int .i64 vx, .int .i64 vl, .int .i64 vs, .slice (some ⟨g, 0, none⟩) N N], .agg #[.int .i64 nx, .int .i64 lg, .int .i64 sq, .slice (some ⟨gd, 0, none⟩) D.length D.length, .slice (some ⟨ga, 0, none⟩) A.length A.length]] W fun e w' => AvO nx' lg' sq' N' LA ok W e w') := fun g gd ga W k1 k2 k3 => (applyEdit_impl vx vl vs _ N N LL nx lg sq _ D.length D _ A.length A W k1 k2 k3 (by have := HT.out; omega) (by have h1 := sumM_tot (fun i => mL (LL i)) (fun i => (LL i).length) N; have h2 := HT.out; omega) hd ha).mono (fun e w' h => hAn W e w' h)
  clear hAv hAn hS
  have hidr : ∀ W, IRow W da D.length (fi D) → IRow W da D.length (fi D) := fun _ h => h
  clear hidr
  obtain ⟨la, a0, a1, a2, a3⟩ := id A4
  obtain ⟨lx, x0, x1, x2, x3, x4⟩ := id E4
  have EE := E4
  have bwX := bw4
  have bd := (Below.refl w2.heap.size w2).drew
  have bdZ : Below w2.heap.size w2 (w2.alloc (.cells #[.int .i64 0, .int .i64 0, .int .i64 0, .slice none 0 0] 24)).drew := (below_new w2 (.cells #[.int .i64 0, .int .i64 0, .int .i64 0, .slice none 0 0] 24)).drew
  go_upto_region 8 with fail
  go_cut [6, 7] from 27 (fun s6 s7 wx => ∃ B6 wo wq, s6 = .pointer (some ⟨B6, 0, none⟩) ∧ s7 = .bool ok ∧ BoxV w2 wx B6 nx' lg' sq' wo N' wq LA)
  case first =>
    go_region_with (first | (go_at_call 17; refine (toVersion_any vx vl vs ao N cap _ _ w2.drew (hr.keep (bwX.trans (bd.mono bwX.size))) HT.out).mono ?_; rintro e w3 ⟨g3, rfl, V3, hb3⟩; have cw3 := bd.trans hb3; have v3 := V3.row hr.bd hr.len; obtain ⟨le3, p0, p1, p2, p3, p4⟩ := id (EE.keep cw3); clear hb3) | (go_at_call 17; refine (toVersion_any vx vl vs ao N cap _ _ (w2.alloc (.cells #[.int .i64 0, .int .i64 0, .int .i64 0, .slice none 0 0] 24)).drew (hr.keep (bwX.trans (bdZ.mono bwX.size))) HT.out).mono ?_; rintro e w3 ⟨g3, rfl, V3, hb3⟩; have cw3 := bdZ.trans (hb3.mono bdZ.size); have Zb := (((VZ.new w2 0 0 0 none 0 0 24).keep (Below.refl _ _).drew).keep hb3); have ZB : Hid (w2.heap.size ≤ w2.heap.size) := Nat.le_refl _; have v3 := V3.row hr.bd hr.len; obtain ⟨le3, p0, p1, p2, p3, p4⟩ := id (EE.keep cw3); clear hb3) | (go_at_call 21; refine (toEdit_any nx lg sq da D.length cd (fi D) aa A.length ca (dL A) w3 (hi.keep (bwX.trans (cw3.mono bwX.size))) (hy.keep (bwX.trans (cw3.mono bwX.size))) hd ha).mono ?_; rintro e w4 ⟨g4, q4, rfl, E5, gl4, hb4⟩; have cw4 := cw3.trans (hb4.mono cw3.size); have v4 := v3.keep hb4; try (replace Zb := Zb.keep hb4); clear hb4) | (go_at_call 21; have bnz := below_new w3 (.cells #[.int .i64 0, .int .i64 0, .int .i64 0, .slice none 0 0] 24); refine (toEdit_any nx lg sq da D.length cd (fi D) aa A.length ca (dL A) (w3.alloc (.cells #[.int .i64 0, .int .i64 0, .int .i64 0, .slice none 0 0] 24)) (hi.keep ((bwX.trans (cw3.mono bwX.size)).trans (bnz.mono (Nat.le_trans bwX.size cw3.size)))) (hy.keep ((bwX.trans (cw3.mono bwX.size)).trans (bnz.mono (Nat.le_trans bwX.size cw3.size)))) hd ha).mono ?_; rintro e w4 ⟨g4, q4, rfl, E5, gl4, hb4⟩; have cw4 := (cw3.trans (bnz.mono cw3.size)).trans (hb4.mono (Nat.le_trans cw3.size bnz.size)); have v4 := (v3.keep bnz).keep hb4; have Zb := (VZ.new w3 0 0 0 none 0 0 24).keep hb4; have ZB : Hid (w2.heap.size ≤ w3.heap.size) := cw3.size; clear hb4 bnz) | (go_at_call 20; refine (HSP.out g3 g4 q4 w4 v4 E5.irow (E5.drow hy.bd)).mono ?_; rintro e w5 ⟨wo, wq, rfl, W5, hb5⟩; have cw5 := cw4.trans (hb5.mono cw4.size); have lo5 : w2.heap.size ≤ w4.heap.size := cw4.size; try (have HZl : Hid (_ < w4.heap.size) := Zb.vx.lt; replace Zb := Zb.keep hb5; obtain ⟨⟨lz, z0, z1, z2, z3⟩, zf⟩ := id Zb; have f0 := zf 0; have f1 := zf 1; have f2 := zf 2; have f3 := zf 3; clear zf); clear hb5) | (go_at_call 20; have bnz := below_new w4 (.cells #[.int .i64 0, .int .i64 0, .int .i64 0, .slice none 0 0] 24); have lo5 : w2.heap.size ≤ (w4.alloc (.cells #[.int .i64 0, .int .i64 0, .int .i64 0, .slice none 0 0] 24)).heap.size := Nat.le_trans cw4.size bnz.size; have HZl : Hid (w4.heap.size < (w4.alloc (.cells #[.int .i64 0, .int .i64 0, .int .i64 0, .slice none 0 0] 24)).heap.size) := (by show _ < _; simp); refine (HSP.out g3 g4 q4 (w4.alloc (.cells #[.int .i64 0, .int .i64 0, .int .i64 0, .slice none 0 0] 24)) (v4.keep bnz) (E5.irow.keep bnz) ((E5.drow hy.bd).keep bnz)).mono ?_; rintro e w5 ⟨wo, wq, rfl, W5, hb5⟩; have cw5 := (cw4.trans (bnz.mono cw4.size)).trans (hb5.mono lo5); have Zb := (VZ.new w4 0 0 0 none 0 0 24).keep hb5; have ZB : Hid (w2.heap.size ≤ w4.heap.size) := cw4.size; obtain ⟨⟨lz, z0, z1, z2, z3⟩, zf⟩ := id Zb; have f0 := zf 0; have f1 := zf 1; have f2 := zf 2; have f3 := zf 3; clear zf hb5 bnz))
    all_goals
      go_wp2_with fail
      go_meet
      case rel => first
        | exact ⟨_, wo, wq, rfl, rfl, BoxV.early Zb W5 lo5 HZl.out ZB.out cw5⟩
        | exact ⟨_, wo, wq, rfl, rfl, BoxV.last W5 lo5 cw5 _⟩
  case rest =>
    obtain ⟨B6, wo, wq, rfl, rfl, Q6⟩ := hcut
    generalize wc = w6 at *
    have bw6 := bwX.trans (Q6.bl.mono bwX.size)
    have A6 := A4.keep Q6.bl
    have E6 := E4.keep Q6.bl
    have V6 := Q6.vx
    obtain ⟨lo6, hi6, W6, _⟩ := Q6.va
    have t6 := W6.1
    have u6 := V6.lt
    have s6 : w.heap.size + 2 ≤ w6.heap.size := by have := Q6.bl.size; omega
    clear Q6 A4 E4 bwX bw4 bd bdZ EE a0 a1 a2 a3 la x0 x1 x2 x3 x4 lx HSP
    obtain ⟨_, a0, a1, a2, a3⟩ := id A6
    go_wp2_with fail
    refine (toVersion_any vx vl vs ao N cap _ _ w6 (hr.keep bw6) HT.out).mono ?_
    rintro e w7 ⟨g7, rfl, G7, hb7⟩
    have A7 := A6.keep hb7
    have E7 := E6.keep hb7
    have V7 := V6.keep hb7
    have W7 := W6.keep hb7
    have bw7 := bw6.trans (hb7.mono bw6.size)
    clear A6 E6 V6 W6 bw6
    have s7 := hb7.size
    clear hb7 a0 a1 a2 a3
    have bn8 := below_new w7 (.cells #[.int .i64 vx, .int .i64 vl, .int .i64 vs, .slice (some ⟨g7, 0, none⟩) N N] 24)
    have X8 := VX.new w7 vx vl vs (some ⟨g7, 0, none⟩) N N 24
    have A8 := A7.keep bn8
    have E8 := E7.keep bn8
    have V8 := V7.keep bn8
    have W8 := W7.keep bn8
    have G8 := G7.keep bn8
    have bw8 := bw7.trans (bn8.mono bw7.size)
    clear A7 E7 V7 W7 G7 bw7
    have s8 : (w7.alloc (.cells #[.int .i64 vx, .int .i64 vl, .int .i64 vs, .slice (some ⟨g7, 0, none⟩) N N] 24)).heap.size = w7.heap.size + 1 := by simp
    obtain ⟨_, x0, x1, x2, x3, x4⟩ := id E8
    clear bn8
    go_wp2_with fail
    generalize w7.alloc (.cells #[.int .i64 vx, .int .i64 vl, .int .i64 vs, .slice (some ⟨g7, 0, none⟩) N N] 24) = w8 at *
    refine (toEdit_any nx lg sq da D.length cd (fi D) aa A.length ca (dL A) w8 (hi.keep bw8) (hy.keep bw8) hd ha).mono ?_
    rintro e w9 ⟨g9, q9, rfl, H9, _, hb9⟩
    have A9 := A8.keep hb9
    have E9 := E8.keep hb9
    have V9 := V8.keep hb9
    have W9 := W8.keep hb9
    have G9 := G8.keep hb9
    have X9 := X8.keep hb9
    have bw9 := bw8.trans (hb9.mono bw8.size)
    clear A8 E8 V8 W8 G8 X8 bw8
    have s9 := hb9.size
    clear hb9 x0 x1 x2 x3 x4
    have bn10 := below_new w9 (.cells #[.int .i64 nx, .int .i64 lg, .int .i64 sq, .slice (some ⟨g9, 0, none⟩) D.length D.length, .slice (some ⟨q9, 0, none⟩) A.length A.length] 45)
    have Y10 := EX.new w9 nx lg sq (.slice (some ⟨g9, 0, none⟩) D.length D.length) (.slice (some ⟨q9, 0, none⟩) A.length A.length) 45
    have A10 := A9.keep bn10
    have E10 := E9.keep bn10
    have V10 := V9.keep bn10
    have W10 := W9.keep bn10
    have G10 := G9.keep bn10
    have X10 := X9.keep bn10
    have H10 := H9.keep bn10
    have bw10 := bw9.trans (bn10.mono bw9.size)
    clear A9 E9 V9 W9 G9 X9 H9 bw9
    have s10 : (w9.alloc (.cells #[.int .i64 nx, .int .i64 lg, .int .i64 sq, .slice (some ⟨g9, 0, none⟩) D.length D.length, .slice (some ⟨q9, 0, none⟩) A.length A.length] 45)).heap.size = w9.heap.size + 1 := by simp
    obtain ⟨_, x0, x1, x2, x3⟩ := id X10
    clear bn10
    go_wp2_with fail
    generalize w9.alloc (.cells #[.int .i64 nx, .int .i64 lg, .int .i64 sq, .slice (some ⟨g9, 0, none⟩) D.length D.length, .slice (some ⟨q9, 0, none⟩) A.length A.length] 45) = w10 at *
    refine (HIM.out g7 g9 q9 w10 (G10.row hr.bd hr.len) H10.irow (H10.drow hy.bd)).mono ?_
    rintro e w11 ⟨go, gc, rfl, U11, hb11⟩
    have A11 := A10.keep hb11
    have E11 := E10.keep hb11
    have V11 := V10.keep hb11
    have W11 := W10.keep hb11
    have G11 := G10.keep hb11
    have X11 := X10.keep hb11
    have H11 := H10.keep hb11
    have Y11 := Y10.keep hb11
    have bw11 := bw10.trans (hb11.mono bw10.size)
    clear A10 E10 V10 W10 G10 X10 H10 Y10 bw10
    have s11 := hb11.size
    clear hb11 x0 x1 x2 x3
    have bn12 := below_new w11 (.cells #[.int .i64 nx', .int .i64 lg', .int .i64 sq', .slice go N' gc] 24)
    have Z12 := VX.new w11 nx' lg' sq' go N' gc 24
    have A12 := A11.keep bn12
    have E12 := E11.keep bn12
    have V12 := V11.keep bn12
    have W12 := W11.keep bn12
    have G12 := G11.keep bn12
    have X12 := X11.keep bn12
    have H12 := H11.keep bn12
    have Y12 := Y11.keep bn12
    have U12 := U11.keep bn12
    have bw12 := bw11.trans (bn12.mono bw11.size)
    clear A11 E11 V11 W11 G11 X11 H11 Y11 U11 bw11
    have s12 : (w11.alloc (.cells #[.int .i64 nx', .int .i64 lg', .int .i64 sq', .slice go N' gc] 24)).heap.size = w11.heap.size + 1 := by simp
    obtain ⟨_, v0, v1, v2', v3⟩ := id V12
    clear bn12
    go_wp2_with fail
    generalize w11.alloc (.cells #[.int .i64 nx', .int .i64 lg', .int .i64 sq', .slice go N' gc] 24) = w12 at *
    refine (eqVerV HAV.out go wo gc wq _ _ _ _ w12 U12 W12).mono ?_
    rintro e w13 ⟨rfl, b13⟩
    have A13 := A12.keep b13
    have E13 := E12.keep b13
    have V13 := V12.keep b13
    have W13 := W12.keep b13
    have G13 := G12.keep b13
    have X13 := X12.keep b13
    have H13 := H12.keep b13
    have Y13 := Y12.keep b13
    have U13 := U12.keep b13
    have Z13 := Z12.keep b13
    have bw13 := bw12.trans (b13.mono bw12.size)
    clear A12 E12 V12 W12 G12 X12 H12 Y12 U12 Z12 bw12
    have s13 := b13.size
    clear b13 v0 v1 v2' v3
    have hcv := toVersion_any vx vl vs ao N cap _ _ w13.drew ((hr.keep bw13).keep (Below.refl _ _).drew) HT.out
    have hlN : N ≤ 1048576 := by have := HT.out; omega
    have HMI : Hid (∀ i, i < N → (LL i).length ≤ 1048576) := fun i hi => by have h1 : (LL i).length + mtot (mL (LL i)) (LL i).length ≤ _ := totV_le (R := fun i => mL (LL i)) (M := fun i => (LL i).length) hi; have h2 := HT.out; omega
    obtain ⟨_, a0, a1, a2, a3⟩ := id A13
    obtain ⟨_, x0, x1, x2, x3⟩ := id X13
    go_wp2
    go_region_held3 (fun w' => w'.cell? ⟨w7.heap.size, 0, none⟩ = some (.int .i64 vx) ∧ w'.cell? ⟨w7.heap.size, 1, none⟩ = some (.int .i64 vl) ∧ w'.cell? ⟨w7.heap.size, 2, none⟩ = some (.int .i64 vs) ∧ w'.cell? ⟨w7.heap.size, 3, none⟩ = some (.slice (some ⟨g7, 0, none⟩) N N) ∧ w'.cell? ⟨w.heap.size, 0, none⟩ = some (.int .i64 vx) ∧ w'.cell? ⟨w.heap.size, 1, none⟩ = some (.int .i64 vl) ∧ w'.cell? ⟨w.heap.size, 2, none⟩ = some (.int .i64 vs) ∧ w'.cell? ⟨w.heap.size, 3, none⟩ = some (.slice ao N cap)) (go_keep) (first | (go_at_call 17; refine hcv.mono ?_; rintro e w14 ⟨g14, rfl, hV14, hb14⟩; have hb14' := (Below.refl _ w13).drew.trans hb14; have A14 := A13.keep hb14'; have E14 := E13.keep hb14'; have V14 := V13.keep hb14'; have W14 := W13.keep hb14'; have G14 := G13.keep hb14'; have X14 := X13.keep hb14'; have H14 := H13.keep hb14'; have Y14 := Y13.keep hb14'; have U14 := U13.keep hb14'; have Z14 := Z13.keep hb14'; obtain ⟨_, p0, p1, p2, p3⟩ := id A14; obtain ⟨_, q0, q1, q2, q3⟩ := id X14; have bw14 := bw13.trans (hb14'.mono bw13.size); have s14 := hb14'.size; clear hb14 hb14') | (go_at_call 12; refine (eqVersion_same vx vl vs (some ⟨g7, 0, none⟩) (some ⟨g14, 0, none⟩) N N N _ _ _ (G14.row hr.bd hr.len) (hV14.row hr.bd hr.len) hlN HMI.out).mono ?_; rintro e w15 ⟨rfl, hb15⟩; have A15 := A14.keep hb15; have E15 := E14.keep hb15; have V15 := V14.keep hb15; have W15 := W14.keep hb15; have G15 := G14.keep hb15; have X15 := X14.keep hb15; have H15 := H14.keep hb15; have Y15 := Y14.keep hb15; have U15 := U14.keep hb15; have Z15 := Z14.keep hb15; have bw15 := bw14.trans (hb15.mono bw14.size); obtain ⟨_, r0, r1, r2, r3⟩ := id A15; obtain ⟨_, t0, t1, t2, t3⟩ := id X15; have s15 := hb15.size; clear hb15))
    clear hcv a0 a1 a2 a3 x0 x1 x2 x3 p0 p1 p2 p3 q0 q1 q2 q3 r0 r1 r2 r3 t0 t1 t2 t3 hV14 A13 A14 E13 E14 V13 V14 W13 W14 G13 G14 X13 X14 H13 H14 Y13 Y14 U13 U14 Z13 Z14 bw13 bw14
    have hcv := toEdit_any nx lg sq da D.length cd (fi D) aa A.length ca (dL A) w15.drew ((hi.keep bw15).keep (Below.refl _ _).drew) ((hy.keep bw15).keep (Below.refl _ _).drew) hd ha
    obtain ⟨_, a0, a1, a2, a3, a4⟩ := id E15
    obtain ⟨_, x0, x1, x2, x3, x4⟩ := id Y15
    go_wp2
    go_region_held3 (fun w' => w'.cell? ⟨w9.heap.size, 0, none⟩ = some (.int .i64 nx) ∧ w'.cell? ⟨w9.heap.size, 1, none⟩ = some (.int .i64 lg) ∧ w'.cell? ⟨w9.heap.size, 2, none⟩ = some (.int .i64 sq) ∧ w'.cell? ⟨w9.heap.size, 3, none⟩ = some (.slice (some ⟨g9, 0, none⟩) D.length D.length) ∧ w'.cell? ⟨w9.heap.size, 4, none⟩ = some (.slice (some ⟨q9, 0, none⟩) A.length A.length) ∧ w'.cell? ⟨w.heap.size + 1, 0, none⟩ = some (.int .i64 nx) ∧ w'.cell? ⟨w.heap.size + 1, 1, none⟩ = some (.int .i64 lg) ∧ w'.cell? ⟨w.heap.size + 1, 2, none⟩ = some (.int .i64 sq) ∧ w'.cell? ⟨w.heap.size + 1, 3, none⟩ = some (.slice da D.length cd) ∧ w'.cell? ⟨w.heap.size + 1, 4, none⟩ = some (.slice aa A.length ca)) (go_keep) (first | (go_at_call 21; refine hcv.mono ?_; rintro e w16 ⟨g16, q16, rfl, E16', _, hb16⟩; have hb16' := (Below.refl _ w15).drew.trans hb16; have A16 := A15.keep hb16'; have E16 := E15.keep hb16'; have V16 := V15.keep hb16'; have W16 := W15.keep hb16'; have G16 := G15.keep hb16'; have X16 := X15.keep hb16'; have H16 := H15.keep hb16'; have Y16 := Y15.keep hb16'; have U16 := U15.keep hb16'; have Z16 := Z15.keep hb16'; obtain ⟨_, p0, p1, p2, p3, p4⟩ := id E16; obtain ⟨_, q0, q1, q2, q3, q4⟩ := id Y16; have bw16 := bw15.trans (hb16'.mono bw15.size); have s16 := hb16'.size; clear hb16 hb16') | (go_at_call 23; refine (eqEdit_same nx lg sq (some ⟨g9, 0, none⟩) (some ⟨g16, 0, none⟩) D.length D.length D.length (fi D) (some ⟨q9, 0, none⟩) (some ⟨q16, 0, none⟩) A.length A.length A.length (dL A) _ H16.irow E16'.irow (H16.drow hy.bd) (E16'.drow hy.bd) hd ha).mono ?_; rintro e w17 ⟨rfl, hb17⟩; have A17 := A16.keep hb17; have E17 := E16.keep hb17; have V17 := V16.keep hb17; have W17 := W16.keep hb17; have G17 := G16.keep hb17; have X17 := X16.keep hb17; have H17 := H16.keep hb17; have Y17 := Y16.keep hb17; have U17 := U16.keep hb17; have Z17 := Z16.keep hb17; have bw17 := bw16.trans (hb17.mono bw16.size); obtain ⟨_, r0, r1, r2, r3, r4⟩ := id E17; obtain ⟨_, t0, t1, t2, t3, t4⟩ := id Y17; have s17 := hb17.size; clear hb17))
    clear hcv a0 a1 a2 a3 a4 x0 x1 x2 x3 x4 p0 p1 p2 p3 p4 q0 q1 q2 q3 q4 r0 r1 r2 r3 r4 t0 t1 t2 t3 t4 E16' A15 A16 E15 E16 V15 V16 W15 W16 G15 G16 X15 X16 H15 H16 Y15 Y16 U15 U16 Z15 Z16 bw15 bw16
    have hsm : sumM (fun i => (LL i).length) N ≤ 1048576 := by have h1 := sumM_tot (fun i => mL (LL i)) (fun i => (LL i).length) N; have h2 := HT.out; omega
    have hsm2 : 1 + 4 * sumM (fun i => (LL i).length) N ≤ 4194304 := by have h1 := sumM_tot (fun i => mL (LL i)) (fun i => (LL i).length) N; have h2 := HT.out; by_cases h0 : N = 0; (subst h0; simp [sumM]); omega
    obtain ⟨_, x0, x1, x2, x3⟩ := id X17
    go_wp2_with fail
    refine (markVersion_any vx vl vs _ _ (some ⟨g7, 0, none⟩) N N 1 _ _ w17 G17 (by omega) hlN hsm (by omega)).mono ?_
    rintro e w18 ⟨rfl, _, r18⟩
    have m18 := r18.midR
    have A18 := A17.midR m18 (by omega)
    have E18 := E17.midR m18 (by omega)
    have V18 := V17.midR m18 (by omega)
    have W18 := W17.midR m18 (by omega)
    have X18 := X17.midR m18 (by omega)
    have H18 := H17.midR m18 (by omega)
    have Y18 := Y17.midR m18 (by omega)
    have U18 := U17.midR m18 (by omega)
    have Z18 := Z17.midR m18 (by omega)
    have bw18 := bw17.trans (m18.below (C := w.heap.size) (by omega) (by omega))
    have s18 := m18.size
    clear A17 E17 V17 W17 G17 X17 H17 Y17 U17 Z17 bw17 r18 m18 x0 x1 x2 x3
    obtain ⟨k0, hk0⟩ : ∃ k0, 1 + 4 * sumM (fun i => (LL i).length) N = k0 := ⟨_, rfl⟩
    rw [hk0]
    have hk1 : 1 ≤ k0 ∧ k0 ≤ 4194304 := by omega
    clear hk0
    obtain ⟨_, y0, y1, y2, y3, y4⟩ := id Y18
    go_wp2_with fail
    refine (markEdit_k nx lg sq _ _ (some ⟨g9, 0, none⟩) D.length D.length (fi D) (some ⟨q9, 0, none⟩) A.length A.length (dL A) k0 w18 H18 hk1 hd ha).mono ?_
    rintro e w19 ⟨rfl, r19⟩
    have m19 := r19.midR
    have A19 := A18.midR m19 (by omega)
    have E19 := E18.midR m19 (by omega)
    have V19 := V18.midR m19 (by omega)
    have W19 := W18.midR m19 (by omega)
    have U19 := U18.midR m19 (by omega)
    have Z19 := Z18.midR m19 (by omega)
    have bw19 := bw18.trans (m19.below (C := w.heap.size) (by omega) (by omega))
    have s19 := m19.size
    clear A18 E18 V18 W18 X18 H18 Y18 U18 Z18 bw18 r19 m19 y0 y1 y2 y3 y4
    have hkp : ¬ ((k0 + D.length + 5 * A.length : Nat) : Int) < 0 := by omega
    generalize ((k0 + D.length + 5 * A.length : Nat) : Int) = kk at hkp ⊢
    have hkd : decide (kk < 0) = false := decide_eq_false hkp
    obtain ⟨_, v0, v1, v2', v3⟩ := id V19
    obtain ⟨_, z0, z1, z2, z3⟩ := id Z19
    go_wp2_with fail
    refine (eqVerV HAV.out go wo gc wq _ _ _ _ w19 U19 W19).mono ?_
    rintro e w20 ⟨rfl, b20⟩
    have A20 := A19.keep b20
    have E20 := E19.keep b20
    have V20 := V19.keep b20
    have W20 := W19.keep b20
    have U20 := U19.keep b20
    have Z20 := Z19.keep b20
    have bw20 := bw19.trans (b20.mono bw19.size)
    clear A19 E19 V19 W19 U19 Z19 bw19
    have s20 := b20.size
    clear b20 v0 v1 v2' v3 z0 z1 z2 z3
    obtain ⟨_, z0, z1, z2, z3⟩ := id Z20
    go_wp2_with fail
    refine (markVerV HAV.out go gc _ _ w20 U20).mono ?_
    rintro e w21 ⟨rfl, K21, m21⟩
    have A21 := A20.midR m21 (by omega)
    have E21 := E20.midR m21 (by omega)
    have V21 := V20.midR m21 (by omega)
    have W21 := W20.midR m21 (by omega)
    have Z21 := Z20.midR m21 (by omega)
    have bw21 := bw20.trans (m21.below (C := w.heap.size) (by omega) (by omega))
    have s21 := m21.size
    have hmp : ¬ ((1 + 4 * sumM (fun i => (LA i).length) N' : Nat) : Int) < 0 := by omega
    have hhd := fun (W : World) (h : VMk W w10.heap.size w11.heap.size go N' LA) => heldVerV HAV.out go gc _ _ W h
    generalize ((1 + 4 * sumM (fun i => (LA i).length) N' : Nat) : Int) = mm at hmp hhd ⊢
    clear A20 E20 V20 W20 U20 Z20 bw20 m21 z0 z1 z2 z3
    obtain ⟨_, z0, z1, z2, z3⟩ := id Z21
    go_wp2_with fail
    refine (hhd w21 K21).mono ?_
    rintro e w22 ⟨rfl, b22⟩
    have A22 := A21.keep b22
    have E22 := E21.keep b22
    have V22 := V21.keep b22
    have W22 := W21.keep b22
    have Z22 := Z21.keep b22
    have K22 := K21.keep b22
    have bw22 := bw21.trans (b22.mono bw21.size)
    clear A21 E21 V21 W21 Z21 K21 bw21
    have s22 := b22.size
    clear b22 z0 z1 z2 z3
    have EE := E22
    have bwX := bw22
    have bd := (Below.refl w22.heap.size w22).drew
    have bdZ : Below w22.heap.size w22 (w22.alloc (.cells #[.int .i64 0, .int .i64 0, .int .i64 0, .slice none 0 0] 24)).drew := (below_new w22 (.cells #[.int .i64 0, .int .i64 0, .int .i64 0, .slice none 0 0] 24)).drew
    obtain ⟨la, a0, a1, a2, a3⟩ := id A22
    obtain ⟨lx, x0, x1, x2, x3, x4⟩ := id E22
    go_upto_region 31 with fail
    go_cut [15, 16] from 94 (fun s15 s16 wx => ∃ B7 ho hq, s15 = .pointer (some ⟨B7, 0, none⟩) ∧ s16 = .bool ok ∧ BoxV w22 wx B7 nx' lg' sq' ho N' hq LA)
    case first =>
      clear V22 W22 Z22 K22 hhd
      go_region_with (first | (go_at_call 17; refine (toVersion_any vx vl vs ao N cap _ _ w22.drew (hr.keep (bwX.trans (bd.mono bwX.size))) HT.out).mono ?_; rintro e w3 ⟨g3, rfl, V3, hb3⟩; have cw3 := bd.trans hb3; have v3 := V3.row hr.bd hr.len; obtain ⟨le3, p0, p1, p2, p3, p4⟩ := id (EE.keep cw3); clear hb3) | (go_at_call 17; refine (toVersion_any vx vl vs ao N cap _ _ (w22.alloc (.cells #[.int .i64 0, .int .i64 0, .int .i64 0, .slice none 0 0] 24)).drew (hr.keep (bwX.trans (bdZ.mono bwX.size))) HT.out).mono ?_; rintro e w3 ⟨g3, rfl, V3, hb3⟩; have cw3 := bdZ.trans (hb3.mono bdZ.size); have Zb := (((VZ.new w22 0 0 0 none 0 0 24).keep (Below.refl _ _).drew).keep hb3); have ZB : Hid (w22.heap.size ≤ w22.heap.size) := Nat.le_refl _; have v3 := V3.row hr.bd hr.len; obtain ⟨le3, p0, p1, p2, p3, p4⟩ := id (EE.keep cw3); clear hb3) | (go_at_call 21; refine (toEdit_any nx lg sq da D.length cd (fi D) aa A.length ca (dL A) w3 (hi.keep (bwX.trans (cw3.mono bwX.size))) (hy.keep (bwX.trans (cw3.mono bwX.size))) hd ha).mono ?_; rintro e w4 ⟨g4, q4, rfl, E5, gl4, hb4⟩; have cw4 := cw3.trans (hb4.mono cw3.size); have v4 := v3.keep hb4; try (replace Zb := Zb.keep hb4); clear hb4) | (go_at_call 21; have bnz := below_new w3 (.cells #[.int .i64 0, .int .i64 0, .int .i64 0, .slice none 0 0] 24); refine (toEdit_any nx lg sq da D.length cd (fi D) aa A.length ca (dL A) (w3.alloc (.cells #[.int .i64 0, .int .i64 0, .int .i64 0, .slice none 0 0] 24)) (hi.keep ((bwX.trans (cw3.mono bwX.size)).trans (bnz.mono (Nat.le_trans bwX.size cw3.size)))) (hy.keep ((bwX.trans (cw3.mono bwX.size)).trans (bnz.mono (Nat.le_trans bwX.size cw3.size)))) hd ha).mono ?_; rintro e w4 ⟨g4, q4, rfl, E5, gl4, hb4⟩; have cw4 := (cw3.trans (bnz.mono cw3.size)).trans (hb4.mono (Nat.le_trans cw3.size bnz.size)); have v4 := (v3.keep bnz).keep hb4; have Zb := (VZ.new w3 0 0 0 none 0 0 24).keep hb4; have ZB : Hid (w22.heap.size ≤ w3.heap.size) := cw3.size; clear hb4 bnz) | (go_at_call 22; refine (HIM.out g3 g4 q4 w4 v4 E5.irow (E5.drow hy.bd)).mono ?_; rintro e w5 ⟨wo', wq', rfl, W5, hb5⟩; have cw5 := cw4.trans (hb5.mono cw4.size); have lo5 : w22.heap.size ≤ w4.heap.size := cw4.size; try (have HZl : Hid (_ < w4.heap.size) := Zb.vx.lt; replace Zb := Zb.keep hb5; obtain ⟨⟨lz, z0, z1, z2, z3⟩, zf⟩ := id Zb; have f0 := zf 0; have f1 := zf 1; have f2 := zf 2; have f3 := zf 3; clear zf); clear hb5) | (go_at_call 22; have bnz := below_new w4 (.cells #[.int .i64 0, .int .i64 0, .int .i64 0, .slice none 0 0] 24); have lo5 : w22.heap.size ≤ (w4.alloc (.cells #[.int .i64 0, .int .i64 0, .int .i64 0, .slice none 0 0] 24)).heap.size := Nat.le_trans cw4.size bnz.size; have HZl : Hid (w4.heap.size < (w4.alloc (.cells #[.int .i64 0, .int .i64 0, .int .i64 0, .slice none 0 0] 24)).heap.size) := (by show _ < _; simp); refine (HIM.out g3 g4 q4 (w4.alloc (.cells #[.int .i64 0, .int .i64 0, .int .i64 0, .slice none 0 0] 24)) (v4.keep bnz) (E5.irow.keep bnz) ((E5.drow hy.bd).keep bnz)).mono ?_; rintro e w5 ⟨wo', wq', rfl, W5, hb5⟩; have cw5 := (cw4.trans (bnz.mono cw4.size)).trans (hb5.mono lo5); have Zb := (VZ.new w4 0 0 0 none 0 0 24).keep hb5; have ZB : Hid (w22.heap.size ≤ w4.heap.size) := cw4.size; obtain ⟨⟨lz, z0, z1, z2, z3⟩, zf⟩ := id Zb; have f0 := zf 0; have f1 := zf 1; have f2 := zf 2; have f3 := zf 3; clear zf hb5 bnz))
      all_goals
        go_wp2_with fail
        go_meet
        case rel => first
          | exact ⟨_, wo', wq', rfl, rfl, BoxV.early Zb W5 lo5 HZl.out ZB.out cw5⟩
          | exact ⟨_, wo', wq', rfl, rfl, BoxV.last W5 lo5 cw5 _⟩
    case rest =>
      obtain ⟨B7, ho, hq, rfl, rfl, Q7⟩ := hcut
      generalize wc = w23 at *
      have bw23 := bw22.trans (Q7.bl.mono bw22.size)
      have V23 := V22.keep Q7.bl
      have W23 := W22.keep Q7.bl
      have Z23 := Z22.keep Q7.bl
      have K23 := K22.keep Q7.bl
      have X23 := Q7.vx
      obtain ⟨lo7, hi7, H23, _⟩ := Q7.va
      clear Q7 V22 W22 Z22 K22 A22 E22 bw22 EE bwX bd bdZ a0 a1 a2 a3 la x0 x1 x2 x3 x4 lx HIM
      obtain ⟨_, x0, x1, x2, x3⟩ := id X23
      obtain ⟨_, v0, v1, v2', v3⟩ := id V23
      go_wp2_with fail
      refine (eqVerV HAV.out ho wo hq wq _ _ _ _ w23 H23 W23).mono ?_
      rintro e w24 ⟨rfl, b24⟩
      have bw24 := bw23.trans (b24.mono bw23.size)
      have Z24 := Z23.keep b24
      have K24 := K23.keep b24
      clear b24 bw23 Z23 K23 V23 W23 X23 H23 x0 x1 x2 x3 v0 v1 v2' v3
      obtain ⟨_, z0, z1, z2, z3⟩ := id Z24
      go_wp2_with fail
      refine (hhd w24 K24).mono ?_
      rintro e w25 ⟨rfl, b25⟩
      have bw25 := bw24.trans (b25.mono bw24.size)
      clear b25 hhd Z24 K24 z0 z1 z2 z3
      go_wp2
      go_ret
      exact ⟨rfl, bw25⟩
end Go.Proofs.Ytdcmclbbecnihaa
