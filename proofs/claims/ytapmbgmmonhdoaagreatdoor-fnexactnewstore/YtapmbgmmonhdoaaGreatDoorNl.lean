/- Stores compared, marked, looked for; the law of NewStore. -/
import Derived.Test.YtapmbgmmonhdoaaGreatDoorNk
namespace Go.Proofs.YtapmbgmmonhdoaaGreatDoor
set_option maxRecDepth 100000
open Go.RowKit
set_option linter.unusedSimpArgs false
set_option linter.unusedVariables false

set_option maxHeartbeats 2000000 in
theorem eqStore_same (q nx lg sq : Int) (n N k : Nat) (F : Nat → Fil) (R : Nat → Nat → Met) (M : Nat → Nat) (X : Nat → Ent) (fa fb va vb ma mb : Option Addr) (fc fd vc vd mc md : Nat) (w : World) (h1 : FRow w fa n F) (h2 : FRow w fb n F) (h3 : VRow w va N R M) (h4 : VRow w vb N R M) (h5 : ERow w ma k X) (h6 : ERow w mb k X) (hn : n ≤ 1048576) (hz : FSize n F 1048576) (hN : N ≤ 1048576) (hM : Hid (∀ i, i < N → M i ≤ 1048576)) (hk : k ≤ 1048576) (hX : ESize k X) :
    Calls Tryz.prog 6 #[.agg #[.int .i64 q, .slice fa n fc, .int .i64 nx, .int .i64 lg, .int .i64 sq, .slice va N vc, .slice ma k mc], .agg #[.int .i64 q, .slice fb n fd, .int .i64 nx, .int .i64 lg, .int .i64 sq, .slice vb N vd, .slice mb k md]] w fun e w' => e = .returned (.bool true) ∧ Below w.heap.size w w' := by
  have hB : Below w.heap.size w ((w.alloc (.cells #[.int .i64 q, .slice fa n fc, .int .i64 nx, .int .i64 lg, .int .i64 sq, .slice va N vc, .slice ma k mc] 30)).alloc (.cells #[.int .i64 q, .slice fb n fd, .int .i64 nx, .int .i64 lg, .int .i64 sq, .slice vb N vd, .slice mb k md] 30)) := ((Below.refl _ _).alloc (Nat.le_refl _) _).alloc (by simp) _
  have A0 := (SX.new w 30 q fa n fc nx lg sq va N vc ma k mc).keep ((Below.refl _ _).alloc (Nat.le_refl _) (.cells #[.int .i64 q, .slice fb n fd, .int .i64 nx, .int .i64 lg, .int .i64 sq, .slice vb N vd, .slice mb k md] 30))
  have B0 := SX.new (w.alloc (.cells #[.int .i64 q, .slice fa n fc, .int .i64 nx, .int .i64 lg, .int .i64 sq, .slice va N vc, .slice ma k mc] 30)) 30 q fb n fd nx lg sq vb N vd mb k md
  rw [World.size_alloc] at B0
  have h1' := h1.keep hB
  have h2' := h2.keep hB
  have h3' := h3.keep hB
  have h4' := h4.keep hB
  have h5' := h5.keep hB
  have h6' := h6.keep hB
  clear h1 h2 h3 h4 h5 h6
  go_enter Tryz.func6, Tryz.ntmps6
  go_wp2_with fail
  generalize (w.alloc (.cells #[.int .i64 q, .slice fa n fc, .int .i64 nx, .int .i64 lg, .int .i64 sq, .slice va N vc, .slice ma k mc] 30)).alloc (.cells #[.int .i64 q, .slice fb n fd, .int .i64 nx, .int .i64 lg, .int .i64 sq, .slice vb N vd, .slice mb k md] 30) = w0 at *
  refine (eqFiles_same q fa fb n fc fd F _ h1' h2' hn hz).mono ?_
  rintro e w1 ⟨rfl, hb1⟩
  have A1 := A0.keep hb1
  have B1 := B0.keep hb1
  have h3 := h3'.keep hb1
  have h4 := h4'.keep hb1
  have h5 := h5'.keep hb1
  have h6 := h6'.keep hb1
  have bw1 := hB.trans (hb1.mono hB.size)
  clear h1' h2' h3' h4' h5' h6' A0 B0 hb1 hB
  obtain ⟨la, a0, a1, a2, a3, a4, a5, a6, _⟩ := id A1
  obtain ⟨lb, b0, b1, b2, b3, b4, b5, b6, _⟩ := id B1
  go_wp2_with fail
  refine (eqVersion_same nx lg sq va vb N vc vd R M _ h3 h4 hN hM.out).mono ?_
  rintro e w2 ⟨rfl, hb2⟩
  have A2 := A1.keep hb2
  have B2 := B1.keep hb2
  have h5' := h5.keep hb2
  have h6' := h6.keep hb2
  have bw2 := bw1.trans (hb2.mono bw1.size)
  clear h3 h4 h5 h6 A1 B1 hb2 bw1 a0 a1 a2 a3 a4 a5 a6 b0 b1 b2 b3 b4 b5 b6 la lb
  obtain ⟨la, a0, a1, a2, a3, a4, a5, a6, _⟩ := id A2
  obtain ⟨lb, b0, b1, b2, b3, b4, b5, b6, _⟩ := id B2
  go_wp2_with fail
  refine (eqEntryS_same ma mb k mc md X _ h5' h6' hk hX).mono ?_
  rintro e w3 ⟨rfl, hb3⟩
  have bw3 := bw2.trans (hb3.mono bw2.size)
  go_wp2
  go_ret
  exact ⟨rfl, bw3⟩

theorem markE_zero (ao : Option Addr) (cap : Nat) (q : Int) (w : World) :
    Calls Tryz.prog 20 #[.slice ao 0 cap, .int .i64 q] w fun e w' => e = .returned (.int .i64 q) ∧ w' = w := by
  go_enter Tryz.func20, Tryz.ntmps20
  go_wp2
  go_loopw [1, 5] (fun p i wr => i = .int .i64 0 ∧ p = .int .i64 q ∧ wr = w) (fun _ _ _ => 0)
  case atStart => exact ⟨rfl, rfl, rfl⟩
  case round =>
    obtain ⟨rfl, rfl, rfl⟩ := hrel
    go_wp2
    go_ret
    exact ⟨rfl, rfl⟩
theorem heldE_zero (ao : Option Addr) (cap : Nat) (q : Int) (w : World) :
    Calls Tryz.prog 23 #[.slice ao 0 cap, .int .i64 q] w fun e w' => e = .returned (.int .i64 q) ∧ w' = w := by
  go_enter Tryz.func23, Tryz.ntmps23
  go_wp2
  go_loopw [1, 5] (fun p i wr => i = .int .i64 0 ∧ p = .int .i64 q ∧ wr = w) (fun _ _ _ => 0)
  case atStart => exact ⟨rfl, rfl, rfl⟩
  case round =>
    obtain ⟨rfl, rfl, rfl⟩ := hrel
    go_wp2
    go_ret
    exact ⟨rfl, rfl⟩
theorem sum_noM (N : Nat) : sumM noM N = 0 := by
  induction N with
  | zero => rfl
  | succ N ih => simp [sumM, ih, noM]
theorem vrow_no {w : World} {ao : Option Addr} {N lo hi : Nat} {R R' : Nat → Nat → Met} (h : VA w lo hi ao N R noM) : VRow w ao N R' noM := by
  have h' : VA w lo hi ao N R' noM := h.congr (fun _ _ => rfl) (fun i _ j hj => by simp [noM] at hj)
  exact h'.row (fun i _ j hj => by simp [noM] at hj) (fun i _ => by simp [noM])
theorem SX.mid {w w' : World} {b lo hi : Nat} {q : Int} {fa : Option Addr} {n fc : Nat} {nx lg sq : Int} {va : Option Addr} {N vc : Nat} {ma : Option Addr} {k mc : Nat} (h : SX w b q fa n fc nx lg sq va N vc ma k mc) (hm : Mid lo hi w w') (hb : b < lo ∨ hi ≤ b) : SX w' b q fa n fc nx lg sq va N vc ma k mc := h.same hm.size (hm.block b h.lt hb)
theorem Mid.wide {w w' : World} {lo hi lo' hi' : Nat} (h : Mid lo hi w w') (h1 : lo' ≤ lo) (h2 : hi ≤ hi') : Mid lo' hi' w w' := ⟨h.os, h.tape, h.output, h.size, fun k hk hd => h.block k hk (by omega)⟩

set_option maxHeartbeats 2000000 in
theorem markStore_no (q nx lg sq : Int) (n N : Nat) (fa va ma : Option Addr) (fc vc mc lo mid U : Nat) (w : World) (hV : VA w lo mid va N noR noM) (hF : FV w mid U fa n F2 (fun _ => 0)) (hlo : lo ≤ mid) (hmU : mid ≤ U) (hU : U ≤ w.heap.size) (hn : n ≤ 2) (hN : N ≤ 3) :
    Calls Tryz.prog 7 #[.agg #[.int .i64 q, .slice fa n fc, .int .i64 nx, .int .i64 lg, .int .i64 sq, .slice va N vc, .slice ma 0 mc], .int .i64 1] w fun e w' => e = .returned (.int .i64 (cK F2 n)) ∧ FRow w' fa n (fpart F2 n) ∧ VRow w' va N (mkR noM (cK F2 n)) noM ∧ Mid lo U w w' := by
  have hB := below_new w (.cells #[.int .i64 q, .slice fa n fc, .int .i64 nx, .int .i64 lg, .int .i64 sq, .slice va N vc, .slice ma 0 mc] 30)
  have A0 := SX.new w 30 q fa n fc nx lg sq va N vc ma 0 mc
  have hV0 := hV.keep hB
  have hF0 := hF.keep hB
  have hm0 : Mid lo U w (w.alloc (.cells #[.int .i64 q, .slice fa n fc, .int .i64 nx, .int .i64 lg, .int .i64 sq, .slice va N vc, .slice ma 0 mc] 30)) := Mid.of_below hB
  have hK : cK F2 n ≤ 16 := by unfold cK; rw [used2]; omega
  have hK1 : 1 ≤ cK F2 n := by unfold cK; omega
  have hs := sum_noM N
  have hfm := hF0.marked q (cap := fc) (by omega) (fsize2 n) (by omega)
  generalize cK F2 n = c at *
  clear hV hF hB
  go_enter Tryz.func7, Tryz.ntmps7
  go_wp2_with fail
  generalize w.alloc (.cells #[.int .i64 q, .slice fa n fc, .int .i64 nx, .int .i64 lg, .int .i64 sq, .slice va N vc, .slice ma 0 mc] 30) = w0 at *
  refine hfm.mono ?_
  rintro e w1 ⟨rfl, hF1, hm1⟩
  have hV1 : VA w1 lo mid va N noR noM := hV0.same hm1.size (fun b h1 h2 => hm1.block b (by have := hV0.1; omega) (.inl h2))
  have A1 := A0.mid hm1 (.inr hU)
  have hmw1 := hm0.trans (hm1.wide hlo (Nat.le_refl _))
  have hU1 : U ≤ w1.heap.size := by have := hmw1.size; omega
  obtain ⟨la, a0, a1, a2, a3, a4, a5, a6, _⟩ := id A1
  clear hV0 hF0 hm0 hm1 A0 hfm
  go_wp2_with fail
  refine (markVersion_any nx lg sq lo mid va N vc c noR noM _ hV1 hK1 (by omega) (by omega) (by omega)).mono ?_
  rw [hs]
  rintro e w2 ⟨rfl, hV2, hm2⟩
  have hF2 := fv_low0 hF1 hm2.size (fun b h1 h2 => hm2.block b h2 (.inr h1))
  have A2 := A1.same hm2.size (hm2.block _ A1.lt (.inr (by omega)))
  have hmw2 : Mid lo U w w2 := hmw1.trans ((Mid.wide ⟨hm2.os, hm2.tape, hm2.output, hm2.size, hm2.block⟩ (Nat.le_refl _) hmU))
  clear a0 a1 a2 a3 a4 a5 a6 la
  obtain ⟨la, a0, a1, a2, a3, a4, a5, a6, _⟩ := id A2
  clear hV1 hF1 A1 hm2 hmw1
  go_wp2_with fail
  refine (markE_zero _ _ _ _).mono ?_
  rintro e w3 ⟨rfl, hw3⟩
  subst hw3
  go_wp2
  go_ret
  exact ⟨rfl, hF2.row, vrow_no hV2, hmw2⟩

set_option maxHeartbeats 2000000 in
theorem heldStore_no (q nx lg sq : Int) (n N : Nat) (fa va ma : Option Addr) (fc vc mc : Nat) (w : World) (hF : FRow w fa n (fpart F2 n)) (hV : VRow w va N (mkR noM (cK F2 n)) noM) (hn : n ≤ 2) (hN : N ≤ 3) :
    Calls Tryz.prog 8 #[.agg #[.int .i64 q, .slice fa n fc, .int .i64 nx, .int .i64 lg, .int .i64 sq, .slice va N vc, .slice ma 0 mc], .int .i64 1] w fun e w' => e = .returned (.int .i64 (cK F2 n)) ∧ Below w.heap.size w w' := by
  have hB := below_new w (.cells #[.int .i64 q, .slice fa n fc, .int .i64 nx, .int .i64 lg, .int .i64 sq, .slice va N vc, .slice ma 0 mc] 30)
  have A0 := SX.new w 30 q fa n fc nx lg sq va N vc ma 0 mc
  have hK : cK F2 n ≤ 16 := by unfold cK; rw [used2]; omega
  have hK1 : 1 ≤ cK F2 n := by unfold cK; omega
  have hs := sum_noM N
  have hV0 := hV.keep hB
  have hfh := heldFiles_yes q fa n fc F2 _ (hF.keep hB) (by omega) (fsize2 n) (by omega)
  generalize cK F2 n = c at *
  clear hV hF
  go_enter Tryz.func8, Tryz.ntmps8
  go_wp2_with fail
  generalize w.alloc (.cells #[.int .i64 q, .slice fa n fc, .int .i64 nx, .int .i64 lg, .int .i64 sq, .slice va N vc, .slice ma 0 mc] 30) = w0 at *
  refine hfh.mono ?_
  rintro e w1 ⟨rfl, hb1⟩
  have A1 := A0.keep hb1
  have hV1 := hV0.keep hb1
  have bw1 := hB.trans (hb1.mono hB.size)
  have hneg : ¬ ((c : Int) < 0) := by omega
  obtain ⟨la, a0, a1, a2, a3, a4, a5, a6, _⟩ := id A1
  clear hV0 A0 hfh hb1 hB
  go_wp2_with fail
  refine (heldVersion_yes nx lg sq va N vc c noM _ hV1 hK1 (by omega) (by omega) (by omega)).mono ?_
  rw [hs]
  rintro e w2 ⟨rfl, hb2⟩
  have A2 := A1.keep hb2
  have bw2 := bw1.trans (hb2.mono bw1.size)
  clear a0 a1 a2 a3 a4 a5 a6 la
  obtain ⟨la, a0, a1, a2, a3, a4, a5, a6, _⟩ := id A2
  clear hV1 A1 hb2 bw1
  have hneg2 : ¬ (((c + 4 * 0 : Nat) : Int) < 0) := by omega
  go_wp2_with fail
  refine (heldE_zero _ _ _ _).mono ?_
  rintro e w3 ⟨rfl, hw3⟩
  subst hw3
  go_wp2
  go_ret
  exact ⟨rfl, bw2⟩
end Go.Proofs.YtapmbgmmonhdoaaGreatDoor
