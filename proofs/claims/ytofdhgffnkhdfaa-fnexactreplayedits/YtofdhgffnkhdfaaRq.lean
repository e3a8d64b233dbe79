/- Edits replayed, in the model (made by mkrp.py). -/
import Derived.Test.YtofdhgffnkhdfaaRp
import Derived.Test.YtofdhgffnkhdfaaCt9
namespace Go.Proofs.Ytofdhgffnkhdfaa
open Go.RowKit
set_option linter.unusedSimpArgs false
set_option linter.unusedVariables false

set_option maxRecDepth 100000 in
set_option maxHeartbeats 8000000 in
theorem l9Replay_any (ao : Option Addr) (n cap : Nat) (E : Nat → Edt) (K : Nat) (w : World) (hr : EdRow true w ao n E) (hn : n ≤ 60) (hz : EdSize n E) (hK : Hid (Ends E n K)) :
    Calls Try.prog 14 #[.slice ao n cap] w fun e w' => RwO E K w e w' := by
  obtain ⟨hbd, hlies⟩ := hr
  have hng : ¬ (60 : Int) < (n : Int) := by omega
  have b0 := below_new w (.cells #[.int .i64 0, .int .i64 0, .int .i64 0, .slice none 0 0] 26)
  have Z0 := VZ.new w 0 0 0 none 0 0 26
  have s0 : (w.alloc (.cells #[.int .i64 0, .int .i64 0, .int .i64 0, .slice none 0 0] 26)).heap.size = w.heap.size + 1 := by simp
  go_enter Try.func14, Try.ntmps14
  go_wp2_with fail
  refine (l9First_any _).mono ?_
  rintro e w1 ⟨g1, rfl, V1, q1⟩
  have bn1 := below_new w1 (.cells #[.int .i64 2, .int .i64 1, .int .i64 0, .slice (some ⟨g1, 0, none⟩) 3 3] 26)
  have s1 := q1.size
  have R1 : RS w w1.heap.size (rpV E 0) (some ⟨g1, 0, none⟩) 3 (w1.alloc (.cells #[.int .i64 2, .int .i64 1, .int .i64 0, .slice (some ⟨g1, 0, none⟩) 3 3] 26)) :=
    ⟨VZ.new w1 2 1 0 (some ⟨g1, 0, none⟩) 3 3 26, ⟨_, _, (fv_va V1).keep bn1, by rw [s0]; omega, .inl (Nat.le_refl _)⟩, (Z0.keep q1).keep bn1, by omega, (b0.trans (q1.mono b0.size)).trans (bn1.mono (Nat.le_trans b0.size q1.size))⟩
  clear V1 q1 Z0 b0 bn1
  go_wp2
  generalize w1.alloc (.cells #[.int .i64 2, .int .i64 1, .int .i64 0, .slice (some ⟨g1, 0, none⟩) 3 3] 26) = w2 at *
  obtain ⟨B, hB⟩ : ∃ B, B = w1.heap.size := ⟨_, rfl⟩
  rw [← hB] at R1 ⊢
  clear hB
  go_loopw [12] (fun i wr => ∃ (k : Nat) (va : Option Addr) (vc : Nat), k ≤ n ∧ i = .int .i64 k ∧ Hid (∀ i, i < k → GoodK E i) ∧ RS w B (rpV E k) va vc wr) (fun i _ => n - (intOf i).toNat)
  case atStart => exact ⟨0, _, 3, Nat.zero_le _, rfl, (fun i hi => absurd hi (Nat.not_lt_zero _) : ∀ i, i < 0 → GoodK E i), R1⟩
  case round =>
    obtain ⟨k, va, vc, hk, rfl, HG, hR⟩ := hrel
    have lt := hR.lt
    by_cases hlt : k < n
    rotate_left
    · have e : k = n := by omega
      subst e
      have hKn : K = k := ends_one hK.out ⟨Nat.le_refl _, HG.out, .inl rfl⟩
      subst hKn
      obtain ⟨⟨lb, x0, x1, x2, x3⟩, xf⟩ := hR.box
      obtain ⟨⟨lr, d0, d1, d2, d3⟩, df⟩ := hR.res
      obtain ⟨lo, hi, hV, hlo, _⟩ := hR.va
      have bel := hR.bel
      clear hR hlies R1
      go_wp2
      refine bodyPost_ret (v := .tuple #[.agg #[.int .i64 (rpV E K).nx, .int .i64 (rpV E K).lg, .int .i64 (rpV E K).sq, .slice va 3 vc], .int .i64 K]) (by simp [results, Try.results14, go_sem, d0, d1, d2, d3]) rfl ⟨va, vc, rfl, ?_, ?_⟩
      · refine VA.mono (hV.same (by simp) (fun q h1 _ => ?_)) (by omega) (by have := hV.1; simp; omega) (Nat.le_refl _)
        repeat' refine (Below.heap_setCell _ _ _ _ (by first | omega | (dsimp only; omega))).trans ?_
        rfl
      · repeat' refine Below.setCell ?_ (by first | (simp; done) | (simp; omega)) _
        exact bel
    obtain ⟨b, off, rfl, hblt, hc⟩ := hlies.resolve_left (by omega)
    obtain ⟨da, aa, cd, ca, ea, r0, r1, hcd⟩ := hc k hlt
    have hS := hz k hlt
    obtain ⟨avs, hnx⟩ := rp_avs HG.out true
    have HGK : Hid (GoodK E k ↔ GoodAp (rpV E k).nx (rpV E k).lg (rpV E k).sq 3 (rpV E k).LL (E k).nx (E k).lg (E k).sq (E k).D (E k).A) := Iff.rfl
    have HV : Hid (rpV E (k + 1) = ⟨(E k).nx, (E k).lg, (E k).sq, apL (rpV E k).LL (E k).D (E k).A⟩) := rfl
    obtain ⟨x, hx⟩ : ∃ x, x = E k := ⟨_, rfl⟩
    obtain ⟨v, hv⟩ : ∃ v, v = rpV E k := ⟨_, rfl⟩
    have HVk : Hid (v = rpV E k) := hv
    rw [← hx] at ea r0 r1 hS HGK HV hcd
    rw [← hv] at avs hnx HGK HV hR
    clear hx hv hc hlies R1
    obtain ⟨_, d0, d1, d2, d3, d4⟩ := ea.keep (w' := wr) (hR.bel)
    have bE0 := hR.bel
    have bn := below_new wr (.cells #[.int .i64 x.nx, .int .i64 x.lg, .int .i64 x.sq, .slice da x.D.length cd, .slice aa x.A.length ca] 45)
    have R2 := hR.keep bn
    have bE : Below w.heap.size w (wr.alloc (.cells #[.int .i64 x.nx, .int .i64 x.lg, .int .i64 x.sq, .slice da x.D.length cd, .slice aa x.A.length ca] 45)) := R2.bel
    obtain ⟨⟨lb, x0, x1, x2, x3⟩, xf⟩ := R2.box
    obtain ⟨lo, hi, hV, hlo, hlb⟩ := R2.va
    have hl2 : ∀ i, i < 3 → (v.LL i).length ≤ 9223372036854775807 := fun i hi => by have := avs.len i hi; omega
    have vr := hV.row avs.mb hl2
    have hap := applyEdit_spec v.nx v.lg v.sq va 3 vc v.LL x.nx x.lg x.sq da cd x.D aa ca x.A _ vr (r0.keep bE) (r1.keep bE) (by omega) (by have := avs.sum; omega) hS.1 hS.2 ⟨by omega, by omega⟩ (hcd (by trivial))
    have sE : (wr.alloc (.cells #[.int .i64 x.nx, .int .i64 x.lg, .int .i64 x.sq, .slice da x.D.length cd, .slice aa x.A.length ca] 45)).heap.size = wr.heap.size + 1 := by simp
    have hq0 : (0 : Int) ≤ (k : Int) := by omega
    have hq1 : (k : Int) < (n : Int) := by omega
    have AVS : Hid (Avs v.nx v.lg v.sq 3 v.LL true) := avs
    clear hR bn bE0 hV vr hl2 avs
    go_wp2_with fail
    refine hap.mono ?_
    clear hap x0 x1 x2 x3 xf
    generalize wr.alloc (.cells #[.int .i64 x.nx, .int .i64 x.lg, .int .i64 x.sq, .slice da x.D.length cd, .slice aa x.A.length ca] 45) = we at *
    rintro e w3 (⟨hG, a3, c3, rfl, V3, q3⟩ | ⟨hN, rfl, q3⟩)
    · have HG2 : Hid (∀ i, i < k + 1 → GoodK E i) := fun i hi => by
        by_cases e : i = k
        · subst e; exact HGK.out.2 hG
        · exact HG.out i (by omega)
      have bn3 := below_new w3 (.cells #[.int .i64 x.nx, .int .i64 x.lg, .int .i64 x.sq, .slice a3 3 c3] 26)
      have N3 := VX.new w3 x.nx x.lg x.sq a3 3 c3 26
      have R3 := (R2.keep q3).keep bn3
      have V4 := V3.keep bn3
      have s3 := q3.size
      have hBe := R2.box.vx.lt
      have R4 := R3.put ⟨x.nx, x.lg, x.sq, apL v.LL x.D x.A⟩ a3 c3 _ _ V4 hBe
      obtain ⟨⟨lb, x0, x1, x2, x3⟩, xf⟩ := R3.box
      obtain ⟨_, y0, y1, y2, y3⟩ := N3
      rw [← HV.out] at R4
      have HR4 := R4
      rw [HV.out] at HR4
      clear R2 R3 V3 V4 q3 bn3 hG
      have f0 := xf 0
      have f1 := xf 1
      have f2 := xf 2
      have f3 := xf 3
      rw [HV.out] at R4
      go_wp2
      rw [← HV.out] at R4
      go_roundw
      case rel => exact ⟨k + 1, a3, c3, by omega, by go_num, HG2, R4⟩
      case measure => simp [intOf]; omega
    · have hKk : K = k := ends_one hK.out ⟨by omega, HG.out, .inr (fun h => hN (HGK.out.1 h))⟩
      subst hKk
      have bn3 := below_new w3 (.cells #[.int .i64 0, .int .i64 0, .int .i64 0, .slice none 0 0] 26)
      have R3 := (R2.keep q3).keep bn3
      have s3 := q3.size
      have s3' : (w3.alloc (.cells #[.int .i64 0, .int .i64 0, .int .i64 0, .slice none 0 0] 26)).heap.size = w3.heap.size + 1 := by simp
      obtain ⟨⟨lb, x0, x1, x2, x3⟩, xf⟩ := R3.box
      obtain ⟨⟨lr, t0, t1, t2, t3⟩, tf⟩ := R3.res
      obtain ⟨lo, hi, hV, hlo, _⟩ := R3.va
      have bel := R3.bel
      clear R2 R3 q3 bn3 hN
      go_wp2
      generalize w3.alloc (.cells #[.int .i64 0, .int .i64 0, .int .i64 0, .slice none 0 0] 26) = w4 at *
      unfold RwO; rw [← HVk.out]
      refine bodyPost_ret (v := .tuple #[.agg #[.int .i64 v.nx, .int .i64 v.lg, .int .i64 v.sq, .slice va 3 vc], .int .i64 K]) (by simp [results, Try.results14, go_sem, t0, t1, t2, t3]) rfl ⟨va, vc, rfl, ?_, ?_⟩
      · refine VA.mono (hV.same (by simp) (fun q h1 _ => ?_)) (by omega) (by have := hV.1; simp; omega) (Nat.le_refl _)
        repeat' refine (Below.heap_setCell _ _ _ _ (by first | omega | (dsimp only; omega))).trans ?_
        rfl
      · repeat' refine Below.setCell ?_ (by first | (simp; done) | (simp; omega)) _
        exact bel
end Go.Proofs.Ytofdhgffnkhdfaa
