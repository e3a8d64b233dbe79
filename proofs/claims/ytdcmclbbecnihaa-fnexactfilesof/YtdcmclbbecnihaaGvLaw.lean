/- The law of GoodVersion. -/
import Derived.Test.YtdcmclbbecnihaaVn
import Derived.Test.YtdcmclbbecnihaaGt
namespace Go.Proofs.Ytdcmclbbecnihaa
open Go.RowKit
set_option linter.unusedSimpArgs false
set_option linter.unusedVariables false

theorem totV_mi {N : Nat} {R : Nat → Nat → Met} {M : Nat → Nat} (ht : N + totV R M N ≤ 1048576) : ∀ i, i < N → M i ≤ 1048576 := fun i hi => by
  have := totV_le (R := R) (M := M) hi
  omega

set_option maxHeartbeats 1600000 in
theorem goodVersion_law (nx lg sq : Int) (ao : Option Addr) (N cap : Nat) (R : Nat → Nat → Met) (M : Nat → Nat) (w : World) (hr : VRow w ao N R M) (hnx : -9223372036854775808 ≤ nx ∧ nx ≤ 9223372036854775807) (hN : N ≤ 9223372036854775807) :
    Calls Try.prog 4 #[.agg #[.int .i64 nx, .int .i64 lg, .int .i64 sq, .slice ao N cap]] w fun e w' => e = .returned (.bool true) ∧ Below w.heap.size w w' := by
  have bn0 := below_new w (.cells #[.int .i64 nx, .int .i64 lg, .int .i64 sq, .slice ao N cap] 31)
  have A0 := VX.new w nx lg sq ao N cap 31
  go_enter Try.func4, Try.ntmps4
  go_wp2_with fail
  generalize w.alloc (.cells #[.int .i64 nx, .int .i64 lg, .int .i64 sq, .slice ao N cap] 31) = w0 at *
  refine (szVersion_ex nx lg sq ao N cap R M 1048576 _ (hr.keep bn0) ⟨by omega, by omega⟩ hN).mono ?_
  rintro e w1 ⟨v, rfl, h1, h3, hb1⟩
  have A1 := A0.keep hb1
  have bw1 := bn0.trans (hb1.mono bn0.size)
  clear hb1 A0 bn0
  by_cases hv : v < 0
  · clear h3
    go_wp2
    go_ret
    exact ⟨rfl, bw1⟩
  have ht : N + totV R M N ≤ 1048576 := by have := h3 (by omega); omega
  have hsm : sumM M N ≤ 1048576 := by have := sumM_tot R M N; omega
  have HMI : Hid (∀ i, i < N → M i ≤ 1048576) := totV_mi ht
  have hN2 : N ≤ 1048576 := by omega
  clear h3
  obtain ⟨l0, x0, x1, x2, x3⟩ := id A1
  go_wp2_with fail
  refine (toVersion_any nx lg sq ao N cap R M w1 (hr.keep bw1) ht).mono ?_
  rintro e w2 ⟨g2, rfl, hV2, hb2⟩
  have A2 := A1.keep hb2
  have bw2 := bw1.trans (hb2.mono bw1.size)
  have hv2 := hV2.row hr.bd hr.len
  clear hb2 hV2 A1 l0 x0 x1 x2 x3
  go_wp2_with fail
  refine (goodVersion_spec nx lg sq _ N N R M w2 hv2 hN2 hsm hnx).mono ?_
  rintro e w3 ⟨b3, rfl, g3, hb3⟩
  have A3 := A2.keep hb3
  have bw3 := bw2.trans (hb3.mono bw2.size)
  have G3 : Hid (b3 = true ↔ GoodVP nx lg sq N R M) := g3
  clear hb3 A2 hv2 g3
  obtain ⟨l0, x0, x1, x2, x3⟩ := id A3
  go_wp2_with fail
  refine (toVersion_any nx lg sq ao N cap R M w3 (hr.keep bw3) ht).mono ?_
  rintro e w4 ⟨g4, rfl, hV4, hb4⟩
  have bn4 := below_new w4 (.cells #[.int .i64 nx, .int .i64 lg, .int .i64 sq, .slice (some ⟨g4, 0, none⟩) N N] 24)
  have X4 := VX.new w4 nx lg sq (some ⟨g4, 0, none⟩) N N 24
  have A4 := (A3.keep hb4).keep bn4
  have bw4 := (bw3.trans (hb4.mono bw3.size)).trans (bn4.mono (by have := hb4.size; have := bw3.size; omega))
  have hv4 := (hV4.row hr.bd hr.len).keep bn4
  clear hb4 hV4 A3 l0 x0 x1 x2 x3 bn4
  go_wp2_with fail
  generalize w4.alloc (.cells #[.int .i64 nx, .int .i64 lg, .int .i64 sq, .slice (some ⟨g4, 0, none⟩) N N] 24) = w5 at *
  refine (goodVersion_impl nx lg sq _ N N R M _ hv4 hN2 hsm).mono ?_
  rintro e w6 ⟨b6, rfl, g6, hb6⟩
  have A6 := A4.keep hb6
  have X6 := X4.keep hb6
  have bw6 := bw4.trans (hb6.mono bw4.size)
  have hv6 := hv4.keep hb6
  have e6 : b6 = b3 := by
    have := G3.out
    cases b6 <;> cases b3 <;> simp_all
  subst e6
  clear hb6 A4 X4 hv4 g6 G3
  have hcv := toVersion_any nx lg sq ao N cap R M w6.drew ((hr.keep bw6).keep (Below.refl _ _).drew) ht
  have hq := fun (g : Nat) (W : World) (h : VRow W (some ⟨g, 0, none⟩) N R M) (h' : VRow W (some ⟨g4, 0, none⟩) N R M) => eqVersion_same nx lg sq (some ⟨g4, 0, none⟩) (some ⟨g, 0, none⟩) N N N R M W h' h hN2 HMI.out
  obtain ⟨l0, x0, x1, x2, x3⟩ := id A6
  obtain ⟨m0, y0, y1, y2, y3⟩ := id X6
  cases b6
  all_goals
    go_wp2
    go_region_held3 (fun w' => w'.cell? ⟨w4.heap.size, 0, none⟩ = some (.int .i64 nx) ∧ w'.cell? ⟨w4.heap.size, 1, none⟩ = some (.int .i64 lg) ∧ w'.cell? ⟨w4.heap.size, 2, none⟩ = some (.int .i64 sq) ∧ w'.cell? ⟨w4.heap.size, 3, none⟩ = some (.slice (some ⟨g4, 0, none⟩) N N) ∧ w'.cell? ⟨w.heap.size, 0, none⟩ = some (.int .i64 nx) ∧ w'.cell? ⟨w.heap.size, 1, none⟩ = some (.int .i64 lg) ∧ w'.cell? ⟨w.heap.size, 2, none⟩ = some (.int .i64 sq) ∧ w'.cell? ⟨w.heap.size, 3, none⟩ = some (.slice ao N cap)) (go_keep) (first | (go_at_call 17; refine hcv.mono ?_; rintro e w7 ⟨g7, rfl, hV7, hb7⟩; have hb7' := (Below.refl _ w6).drew.trans hb7; have A7 := A6.keep hb7'; have X7 := X6.keep hb7'; obtain ⟨_, p0, p1, p2, p3⟩ := id A7; obtain ⟨_, q0, q1, q2, q3⟩ := id X7; have hv7 := hv6.keep hb7'; have bw7 := bw6.trans (hb7'.mono bw6.size); have hu7 := hV7.row hr.bd hr.len; clear hb7 hb7') | (go_at_call 12; refine (hq _ _ hu7 hv7).mono ?_; rintro e w8 ⟨rfl, hb8⟩; have bw8 := bw7.trans (hb8.mono bw7.size); obtain ⟨_, r0, r1, r2, r3⟩ := A7.keep hb8; obtain ⟨_, s0, s1, s2, s3⟩ := X7.keep hb8; clear hb8))
    go_wp2
    go_ret
    exact ⟨rfl, bw8⟩
end Go.Proofs.Ytdcmclbbecnihaa
