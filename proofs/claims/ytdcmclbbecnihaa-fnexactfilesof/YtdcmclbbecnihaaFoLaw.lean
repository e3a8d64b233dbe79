/- FilesOf in both texts, and its law. -/
import Derived.Test.YtdcmclbbecnihaaFo
import Derived.Test.YtdcmclbbecnihaaGvLaw
namespace Go.Proofs.Ytdcmclbbecnihaa
open Go.RowKit
set_option linter.unusedSimpArgs false
set_option linter.unusedVariables false

section
variable (nx lg sq : Int) (ao : Option Addr) (N cap : Nat) (R : Nat → Nat → Met) (M : Nat → Nat) (w : World)
theorem goodI_no (hr : VRow w ao N R M) (hN : N ≤ 1048576) (hM : sumM M N ≤ 1048576) (hG : ¬ GoodVP nx lg sq N R M) :
    Calls Try.prog 18 #[.agg #[.int .i64 nx, .int .i64 lg, .int .i64 sq, .slice ao N cap]] w fun e w' => e = .returned (.bool false) ∧ Below w.heap.size w w' :=
  (goodVersion_impl nx lg sq ao N cap R M w hr hN hM).mono (by
    rintro e w' ⟨b, rfl, h, hb⟩
    cases b
    · exact ⟨rfl, hb⟩
    · exact absurd (h.1 rfl) hG)
theorem goodI_yes (hr : VRow w ao N R M) (hN : N ≤ 1048576) (hM : sumM M N ≤ 1048576) (hG : GoodVP nx lg sq N R M) :
    Calls Try.prog 18 #[.agg #[.int .i64 nx, .int .i64 lg, .int .i64 sq, .slice ao N cap]] w fun e w' => e = .returned (.bool true) ∧ Below w.heap.size w w' :=
  (goodVersion_impl nx lg sq ao N cap R M w hr hN hM).mono (by
    rintro e w' ⟨b, rfl, h, hb⟩
    exact ⟨by rw [h.2 hG], hb⟩)
theorem goodS_no (hr : VRow w ao N R M) (hN : N ≤ 1048576) (hM : sumM M N ≤ 1048576) (hnx : -9223372036854775808 ≤ nx ∧ nx ≤ 9223372036854775807) (hG : ¬ GoodVP nx lg sq N R M) :
    Calls Try.prog 16 #[.agg #[.int .i64 nx, .int .i64 lg, .int .i64 sq, .slice ao N cap]] w fun e w' => e = .returned (.bool false) ∧ Below w.heap.size w w' :=
  (goodVersion_spec nx lg sq ao N cap R M w hr hN hM hnx).mono (by
    rintro e w' ⟨b, rfl, h, hb⟩
    cases b
    · exact ⟨rfl, hb⟩
    · exact absurd (h.1 rfl) hG)
theorem goodS_yes (hr : VRow w ao N R M) (hN : N ≤ 1048576) (hM : sumM M N ≤ 1048576) (hnx : -9223372036854775808 ≤ nx ∧ nx ≤ 9223372036854775807) (hG : GoodVP nx lg sq N R M) :
    Calls Try.prog 16 #[.agg #[.int .i64 nx, .int .i64 lg, .int .i64 sq, .slice ao N cap]] w fun e w' => e = .returned (.bool true) ∧ Below w.heap.size w w' :=
  (goodVersion_spec nx lg sq ao N cap R M w hr hN hM hnx).mono (by
    rintro e w' ⟨b, rfl, h, hb⟩
    exact ⟨by rw [h.2 hG], hb⟩)

set_option maxHeartbeats 1600000 in
theorem filesOf_impl (hr : VRow w ao N R M) (hN : N ≤ 1048576) (hM : sumM M N ≤ 1048576) :
    Calls Try.prog 41 #[.agg #[.int .i64 nx, .int .i64 lg, .int .i64 sq, .slice ao N cap]] w fun e w' => (GoodVP nx lg sq N R M ∧ FoO (srt (flsR R M N)) true w e w') ∨ (¬ GoodVP nx lg sq N R M ∧ FoO [] false w e w') := by
  have bn0 := below_new w (.cells #[.int .i64 nx, .int .i64 lg, .int .i64 sq, .slice ao N cap] 24)
  have A0 := VX.new w nx lg sq ao N cap 24
  have hln := flsR_len R M N
  by_cases hG : GoodVP nx lg sq N R M
  rotate_left
  · have H : Hid (¬ GoodVP nx lg sq N R M) := hG
    have hc := goodI_no nx lg sq ao N cap R M _ (hr.keep bn0) hN hM hG
    clear hG
    go_enter Try.func41, Try.ntmps41
    go_wp2_with fail
    refine hc.mono ?_
    rintro e w1 ⟨rfl, hb1⟩
    have bw1 := bn0.trans (hb1.mono bn0.size)
    clear hc
    go_wp2
    exact bodyPost_ret (v := .tuple #[.slice none 0 0, .bool false]) (by simp [results, Try.results41, go_sem]) rfl (.inr ⟨H.out, _, rfl, ia_nil _ _ _ _, bw1⟩)
  · have H : Hid (GoodVP nx lg sq N R M) := hG
    have hc := goodI_yes nx lg sq ao N cap R M _ (hr.keep bn0) hN hM hG
    clear hG
    go_enter Try.func41, Try.ntmps41
    go_wp2_with fail
    refine hc.mono ?_
    rintro e w1 ⟨rfl, hb1⟩
    have A1 := A0.keep hb1
    have bw1 := bn0.trans (hb1.mono bn0.size)
    clear hc hb1 A0 bn0
    obtain ⟨_, x0, x1, x2, x3⟩ := id A1
    go_wp2_with fail
    refine (files_any nx lg sq ao N cap R M w1 (hr.keep bw1) hN hM).mono ?_
    rintro e w2 ⟨v, rfl, hO, hb2⟩
    have bw2 := bw1.trans (hb2.mono bw1.size)
    have hO2 := hO.lower bw1.size
    clear hb2 A1 x0 x1 x2 x3 hO
    go_wp2_with fail
    refine (sortOwn w2 w.heap.size v (flsR R M N) hO2 (by omega)).mono ?_
    rintro e w3 ⟨rfl, hI, hb3⟩
    have bw3 := bw2.trans hb3
    clear hb3 hO2
    obtain ⟨so, sc, rfl⟩ := hI.form
    go_wp2
    exact bodyPost_ret (v := .tuple #[.slice so (srt (flsR R M N)).length sc, .bool true]) (by simp [results, Try.results41, go_sem]) rfl (.inl ⟨H.out, _, rfl, hI, bw3⟩)

set_option maxHeartbeats 1600000 in
theorem filesOf_spec (hr : VRow w ao N R M) (hN : N ≤ 1048576) (hM : sumM M N ≤ 1048576) (hnx : -9223372036854775808 ≤ nx ∧ nx ≤ 9223372036854775807) :
    Calls Try.prog 40 #[.agg #[.int .i64 nx, .int .i64 lg, .int .i64 sq, .slice ao N cap]] w fun e w' => (GoodVP nx lg sq N R M ∧ FoO (srt (flsR R M N)) true w e w') ∨ (¬ GoodVP nx lg sq N R M ∧ FoO [] false w e w') := by
  have bn0 := below_new w (.cells #[.int .i64 nx, .int .i64 lg, .int .i64 sq, .slice ao N cap] 24)
  have A0 := VX.new w nx lg sq ao N cap 24
  by_cases hG : GoodVP nx lg sq N R M
  rotate_left
  · have H : Hid (¬ GoodVP nx lg sq N R M) := hG
    have hc := goodS_no nx lg sq ao N cap R M _ (hr.keep bn0) hN hM hnx hG
    clear hG
    go_enter Try.func40, Try.ntmps40
    go_wp2_with fail
    refine hc.mono ?_
    rintro e w1 ⟨rfl, hb1⟩
    have bw1 := bn0.trans (hb1.mono bn0.size)
    clear hc
    go_wp2
    exact bodyPost_ret (v := .tuple #[.slice none 0 0, .bool false]) (by simp [results, Try.results40, go_sem]) rfl (.inr ⟨H.out, _, rfl, ia_nil _ _ _ _, bw1⟩)
  · have H : Hid (GoodVP nx lg sq N R M) := hG
    have hc := goodS_yes nx lg sq ao N cap R M _ (hr.keep bn0) hN hM hnx hG
    have hnb : 1 ≤ nx ∧ nx ≤ 100000 := by simpa [fN, btw] using hG.1
    have hu := ups_srt (flsR R M N) (nx - 1).toNat (fun x hx => by have := hG.files x hx; omega)
    have hl := fun W h => l9Files_any nx lg sq ao N cap R M W h hN hM hnb (nd_count hG.2.2.2.2.2.2) (srt (flsR R M N)) hu.symm
    clear hG hu hnb
    go_enter Try.func40, Try.ntmps40
    go_wp2_with fail
    refine hc.mono ?_
    rintro e w1 ⟨rfl, hb1⟩
    have A1 := A0.keep hb1
    have bw1 := bn0.trans (hb1.mono bn0.size)
    clear hc hb1 A0 bn0
    obtain ⟨_, x0, x1, x2, x3⟩ := id A1
    go_wp2_with fail
    refine (hl w1 (hr.keep bw1)).mono ?_
    rintro e w2 ⟨v, rfl, hO, hb2⟩
    have bw2 := bw1.trans (hb2.mono bw1.size)
    have hI := (hO.lower bw1.size).ia
    clear hb2 A1 x0 x1 x2 x3 hO hl
    obtain ⟨so, sc, rfl⟩ := hI.form
    go_wp2
    exact bodyPost_ret (v := .tuple #[.slice so (srt (flsR R M N)).length sc, .bool true]) (by simp [results, Try.results40, go_sem]) rfl (.inl ⟨H.out, _, rfl, hI, bw2⟩)
end

/-- Both answer alike. -/
theorem filesOf_both (nx lg sq : Int) (N : Nat) (R : Nat → Nat → Met) (M : Nat → Nat) (hN : N ≤ 1048576) (hM : sumM M N ≤ 1048576) (hnx : -9223372036854775808 ≤ nx ∧ nx ≤ 9223372036854775807) :
    ∃ (L : List Int) (c : Bool), L.length ≤ 1048576 ∧
      (∀ ao cap w, VRow w ao N R M → Calls Try.prog 40 #[.agg #[.int .i64 nx, .int .i64 lg, .int .i64 sq, .slice ao N cap]] w fun e w' => FoO L c w e w') ∧
      (∀ ao cap w, VRow w ao N R M → Calls Try.prog 41 #[.agg #[.int .i64 nx, .int .i64 lg, .int .i64 sq, .slice ao N cap]] w fun e w' => FoO L c w e w') := by
  by_cases hG : GoodVP nx lg sq N R M
  · refine ⟨srt (flsR R M N), true, by rw [srt_len, flsR_len]; exact hM, fun ao cap w h => ?_, fun ao cap w h => ?_⟩
    · exact (filesOf_spec nx lg sq ao N cap R M w h hN hM hnx).mono fun e w' q => q.elim (fun q => q.2) (fun q => absurd hG q.1)
    · exact (filesOf_impl nx lg sq ao N cap R M w h hN hM).mono fun e w' q => q.elim (fun q => q.2) (fun q => absurd hG q.1)
  · refine ⟨[], false, by simp, fun ao cap w h => ?_, fun ao cap w h => ?_⟩
    · exact (filesOf_spec nx lg sq ao N cap R M w h hN hM hnx).mono fun e w' q => q.elim (fun q => absurd q.1 hG) (fun q => q.2)
    · exact (filesOf_impl nx lg sq ao N cap R M w h hN hM).mono fun e w' q => q.elim (fun q => absurd q.1 hG) (fun q => q.2)
set_option maxHeartbeats 4000000 in
theorem filesOf_law (nx lg sq : Int) (ao : Option Addr) (N cap : Nat) (R : Nat → Nat → Met) (M : Nat → Nat) (w : World) (hr : VRow w ao N R M) (hnx : -9223372036854775808 ≤ nx ∧ nx ≤ 9223372036854775807) (hN : N ≤ 9223372036854775807) :
    Calls Try.prog 9 #[.agg #[.int .i64 nx, .int .i64 lg, .int .i64 sq, .slice ao N cap]] w fun e w' => e = .returned (.bool true) ∧ Below w.heap.size w w' := by
  have bn0 := below_new w (.cells #[.int .i64 nx, .int .i64 lg, .int .i64 sq, .slice ao N cap] 31)
  have A0 := VX.new w nx lg sq ao N cap 31
  go_enter Try.func9, Try.ntmps9
  go_wp2_with fail
  generalize w.alloc (.cells #[.int .i64 nx, .int .i64 lg, .int .i64 sq, .slice ao N cap] 31) = w0 at *
  refine (szVersion_ex nx lg sq ao N cap R M 1048576 _ (hr.keep bn0) ⟨by omega, by omega⟩ hN).mono ?_
  rintro e w1 ⟨v, rfl, h1, h3, hb1⟩
  have A1 := A0.keep hb1
  have bw1 := bn0.trans (hb1.mono bn0.size)
  clear hb1 A0 bn0
  by_cases hv : v < 0
  · clear h3
    go_wp2
    go_ret
    exact ⟨rfl, bw1⟩
  have ht : N + totV R M N ≤ 1048576 := by have := h3 (by omega); omega
  have hsm : sumM M N ≤ 1048576 := by have := sumM_tot R M N; omega
  have HMI : Hid (∀ i, i < N → M i ≤ 1048576) := totV_mi ht
  have hN2 : N ≤ 1048576 := by omega
  clear h3
  obtain ⟨L, c, hL, hS, hI⟩ := filesOf_both nx lg sq N R M hN2 hsm hnx
  obtain ⟨l0, x0, x1, x2, x3⟩ := id A1
  go_wp2_with fail
  refine (toVersion_any nx lg sq ao N cap R M w1 (hr.keep bw1) ht).mono ?_
  rintro e w2 ⟨g2, rfl, hV2, hb2⟩
  have A2 := A1.keep hb2
  have bw2 := bw1.trans (hb2.mono bw1.size)
  have hv2 := hV2.row hr.bd hr.len
  clear hb2 hV2 A1 l0 x0 x1 x2 x3
  go_wp2_with fail
  refine (hS _ _ w2 hv2).mono ?_
  rintro e w3 ⟨vw, rfl, OW, hb3⟩
  obtain ⟨wo, wc, rfl⟩ := OW.form
  have A3 := A2.keep hb3
  have bw3 := bw2.trans (hb3.mono bw2.size)
  have s23 := hb3.size
  have sA3 := A3.lt
  clear hb3 A2 hv2 hS
  obtain ⟨l0, x0, x1, x2, x3⟩ := id A3
  go_wp2_with fail
  refine (toVersion_any nx lg sq ao N cap R M w3 (hr.keep bw3) ht).mono ?_
  rintro e w4 ⟨g4, rfl, hV4, hb4⟩
  have bn4 := below_new w4 (.cells #[.int .i64 nx, .int .i64 lg, .int .i64 sq, .slice (some ⟨g4, 0, none⟩) N N] 24)
  have X4 := VX.new w4 nx lg sq (some ⟨g4, 0, none⟩) N N 24
  have A4 := (A3.keep hb4).keep bn4
  have bw4 := (bw3.trans (hb4.mono bw3.size)).trans (bn4.mono (by have := hb4.size; have := bw3.size; omega))
  have V4 := hV4.keep bn4
  have OW4 := (OW.keep hb4).keep bn4
  have s34 := hb4.size
  have s45 : w4.heap.size < (w4.alloc (.cells #[.int .i64 nx, .int .i64 lg, .int .i64 sq, .slice (some ⟨g4, 0, none⟩) N N] 24)).heap.size := by simp
  clear hb4 hV4 A3 l0 x0 x1 x2 x3 bn4 OW
  go_wp2_with fail
  generalize w4.alloc (.cells #[.int .i64 nx, .int .i64 lg, .int .i64 sq, .slice (some ⟨g4, 0, none⟩) N N] 24) = w5 at *
  refine (hI _ _ w5 (V4.row hr.bd hr.len)).mono ?_
  rintro e w6 ⟨vg, rfl, OG, hb6⟩
  obtain ⟨go, gc, rfl⟩ := OG.form
  have A6 := A4.keep hb6
  have X6 := X4.keep hb6
  have V6 := V4.keep hb6
  have OW6 := OW4.keep hb6
  have bw6 := bw4.trans (hb6.mono bw4.size)
  have s56 := hb6.size
  clear hb6 A4 X4 V4 OW4
  go_wp2_with fail
  refine (eqIntS_same go wo L.length gc wc (fi L) w6 OG.row OW6.row hL).mono ?_
  rintro e w7 ⟨rfl, hb7⟩
  have A7 := A6.keep hb7
  have X7 := X6.keep hb7
  have V7 := V6.keep hb7
  have OW7 := OW6.keep hb7
  have OG7 := OG.keep hb7
  have bw7 := bw6.trans (hb7.mono bw6.size)
  have s67 := hb7.size
  clear hb7 A6 X6 V6 OW6 OG
  have hcv := toVersion_any nx lg sq ao N cap R M w7.drew ((hr.keep bw7).keep (Below.refl _ _).drew) ht
  have hq := fun (g : Nat) (W : World) (h : VRow W (some ⟨g, 0, none⟩) N R M) (h' : VRow W (some ⟨g4, 0, none⟩) N R M) => eqVersion_same nx lg sq (some ⟨g4, 0, none⟩) (some ⟨g, 0, none⟩) N N N R M W h' h hN2 HMI.out
  have hmk := fun W h => markVersion_any nx lg sq w3.heap.size w4.heap.size (some ⟨g4, 0, none⟩) N N 1 R M W h (by omega) hN2 hsm (by omega)
  have hpos : ¬ ((1 + 4 * sumM M N : Nat) : Int) < 0 := by omega
  generalize ((1 + 4 * sumM M N : Nat) : Int) = kk at hmk hpos
  have hmi := fun W h => markIA W w5.heap.size w6.heap.size go L.length gc L 1 h hL (by omega)
  have hhd := fun W f h hf => heldI_from go L.length gc ((1 : Nat) : Int) f W h hf hL (by omega)
  have hkq : ((1 + L.length : Nat) : Int) = ((1 : Nat) : Int) + (L.length : Int) := by omega
  have hmi2 : ∀ W, IA W w5.heap.size w6.heap.size (.slice go L.length gc) L → Calls Try.prog 43 #[.slice go L.length gc, .int .i64 ((1 : Nat) : Int)] W fun e w' => e = .returned (.int .i64 (((1 : Nat) : Int) + (L.length : Int))) ∧ (∃ f, IRow w' go L.length f ∧ ∀ i, i < L.length → f i = ((1 : Nat) : Int) + i) ∧ Rng w5.heap.size w6.heap.size W w' := fun W h => by
    have := hmi W h
    rw [hkq] at this
    exact this
  have hpos2 : ¬ ((1 : Nat) : Int) + (L.length : Int) < 0 := by omega
  generalize ((1 : Nat) : Int) + (L.length : Int) = mm at hmi2 hhd hpos2
  clear hmi hkq
  obtain ⟨l0, x0, x1, x2, x3⟩ := id A7
  obtain ⟨m0, y0, y1, y2, y3⟩ := id X7
  cases c
  all_goals
    go_wp2
    go_region_held3 (fun w' => w'.cell? ⟨w4.heap.size, 0, none⟩ = some (.int .i64 nx) ∧ w'.cell? ⟨w4.heap.size, 1, none⟩ = some (.int .i64 lg) ∧ w'.cell? ⟨w4.heap.size, 2, none⟩ = some (.int .i64 sq) ∧ w'.cell? ⟨w4.heap.size, 3, none⟩ = some (.slice (some ⟨g4, 0, none⟩) N N) ∧ w'.cell? ⟨w.heap.size, 0, none⟩ = some (.int .i64 nx) ∧ w'.cell? ⟨w.heap.size, 1, none⟩ = some (.int .i64 lg) ∧ w'.cell? ⟨w.heap.size, 2, none⟩ = some (.int .i64 sq) ∧ w'.cell? ⟨w.heap.size, 3, none⟩ = some (.slice ao N cap)) (go_keep) (first | (go_at_call 17; refine hcv.mono ?_; rintro e w8 ⟨g8, rfl, hV8, hb8⟩; have hb8' := (Below.refl _ w7).drew.trans hb8; have A8 := A7.keep hb8'; have X8 := X7.keep hb8'; obtain ⟨_, p0, p1, p2, p3⟩ := id A8; obtain ⟨_, q0, q1, q2, q3⟩ := id X8; have V8 := V7.keep hb8'; have OW8 := OW7.keep hb8'; have OG8 := OG7.keep hb8'; have bw8 := bw7.trans (hb8'.mono bw7.size); have hu8 := hV8.row hr.bd hr.len; have s78 := hb8'.size; clear hb8 hb8') | (go_at_call 12; refine (hq _ _ hu8 (V8.row hr.bd hr.len)).mono ?_; rintro e w9 ⟨rfl, hb9⟩; have bw9 := bw8.trans (hb9.mono bw8.size); have A9 := A8.keep hb9; have X9 := X8.keep hb9; obtain ⟨_, r0, r1, r2, r3⟩ := id A9; obtain ⟨_, t0, t1, t2, t3⟩ := id X9; have V9 := V8.keep hb9; have OW9 := OW8.keep hb9; have OG9 := OG8.keep hb9; have s89 := hb9.size; clear hb9))
    clear hcv hq
    go_wp2_with fail
    refine (hmk w9 V9).mono ?_
    rintro e w10 ⟨rfl, _, hr10⟩
    have OW10 := OW9.same hr10.size (fun c _ h2 => hr10.block c (by omega) (.inl (by omega)))
    have OG10 := OG9.same hr10.size (fun c h1 h2 => hr10.block c (by omega) (.inr (by omega)))
    have A10 := A9.same hr10.size (hr10.block _ A9.lt (.inl (by omega)))
    have bw10 : Below w.heap.size w w10 := bw9.trans (hr10.below bw3.size bw9.size)
    have s910 := hr10.size
    clear OW9 OG9 A9 X9 V9 hr10 hmk V8 OW8 OG8 A8 X8 hu8
    go_wp2_with fail
    refine (eqIntS_same go wo L.length gc wc (fi L) w10 OG10.row OW10.row hL).mono ?_
    rintro e w11 ⟨rfl, hb11⟩
    have A11 := A10.keep hb11
    have OW11 := OW10.keep hb11
    have OG11 := OG10.keep hb11
    have bw11 := bw10.trans (hb11.mono bw10.size)
    have s1011 := hb11.size
    clear hb11 A10 OW10 OG10
    go_wp2_with fail
    refine (hmi2 w11 OG11).mono ?_
    rintro e w12 ⟨rfl, ⟨f12, IR12, hf12⟩, hr12⟩
    have HF : Hid (∀ i, i < L.length → f12 i = ((1 : Nat) : Int) + i) := hf12
    have OW12 := OW11.same hr12.size (fun c _ h2 => hr12.block c (by omega) (.inl (by omega)))
    have A12 := A11.same hr12.size (hr12.block _ A11.lt (.inl (by omega)))
    have bw12 : Below w.heap.size w w12 := bw11.trans (hr12.below (by have := bw3.size; omega) bw11.size)
    clear hf12 OW11 A11 OG11 hr12 hmi2
    go_wp2_with fail
    refine (hhd w12 f12 IR12 HF.out).mono ?_
    rintro e w13 ⟨rfl, hb13⟩
    have A13 := A12.keep hb13
    have OW13 := OW12.keep hb13
    have IR13 := IR12.keep hb13
    have bw13 := bw12.trans (hb13.mono bw12.size)
    clear hb13 A12 OW12 IR12
    obtain ⟨_, z0, z1, z2, z3⟩ := id A13
    go_wp2_with fail
    refine (toVersion_any nx lg sq ao N cap R M w13 (hr.keep bw13) ht).mono ?_
    rintro e w14 ⟨g14, rfl, hV14, hb14⟩
    have OW14 := OW13.keep hb14
    have IR14 := IR13.keep hb14
    have bw14 := bw13.trans (hb14.mono bw13.size)
    clear hb14 A13 OW13 IR13 z0 z1 z2 z3
    go_wp2_with fail
    refine (hI _ _ w14 (hV14.row hr.bd hr.len)).mono ?_
    rintro e w15 ⟨vh, rfl, OH, hb15⟩
    obtain ⟨ho, hc, rfl⟩ := OH.form
    have OW15 := OW14.keep hb15
    have IR15 := IR14.keep hb15
    have bw15 := bw14.trans (hb15.mono bw14.size)
    clear hb15 hV14 OW14 IR14
    go_wp2_with fail
    refine (eqIntS_same ho wo L.length hc wc (fi L) w15 OH.row OW15.row hL).mono ?_
    rintro e w16 ⟨rfl, hb16⟩
    have IR16 := IR15.keep hb16
    have bw16 := bw15.trans (hb16.mono bw15.size)
    clear hb16 OH OW15 IR15
    go_wp2_with fail
    refine (hhd w16 f12 IR16 HF.out).mono ?_
    rintro e w17 ⟨rfl, hb17⟩
    have bw17 := bw16.trans (hb17.mono bw16.size)
    clear hb17
    go_wp2
    go_ret
    exact ⟨rfl, bw17⟩
end Go.Proofs.Ytdcmclbbecnihaa
