/- The law of NewStore. -/
import Derived.Test.YtapmbgmmonhdoaaGreatDoorNl
namespace Go.Proofs.YtapmbgmmonhdoaaGreatDoor
set_option maxRecDepth 100000
open Go.RowKit
set_option linter.unusedSimpArgs false
set_option linter.unusedVariables false

theorem fpart_size (n : Nat) : FSize n F2 1048576 := fsize2 n
set_option maxHeartbeats 4000000 in
theorem newStore_lawQ (Q q nx lg sq : Int) (n N : Nat) (b : Bool) (w : World) (hn : n ≤ 2) (hN : N ≤ 3)
    (hS : ∀ w : World, Calls Tryz.prog 4 #[.int .i64 Q] w fun e w' => NsS q nx lg sq n N b w e w')
    (hI : ∀ w : World, Calls Tryz.prog 5 #[.int .i64 Q] w fun e w' => NsO q nx lg sq n N (.bool b) w e w') :
    Calls Tryz.prog 3 #[.int .i64 Q] w fun e w' => e = .returned (.bool true) ∧ Below w.heap.size w w' := by
  have hM : Hid (∀ i, i < N → noM i ≤ 1048576) := fun i _ => by simp [noM]
  have hbb : (b == b) = true := by cases b <;> rfl
  go_enter Tryz.func3, Tryz.ntmps3
  go_wp2_with fail
  refine (hS _).mono ?_
  rintro e w1 ⟨fa, fc, va, vc, rfl, hF1, hV1, hb1⟩
  have hA : Below w1.heap.size w1 (w1.alloc (.cells #[.int .i64 q, .slice fa n fc, .int .i64 nx, .int .i64 lg, .int .i64 sq, .slice va N vc, .slice none 0 0] 30)) := (Below.refl _ _).alloc (Nat.le_refl _) _
  have W0 := SX.new w1 30 q fa n fc nx lg sq va N vc none 0 0
  have hF2 := hF1.keep hA
  have hV2 := hV1.keep hA
  have bw2 := hb1.trans (hA.mono hb1.size)
  have hb20 := bw2.size
  clear hF1 hV1 hb1 hA
  go_wp2_with fail
  generalize w1.alloc (.cells #[.int .i64 q, .slice fa n fc, .int .i64 nx, .int .i64 lg, .int .i64 sq, .slice va N vc, .slice none 0 0] 30) = w2 at *
  refine (hI _).mono ?_
  rintro e w3 ⟨ga, gc, ha, hc, mid, rfl, hm, hV3, hF3, hb3⟩
  have hA : Below w3.heap.size w3 (w3.alloc (.cells #[.int .i64 q, .slice ga n gc, .int .i64 nx, .int .i64 lg, .int .i64 sq, .slice ha N hc, .slice none 0 0] 30)) := (Below.refl _ _).alloc (Nat.le_refl _) _
  have G0 := SX.new w3 30 q ga n gc nx lg sq ha N hc none 0 0
  have W1 := (W0.keep hb3).keep hA
  have b24 := hb3.trans (hA.mono hb3.size)
  have hF4 := (hF2.keep hb3).keep hA
  have hV4 := (hV2.keep hb3).keep hA
  have hF5 := hF3.keep hA
  have hV5 := hV3.keep hA
  have bw3 := bw2.trans (hb3.mono bw2.size)
  have bw4 := bw3.trans (hA.mono bw3.size)
  have hlw := W0.lt
  have hs3 := hb3.size
  have hmid := hV3.1
  clear hF3 hV3 hb3 hA bw2 bw3 W0
  obtain ⟨lg0, g0, g1, g2, g3, g4, g5, g6, _⟩ := id G0
  obtain ⟨lw0, v0, v1, v2, v3, v4, v5, v6, _⟩ := id W1
  go_wp2_with fail
  generalize hw4 : w3.alloc (.cells #[.int .i64 q, .slice ga n gc, .int .i64 nx, .int .i64 lg, .int .i64 sq, .slice ha N hc, .slice none 0 0] 30) = w4 at *
  have hs4 : w3.heap.size + 1 ≤ w4.heap.size := by rw [← hw4]; simp
  clear hw4
  refine (eqStore_same q nx lg sq n N 0 F2 noR noM nE ga fa ha va none none gc fc hc vc 0 0 _ hF5.row hF4 (vrow_no hV5) hV4 (erow_no _ _ _) (erow_no _ _ _) (by omega) (fsize2 n) (by omega) hM (by omega) (esize_no _)).mono ?_
  rintro e w5 ⟨rfl, hb5⟩
  have G5 := G0.keep hb5
  have W5 := W1.keep hb5
  have b25 := b24.trans (hb5.mono b24.size)
  have hFg := hF5.keep hb5
  have hVg := hV5.keep hb5
  have bw5 := bw4.trans (hb5.mono bw4.size)
  have hs5 := hb5.size
  clear G0 W1 hF4 hV4 hF5 hV5 hb5 bw4 b24 g0 g1 g2 g3 g4 g5 g6 v0 v1 v2 v3 v4 v5 v6 lg0 lw0
  obtain ⟨lg0, g0, g1, g2, g3, g4, g5, g6, _⟩ := id G5
  go_wp2_with fail
  refine (markStore_no q nx lg sq n N ga ha none gc hc 0 w2.heap.size mid w3.heap.size _ hVg hFg hm hmid (by omega) hn hN).mono ?_
  rintro e w6 ⟨rfl, hFm, hVm, hmd⟩
  have G6 := G5.mid hmd (.inr (Nat.le_refl _))
  have W6 := W5.mid hmd (.inl hlw)
  have hs6 := hmd.size
  have b26 : Below w2.heap.size w2 w6 := b25.trans ⟨hmd.os, hmd.tape, hmd.output, hmd.size, fun k hk => hmd.block k (by omega) (.inl hk)⟩
  have hle : w.heap.size ≤ w2.heap.size := by have := bw5.size; have := hb20; omega
  have bw6 : Below w.heap.size w w6 := bw5.trans ⟨hmd.os, hmd.tape, hmd.output, hmd.size, fun k hk => hmd.block k (by omega) (.inl (by omega))⟩
  have hK : cK F2 n ≤ 16 := by unfold cK; rw [used2]; omega
  have hheld := fun w h1 h2 => heldStore_no q nx lg sq n N ga ha none gc hc 0 w h1 h2 hn hN
  generalize cK F2 n = c at *
  clear G5 W5 hVg hFg hmd b25 bw5 g0 g1 g2 g3 g4 g5 g6 lg0
  obtain ⟨lg0, g0, g1, g2, g3, g4, g5, g6, _⟩ := id G6
  have hneg : ¬ ((c : Int) < 0) := by omega
  go_wp2_with fail
  refine (hheld _ hFm hVm).mono ?_
  rintro e w7 ⟨rfl, hb7⟩
  have G7 := G6.keep hb7
  have W7 := W6.keep hb7
  have hFm7 := hFm.keep hb7
  have hVm7 := hVm.keep hb7
  have b27 := b26.trans (hb7.mono b26.size)
  have bw7 := bw6.trans (hb7.mono bw6.size)
  clear G6 W6 hFm hVm hb7 b26 bw6 g0 g1 g2 g3 g4 g5 g6 lg0
  go_wp2_with fail
  refine (hI _).mono ?_
  rintro e w8 ⟨ka, kc, ja, jc, mid2, rfl, hm2, hV8, hF8, hb8⟩
  have hA : Below w8.heap.size w8 (w8.alloc (.cells #[.int .i64 q, .slice ka n kc, .int .i64 nx, .int .i64 lg, .int .i64 sq, .slice ja N jc, .slice none 0 0] 30)) := (Below.refl _ _).alloc (Nat.le_refl _) _
  have H0 := SX.new w8 30 q ka n kc nx lg sq ja N jc none 0 0
  have G9 := (G7.keep hb8).keep hA
  have W9 := (W7.keep hb8).keep hA
  have hFm9 := (hFm7.keep hb8).keep hA
  have hVm9 := (hVm7.keep hb8).keep hA
  have hF9 := hF8.keep hA
  have hV9 := hV8.keep hA
  have b28 := b27.trans (hb8.mono b27.size)
  have b29 := b28.trans (hA.mono b28.size)
  have bw8 := bw7.trans (hb8.mono bw7.size)
  have bw9 := bw8.trans (hA.mono bw8.size)
  have hFw := hF2.keep b29
  have hVw := hV2.keep b29
  clear G7 W7 hFm7 hVm7 hF8 hV8 hb8 hA b27 b28 bw7 bw8 hF2 hV2
  obtain ⟨lg0, g0, g1, g2, g3, g4, g5, g6, _⟩ := id H0
  obtain ⟨lw0, v0, v1, v2, v3, v4, v5, v6, _⟩ := id W9
  go_wp2_with fail
  generalize w8.alloc (.cells #[.int .i64 q, .slice ka n kc, .int .i64 nx, .int .i64 lg, .int .i64 sq, .slice ja N jc, .slice none 0 0] 30) = w9 at *
  refine (eqStore_same q nx lg sq n N 0 F2 noR noM nE ka fa ja va none none kc fc jc vc 0 0 _ hF9.row hFw (vrow_no hV9) hVw (erow_no _ _ _) (erow_no _ _ _) (by omega) (fsize2 n) (by omega) hM (by omega) (esize_no _)).mono ?_
  rintro e wa ⟨rfl, hba⟩
  have Ga := G9.keep hba
  have hFma := hFm9.keep hba
  have hVma := hVm9.keep hba
  have bwa := bw9.trans (hba.mono bw9.size)
  clear G9 W9 H0 hFm9 hVm9 hF9 hV9 hFw hVw hba b29 bw9 g0 g1 g2 g3 g4 g5 g6 v0 v1 v2 v3 v4 v5 v6 lg0 lw0
  obtain ⟨lg0, g0, g1, g2, g3, g4, g5, g6, _⟩ := id Ga
  go_wp2_with fail
  refine (hheld _ hFma hVma).mono ?_
  rintro e wb ⟨rfl, hbb2⟩
  have bwb := bwa.trans (hbb2.mono bwa.size)
  go_wp2
  go_ret
  exact ⟨rfl, bwb⟩

theorem newStore_law (Q : Int) (w : World) (hQ : -9223372036854775808 ≤ Q ∧ Q ≤ 9223372036854775807) :
    Calls Tryz.prog 3 #[.int .i64 Q] w fun e w' => e = .returned (.bool true) ∧ Below w.heap.size w w' := by
  by_cases hq : 0 ≤ Q ∧ Q ≤ 60000
  · exact newStore_lawQ Q Q 2 1 0 2 3 true w (by omega) (by omega) (fun w => newStore_specGood Q hq w) (fun w => newStore_impl Q Q 2 1 0 2 3 0 w (fun fa fc w hr => openStore_no Q fa fc hq w hr))
  · exact newStore_lawQ Q 0 0 0 0 0 0 false w (by omega) (by omega) (fun w => newStore_specBad Q hq w) (fun w => newStore_impl Q 0 0 0 0 0 0 1 w (fun fa fc w hr => openStore_bad2 Q fa fc hq hQ w hr))
end Go.Proofs.YtapmbgmmonhdoaaGreatDoor
