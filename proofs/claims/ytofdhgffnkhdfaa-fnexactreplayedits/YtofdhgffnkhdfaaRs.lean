/- ReplayEdits: one outcome for both texts. -/
import Derived.Test.YtofdhgffnkhdfaaRq
import Derived.Test.YtofdhgffnkhdfaaEm
namespace Go.Proofs.Ytofdhgffnkhdfaa
open Go.RowKit
set_option linter.unusedSimpArgs false
set_option linter.unusedVariables false

theorem rv_zero {w w' : World} (h : Below w.heap.size w w') : RvO 0 0 0 0 (fun _ => []) 0 false w (.returned (.tuple #[.agg #[.int .i64 0, .int .i64 0, .int .i64 0, .slice none 0 0], .int .i64 0, .bool false])) w' :=
  ⟨none, 0, rfl, ⟨Nat.le_refl _, .inl rfl⟩, h⟩
set_option maxRecDepth 100000 in
set_option maxHeartbeats 1600000 in
theorem replayEdits_implN (ao : Option Addr) (n cap : Nat) (w : World) (hn : 60 < n) (hnx : n ≤ 1048576) :
    Calls Try.prog 7 #[.slice ao n cap] w fun e w' => RvO 0 0 0 0 (fun _ => []) 0 false w e w' := by
  have hng : (60 : Int) < (n : Int) := by omega
  have b0 := below_new w (.cells #[.int .i64 0, .int .i64 0, .int .i64 0, .slice none 0 0] 26)
  go_enter Try.func7, Try.ntmps7
  go_wp2
  refine bodyPost_ret (v := .tuple #[.agg #[.int .i64 0, .int .i64 0, .int .i64 0, .slice none 0 0], .int .i64 0, .bool false]) (by simp [results, Try.results7, go_sem]) rfl (rv_zero ?_)
  repeat' refine Below.setCell ?_ (by first | (simp; done) | (simp; omega)) _
  exact b0
set_option maxRecDepth 100000 in
set_option maxHeartbeats 1600000 in
theorem replayEdits_specN (ao : Option Addr) (n cap : Nat) (w : World) (hn : 60 < n) (hnx : n ≤ 1048576) :
    Calls Try.prog 5 #[.slice ao n cap] w fun e w' => RvO 0 0 0 0 (fun _ => []) 0 false w e w' := by
  have hng : (60 : Int) < (n : Int) := by omega
  have b0 := below_new w (.cells #[.int .i64 0, .int .i64 0, .int .i64 0, .slice none 0 0] 26)
  go_enter Try.func5, Try.ntmps5
  go_wp2
  refine bodyPost_ret (v := .tuple #[.agg #[.int .i64 0, .int .i64 0, .int .i64 0, .slice none 0 0], .int .i64 0, .bool false]) (by simp [results, Try.results5, go_sem]) rfl (rv_zero ?_)
  repeat' refine Below.setCell ?_ (by first | (simp; done) | (simp; omega)) _
  exact b0
set_option maxRecDepth 100000 in
set_option maxHeartbeats 1600000 in
theorem replayEdits_spec (ao : Option Addr) (n cap : Nat) (E : Nat → Edt) (K : Nat) (w : World) (hr : EdRow true w ao n E) (hn : n ≤ 60) (hz : EdSize n E) (hK : Hid (Ends E n K)) :
    Calls Try.prog 5 #[.slice ao n cap] w fun e w' => RvO (rpV E K).nx (rpV E K).lg (rpV E K).sq 3 (rpV E K).LL K true w e w' := by
  have hng : ¬ (60 : Int) < (n : Int) := by omega
  have b0 := below_new w (.cells #[.int .i64 0, .int .i64 0, .int .i64 0, .slice none 0 0] 26)
  have Z0 := VZ.new w 0 0 0 none 0 0 26
  have s0 : (w.alloc (.cells #[.int .i64 0, .int .i64 0, .int .i64 0, .slice none 0 0] 26)).heap.size = w.heap.size + 1 := by simp
  go_enter Try.func5, Try.ntmps5
  go_wp2_with fail
  refine (l9Replay_any ao n cap E K _ (hr.keep b0) hn hz hK).mono ?_
  rintro e w1 ⟨va, vc, rfl, V1, q1⟩
  obtain ⟨v, hv⟩ : ∃ v, v = rpV E K := ⟨_, rfl⟩
  rw [← hv] at V1 ⊢
  have HV : Hid (v = rpV E K) := hv
  clear hv
  have bn1 := below_new w1 (.cells #[.int .i64 v.nx, .int .i64 v.lg, .int .i64 v.sq, .slice va 3 vc] 26)
  obtain ⟨_, y0, y1, y2, y3⟩ := VX.new w1 v.nx v.lg v.sq va 3 vc 26
  obtain ⟨⟨lr, d0, d1, d2, d3⟩, df⟩ := (Z0.keep q1).keep bn1
  have bel := (b0.trans (q1.mono b0.size)).trans (bn1.mono (Nat.le_trans b0.size q1.size))
  have V2 := V1.keep bn1
  have s1 := q1.size
  have t1 : (w1.alloc (.cells #[.int .i64 v.nx, .int .i64 v.lg, .int .i64 v.sq, .slice va 3 vc] 26)).heap.size = w1.heap.size + 1 := by simp
  clear V1 q1 Z0 b0 bn1
  go_wp2
  generalize w1.alloc (.cells #[.int .i64 v.nx, .int .i64 v.lg, .int .i64 v.sq, .slice va 3 vc] 26) = w2 at *
  try rw [← HV.out]
  refine bodyPost_ret (v := .tuple #[.agg #[.int .i64 v.nx, .int .i64 v.lg, .int .i64 v.sq, .slice va 3 vc], .int .i64 K, .bool true]) (by simp [results, Try.results5, go_sem, d0, d1, d2, d3]) rfl ⟨va, vc, rfl, ?_, ?_⟩
  · refine VA.mono (V2.same (by simp) (fun q h1 _ => ?_)) (by omega) (by have := V2.1; simp; omega) (Nat.le_refl _)
    repeat' refine (Below.heap_setCell _ _ _ _ (by first | omega | (dsimp only; omega))).trans ?_
    rfl
  · repeat' refine Below.setCell ?_ (by first | (simp; done) | (simp; omega)) _
    exact bel
/-- What ReplayEdits answers, in both texts. -/
theorem re_out (n : Nat) (E : Nat → Edt) (hn : n ≤ 1048576) (hz : EdSize n E) : ∃ (nx lg sq : Int) (N : Nat) (LA : Nat → List Met) (k : Int) (ok : Bool), Avs nx lg sq N LA ok ∧
    (∀ (ao : Option Addr) (cap : Nat) (w : World), EdRow true w ao n E → Calls Try.prog 5 #[.slice ao n cap] w fun e w' => RvO nx lg sq N LA k ok w e w') ∧
    (∀ (ao : Option Addr) (cap : Nat) (w : World), EdRow false w ao n E → Calls Try.prog 7 #[.slice ao n cap] w fun e w' => RvO nx lg sq N LA k ok w e w') := by
  by_cases h60 : n ≤ 60
  · obtain ⟨K, hK⟩ := ends_ex E n
    exact ⟨_, _, _, 3, _, K, true, (rp_avs hK.2.1 true).1, fun ao cap w hr => replayEdits_spec ao n cap E K w hr h60 hz hK, fun ao cap w hr => replayEdits_impl ao n cap E K w hr h60 hz hK⟩
  · exact ⟨0, 0, 0, 0, fun _ => [], 0, false, ⟨by omega, fun i hi => by omega, fun i hi => by omega⟩, fun ao cap w _ => replayEdits_specN ao n cap w (by omega) hn, fun ao cap w _ => replayEdits_implN ao n cap w (by omega) hn⟩
end Go.Proofs.Ytofdhgffnkhdfaa
