/- The law of ApplyEdit. -/
import Derived.Test.YtdcmclbbecnihaaCeLaw
import Derived.Test.YtdcmclbbecnihaaCt9
namespace Go.Proofs.Ytdcmclbbecnihaa
open Go.RowKit
set_option linter.unusedSimpArgs false
set_option linter.unusedVariables false

theorem applyEdit_lawL (vx vl vs : Int) (ao : Option Addr) (N cap : Nat) (LL : Nat → List Met) (nx lg sq : Int) (da : Option Addr) (cd : Nat) (D : List Int) (aa : Option Addr) (ca : Nat) (A : List Adm) (w : World)
    (hr : VRow w ao N (fun i => mL (LL i)) (fun i => (LL i).length)) (hi : IRow w da D.length (fi D)) (hy : DRow w aa A.length (dL A)) (hvx : -9223372036854775808 ≤ vx ∧ vx ≤ 9223372036854775807) (hN : N ≤ 9223372036854775807) (hdx : D.length ≤ 9223372036854775807) (hax : A.length ≤ 9223372036854775807) :
    Calls Try.prog 5 #[.agg #[.int .i64 vx, .int .i64 vl, .int .i64 vs, .slice ao N cap], .agg #[.int .i64 nx, .int .i64 lg, .int .i64 sq, .slice da D.length cd, .slice aa A.length ca]] w fun e w' => e = .returned (.bool true) ∧ Below w.heap.size w w' :=
  applyEdit_lawX vx vl vs ao N cap LL nx lg sq da cd D aa ca A w (fun g gd ga W hT hd ha k1 k2 k3 => applyEdit_spec vx vl vs _ N N LL nx lg sq _ D.length D _ A.length A W k1 k2 k3 (by omega) (by have h1 := sumM_tot (fun i => mL (LL i)) (fun i => (LL i).length) N; omega) hd ha hvx (Nat.le_refl _)) hr hi hy hvx hN hdx hax

/-- The law, of whatever rows. -/
theorem applyEdit_law (vx vl vs : Int) (ao : Option Addr) (N cap : Nat) (R : Nat → Nat → Met) (M : Nat → Nat) (nx lg sq : Int) (da : Option Addr) (nd cd : Nat) (f : Nat → Int) (aa : Option Addr) (na ca : Nat) (Y : Nat → Adm) (w : World) (hr : VRow w ao N R M) (hi : IRow w da nd f) (hy : DRow w aa na Y) (hvx : -9223372036854775808 ≤ vx ∧ vx ≤ 9223372036854775807) (hN : N ≤ 9223372036854775807) (_hb : (-9223372036854775808 ≤ nx ∧ nx ≤ 9223372036854775807) ∧ (-9223372036854775808 ≤ lg ∧ lg ≤ 9223372036854775807) ∧ (-9223372036854775808 ≤ sq ∧ sq ≤ 9223372036854775807)) (hdx : nd ≤ 9223372036854775807) (hax : na ≤ 9223372036854775807) :
    Calls Try.prog 5 #[.agg #[.int .i64 vx, .int .i64 vl, .int .i64 vs, .slice ao N cap], .agg #[.int .i64 nx, .int .i64 lg, .int .i64 sq, .slice da nd cd, .slice aa na ca]] w fun e w' => e = .returned (.bool true) ∧ Below w.heap.size w w' := by
  have e1 : (iL f nd).length = nd := lsI_fi f nd
  have e2 : (lsA Y na).length = na := lsA_len Y na
  have hi' : IRow w da (iL f nd).length (fi (iL f nd)) := by
    rw [e1]
    refine ⟨fun i => ?_, hi.lies.elim .inl fun ⟨b, off, e, hlt, hc⟩ => .inr ⟨b, off, e, hlt, fun i hi2 => ?_⟩⟩
    · by_cases h : i < nd
      · rw [iL_at f h]; exact hi.bd i
      · simp [fi, iL, h]
    · rw [iL_at f hi2]; exact hc i hi2
  have hy' : DRow w aa (lsA Y na).length (dL (lsA Y na)) := by
    rw [e2]
    exact hy.congr (fun i h => (lsA_at Y h).symm)
  have h := applyEdit_lawL vx vl vs ao N cap (fun i => lsM (R i) (M i)) nx lg sq da cd (iL f nd) aa ca (lsA Y na) w hr.toL hi' hy' hvx hN (by omega) (by omega)
  rw [e1, e2] at h
  exact h
end Go.Proofs.Ytdcmclbbecnihaa
