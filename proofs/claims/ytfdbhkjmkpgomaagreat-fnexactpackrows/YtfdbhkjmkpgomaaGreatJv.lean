/- What JoinRows answers can be held by a law. -/
import Derived.Test.YtfdbhkjmkpgomaaGreatJt
import Derived.Test.YtfdbhkjmkpgomaaGreatLw
namespace Go.Proofs.YtfdbhkjmkpgomaaGreat
set_option maxRecDepth 100000
open Go.RowKit
set_option linter.unusedSimpArgs false
set_option linter.unusedVariables false

theorem dR_len (R : Nat → Nat → Ent) (M : Nat → Nat) (i : Nat) : (dR R M i).length = M i := lX_len _ _
theorem dR_at {R : Nat → Nat → Ent} {M : Nat → Nat} {i j : Nat} (h : j < M i) : eL (dR R M i) j = R i j := lX_at h
theorem ERow.cast {w : World} {ao : Option Addr} {n m : Nat} {X : Nat → Ent} (h : ERow w ao n X) (e : n = m) : ERow w ao m X := e ▸ h
theorem RA.lr {w : World} {lo hi N : Nat} {R : Nat → Nat → Ent} {M : Nat → Nat} (h : RA w lo hi N R M) (hbd : ∀ i, i < N → ∀ j, j < M i → EB (R i j)) : LR w lo 0 N (dR R M) := by
  obtain ⟨A, H, h, _⟩ := h
  refine ⟨h.lt, fun i hi => ⟨some ⟨A i, 0, none⟩, M i, ?_, ?_, ((h.la i hi).row (hbd i hi)).congr (X' := eL (dR R M i)) (fun j hj => (dR_at hj).symm) |>.cast (dR_len R M i).symm⟩⟩
  · rw [Nat.zero_add, dR_len]; exact h.cell i hi
  · rw [dR_len]; exact Nat.le_refl _
theorem RRow.fb {w : World} {ao : Option Addr} {N : Nat} {R : Nat → Nat → Ent} {M : Nat → Nat} (h : RRow w ao N R M) : ∀ i, i < N → ∀ j, j < M i → ∀ q, -9223372036854775808 ≤ (R i j).f q ∧ (R i j).f q ≤ 9223372036854775807 := fun i hi => by
  obtain ⟨b, off, _, _, hc⟩ := h.lies.resolve_left (by omega)
  obtain ⟨da, dc, _, hr⟩ := hc i hi
  exact hr.fb
theorem dR_size {R : Nat → Nat → Ent} {M : Nat → Nat} {N : Nat} (h : N + totR R M N ≤ 1048576) : ∀ i, i < N → ESize (dR R M i).length (eL (dR R M i)) := fun i hi j hj => by
  rw [dR_len] at hj
  rw [dR_at hj]
  have := totR_le (R := R) (M := M) hi
  exact tot_size (B := 1048576) (by omega) j hj
theorem mg_sm {w : World} {ao : Option Addr} {N : Nat} {R : Nat → Nat → Ent} {M : Nat → Nat} (hr : RRow w ao N R M) (h : RowsOk N (dR R M)) : SmL (mg N (dR R M)) := fun x hx => by
  obtain ⟨i, hi, hx2⟩ := mem_fl.1 ((mg_perm N _ _ rfl).mem_iff.1 hx)
  obtain ⟨j, hj, e⟩ := List.getElem_of_mem hx2
  have hj2 : j < M i := by rw [dR_len] at hj; exact hj
  have e2 : R i j = x := by rw [← e, ← eL_get hj, dR_at hj2]
  have hg := (h.2.2.1 i hi).1 x hx2
  exact hg.sm (by rw [← e2]; exact hr.bd i hi j hj2) (by rw [← e2]; exact hr.fb i hi j hj2)
theorem joo_of {w : World} {ao : Option Addr} {N : Nat} {R : Nat → Nat → Ent} {M : Nat → Nat} (hr : RRow w ao N R M) : ∃ (E : List Ent) (c : Bool), SmL E ∧ E.length ≤ 1000 ∧ ∀ w e w', JoO N (dR R M) w e w' → AnE E c w e w' := by
  by_cases h : RowsOk N (dR R M)
  · exact ⟨mg N (dR R M), true, mg_sm hr h, by rw [mg_len]; have := h.2.1; omega, fun w e w' hp => hp.1 h⟩
  · exact ⟨[], false, (fun x hx => nomatch hx), by simp, fun w e w' hp => hp.2 h⟩
end Go.Proofs.YtfdbhkjmkpgomaaGreat
