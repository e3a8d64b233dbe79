/- openBoard. -/
import Derived.Test.YtjdijikmdlklkaaOh
namespace Go.Proofs.Ytjdijikmdlklkaa
open Go.RowKit
set_option linter.unusedSimpArgs false
set_option linter.unusedVariables false

/-- A window that is not dirty. -/
def cln (X : Nat → Wn) (i : Nat) : Wn := (X i).w_di false
/-- The texts of the first k's dirty keys. -/
def dS (X : Nat → Wn) (k : Nat) (t : ByteArray) : Prop := ∃ i, i < k ∧ (X i).di = true ∧ t = kS (X i)
theorem dS_more {X : Nat → Wn} {k : Nat} (h : (X k).di = true) (t : ByteArray) : (dS X k t ∨ t = kS (X k)) ↔ dS X (k + 1) t := by
  constructor
  · rintro (⟨i, h1, h2, h3⟩ | e)
    · exact ⟨i, by omega, h2, h3⟩
    · exact ⟨k, by omega, h, e⟩
  · rintro ⟨i, h1, h2, h3⟩
    by_cases e : i = k
    · subst e; exact .inr h3
    · exact .inl ⟨i, by omega, h2, h3⟩
theorem dS_less {X : Nat → Wn} {k : Nat} (h : (X k).di = false) (t : ByteArray) : dS X k t ↔ dS X (k + 1) t := by
  constructor
  · rintro ⟨i, h1, h2, h3⟩
    exact ⟨i, by omega, h2, h3⟩
  · rintro ⟨i, h1, h2, h3⟩
    refine ⟨i, ?_, h2, h3⟩
    by_cases e : i = k
    · subst e; rw [h] at h2; cases h2
    · omega
theorem dS_new {z : Int} {X : Nat → Wn} {n k : Nat} (h : GWs z X n) (hk : k < n) : ¬ dS X k (kS (X k)) := by
  rintro ⟨i, h1, h2, h3⟩
  exact kS_ne h hk (show i < n by omega) (by omega) h3

/-- An append in a region that draws, by its run's equation. -/
theorem step_append_ty {P : Program} {w : World} {ops : Array Oper} {o : Oper} {a : Act} {K : Act → World → Prop} {Q : Exit → Act → World → Prop} {E : Prop} (hgd : o.guard = none) (s x : Operand) (t ty : TypeId)
    (ho : o.op = .call { callee := .builtin .append, args := #[s, x], argTypes := #[t, t] }) (hty : o.type = ty) (u v r : Value) (hs : a.eval s = u) (hx : a.eval x = v) (w' : World) (hrun : (Builtin.append_ #[t, t] ty #[u, v]).run P w = .ok r w') (h : K (a.put o.dst r) w') :
    if Region.wanted o (yielded ops a.tmps) = true then Oper.wp P o a w K Q else E := by
  have hw : Region.wanted o (yielded ops a.tmps) = true := by simp [Region.wanted, hgd]
  rw [if_pos hw]
  subst hty
  unfold Oper.wp execOp
  simp only [ho, resolve, invoke, builtin, Sem.run_bind, Sem.run_pure, Result.andThen_ok, List.map_toArray, List.map_cons, List.map_nil, hs, hx, hrun]
  exact h
theorem step_nil {w : World} {ops : Array Oper} {o : Oper} {a : Act} {K : Act → World → Prop} {Q : Exit → Act → World → Prop} {E : Prop} (hgd : o.guard = none) (k : Nat)
    (ho : o.op = .nilCheck (.tmp k)) (b q : Nat) (hx : a.eval (.tmp k) = .pointer (some ⟨b, q, none⟩)) (h : K (a.put o.dst (.pointer (some ⟨b, q, none⟩))) w) :
    if Region.wanted o (yielded ops a.tmps) = true then Oper.wp Try.prog o a w K Q else E := by
  have hw : Region.wanted o (yielded ops a.tmps) = true := by simp [Region.wanted, hgd]
  rw [if_pos hw]
  have hx' : a.tmps.getD k undef = .pointer (some ⟨b, q, none⟩) := hx
  unfold Oper.wp execOp
  simp only [ho, Act.eval, hx']
  go_simp
  exact h
end Go.Proofs.Ytjdijikmdlklkaa
