/- Told ones in a row that may be written: read, written, exchanged. -/
import Derived.Test.YtjdijikmdlklkaaYr
import Derived.Test.YtjdijikmdlklkaaOh
import Derived.WalkKit
import Derived.OwnWalk
namespace Go.Proofs.Ytjdijikmdlklkaa
open Go.RowKit
set_option linter.unusedSimpArgs false
set_option linter.unusedVariables false

/-- A told one as a value. -/
def tv (c : Nat → Value) : Value := .agg #[c 0, c 1, c 2, c 3, c 4, c 5, c 6, c 7, c 8, c 9]
/-- The cells of a told one lie at q. -/
def Lie10 (w : World) (b q : Nat) (c : Nat → Value) : Prop := ∀ j, j < 10 → w.cell? ⟨b, q + j, none⟩ = some (c j)
/-- Place p holds what was x p at first. -/
structure AR (w : World) (b n : Nat) (C : Nat → Nat → Value) (x : Nat → Nat) : Prop where
  lt : b < w.heap.size
  at' : ∀ p, p < n → Lie10 w b (p * 10) (C (x p))
  fz : ∀ j, j < n * 10 → w.frozen? ⟨b, j, none⟩ = false
/-- Block b is written alone. -/
structure WrB (b : Nat) (w w' : World) : Prop where
  os : w'.os = w.os
  tape : w'.tape = w.tape
  output : w'.output = w.output
  size : w.heap.size ≤ w'.heap.size
  block : ∀ k, k < w.heap.size → k ≠ b → w'.heap[k]? = w.heap[k]?
theorem WrB.refl (b : Nat) (w : World) : WrB b w w := ⟨rfl, rfl, rfl, Nat.le_refl _, fun _ _ _ => rfl⟩
theorem WrB.trans {b : Nat} {w u v : World} (h : WrB b w u) (k : WrB b u v) : WrB b w v := ⟨k.os.trans h.os, k.tape.trans h.tape, k.output.trans h.output, Nat.le_trans h.size k.size, fun i hi hn => (k.block i (Nat.lt_of_lt_of_le hi h.size) hn).trans (h.block i hi hn)⟩
theorem WrB.of_below {b : Nat} {w u : World} (h : Below w.heap.size w u) : WrB b w u := ⟨h.os, h.tape, h.output, h.size, fun i hi _ => h.block i hi⟩
theorem WrB.of_others {b : Nat} {w u : World} (h : Others b w u) : WrB b w u := ⟨h.os, h.tape, h.output, by rw [h.size]; exact Nat.le_refl _, fun i _ hn => h.block i hn⟩
theorem WrB.drew {b : Nat} {w u : World} (h : WrB b w u) : WrB b w u.drew := ⟨h.os, h.tape, h.output, h.size, h.block⟩
theorem AR.keep {w u : World} {b n : Nat} {C : Nat → Nat → Value} {x : Nat → Nat} (h : AR w b n C x) (hb : Below w.heap.size w u) : AR u b n C x :=
  ⟨Nat.lt_of_lt_of_le h.lt hb.size, fun p hp j hj => (hb.cell (p := ⟨b, p * 10 + j, none⟩) h.lt).trans (h.at' p hp j hj), fun j hj => (hb.frozen (p := ⟨b, j, none⟩) h.lt).trans (h.fz j hj)⟩
theorem AR.eqx {w : World} {b n : Nat} {C : Nat → Nat → Value} {x y : Nat → Nat} (h : AR w b n C x) (e : x = y) : AR w b n C y := e ▸ h

/-- Ten cells written. -/
def lay10 (w : World) (b q : Nat) (c : Nat → Value) : World := (((((((((w.setCell ⟨b, q, none⟩ (c 0)).setCell ⟨b, q + 1, none⟩ (c 1)).setCell ⟨b, q + 2, none⟩ (c 2)).setCell ⟨b, q + 3, none⟩ (c 3)).setCell ⟨b, q + 4, none⟩ (c 4)).setCell ⟨b, q + 5, none⟩ (c 5)).setCell ⟨b, q + 6, none⟩ (c 6)).setCell ⟨b, q + 7, none⟩ (c 7)).setCell ⟨b, q + 8, none⟩ (c 8)).setCell ⟨b, q + 9, none⟩ (c 9)
theorem lay10_others (w : World) (b q : Nat) (c : Nat → Value) : Others b w (lay10 w b q c) := by
  unfold lay10
  exact ((((((((((Others.setCell _ _ _ _).trans (Others.setCell _ _ _ _)).trans (Others.setCell _ _ _ _)).trans (Others.setCell _ _ _ _)).trans (Others.setCell _ _ _ _)).trans (Others.setCell _ _ _ _)).trans (Others.setCell _ _ _ _)).trans (Others.setCell _ _ _ _)).trans (Others.setCell _ _ _ _)).trans (Others.setCell _ _ _ _))
theorem set_out {w : World} {b q r : Nat} {v : Value} (h : q ≠ r) : (w.setCell ⟨b, q, none⟩ v).cell? ⟨b, r, none⟩ = w.cell? ⟨b, r, none⟩ := World.cell?_setCell_other _ _ _ _ (by intro e; injection e with _ e _; exact h e)
theorem set_in {w : World} {b q : Nat} {v u : Value} (h : w.cell? ⟨b, q, none⟩ = some u) : (w.setCell ⟨b, q, none⟩ v).cell? ⟨b, q, none⟩ = some v := World.cell?_setCell_same' _ _ _ (by rw [h]; rfl)
theorem lay10_out {w : World} {b q r : Nat} {c : Nat → Value} (h : r < q ∨ q + 10 ≤ r) : (lay10 w b q c).cell? ⟨b, r, none⟩ = w.cell? ⟨b, r, none⟩ := by
  unfold lay10
  rw [set_out (by omega), set_out (by omega), set_out (by omega), set_out (by omega), set_out (by omega), set_out (by omega), set_out (by omega), set_out (by omega), set_out (by omega), set_out (by omega)]
theorem lay10_in {w : World} {b q : Nat} {c d : Nat → Value} (h : Lie10 w b q d) : Lie10 (lay10 w b q c) b q c := by
  have hs : ∀ j, j < 10 → (w.cell? ⟨b, q + j, none⟩).isSome = true := fun j hj => by rw [h j hj]; rfl
  intro j hj
  have hk : ∀ j, j < 10 → ∃ u, w.cell? ⟨b, q + j, none⟩ = some u := fun j hj => ⟨_, h j hj⟩
  obtain ⟨u, hu⟩ := hk j hj
  unfold lay10
  rcases j with _ | _ | _ | _ | _ | _ | _ | _ | _ | _ | j
  · rw [set_out (by omega), set_out (by omega), set_out (by omega), set_out (by omega), set_out (by omega), set_out (by omega), set_out (by omega), set_out (by omega), set_out (by omega)]
    exact set_in (u := u) hu
  · rw [set_out (by omega), set_out (by omega), set_out (by omega), set_out (by omega), set_out (by omega), set_out (by omega), set_out (by omega), set_out (by omega)]
    exact set_in (u := u) (by rw [set_out (by omega)]; exact hu)
  · rw [set_out (by omega), set_out (by omega), set_out (by omega), set_out (by omega), set_out (by omega), set_out (by omega), set_out (by omega)]
    exact set_in (u := u) (by rw [set_out (by omega), set_out (by omega)]; exact hu)
  · rw [set_out (by omega), set_out (by omega), set_out (by omega), set_out (by omega), set_out (by omega), set_out (by omega)]
    exact set_in (u := u) (by rw [set_out (by omega), set_out (by omega), set_out (by omega)]; exact hu)
  · rw [set_out (by omega), set_out (by omega), set_out (by omega), set_out (by omega), set_out (by omega)]
    exact set_in (u := u) (by rw [set_out (by omega), set_out (by omega), set_out (by omega), set_out (by omega)]; exact hu)
  · rw [set_out (by omega), set_out (by omega), set_out (by omega), set_out (by omega)]
    exact set_in (u := u) (by rw [set_out (by omega), set_out (by omega), set_out (by omega), set_out (by omega), set_out (by omega)]; exact hu)
  · rw [set_out (by omega), set_out (by omega), set_out (by omega)]
    exact set_in (u := u) (by rw [set_out (by omega), set_out (by omega), set_out (by omega), set_out (by omega), set_out (by omega), set_out (by omega)]; exact hu)
  · rw [set_out (by omega), set_out (by omega)]
    exact set_in (u := u) (by rw [set_out (by omega), set_out (by omega), set_out (by omega), set_out (by omega), set_out (by omega), set_out (by omega), set_out (by omega)]; exact hu)
  · rw [set_out (by omega)]
    exact set_in (u := u) (by rw [set_out (by omega), set_out (by omega), set_out (by omega), set_out (by omega), set_out (by omega), set_out (by omega), set_out (by omega), set_out (by omega)]; exact hu)
  · exact set_in (u := u) (by rw [set_out (by omega), set_out (by omega), set_out (by omega), set_out (by omega), set_out (by omega), set_out (by omega), set_out (by omega), set_out (by omega), set_out (by omega)]; exact hu)
  · omega
theorem frozen_set1 (w : World) (p a : Addr) (v : Value) : (w.setCell p v).frozen? a = w.frozen? a := by simp [go_sem]
theorem lay10_fz (w : World) (b q : Nat) (c : Nat → Value) (a : Addr) : (lay10 w b q c).frozen? a = w.frozen? a := by
  unfold lay10
  simp only [frozen_set1]
/-- One place written. -/
theorem AR.put {w : World} {b n : Nat} {C : Nat → Nat → Value} {x : Nat → Nat} (h : AR w b n C x) {p v : Nat} (hp : p < n) : AR (lay10 w b (p * 10) (C v)) b n C (fun k => if k = p then v else x k) := by
  have ho := lay10_others w b (p * 10) (C v)
  refine ⟨by rw [ho.size]; exact h.lt, fun k hk => ?_, fun j hj => by rw [lay10_fz]; exact h.fz j hj⟩
  by_cases e : k = p
  · subst e
    simp only [if_true]
    exact lay10_in (h.at' k hp)
  · simp only [e, if_false]
    intro j hj
    rw [lay10_out (by omega)]
    exact h.at' k hk j hj
/-- Two places exchanged. -/
theorem AR.swap {w : World} {b n : Nat} {C : Nat → Nat → Value} {x : Nat → Nat} (h : AR w b n C x) {p q : Nat} (hp : p < n) (hq : q < n) (hne : p ≠ q) : AR (lay10 (lay10 w b (p * 10) (C (x q))) b (q * 10) (C (x p))) b n C (sw1 x p q) ∧ WrB b w (lay10 (lay10 w b (p * 10) (C (x q))) b (q * 10) (C (x p))) := by
  refine ⟨((h.put (v := x q) hp).put (v := x p) hq).eqx ?_, WrB.of_others ((lay10_others _ _ _ _).trans (lay10_others _ _ _ _))⟩
  funext k
  unfold sw1
  by_cases e1 : k = q
  · subst e1
    simp only [if_true]
    rw [if_neg (fun e => hne e.symm)]
  · simp only [e1, if_false]
section
variable {ops : Array Oper} {Q : Exit → Act → World → Prop} {w : World} {o : Oper} {a : Act} {K : Act → World → Prop} {E : Prop} {b q : Nat} {c d : Nat → Value}
theorem ldT (k : Nat) (ho : o.op = .load 45 (.tmp k)) (hp : a.eval (.tmp k) = .pointer (some ⟨b, q, none⟩)) (h : Lie10 w b q c) : (execOp a.eval o).run Try.prog w = .ok (.value (tv c)) w := by
  have h0 := h 0 (by omega)
  have h1 := h 1 (by omega)
  have h2 := h 2 (by omega)
  have h3 := h 3 (by omega)
  have h4 := h 4 (by omega)
  have h5 := h 5 (by omega)
  have h6 := h 6 (by omega)
  have h7 := h 7 (by omega)
  have h8 := h 8 (by omega)
  have h9 := h 9 (by omega)
  rw [Nat.add_zero] at h0
  have hp' : a.tmps.getD k undef = .pointer (some ⟨b, q, none⟩) := hp
  unfold execOp tv
  simp only [ho, Act.eval, hp']
  go_simp
theorem step_storeT (hgd : o.guard = none) (k j : Nat) (ho : o.op = .store 45 (.tmp k) (.tmp j)) (hx : a.eval (.tmp k) = .pointer (some ⟨b, q, none⟩)) (hv : a.eval (.tmp j) = tv c) (h : Lie10 w b q d) (hf : ∀ i, i < 10 → w.frozen? ⟨b, q + i, none⟩ = false) (h1 : ∀ i, i < 10 → (c i).oneCell' = true)
    (hk : K (a.put o.dst undef) (lay10 w b q c)) :
    if Region.wanted o (yielded ops a.tmps) = true then Oper.wp Try.prog o a w K Q else E := by
  have hw : Region.wanted o (yielded ops a.tmps) = true := by simp [Region.wanted, hgd]
  rw [if_pos hw]
  have hx' : a.tmps.getD k undef = .pointer (some ⟨b, q, none⟩) := hx
  have hv' : a.tmps.getD j undef = tv c := hv
  have c0 := h 0 (by omega)
  have c1 := h 1 (by omega)
  have c2 := h 2 (by omega)
  have c3 := h 3 (by omega)
  have c4 := h 4 (by omega)
  have c5 := h 5 (by omega)
  have c6 := h 6 (by omega)
  have c7 := h 7 (by omega)
  have c8 := h 8 (by omega)
  have c9 := h 9 (by omega)
  have f0 := hf 0 (by omega)
  have f1 := hf 1 (by omega)
  have f2 := hf 2 (by omega)
  have f3 := hf 3 (by omega)
  have f4 := hf 4 (by omega)
  have f5 := hf 5 (by omega)
  have f6 := hf 6 (by omega)
  have f7 := hf 7 (by omega)
  have f8 := hf 8 (by omega)
  have f9 := hf 9 (by omega)
  have o0 : ∀ w a m, (store a (c 0) m).run Try.prog w = stored Try.prog w a (c 0) m := fun w a m => run_store _ _ _ _ _ (h1 0 (by omega))
  have o1 : ∀ w a m, (store a (c 1) m).run Try.prog w = stored Try.prog w a (c 1) m := fun w a m => run_store _ _ _ _ _ (h1 1 (by omega))
  have o2 : ∀ w a m, (store a (c 2) m).run Try.prog w = stored Try.prog w a (c 2) m := fun w a m => run_store _ _ _ _ _ (h1 2 (by omega))
  have o3 : ∀ w a m, (store a (c 3) m).run Try.prog w = stored Try.prog w a (c 3) m := fun w a m => run_store _ _ _ _ _ (h1 3 (by omega))
  have o4 : ∀ w a m, (store a (c 4) m).run Try.prog w = stored Try.prog w a (c 4) m := fun w a m => run_store _ _ _ _ _ (h1 4 (by omega))
  have o5 : ∀ w a m, (store a (c 5) m).run Try.prog w = stored Try.prog w a (c 5) m := fun w a m => run_store _ _ _ _ _ (h1 5 (by omega))
  have o6 : ∀ w a m, (store a (c 6) m).run Try.prog w = stored Try.prog w a (c 6) m := fun w a m => run_store _ _ _ _ _ (h1 6 (by omega))
  have o7 : ∀ w a m, (store a (c 7) m).run Try.prog w = stored Try.prog w a (c 7) m := fun w a m => run_store _ _ _ _ _ (h1 7 (by omega))
  have o8 : ∀ w a m, (store a (c 8) m).run Try.prog w = stored Try.prog w a (c 8) m := fun w a m => run_store _ _ _ _ _ (h1 8 (by omega))
  have o9 : ∀ w a m, (store a (c 9) m).run Try.prog w = stored Try.prog w a (c 9) m := fun w a m => run_store _ _ _ _ _ (h1 9 (by omega))
  rw [Nat.add_zero] at c0 f0
  unfold lay10 at hk
  unfold tv at hv'
  unfold Oper.wp execOp
  simp only [ho, Act.eval, hx', hv']
  go_simp
  exact hk
end
end Go.Proofs.Ytjdijikmdlklkaa
