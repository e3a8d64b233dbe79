/- A region that draws its order, walked in one order: what is held of the world is shown anew behind each operation but those that wait for the one that is taken first (so a region may write, at its end, what it read at its beginning). -/
import Derived.Test.YtjdijikmdlklkaaWb
import Derived.OrdersHeld
import Derived.StillTail
namespace Go.Proofs.Ytjdijikmdlklkaa
open Go.RowKit
set_option linter.unusedSimpArgs false
set_option linter.unusedVariables false

section
variable {P : Program} {ops : Array Oper} {Q : Exit → Act → World → Prop} {md : Region.Mode} {S : World → Prop} {W : Nat → Bool}

/-- Whatever order comes up; S is shown behind the operations that W names. -/
def wpW (P : Program) (md : Region.Mode) (ops : Array Oper) (Q : Exit → Act → World → Prop) (S : World → Prop) (W : Nat → Bool) : Nat → Array Bool → Act → World → Prop
  | 0, L, a, w => Region.ready md ops L = [] ∧ Q .normal a w
  | f + 1, L, a, w => (Region.ready md ops L = [] → Q .normal a w) ∧ ∀ j ∈ Region.ready md ops L, wpOp P ops Q j (fun a' w' => (W j = true → S w') ∧ wpW P md ops Q S W f (L.setIfInBounds j true) a' w') a w

theorem wpW_any : ∀ (f : Nat) (L : Array Bool) (a : Act) (w : World), wpW P md ops Q S W f L a w → wpAny P md ops Q f L a w
  | 0, _, _, _, h => h
  | f + 1, L, a, w, h => ⟨h.1, fun j hj => wpOp_mono (fun a' w' h' => wpW_any f _ a' w' h'.2) (h.2 j hj)⟩

/-- One that may come up is taken first: it yields its value in every world that meets S, and each other one waits for it, or lies apart from it and leaves S. -/
theorem wpW_first {i : Nat} {oi : Oper} {v : Value} (hi : ops[i]? = some oi) (hsel : ∀ (j : Nat) (o : Oper) cs b, ops[j]? = some o → o.op ≠ .select cs b)
    (hQ : ∀ c a w, Q (.panic c) (a.put oi.dst v) w → Q (.panic c) a w) (hW : ∀ j, j < ops.size → W j = false → Region.waitsFor md ops j i = true) :
    ∀ (f : Nat) (L : Array Bool) (a : Act) (w : World),
      (∀ j oj, ops[j]? = some oj → j ≠ i → L.getD j true = false → (∀ e ∈ oj.after, Region.binds md e = true → e.on ≠ i) → oi.apart ops oj = true) →
      i ∈ Region.ready md ops L → YieldsIf P ops S oi v a → S w → wpW P md ops Q S W f (L.setIfInBounds i true) (a.put oi.dst v) w → wpW P md ops Q S W (f + 1) L a w
  | 0, L, a, w, _, hr, hy, hS, H => by
    refine ⟨fun h0 => (by rw [h0] at hr; cases hr), fun j hj => ?_⟩
    by_cases e : j = i
    · subst e
      exact hy.wpOp hi hS ⟨fun _ => hS, H⟩
    · have h1 := ready_mono hj e
      rw [H.1] at h1
      cases h1
  | f + 1, L, a, w, hfree, hr, hy, hS, H => by
    refine ⟨fun h0 => (by rw [h0] at hr; cases hr), fun j hj => ?_⟩
    by_cases e : j = i
    · subst e
      exact hy.wpOp hi hS ⟨fun _ => hS, H⟩
    obtain ⟨hjun, oj, hoj, hall⟩ := mem_ready.1 hj
    have hjl : j < ops.size := (Array.getElem?_eq_some_iff.1 hoj).1
    have hun := (mem_ready.1 hr).1
    have hnw : ∀ ed ∈ oj.after, Region.binds md ed = true → ed.on ≠ i := by
      intro ed he hb heq
      have h1 := hall ed he hb
      rw [heq] at h1
      have h2 := getD_both hun
      rw [h2] at h1
      cases h1
    have hWj : W j = true := by
      cases hc : W j with
      | true => rfl
      | false =>
        obtain ⟨o', ho', ed, he, hb, hon⟩ := Region.waitsFor_spec (hW j hjl hc)
        rw [hoj] at ho'
        injection ho' with ho'
        subst ho'
        exact absurd hon (hnw ed he hb)
    have h2 := wpOp_putIf hoj (hfree j oj hoj e hjun hnw) (fun cs b => hsel i oi cs b hi) (fun cs b => hsel j oj cs b hoj) hQ hy (H.2 j (ready_mono hj e))
    refine wpOp_mono (fun a' w' h3 => ?_) h2
    have hS' := h3.2.1 hWj
    refine ⟨fun _ => hS', wpW_first hi hsel hQ hW f (L.setIfInBounds j true) a' w' (fun k ok hk hki hku hno => ?_) (ready_mono hr (Ne.symm e)) h3.1 hS' ?_⟩
    · refine hfree k ok hk hki ?_ hno
      by_cases ejk : j = k
      · subst ejk; exact hjun
      · rw [getD_set_ne true ejk] at hku; exact hku
    · rw [Array.setIfInBounds_comm _ _ e]
      exact h3.2.2

/-- Number i taken first. -/
theorem wpW_take (i : Nat) (oi : Oper) (v : Value) {f : Nat} {L : Array Bool} {a : Act} {w : World} (hi : ops[i]? = some oi) (hs : Region.noSelect ops = true) (hf : Region.free md ops L i = true) (hr : (Region.ready md ops L).contains i = true)
    (hQ : ∀ c a w, Q (.panic c) (a.put oi.dst v) w → Q (.panic c) a w) (hW : ((List.range ops.size).all fun j => W j || Region.waitsFor md ops j i) = true) (hy : YieldsIf P ops S oi v a) (hS : S w)
    (h : wpW P md ops Q S W f (L.setIfInBounds i true) (a.put oi.dst v) w) : wpW P md ops Q S W (f + 1) L a w :=
  wpW_first hi (Region.noSelect_spec hs) hQ (fun j hj hw => by
    have := List.all_eq_true.1 hW j (List.mem_range.2 hj)
    rw [hw] at this
    simpa using this) f L a w (Region.free_spec hi hf) (by simpa using hr) hy hS h
/-- The only one that may come up. -/
theorem wpW_one (i : Nat) (oi : Oper) {f : Nat} {L : Array Bool} {a : Act} {w : World} (hi : ops[i]? = some oi) (hr : Region.ready md ops L = [i])
    (h : if Region.wanted oi (yielded ops a.tmps) = true then Oper.wp P oi a w (fun a' w' => (W i = true → S w') ∧ wpW P md ops Q S W f (L.setIfInBounds i true) a' w') Q else False) : wpW P md ops Q S W (f + 1) L a w := by
  refine ⟨fun h0 => (by rw [hr] at h0; cases h0), fun j hj => ?_⟩
  rw [hr] at hj
  obtain rfl := List.mem_singleton.1 hj
  unfold wpOp
  rw [hi]
  dsimp only
  by_cases hw : Region.wanted oi (yielded ops a.tmps) = true
  · rw [if_pos hw] at h ⊢
    exact .inl h
  · rw [if_neg hw] at h
    exact h.elim
/-- The only two that may come up. -/
theorem wpW_two (i j : Nat) (oi oj : Oper) {f : Nat} {L : Array Bool} {a : Act} {w : World} (hi : ops[i]? = some oi) (hj : ops[j]? = some oj) (hr : Region.ready md ops L = [i, j])
    (h : if Region.wanted oi (yielded ops a.tmps) = true then Oper.wp P oi a w (fun a' w' => (W i = true → S w') ∧ wpW P md ops Q S W f (L.setIfInBounds i true) a' w') Q else False)
    (h' : if Region.wanted oj (yielded ops a.tmps) = true then Oper.wp P oj a w (fun a' w' => (W j = true → S w') ∧ wpW P md ops Q S W f (L.setIfInBounds j true) a' w') Q else False) : wpW P md ops Q S W (f + 1) L a w := by
  refine ⟨fun h0 => (by rw [hr] at h0; cases h0), fun k hk => ?_⟩
  rw [hr] at hk
  simp only [List.mem_cons, List.not_mem_nil, or_false] at hk
  unfold wpOp
  rcases hk with rfl | rfl
  · rw [hi]
    dsimp only
    by_cases hw : Region.wanted oi (yielded ops a.tmps) = true
    · rw [if_pos hw] at h ⊢
      exact .inl h
    · rw [if_neg hw] at h
      exact h.elim
  · rw [hj]
    dsimp only
    by_cases hw : Region.wanted oj (yielded ops a.tmps) = true
    · rw [if_pos hw] at h' ⊢
      exact .inl h'
    · rw [if_neg hw] at h'
      exact h'.elim
theorem wpW_done {f : Nat} {L : Array Bool} {a : Act} {w : World} (hr : Region.ready md ops L = []) (h : Q .normal a w) : wpW P md ops Q S W f L a w := by
  cases f with
  | zero => exact ⟨hr, h⟩
  | succ f => exact ⟨fun _ => h, fun j hj => by rw [hr] at hj; cases hj⟩
theorem wp_region_w (S : World → Prop) (W : Nat → Bool) {id : Nat} {a : Act} {w : World} (hm : P.follows .mixedOrders = true)
    (h : wpW P .any ops Q S W ops.size (Array.replicate ops.size false) a { w with drawn := w.drawn + 1 }) : (Code.region id ops true).wp P Q a w :=
  wp_region_any hm (wpW_any _ _ _ _ h)
/-- A step that yields a value. -/
theorem step_val {w w' : World} {o : Oper} {a : Act} {K : Act → World → Prop} {E : Prop} (hgd : o.guard = none) (v : Value) (hr : (execOp a.eval o).run P w = .ok (.value v) w') (h : K (a.put o.dst v) w') :
    if Region.wanted o (yielded ops a.tmps) = true then Oper.wp P o a w K Q else E := by
  have hw : Region.wanted o (yielded ops a.tmps) = true := by simp [Region.wanted, hgd]
  rw [if_pos hw]
  unfold Oper.wp
  rw [hr]
  exact h
/-- A call. -/
theorem step_enter {w : World} {o : Oper} {a : Act} {K : Act → World → Prop} {E : Prop} (hgd : o.guard = none) (f : FuncId) (args : Array Value) (v : Value) (R : World → Prop) (hr : (execOp a.eval o).run P w = .ok (.enter f args) w) (hc : Calls P f args w fun e w' => e = .returned v ∧ R w')
    (h : ∀ w', R w' → K (a.put o.dst v) w') : if Region.wanted o (yielded ops a.tmps) = true then Oper.wp P o a w K Q else E := by
  have hw : Region.wanted o (yielded ops a.tmps) = true := by simp [Region.wanted, hgd]
  rw [if_pos hw]
  unfold Oper.wp
  rw [hr]
  refine hc.mono ?_
  rintro e w' ⟨rfl, h2⟩
  exact h w' h2
/-- A call, by what it leaves. -/
theorem step_call {w : World} {o : Oper} {a : Act} {K : Act → World → Prop} {E : Prop} (hgd : o.guard = none) (f : FuncId) (args : Array Value) (R : Ending → World → Prop) (hr : (execOp a.eval o).run P w = .ok (.enter f args) w) (hc : Calls P f args w R)
    (h : ∀ e w', R e w' → ∃ v, e = .returned v ∧ K (a.put o.dst v) w') : if Region.wanted o (yielded ops a.tmps) = true then Oper.wp P o a w K Q else E := by
  have hw : Region.wanted o (yielded ops a.tmps) = true := by simp [Region.wanted, hgd]
  rw [if_pos hw]
  unfold Oper.wp
  rw [hr]
  refine hc.mono ?_
  intro e w' h2
  obtain ⟨v, rfl, h3⟩ := h e w' h2
  exact h3
/-- A guarded step that is wanted. -/
theorem step_wanted {w : World} {o : Oper} {a : Act} {K : Act → World → Prop} {E : Prop} (hw : Region.wanted o (yielded ops a.tmps) = true) (h : Oper.wp P o a w K Q) : if Region.wanted o (yielded ops a.tmps) = true then Oper.wp P o a w K Q else E := by
  rw [if_pos hw]
  exact h
theorem op_call {w : World} {o : Oper} {a : Act} {K : Act → World → Prop} (f : FuncId) (args : Array Value) (R : Ending → World → Prop) (hr : (execOp a.eval o).run P w = .ok (.enter f args) w) (hc : Calls P f args w R)
    (h : ∀ e w', R e w' → ∃ v, e = .returned v ∧ K (a.put o.dst v) w') : Oper.wp P o a w K Q := by
  unfold Oper.wp
  rw [hr]
  refine hc.mono ?_
  intro e w' h2
  obtain ⟨v, rfl, h3⟩ := h e w' h2
  exact h3
theorem op_val {w w' : World} {o : Oper} {a : Act} {K : Act → World → Prop} (v : Value) (hr : (execOp a.eval o).run P w = .ok (.value v) w') (h : K (a.put o.dst v) w') : Oper.wp P o a w K Q := by
  unfold Oper.wp
  rw [hr]
  exact h
end
end Go.Proofs.Ytjdijikmdlklkaa
