/- ReadEdit in the model: what its loops hold, and one int put behind as an equation. -/
import Derived.Test.YtdcmclbbecnihaaSq
import Derived.Test.YtdcmclbbecnihaaAa
import Derived.Deep.CutRange
import Derived.Deep.CutBlock
namespace Go.Proofs.Ytdcmclbbecnihaa
open Go.RowKit
set_option linter.unusedSimpArgs false
set_option linter.unusedVariables false

/-- All blocks below base but R and X are as they were. -/
structure K2 (base R X : Nat) (w w' : World) : Prop where
  os : w'.os = w.os
  tape : w'.tape = w.tape
  output : w'.output = w.output
  size : w.heap.size ≤ w'.heap.size
  block : ∀ c, c < base → c ≠ R → c ≠ X → w'.heap[c]? = w.heap[c]?
section
variable {base R X : Nat} {u w w' : World}
theorem K2.refl (base R X : Nat) (w : World) : K2 base R X w w := ⟨rfl, rfl, rfl, Nat.le_refl _, fun _ _ _ _ => rfl⟩
theorem K2.trans (h : K2 base R X u w) (k : K2 base R X w w') : K2 base R X u w' := ⟨k.os.trans h.os, k.tape.trans h.tape, k.output.trans h.output, Nat.le_trans h.size k.size, fun c hc h1 h2 => (k.block c hc h1 h2).trans (h.block c hc h1 h2)⟩
theorem K2.of_mid (h : Mid R (R + 1) w w') (hb : base ≤ w.heap.size) : K2 base R X w w' := ⟨h.os, h.tape, h.output, h.size, fun c hc h1 _ => h.block c (by omega) (by omega)⟩
theorem K2.of_below (h : Below base w w') : K2 base R X w w' := ⟨h.os, h.tape, h.output, h.size, fun c hc _ _ => h.block c hc⟩
theorem K2.of_grown {v : Value} (h : w.grownBy w' v.ownBlock) (hv : ∀ c, v.ownBlock = some c → base ≤ c) (hb : base ≤ w.heap.size) : K2 base R X w w' := ⟨h.os, h.tape, h.output, h.size, fun c hc _ _ => h.block c (by omega) (fun e => by have := hv c e.symm; omega)⟩
theorem K2.set (w : World) (j : Nat) (v : Value) : K2 base R X w (w.setCell ⟨X, j, none⟩ v) :=
  have o := Others.setCell w X j v
  ⟨o.os, o.tape, o.output, by rw [o.size]; exact Nat.le_refl _, fun c _ _ h2 => o.block c h2⟩
theorem K2.set_new (w : World) (b j : Nat) (v : Value) (hb : base ≤ b) : K2 base R X w (w.setCell ⟨b, j, none⟩ v) :=
  have o := Others.setCell w b j v
  ⟨o.os, o.tape, o.output, by rw [o.size]; exact Nat.le_refl _, fun c hc _ _ => o.block c (by omega)⟩
theorem K2.row (h : K2 base R X w w') {ao : Option Addr} {n : Nat} {f : Nat → Int} (hr : Row w ao n f) (hne : ∀ b off, ao = some ⟨b, off, none⟩ → b < base ∧ b ≠ R ∧ b ≠ X) : Row w' ao n f := by
  refine ⟨hr.bd, ?_⟩
  rcases hr.lies with h0 | ⟨b, off, e, hlt, hc⟩
  · exact .inl h0
  · have := hne b off e
    exact .inr ⟨b, off, e, Nat.lt_of_lt_of_le hlt h.size, fun i hi => (World.cell?_of_block (w := w) (a := ⟨b, off + i, none⟩) (h.block b this.1 this.2.1 this.2.2)).trans (hc i hi)⟩
end
/-- An edit in a box that may be written. -/
structure XB (w : World) (b : Nat) (nx lg sq : Int) (dv av : Value) : Prop where
  ex : EX w b nx lg sq dv av
  fz : ∀ j, w.frozen? ⟨b, j, none⟩ = false
section
variable {w w' : World} {b : Nat} {nx lg sq : Int} {dv av : Value}
theorem XB.same (h : XB w b nx lg sq dv av) (hs : w.heap.size ≤ w'.heap.size) (hb : w'.heap[b]? = w.heap[b]?) : XB w' b nx lg sq dv av :=
  ⟨h.ex.same hs hb, fun j => (World.frozen?_of_block (w := w) (w' := w') (a := ⟨b, j, none⟩) hb).trans (h.fz j)⟩
theorem XB.keep (h : XB w b nx lg sq dv av) (hb : Below w.heap.size w w') : XB w' b nx lg sq dv av := h.same hb.size (hb.block b h.ex.lt)
theorem XB.mid {R : Nat} (h : XB w b nx lg sq dv av) (hm : Mid R (R + 1) w w') (hne : b ≠ R) : XB w' b nx lg sq dv av := h.same hm.size (hm.block b h.ex.lt (by omega))
theorem XB.new (w : World) (nx lg sq : Int) (dv av : Value) (T : Nat) : XB (w.alloc (.cells #[.int .i64 nx, .int .i64 lg, .int .i64 sq, dv, av] T)) w.heap.size nx lg sq dv av := ⟨EX.new w nx lg sq dv av T, fun j => by simp [go_sem]⟩
theorem XB.set3 (h : XB w b nx lg sq dv av) (v : Value) : XB (w.setCell ⟨b, 3, none⟩ v) b nx lg sq v av := by
  obtain ⟨⟨lt, c0, c1, c2, c3, c4⟩, fz⟩ := h
  exact ⟨⟨by simpa using lt, (World.cell?_setCell_other _ _ _ _ (by simp)).trans c0, (World.cell?_setCell_other _ _ _ _ (by simp)).trans c1, (World.cell?_setCell_other _ _ _ _ (by simp)).trans c2, World.cell?_setCell_same _ _ _ c3, (World.cell?_setCell_other _ _ _ _ (by simp)).trans c4⟩, fun j => by simpa using fz j⟩
theorem XB.set4 (h : XB w b nx lg sq dv av) (v : Value) : XB (w.setCell ⟨b, 4, none⟩ v) b nx lg sq dv v := by
  obtain ⟨⟨lt, c0, c1, c2, c3, c4⟩, fz⟩ := h
  exact ⟨⟨by simpa using lt, (World.cell?_setCell_other _ _ _ _ (by simp)).trans c0, (World.cell?_setCell_other _ _ _ _ (by simp)).trans c1, (World.cell?_setCell_other _ _ _ _ (by simp)).trans c2, (World.cell?_setCell_other _ _ _ _ (by simp)).trans c3, World.cell?_setCell_same _ _ _ c4⟩, fun j => by simpa using fz j⟩
end
theorem OwnI.others {w w' : World} {base X : Nat} {v : Value} {L : List Int} (h : OwnI w base v L) (hm : Others X w w') (hX : X < base) : OwnI w' base v L := by
  refine ⟨h.bd, h.own.1, ?_⟩
  rcases h.own.2 with ⟨rfl, h0⟩ | ⟨g, cap, cur, rfl, h1, h2, h3⟩
  · exact .inl ⟨rfl, h0⟩
  · exact .inr ⟨g, cap, cur, rfl, h1, (hm.block g (by omega)).trans h2, h3⟩
theorem OwnI.k2 {w w' : World} {base b0 R X : Nat} {v : Value} {L : List Int} (h : OwnI w b0 v L) (hm : K2 base R X w w') (hR : R < b0) (hX : X < b0) (hb : w.heap.size ≤ base) : OwnI w' b0 v L := by
  refine ⟨h.bd, h.own.1, ?_⟩
  rcases h.own.2 with ⟨rfl, h0⟩ | ⟨g, cap, cur, rfl, h1, h2, h3⟩
  · exact .inl ⟨rfl, h0⟩
  · exact .inr ⟨g, cap, cur, rfl, h1, (hm.block g (by have := (Array.getElem?_eq_some_iff.1 h2).1; omega) (by omega) (by omega)).trans h2, h3⟩
theorem OwnD.others {w w' : World} {base X : Nat} {v : Value} {L : List Adm} (h : OwnD w base v L) (hm : Others X w w') (hX : X < base) : OwnD w' base v L :=
  h.same fun c hc => hm.block c (by have := (h.own.lt c hc).1; omega)
theorem BR.set_other {w : World} {B D j : Nat} {ao : Option Addr} {n cap q : Nat} {t : Bool} (h : BR w B ao n cap q t) (v : Value) (hne : B ≠ D) : BR (w.setCell ⟨D, j, none⟩ v) B ao n cap q t := h.others (Others.setCell w D j v) hne

/-- One int put behind, as an equation. -/
theorem pushI_run (w : World) (base : Nat) (vo : Option Addr) (vc : Nat) (L : List Int) (x : Int) (h : OwnI w base (.slice vo L.length vc) L) (hx : -9223372036854775808 ≤ x ∧ x ≤ 9223372036854775807) (hn : L.length ≤ 1048576) (hbase : base ≤ w.heap.size) :
    ∃ so sc w', (∀ ty, (Builtin.append_ #[36, 36] ty #[.slice vo L.length vc, .slice (some ⟨w.heap.size, 0, none⟩) 1 1]).run Try.prog (w.alloc (.cells #[.int .i64 x] 3)) = .ok (.slice so (L.length + 1) sc) w') ∧ OwnI w' base (.slice so (L.length + 1) sc) (L ++ [x]) ∧ (w.alloc (.cells #[.int .i64 x] 3)).grownBy w' (Value.slice vo L.length vc).ownBlock := by
  obtain ⟨i0, hi, hz0, hz1, hz2⟩ := info_parts Try.infoInt
  obtain ⟨v', w', h1, h2, h3, _, h5⟩ := run_append_own_at (P := Try.prog) (w.alloc (.cells #[.int .i64 x] 3)) base 36 0 3 i0 (.int .i64 0) 1 8 Try.underlying36 hi hz0 hz1 hz2 rfl (by decide) (.slice vo L.length vc) L.length (vi L) (h.keep (below_new w _)).own ⟨w.heap.size, 0, none⟩ 1 1 [.int .i64 x] rfl (cell_one_at _ _ _) (fun u hu => by rw [List.mem_singleton.1 hu]; rfl) (by unfold maxLen; omega) (by omega) (by simp; omega)
  have e : (L ++ [x]).length = L.length + 1 := by simp
  have ho : OwnI w' base v' (L ++ [x]) := ⟨h.bd.push hx, by rw [e]; simpa [vi] using h2⟩
  obtain ⟨so, sc, rfl, _⟩ := ho.form
  rw [e] at ho
  refine ⟨so, sc, w', fun ty => ?_, ho, h3⟩
  rw [← e]
  exact h1

/-- The call of number, as one step of a statement whose order is open. -/
theorem step_num {w : World} {ops : Array Oper} {o : Oper} {a : Act} {K : Act → World → Prop} {Q : Exit → Act → World → Prop} {E : Prop} (hgd : o.guard = none) (k : Nat)
    (ho : o.op = .call { callee := .value (.func 73), args := #[.tmp k], argTypes := #[100] }) (v : Value) (hx : a.eval (.tmp k) = v) (f : Nat → Int) (B bb bo n cap q : Nat) (t : Bool) (hc : Calls Try.prog 73 #[v] w fun e w' => SnU f B bb bo n cap q t w e w')
    (h : ∀ (u q' : Nat) (t' : Bool) (w' : World), u ≤ 2000000000 → q' ≤ n → BR w' B (some ⟨bb, bo, none⟩) n cap q' t' → Mid B (B + 1) w w' →
      ((t' = false ∧ t = false ∧ sN f n q = some ((u : Int), q')) ∨ (t' = true ∧ u = 0 ∧ q' = q ∧ (t = true ∨ sN f n q = none))) → K (a.put o.dst (.int .i64 (u : Int))) w') :
    if Region.wanted o (yielded ops a.tmps) = true then Oper.wp Try.prog o a w K Q else E := by
  have hw : Region.wanted o (yielded ops a.tmps) = true := by simp [Region.wanted, hgd]
  rw [if_pos hw]
  have hx' : a.tmps.getD k undef = v := hx
  unfold Oper.wp execOp
  simp only [ho, resolve, Act.eval, hx']
  go_simp
  refine hc.mono ?_
  rintro e w' ⟨u, q', t', rfl, h1, h2, h3, h4, h5⟩
  exact h u q' t' w' h1 h2 h3 h4 h5
end Go.Proofs.Ytdcmclbbecnihaa
