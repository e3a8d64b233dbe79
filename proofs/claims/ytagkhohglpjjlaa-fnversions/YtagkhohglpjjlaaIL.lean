/- Aggs: where they lie, copied and compared. / Ints that the call itself gathers by append. -/
import Derived.Test.YtagkhohglpjjlaaInts
import Derived.Test.YtagkhohglpjjlaaVal
namespace Go.Proofs.Ytagkhohglpjjlaa
open Go.RowKit
set_option linter.unusedSimpArgs false
set_option linter.unusedVariables false

/-- An agg in block b. -/
structure AAt (w : World) (b : Nat) (c s lo hi : Int) (hv : Value) (fu : Bool) : Prop where
  lt : b < w.heap.size
  c0 : w.cell? ⟨b, 0, none⟩ = some (.int .i64 c)
  c1 : w.cell? ⟨b, 1, none⟩ = some (.int .i64 s)
  c2 : w.cell? ⟨b, 2, none⟩ = some (.int .i64 lo)
  c3 : w.cell? ⟨b, 3, none⟩ = some (.int .i64 hi)
  c4 : w.cell? ⟨b, 4, none⟩ = some hv
  c5 : w.cell? ⟨b, 5, none⟩ = some (.bool fu)
section
variable {w w' : World} {b : Nat} {c s lo hi : Int} {hv : Value} {fu : Bool}
theorem AAt.keep (h : AAt w b c s lo hi hv fu) (hb : Below w.heap.size w w') : AAt w' b c s lo hi hv fu :=
  ⟨Nat.lt_of_lt_of_le h.lt hb.size, (hb.cell (p := ⟨b, 0, none⟩) h.lt).trans h.c0, (hb.cell (p := ⟨b, 1, none⟩) h.lt).trans h.c1, (hb.cell (p := ⟨b, 2, none⟩) h.lt).trans h.c2, (hb.cell (p := ⟨b, 3, none⟩) h.lt).trans h.c3, (hb.cell (p := ⟨b, 4, none⟩) h.lt).trans h.c4, (hb.cell (p := ⟨b, 5, none⟩) h.lt).trans h.c5⟩
theorem AAt.others {d : Nat} (h : AAt w b c s lo hi hv fu) (ho : Others d w w') (hne : b ≠ d) : AAt w' b c s lo hi hv fu :=
  have k : ∀ j, w'.cell? ⟨b, j, none⟩ = w.cell? ⟨b, j, none⟩ := fun j => World.cell?_of_block (w := w) (a := ⟨b, j, none⟩) (ho.block b hne)
  ⟨by rw [ho.size]; exact h.lt, (k _).trans h.c0, (k _).trans h.c1, (k _).trans h.c2, (k _).trans h.c3, (k _).trans h.c4, (k _).trans h.c5⟩
end
theorem AAt.new (w : World) (c s lo hi : Int) (hv : Value) (fu : Bool) (T : Nat) : AAt (w.alloc (.cells #[.int .i64 c, .int .i64 s, .int .i64 lo, .int .i64 hi, hv, .bool fu] T)) w.heap.size c s lo hi hv fu := by
  refine ⟨by simp, ?_, ?_, ?_, ?_, ?_, ?_⟩ <;> simp [go_sem]
theorem below_new (w : World) (o : Obj) : Below w.heap.size w (w.alloc o) := (Below.refl _ _).alloc (Nat.le_refl _) _

theorem Others.irow {b : Nat} {w w' : World} (h : Others b w w') {c off n : Nat} {f : Nat → Int} (hr : IOwn w c off n f) (hne : c ≠ b) : IOwn w' c off n f :=
  ⟨hr.bd, by rw [h.size]; exact hr.lt, fun i hi => (World.cell?_of_block (w := w) (a := ⟨c, off + i, none⟩) (h.block c hne)).trans (hr.cell i hi),
    fun i hi => (World.frozen?_of_block (w := w) (a := ⟨c, off + i, none⟩) (h.block c hne)).trans (hr.free i hi)⟩

theorem new3 (w : World) (A B C : Array Value) (T U V : Nat) {w1 : World}
    (hb : Below (((w.alloc (.cells A T)).alloc (.cells B U)).alloc (.cells C V)).heap.size (((w.alloc (.cells A T)).alloc (.cells B U)).alloc (.cells C V)) w1) :
    (∀ j, w1.cell? ⟨w.heap.size, j, none⟩ = A[j]?) ∧ (∀ j, w1.cell? ⟨w.heap.size + 1, j, none⟩ = B[j]?) ∧ (∀ j, w1.cell? ⟨w.heap.size + 1 + 1, j, none⟩ = C[j]?) ∧
    (∀ j, w1.frozen? ⟨w.heap.size + 1, j, none⟩ = false) ∧ (∀ j, w1.frozen? ⟨w.heap.size + 1 + 1, j, none⟩ = false) ∧ w.heap.size + 3 ≤ w1.heap.size := by
  have hs := hb.size
  simp at hs
  have c : ∀ b j, b < w.heap.size + 3 → w1.cell? ⟨b, j, none⟩ = _ := fun b j h => hb.cell (p := ⟨b, j, none⟩) (by simp; omega)
  have d : ∀ b j, b < w.heap.size + 3 → w1.frozen? ⟨b, j, none⟩ = _ := fun b j h => hb.frozen (p := ⟨b, j, none⟩) (by simp; omega)
  refine ⟨fun j => (c _ _ (by omega)).trans ?_, fun j => (c _ _ (by omega)).trans ?_, fun j => (c _ _ (by omega)).trans ?_, fun j => (d _ _ (by omega)).trans ?_, fun j => (d _ _ (by omega)).trans ?_, by omega⟩
  all_goals simp [go_sem]

end Go.Proofs.Ytagkhohglpjjlaa
namespace Go.Proofs.Ytagkhohglpjjlaa
open Go.RowKit
set_option linter.unusedSimpArgs false
set_option linter.unusedVariables false


/-- Ints as cells. -/
def vi (L : List Int) : List Value := L.map fun x => Value.int .i64 x
/-- Ints, each an int. -/
def Ib (L : List Int) : Prop := ∀ x ∈ L, -9223372036854775808 ≤ x ∧ x ≤ 9223372036854775807
def fi (L : List Int) (i : Nat) : Int := L.getD i 0
theorem vi_get {L : List Int} {i : Nat} (h : i < L.length) : (vi L)[i]? = some (.int .i64 (fi L i)) := by
  simp [vi, fi, List.getElem?_eq_getElem h]
theorem Ib.fi {L : List Int} (h : Ib L) (i : Nat) : -9223372036854775808 ≤ fi L i ∧ fi L i ≤ 9223372036854775807 := by
  unfold Go.Proofs.Ytagkhohglpjjlaa.fi
  by_cases hi : i < L.length
  · have := h (L[i]) (List.getElem_mem hi)
    simpa [hi] using this
  · simp [hi]
theorem Ib.push {L : List Int} (h : Ib L) {x : Int} (hx : -9223372036854775808 ≤ x ∧ x ≤ 9223372036854775807) : Ib (L ++ [x]) := fun y hy => by
  rcases List.mem_append.1 hy with hy | hy
  · exact h y hy
  · rw [List.mem_singleton.1 hy]; exact hx
theorem ib_nil : Ib [] := fun x hx => by cases hx

/-- v is a slice of the call's own (all of it lies in a block from base on) that holds L. -/
structure OwnI (w : World) (base : Nat) (v : Value) (L : List Int) : Prop where
  bd : Ib L
  own : w.ownsRow base 3 1 v L.length (vi L)
theorem ownI_nil (w : World) (base : Nat) : OwnI w base (.slice none 0 0) [] := ⟨ib_nil, World.ownsRow_nil _ _ _ _⟩
section
variable {w w' : World} {base : Nat} {v : Value} {L : List Int}
theorem OwnI.form (h : OwnI w base v L) : ∃ ao cap, v = .slice ao L.length cap ∧ L.length ≤ cap ∧ IRow w ao L.length (fi L) := by
  have ho := h.own
  rcases ho.2 with ⟨rfl, h0⟩ | ⟨g, cap, cur, rfl, hbg, hg, hnc, _⟩
  · exact ⟨none, 0, by rw [h0], by omega, h.bd.fi, .inl h0⟩
  · refine ⟨some ⟨g, 0, none⟩, cap, rfl, hnc, h.bd.fi, .inr ⟨g, 0, rfl, (Array.getElem?_eq_some_iff.1 hg).1, fun i hi => ?_⟩⟩
    rw [Nat.zero_add, ho.cellAt i (by omega), vi_get hi]
theorem OwnI.own' (h : OwnI w base v L) (hn : 0 < L.length) : ∃ g cap, v = .slice (some ⟨g, 0, none⟩) L.length cap ∧ base ≤ g ∧ L.length ≤ cap ∧ IOwn w g 0 L.length (fi L) := by
  have ho := h.own
  rcases ho.2 with ⟨_, h0⟩ | ⟨g, cap, cur, rfl, hbg, hg, hnc, _⟩
  · omega
  · refine ⟨g, cap, rfl, hbg, hnc, h.bd.fi, (Array.getElem?_eq_some_iff.1 hg).1, fun i hi => ?_, fun i _ => by simpa using ho.frozenAt i⟩
    rw [Nat.zero_add, ho.cellAt i (by omega), vi_get hi]
theorem OwnI.nil_of (h : OwnI w base v L) (h0 : v = .slice none 0 0) : L = [] := by
  rcases h.own.2 with ⟨_, h1⟩ | ⟨g, cap, cur, e, _⟩
  · exact List.eq_nil_of_length_eq_zero h1
  · rw [h0] at e; simp at e
theorem OwnI.keep (h : OwnI w base v L) (hb : Below w.heap.size w w') : OwnI w' base v L := by
  refine ⟨h.bd, h.own.1, ?_⟩
  rcases h.own.2 with ⟨rfl, h0⟩ | ⟨g, cap, cur, rfl, h1, h2, h3⟩
  · exact .inl ⟨rfl, h0⟩
  · exact .inr ⟨g, cap, cur, rfl, h1, (hb.block g (Array.getElem?_eq_some_iff.1 h2).1).trans h2, h3⟩
theorem OwnI.below {B : Nat} {wr : World} (ho : OwnI wr base v L) (hb : Below B w wr) (hg : wr.grownBy w' v.ownBlock) (hB : B ≤ base) (hs : B ≤ wr.heap.size) : Below B w w' := by
  refine hb.grown hg hs fun k hk => ?_
  have := (ho.own.lt k hk).1
  omega
end
theorem cell_one_at (w : World) (y : Int) (T : Nat) : ∀ j u, [Value.int .i64 y][j]? = some u → (w.alloc (.cells #[.int .i64 y] T)).cell? ((⟨w.heap.size, 0, none⟩ : Addr).add j) = some u := by
  intro j u hj
  match j with
  | 0 => simp at hj; subst hj; simp [go_sem, Addr.add]
  | j + 1 => simp at hj

/-- One int put behind. -/
theorem wpList_pushI {w : World} {ops : Array Oper} {rest : List Oper} {o : Oper} {a : Act} {Q : Exit → Act → World → Prop} (hgd : o.guard = none) (s y : Operand)
    (ho : o.op = .call { callee := .builtin .append, args := #[s, y], argTypes := #[26, 26] })
    (base : Nat) (v : Value) (L : List Int) (x : Int) (hs : a.eval s = v) (h : OwnI w base v L) (hx : -9223372036854775808 ≤ x ∧ x ≤ 9223372036854775807)
    (hy : a.eval y = .slice (some ⟨w.heap.size, 0, none⟩) 1 1) (hn : L.length ≤ 1048576) (hbase : base ≤ w.heap.size)
    (hk : ∀ v' w', OwnI w' base v' (L ++ [x]) → (w.alloc (.cells #[.int .i64 x] 3)).grownBy w' v.ownBlock → wpList Try.prog ops Q rest (a.put o.dst v') w') :
    wpList Try.prog ops Q (o :: rest) a (w.alloc (.cells #[.int .i64 x] 3)) := by
  obtain ⟨i0, hi, hz0, hz1, hz2⟩ := info_parts Try.infoInt
  refine wpList_append_own (w := w.alloc (.cells #[.int .i64 x] 3)) hgd s y 26 ho base 3 i0 (.int .i64 0) 1 8 Try.underlying26 hi hz0 hz1 hz2 rfl (by decide) v L.length (vi L) hs (h.keep (below_new w _)).own ⟨w.heap.size, 0, none⟩ 1 1 [.int .i64 x] hy rfl (cell_one_at _ _ _) (fun u hu => by rw [List.mem_singleton.1 hu]; rfl) (by unfold maxLen; omega) (by omega) (by simp; omega) ?_
  intro v' w' h1 h2 _
  refine hk v' w' ⟨h.bd.push hx, ?_⟩ h2
  have e : (L ++ [x]).length = L.length + 1 := by simp
  rw [e]
  simpa [vi] using h1
/-- One int put behind, wherever it lies. -/
theorem wpList_pushI2 {w : World} {ops : Array Oper} {rest : List Oper} {o : Oper} {a : Act} {Q : Exit → Act → World → Prop} (hgd : o.guard = none) (s y : Operand)
    (ho : o.op = .call { callee := .builtin .append, args := #[s, y], argTypes := #[26, 26] })
    (base B : Nat) (v : Value) (L : List Int) (x : Int) (hs : a.eval s = v) (h : OwnI w base v L) (hx : -9223372036854775808 ≤ x ∧ x ≤ 9223372036854775807)
    (hy : a.eval y = .slice (some ⟨B, 0, none⟩) 1 1) (hB : B = w.heap.size) (hn : L.length ≤ 1048576) (hbase : base ≤ w.heap.size)
    (hk : ∀ v' w', OwnI w' base v' (L ++ [x]) → (w.alloc (.cells #[.int .i64 x] 3)).grownBy w' v.ownBlock → wpList Try.prog ops Q rest (a.put o.dst v') w') :
    wpList Try.prog ops Q (o :: rest) a (w.alloc (.cells #[.int .i64 x] 3)) := by
  subst hB
  exact wpList_pushI hgd s y ho base v L x hs h hx hy hn hbase hk
end Go.Proofs.Ytagkhohglpjjlaa
