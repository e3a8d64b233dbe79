/- Ints that the call itself gathers by append. -/
import Derived.Test.YtoccfmkciacomaaInts
namespace Go.Proofs.Ytoccfmkciacomaa
open Go.RowKit
set_option linter.unusedSimpArgs false
set_option linter.unusedVariables false


/-- Ints as cells. -/
def vi (L : List Int) : List Value := L.map fun x => Value.int .i64 x
/-- Ints, each an int. -/
def Ib (L : List Int) : Prop := ∀ x ∈ L, -9223372036854775808 ≤ x ∧ x ≤ 9223372036854775807
def fi (L : List Int) (i : Nat) : Int := L.getD i 0
theorem vi_get {L : List Int} {i : Nat} (h : i < L.length) : (vi L)[i]? = some (.int .i64 (fi L i)) := by
  simp [vi, fi, List.getElem?_eq_getElem h]
theorem Ib.fi {L : List Int} (h : Ib L) (i : Nat) : -9223372036854775808 ≤ fi L i ∧ fi L i ≤ 9223372036854775807 := by
  unfold Go.Proofs.Ytoccfmkciacomaa.fi
  by_cases hi : i < L.length
  · have := h (L[i]) (List.getElem_mem hi)
    simpa [hi] using this
  · simp [hi]
theorem Ib.push {L : List Int} (h : Ib L) {x : Int} (hx : -9223372036854775808 ≤ x ∧ x ≤ 9223372036854775807) : Ib (L ++ [x]) := fun y hy => by
  rcases List.mem_append.1 hy with hy | hy
  · exact h y hy
  · rw [List.mem_singleton.1 hy]; exact hx
theorem ib_nil : Ib [] := fun x hx => by cases hx

/-- v is a slice of the call's own (all of it lies in a block from base on) that holds L. -/
structure OwnI (w : World) (base : Nat) (v : Value) (L : List Int) : Prop where
  bd : Ib L
  own : w.ownsRow base 3 1 v L.length (vi L)
theorem ownI_nil (w : World) (base : Nat) : OwnI w base (.slice none 0 0) [] := ⟨ib_nil, World.ownsRow_nil _ _ _ _⟩
section
variable {w w' : World} {base : Nat} {v : Value} {L : List Int}
theorem OwnI.form (h : OwnI w base v L) : ∃ ao cap, v = .slice ao L.length cap ∧ L.length ≤ cap ∧ IRow w ao L.length (fi L) := by
  have ho := h.own
  rcases ho.2 with ⟨rfl, h0⟩ | ⟨g, cap, cur, rfl, hbg, hg, hnc, _⟩
  · exact ⟨none, 0, by rw [h0], by omega, h.bd.fi, .inl h0⟩
  · refine ⟨some ⟨g, 0, none⟩, cap, rfl, hnc, h.bd.fi, .inr ⟨g, 0, rfl, (Array.getElem?_eq_some_iff.1 hg).1, fun i hi => ?_⟩⟩
    rw [Nat.zero_add, ho.cellAt i (by omega), vi_get hi]
theorem OwnI.own' (h : OwnI w base v L) (hn : 0 < L.length) : ∃ g cap, v = .slice (some ⟨g, 0, none⟩) L.length cap ∧ base ≤ g ∧ L.length ≤ cap ∧ IOwn w g 0 L.length (fi L) := by
  have ho := h.own
  rcases ho.2 with ⟨_, h0⟩ | ⟨g, cap, cur, rfl, hbg, hg, hnc, _⟩
  · omega
  · refine ⟨g, cap, rfl, hbg, hnc, h.bd.fi, (Array.getElem?_eq_some_iff.1 hg).1, fun i hi => ?_, fun i _ => by simpa using ho.frozenAt i⟩
    rw [Nat.zero_add, ho.cellAt i (by omega), vi_get hi]
theorem OwnI.nil_of (h : OwnI w base v L) (h0 : v = .slice none 0 0) : L = [] := by
  rcases h.own.2 with ⟨_, h1⟩ | ⟨g, cap, cur, e, _⟩
  · exact List.eq_nil_of_length_eq_zero h1
  · rw [h0] at e; simp at e
theorem OwnI.keep (h : OwnI w base v L) (hb : Below w.heap.size w w') : OwnI w' base v L := by
  refine ⟨h.bd, h.own.1, ?_⟩
  rcases h.own.2 with ⟨rfl, h0⟩ | ⟨g, cap, cur, rfl, h1, h2, h3⟩
  · exact .inl ⟨rfl, h0⟩
  · exact .inr ⟨g, cap, cur, rfl, h1, (hb.block g (Array.getElem?_eq_some_iff.1 h2).1).trans h2, h3⟩
theorem OwnI.below {B : Nat} {wr : World} (ho : OwnI wr base v L) (hb : Below B w wr) (hg : wr.grownBy w' v.ownBlock) (hB : B ≤ base) (hs : B ≤ wr.heap.size) : Below B w w' := by
  refine hb.grown hg hs fun k hk => ?_
  have := (ho.own.lt k hk).1
  omega
end
theorem cell_one_at (w : World) (y : Int) (T : Nat) : ∀ j u, [Value.int .i64 y][j]? = some u → (w.alloc (.cells #[.int .i64 y] T)).cell? ((⟨w.heap.size, 0, none⟩ : Addr).add j) = some u := by
  intro j u hj
  match j with
  | 0 => simp at hj; subst hj; simp [go_sem, Addr.add]
  | j + 1 => simp at hj

/-- One int put behind. -/
theorem wpList_pushI {w : World} {ops : Array Oper} {rest : List Oper} {o : Oper} {a : Act} {Q : Exit → Act → World → Prop} (hgd : o.guard = none) (s y : Operand)
    (ho : o.op = .call { callee := .builtin .append, args := #[s, y], argTypes := #[42, 42] })
    (base : Nat) (v : Value) (L : List Int) (x : Int) (hs : a.eval s = v) (h : OwnI w base v L) (hx : -9223372036854775808 ≤ x ∧ x ≤ 9223372036854775807)
    (hy : a.eval y = .slice (some ⟨w.heap.size, 0, none⟩) 1 1) (hn : L.length ≤ 1048576) (hbase : base ≤ w.heap.size)
    (hk : ∀ v' w', OwnI w' base v' (L ++ [x]) → (w.alloc (.cells #[.int .i64 x] 3)).grownBy w' v.ownBlock → wpList Try.prog ops Q rest (a.put o.dst v') w') :
    wpList Try.prog ops Q (o :: rest) a (w.alloc (.cells #[.int .i64 x] 3)) := by
  obtain ⟨i0, hi, hz0, hz1, hz2⟩ := info_parts Try.infoInt
  refine wpList_append_own (w := w.alloc (.cells #[.int .i64 x] 3)) hgd s y 42 ho base 3 i0 (.int .i64 0) 1 8 Try.underlying42 hi hz0 hz1 hz2 rfl (by decide) v L.length (vi L) hs (h.keep (below_new w _)).own ⟨w.heap.size, 0, none⟩ 1 1 [.int .i64 x] hy rfl (cell_one_at _ _ _) (fun u hu => by rw [List.mem_singleton.1 hu]; rfl) (by unfold maxLen; omega) (by omega) (by simp; omega) ?_
  intro v' w' h1 h2 _
  refine hk v' w' ⟨h.bd.push hx, ?_⟩ h2
  have e : (L ++ [x]).length = L.length + 1 := by simp
  rw [e]
  simpa [vi] using h1
end Go.Proofs.Ytoccfmkciacomaa
