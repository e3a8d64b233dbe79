/- Rows of Add that the call itself gathers by append. -/
import Derived.Test.YtofdhgffnkhdfaaDt
namespace Go.Proofs.Ytofdhgffnkhdfaa
open Go.RowKit
set_option linter.unusedSimpArgs false
set_option linter.unusedVariables false

/-- The i-th of a list. -/
def dL (L : List Adm) (i : Nat) : Adm := L.getD i (⟨0, ⟨0, .empty, .empty, 0⟩⟩ : Adm)
theorem dc_len (x : Adm) : (dc x).length = 5 := rfl
theorem df_len (L : List Adm) : (L.flatMap dc).length = L.length * 5 := by
  induction L with
  | nil => rfl
  | cons x L ih => simp only [List.flatMap_cons, List.length_append, dc_len, ih, List.length_cons]; omega
theorem df_get : ∀ (L : List Adm) (i q : Nat), i < L.length → q < 5 → (L.flatMap dc)[i * 5 + q]? = (dc (dL L i))[q]?
  | [], i, q, h, _ => by simp at h
  | x :: L, 0, q, _, hq => by
    simp only [List.flatMap_cons, Nat.zero_mul, Nat.zero_add]
    rw [List.getElem?_append_left (by rw [dc_len]; exact hq)]
    rfl
  | x :: L, i + 1, q, h, hq => by
    have := df_get L i q (by simpa using h) hq
    simp only [List.flatMap_cons]
    rw [List.getElem?_append_right (by rw [dc_len]; omega), dc_len]
    have e : (i + 1) * 5 + q - 5 = i * 5 + q := by omega
    rw [e, this]
    rfl
/-- v is a slice of the call's own that holds L. -/
structure OwnD (w : World) (base : Nat) (v : Value) (L : List Adm) : Prop where
  bd : ∀ x ∈ L, DB x
  own : w.ownsRow base 67 5 v L.length (L.flatMap dc)
theorem ownD_nil (w : World) (base : Nat) : OwnD w base (.slice none 0 0) [] := ⟨fun x hx => (by cases hx), World.ownsRow_nil _ _ _ _⟩
theorem dL_mem {L : List Adm} {i : Nat} (h : i < L.length) : dL L i ∈ L := by simp [dL, h]
section
variable {w w' : World} {base base' : Nat} {v : Value} {L : List Adm}
theorem OwnD.form (h : OwnD w base v L) : ∃ ao cap, v = .slice ao L.length cap ∧ L.length ≤ cap := by
  rcases h.own.2 with ⟨rfl, h0⟩ | ⟨g, cap, cur, rfl, hbg, hg, hnc, _⟩
  · exact ⟨none, 0, by rw [h0], by omega⟩
  · exact ⟨some ⟨g, 0, none⟩, cap, rfl, hnc⟩
theorem OwnD.at (h : OwnD w base v L) (hn : 0 < L.length) : ∃ g cap, v = .slice (some ⟨g, 0, none⟩) L.length cap ∧ base ≤ g ∧ L.length ≤ cap ∧ DOwn w g L.length (dL L) := by
  have ho := h.own
  rcases ho.2 with ⟨_, h0⟩ | ⟨g, cap, cur, rfl, hbg, hg, hnc, _⟩
  · omega
  · have hlt := (Array.getElem?_eq_some_iff.1 hg).1
    exact ⟨g, cap, rfl, hbg, hnc, hlt, fun i hi => dat_of hlt fun q hq => by rw [ho.cellAt (i * 5 + q) (by omega), df_get L i q hi hq], fun j hj => ho.frozenAt j⟩
theorem OwnD.row {ao : Option Addr} {n c : Nat} (h : OwnD w base (.slice ao n c) L) : DRow w ao L.length (dL L) := by
  by_cases h0 : L.length = 0
  · exact ⟨fun i hi => by omega, .inl h0⟩
  · obtain ⟨g, cap, e, _, _, h1⟩ := h.at (by omega)
    injection e with e1 e2 e3
    rw [e1]
    exact h1.row fun i hi => h.bd _ (dL_mem hi)
theorem OwnD.keep (h : OwnD w base v L) (hb : Below w.heap.size w w') : OwnD w' base v L := by
  refine ⟨h.bd, h.own.1, ?_⟩
  rcases h.own.2 with ⟨rfl, h0⟩ | ⟨g, cap, cur, rfl, h1, h2, h3⟩
  · exact .inl ⟨rfl, h0⟩
  · exact .inr ⟨g, cap, cur, rfl, h1, (hb.block g (Array.getElem?_eq_some_iff.1 h2).1).trans h2, h3⟩
theorem OwnD.same (h : OwnD w base v L) (hb : ∀ c, v.ownBlock = some c → w'.heap[c]? = w.heap[c]?) : OwnD w' base v L := by
  refine ⟨h.bd, h.own.1, ?_⟩
  rcases h.own.2 with ⟨rfl, h0⟩ | ⟨g, cap, cur, rfl, h1, h2, h3⟩
  · exact .inl ⟨rfl, h0⟩
  · exact .inr ⟨g, cap, cur, rfl, h1, (hb g rfl).trans h2, h3⟩
theorem OwnD.lower (h : OwnD w base v L) (hb : base' ≤ base) : OwnD w base' v L := by
  refine ⟨h.bd, h.own.1, ?_⟩
  rcases h.own.2 with h0 | ⟨g, cap, cur, e, h1, h2⟩
  · exact .inl h0
  · exact .inr ⟨g, cap, cur, e, Nat.le_trans hb h1, h2⟩
theorem OwnD.below {B : Nat} {wr : World} (ho : OwnD wr base v L) (hb : Below B w wr) (hg : wr.grownBy w' v.ownBlock) (hB : B ≤ base) (hs : B ≤ wr.heap.size) : Below B w w' := by
  refine hb.grown hg hs fun k hk => ?_
  have := (ho.own.lt k hk).1
  omega
end
theorem cell_one_d (w : World) (x : Adm) (T : Nat) : ∀ j u, (dc x)[j]? = some u → (w.alloc (.cells #[.int .i64 x.lv, .int .i64 x.m.file, .string x.m.least, .string x.m.most, .int .i64 x.m.many] T)).cell? ((⟨w.heap.size, 0, none⟩ : Addr).add j) = some u := by
  intro j u hj
  have h := DAt.new w x T
  have hq : j < 5 := by
    have := (List.getElem?_eq_some_iff.1 hj).1
    simpa [dc] using this
  have e : (⟨w.heap.size, 0, none⟩ : Addr).add j = ⟨w.heap.size, 0 + j, none⟩ := by
    unfold Addr.add
    split
    · simp_all
    · rfl
  rw [e, h.get j hq]
  exact hj

/-- One put behind. -/
theorem wpList_pushD {w : World} {ops : Array Oper} {rest : List Oper} {o : Oper} {a : Act} {Q : Exit → Act → World → Prop} (hgd : o.guard = none) (s y : Operand)
    (ho : o.op = .call { callee := .builtin .append, args := #[s, y], argTypes := #[43, 43] })
    (base B : Nat) (v : Value) (L : List Adm) (x : Adm) (hs : a.eval s = v) (h : OwnD w base v L) (hx : DB x)
    (hy : a.eval y = .slice (some ⟨B, 0, none⟩) 1 1) (hB : B = w.heap.size) (hn : L.length ≤ 1048576) (hbase : base ≤ w.heap.size)
    (hk : ∀ v' w', OwnD w' base v' (L ++ [x]) → (w.alloc (.cells #[.int .i64 x.lv, .int .i64 x.m.file, .string x.m.least, .string x.m.most, .int .i64 x.m.many] 67)).grownBy w' v.ownBlock → wpList Try.prog ops Q rest (a.put o.dst v') w') :
    wpList Try.prog ops Q (o :: rest) a (w.alloc (.cells #[.int .i64 x.lv, .int .i64 x.m.file, .string x.m.least, .string x.m.most, .int .i64 x.m.many] 67)) := by
  subst hB
  obtain ⟨i0, hi, hz0, hz1, hz2⟩ := info_parts Try.infoD
  refine wpList_append_own (w := w.alloc (.cells #[.int .i64 x.lv, .int .i64 x.m.file, .string x.m.least, .string x.m.most, .int .i64 x.m.many] 67)) hgd s y 43 ho base 67 i0 (.agg #[.int .i64 0, .int .i64 0, .string ByteArray.empty, .string ByteArray.empty, .int .i64 0]) 5 56 Try.underlying43 hi hz0 hz1 hz2 rfl (by decide) v L.length (L.flatMap dc) hs (h.keep (below_new w _)).own ⟨w.heap.size, 0, none⟩ 1 1 (dc x) hy rfl (cell_one_d _ _ _) (fun u hu => by
    simp only [dc, List.mem_cons, List.not_mem_nil, or_false] at hu
    rcases hu with rfl | rfl | rfl | rfl | rfl <;> rfl) (by unfold maxLen; omega) (by omega) (by simp; omega) ?_
  intro v' w' h1 h2 _
  refine hk v' w' ⟨fun z hz => ?_, ?_⟩ h2
  · rcases List.mem_append.1 hz with hz | hz
    · exact h.bd z hz
    · rw [List.mem_singleton.1 hz]; exact hx
  · have e : (L ++ [x]).length = L.length + 1 := by simp
    rw [e, List.flatMap_append]
    simpa using h1
end Go.Proofs.Ytofdhgffnkhdfaa
