/- Rows of Meta that the call itself gathers by append. -/
import Derived.Test.YtofdhgffnkhdfaaMt
namespace Go.Proofs.Ytofdhgffnkhdfaa
open Go.RowKit
set_option linter.unusedSimpArgs false
set_option linter.unusedVariables false

/-- The i-th of a list. -/
def mL (L : List Met) (i : Nat) : Met := L.getD i (⟨0, .empty, .empty, 0⟩ : Met)
theorem mc_len (x : Met) : (mc x).length = 4 := rfl
theorem mf_len (L : List Met) : (L.flatMap mc).length = L.length * 4 := by
  induction L with
  | nil => rfl
  | cons x L ih => simp only [List.flatMap_cons, List.length_append, mc_len, ih, List.length_cons]; omega
theorem mf_get : ∀ (L : List Met) (i q : Nat), i < L.length → q < 4 → (L.flatMap mc)[i * 4 + q]? = (mc (mL L i))[q]?
  | [], i, q, h, _ => by simp at h
  | x :: L, 0, q, _, hq => by
    simp only [List.flatMap_cons, Nat.zero_mul, Nat.zero_add]
    rw [List.getElem?_append_left (by rw [mc_len]; exact hq)]
    rfl
  | x :: L, i + 1, q, h, hq => by
    have := mf_get L i q (by simpa using h) hq
    simp only [List.flatMap_cons]
    rw [List.getElem?_append_right (by rw [mc_len]; omega), mc_len]
    have e : (i + 1) * 4 + q - 4 = i * 4 + q := by omega
    rw [e, this]
    rfl
/-- v is a slice of the call's own that holds L. -/
structure OwnM (w : World) (base : Nat) (v : Value) (L : List Met) : Prop where
  bd : ∀ x ∈ L, MB x
  own : w.ownsRow base 65 4 v L.length (L.flatMap mc)
theorem ownM_nil (w : World) (base : Nat) : OwnM w base (.slice none 0 0) [] := ⟨fun x hx => (by cases hx), World.ownsRow_nil _ _ _ _⟩
theorem mL_mem {L : List Met} {i : Nat} (h : i < L.length) : mL L i ∈ L := by simp [mL, h]
section
variable {w w' : World} {base base' : Nat} {v : Value} {L : List Met}
theorem OwnM.form (h : OwnM w base v L) : ∃ ao cap, v = .slice ao L.length cap ∧ L.length ≤ cap := by
  rcases h.own.2 with ⟨rfl, h0⟩ | ⟨g, cap, cur, rfl, hbg, hg, hnc, _⟩
  · exact ⟨none, 0, by rw [h0], by omega⟩
  · exact ⟨some ⟨g, 0, none⟩, cap, rfl, hnc⟩
theorem OwnM.at (h : OwnM w base v L) (hn : 0 < L.length) : ∃ g cap, v = .slice (some ⟨g, 0, none⟩) L.length cap ∧ base ≤ g ∧ L.length ≤ cap ∧ MOwn w g L.length (mL L) := by
  have ho := h.own
  rcases ho.2 with ⟨_, h0⟩ | ⟨g, cap, cur, rfl, hbg, hg, hnc, _⟩
  · omega
  · have hlt := (Array.getElem?_eq_some_iff.1 hg).1
    exact ⟨g, cap, rfl, hbg, hnc, hlt, fun i hi => mat_of hlt fun q hq => by rw [ho.cellAt (i * 4 + q) (by omega), mf_get L i q hi hq], fun j hj => ho.frozenAt j⟩
theorem OwnM.row {ao : Option Addr} {n c : Nat} (h : OwnM w base (.slice ao n c) L) : MRow w ao L.length (mL L) := by
  by_cases h0 : L.length = 0
  · exact ⟨fun i hi => by omega, .inl h0⟩
  · obtain ⟨g, cap, e, _, _, h1⟩ := h.at (by omega)
    injection e with e1 e2 e3
    rw [e1]
    exact h1.row fun i hi => h.bd _ (mL_mem hi)
theorem OwnM.keep (h : OwnM w base v L) (hb : Below w.heap.size w w') : OwnM w' base v L := by
  refine ⟨h.bd, h.own.1, ?_⟩
  rcases h.own.2 with ⟨rfl, h0⟩ | ⟨g, cap, cur, rfl, h1, h2, h3⟩
  · exact .inl ⟨rfl, h0⟩
  · exact .inr ⟨g, cap, cur, rfl, h1, (hb.block g (Array.getElem?_eq_some_iff.1 h2).1).trans h2, h3⟩
theorem OwnM.same (h : OwnM w base v L) (hb : ∀ c, v.ownBlock = some c → w'.heap[c]? = w.heap[c]?) : OwnM w' base v L := by
  refine ⟨h.bd, h.own.1, ?_⟩
  rcases h.own.2 with ⟨rfl, h0⟩ | ⟨g, cap, cur, rfl, h1, h2, h3⟩
  · exact .inl ⟨rfl, h0⟩
  · exact .inr ⟨g, cap, cur, rfl, h1, (hb g rfl).trans h2, h3⟩
theorem OwnM.lower (h : OwnM w base v L) (hb : base' ≤ base) : OwnM w base' v L := by
  refine ⟨h.bd, h.own.1, ?_⟩
  rcases h.own.2 with h0 | ⟨g, cap, cur, e, h1, h2⟩
  · exact .inl h0
  · exact .inr ⟨g, cap, cur, e, Nat.le_trans hb h1, h2⟩
theorem OwnM.below {B : Nat} {wr : World} (ho : OwnM wr base v L) (hb : Below B w wr) (hg : wr.grownBy w' v.ownBlock) (hB : B ≤ base) (hs : B ≤ wr.heap.size) : Below B w w' := by
  refine hb.grown hg hs fun k hk => ?_
  have := (ho.own.lt k hk).1
  omega
end
theorem cell_one_m (w : World) (x : Met) (T : Nat) : ∀ j u, (mc x)[j]? = some u → (w.alloc (.cells #[.int .i64 x.file, .string x.least, .string x.most, .int .i64 x.many] T)).cell? ((⟨w.heap.size, 0, none⟩ : Addr).add j) = some u := by
  intro j u hj
  have h := MAt.new w x T
  have hq : j < 4 := by
    have := (List.getElem?_eq_some_iff.1 hj).1
    simpa [mc] using this
  have e : (⟨w.heap.size, 0, none⟩ : Addr).add j = ⟨w.heap.size, 0 + j, none⟩ := by
    unfold Addr.add
    split
    · simp_all
    · rfl
  rw [e, h.get j hq]
  exact hj

/-- One put behind. -/
theorem wpList_pushM {w : World} {ops : Array Oper} {rest : List Oper} {o : Oper} {a : Act} {Q : Exit → Act → World → Prop} (hgd : o.guard = none) (s y : Operand)
    (ho : o.op = .call { callee := .builtin .append, args := #[s, y], argTypes := #[70, 70] })
    (base B : Nat) (v : Value) (L : List Met) (x : Met) (hs : a.eval s = v) (h : OwnM w base v L) (hx : MB x)
    (hy : a.eval y = .slice (some ⟨B, 0, none⟩) 1 1) (hB : B = w.heap.size) (hn : L.length ≤ 1048576) (hbase : base ≤ w.heap.size)
    (hk : ∀ v' w', OwnM w' base v' (L ++ [x]) → (w.alloc (.cells #[.int .i64 x.file, .string x.least, .string x.most, .int .i64 x.many] 65)).grownBy w' v.ownBlock → wpList Try.prog ops Q rest (a.put o.dst v') w') :
    wpList Try.prog ops Q (o :: rest) a (w.alloc (.cells #[.int .i64 x.file, .string x.least, .string x.most, .int .i64 x.many] 65)) := by
  subst hB
  obtain ⟨i0, hi, hz0, hz1, hz2⟩ := info_parts Try.infoM
  refine wpList_append_own (w := w.alloc (.cells #[.int .i64 x.file, .string x.least, .string x.most, .int .i64 x.many] 65)) hgd s y 70 ho base 65 i0 (.agg #[.int .i64 0, .string ByteArray.empty, .string ByteArray.empty, .int .i64 0]) 4 48 Try.underlying70 hi hz0 hz1 hz2 rfl (by decide) v L.length (L.flatMap mc) hs (h.keep (below_new w _)).own ⟨w.heap.size, 0, none⟩ 1 1 (mc x) hy rfl (cell_one_m _ _ _) (fun u hu => by
    simp only [mc, List.mem_cons, List.not_mem_nil, or_false] at hu
    rcases hu with rfl | rfl | rfl | rfl <;> rfl) (by unfold maxLen; omega) (by omega) (by simp; omega) ?_
  intro v' w' h1 h2 _
  refine hk v' w' ⟨fun z hz => ?_, ?_⟩ h2
  · rcases List.mem_append.1 hz with hz | hz
    · exact h.bd z hz
    · rw [List.mem_singleton.1 hz]; exact hx
  · have e : (L ++ [x]).length = L.length + 1 := by simp
    rw [e, List.flatMap_append]
    simpa using h1
end Go.Proofs.Ytofdhgffnkhdfaa
