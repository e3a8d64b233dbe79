/- Rows of Meta: measured, copied, compared, marked, held. / Rows of Meta that the call itself gathers by append. -/
import Derived.Test.YtagkhohglpjjlaaDv
import Derived.Laws.IdiomCopy
import Derived.Deep.RegionHeld3
namespace Go.Proofs.Ytagkhohglpjjlaa
open Go.RowKit
set_option linter.unusedSimpArgs false
set_option linter.unusedVariables false

/-- What a meta holds. -/
structure Met where
  file : Int
  least : ByteArray
  most : ByteArray
  many : Int
/-- Its fields are what a machine can hold. -/
structure MB (x : Met) : Prop where
  file : -9223372036854775808 ≤ x.file ∧ x.file ≤ 9223372036854775807
  many : -9223372036854775808 ≤ x.many ∧ x.many ≤ 9223372036854775807
  least : x.least.size ≤ 9223372036854775807
  most : x.most.size ≤ 9223372036854775807
/-- One in 4 cells from off on. -/
structure MAt (w : World) (b off : Nat) (x : Met) : Prop where
  lt : b < w.heap.size
  c0 : w.cell? ⟨b, off, none⟩ = some (.int .i64 x.file)
  c1 : w.cell? ⟨b, off + 1, none⟩ = some (.string x.least)
  c2 : w.cell? ⟨b, off + 2, none⟩ = some (.string x.most)
  c3 : w.cell? ⟨b, off + 3, none⟩ = some (.int .i64 x.many)
section
variable {w w' : World} {b off : Nat} {x : Met}
theorem MAt.move (h : MAt w b off x) (lt : b < w'.heap.size) (k : ∀ j, w'.cell? ⟨b, j, none⟩ = w.cell? ⟨b, j, none⟩) : MAt w' b off x :=
  ⟨lt, (k _).trans h.c0, (k _).trans h.c1, (k _).trans h.c2, (k _).trans h.c3⟩
theorem MAt.keep (h : MAt w b off x) (hb : Below w.heap.size w w') : MAt w' b off x :=
  h.move (Nat.lt_of_lt_of_le h.lt hb.size) fun j => hb.cell (p := ⟨b, j, none⟩) h.lt
theorem MAt.others {d : Nat} (h : MAt w b off x) (ho : Others d w w') (hne : b ≠ d) : MAt w' b off x :=
  h.move (by rw [ho.size]; exact h.lt) fun j => World.cell?_of_block (w := w) (a := ⟨b, j, none⟩) (ho.block b hne)
end
theorem MAt.new (w : World) (x : Met) (T : Nat) : MAt (w.alloc (.cells #[.int .i64 x.file, .string x.least, .string x.most, .int .i64 x.many] T)) w.heap.size 0 x := by
  refine ⟨by simp, ?_, ?_, ?_, ?_⟩ <;> simp [go_sem]
/-- n of them at ao. -/
structure MRow (w : World) (ao : Option Addr) (n : Nat) (X : Nat → Met) : Prop where
  bd : ∀ i, i < n → MB (X i)
  lies : n = 0 ∨ ∃ b off, ao = some ⟨b, off, none⟩ ∧ b < w.heap.size ∧ ∀ i, i < n → MAt w b (off + i * 4) (X i)
theorem MRow.keep {w w' : World} {ao : Option Addr} {n : Nat} {X : Nat → Met} (h : MRow w ao n X) (hb : Below w.heap.size w w') : MRow w' ao n X :=
  ⟨h.bd, h.lies.elim .inl fun ⟨b, off, e, hlt, hc⟩ => .inr ⟨b, off, e, Nat.lt_of_lt_of_le hlt hb.size, fun i hi => (hc i hi).keep hb⟩⟩
theorem MRow.nil (w : World) (ao : Option Addr) (X : Nat → Met) : MRow w ao 0 X := ⟨fun i hi => by omega, .inl rfl⟩
theorem MRow.congr {w : World} {ao : Option Addr} {n : Nat} {X Y : Nat → Met} (h : MRow w ao n X) (e : ∀ i, i < n → X i = Y i) : MRow w ao n Y :=
  ⟨fun i hi => by rw [← e i hi]; exact h.bd i hi, h.lies.elim .inl fun ⟨b, off, e1, hlt, hc⟩ => .inr ⟨b, off, e1, hlt, fun i hi => by rw [← e i hi]; exact hc i hi⟩⟩

theorem Try.infoM : (Try.prog.info? 52).map (fun i => (i.zero, i.size, i.bytes)) = some (some (.agg #[.int .i64 0, .string ByteArray.empty, .string ByteArray.empty, .int .i64 0]), 4, 48) := by kernel_rfl

/-- The letters of the first k together. -/
def mtot (X : Nat → Met) : Nat → Nat
  | 0 => 0
  | k + 1 => mtot X k + ((X k).least.size + (X k).most.size)
theorem mtot_le {X : Nat → Met} : ∀ {n i : Nat}, i < n → (X i).least.size + (X i).most.size ≤ mtot X n
  | n + 1, i, h => by
    unfold mtot
    rcases Nat.lt_succ_iff_lt_or_eq.1 h with h | rfl
    · have := mtot_le (X := X) h; omega
    · omega

/-- n of them in block b, to be written. -/
structure MOwn (w : World) (b n : Nat) (X : Nat → Met) : Prop where
  lt : b < w.heap.size
  ent : ∀ i, i < n → MAt w b (i * 4) (X i)
  free : ∀ j, j < n * 4 → w.frozen? ⟨b, j, none⟩ = false
section
variable {w w' : World} {b n k : Nat} {X Y : Nat → Met}
theorem MOwn.row (h : MOwn w b n X) (hbd : ∀ i, i < n → MB (X i)) : MRow w (some ⟨b, 0, none⟩) n X :=
  ⟨hbd, .inr ⟨b, 0, rfl, h.lt, fun i hi => by rw [Nat.zero_add]; exact h.ent i hi⟩⟩
theorem MOwn.same (h : MOwn w b n X) (hs : w.heap.size ≤ w'.heap.size) (hb : w'.heap[b]? = w.heap[b]?) : MOwn w' b n X :=
  ⟨Nat.lt_of_lt_of_le h.lt hs, fun i hi => (h.ent i hi).move (Nat.lt_of_lt_of_le h.lt hs) fun j => World.cell?_of_block (w := w) (a := ⟨b, j, none⟩) hb, fun j hj => (World.frozen?_of_block (w := w) (a := ⟨b, j, none⟩) hb).trans (h.free j hj)⟩
theorem MOwn.keep (h : MOwn w b n X) (hb : Below w.heap.size w w') : MOwn w' b n X := h.same hb.size (hb.block b h.lt)
theorem MOwn.congr (h : MOwn w b n X) (e : ∀ i, i < n → X i = Y i) : MOwn w b n Y := ⟨h.lt, fun i hi => by rw [← e i hi]; exact h.ent i hi, h.free⟩
theorem MOwn.there (h : MOwn w b n X) (hk : k < n) (q : Nat) (hq : q < 4) : (w.cell? ⟨b, k * 4 + q, none⟩).isSome = true := by
  obtain ⟨_, a0, a1, a2, a3⟩ := h.ent k hk
  have : q = 0 ∨ q = 1 ∨ q = 2 ∨ q = 3 := by omega
  rcases this with rfl | rfl | rfl | rfl
  · rw [Nat.add_zero, a0]; rfl
  · rw [a1]; rfl
  · rw [a2]; rfl
  · rw [a3]; rfl
end
set_option maxRecDepth 10000 in
theorem MOwn.store {w : World} {b n k : Nat} {X : Nat → Met} (h : MOwn w b n X) (hk : k < n) (y : Met) :
    MOwn (w.setCells b (k * 4) [.int .i64 y.file, .string y.least, .string y.most, .int .i64 y.many]) b n (fun i => if i = k then y else X i) := by
  generalize hL : ([.int .i64 y.file, .string y.least, .string y.most, .int .i64 y.many] : List Value) = L
  have hlen : L.length = 4 := by rw [← hL]; rfl
  have hoth := setCells_others b L (k * 4) w
  have hin := World.cell?_setCells_in b L (k * 4) w (fun j hj => h.there hk j (by omega))
  have hout : ∀ j, j < k * 4 ∨ k * 4 + 4 ≤ j → (w.setCells b (k * 4) L).cell? ⟨b, j, none⟩ = w.cell? ⟨b, j, none⟩ := fun j hj => World.cell?_setCells_out b L (k * 4) w ⟨b, j, none⟩ (fun _ _ => by simp only [hlen]; exact hj)
  have hlt : b < (w.setCells b (k * 4) L).heap.size := by rw [hoth.size]; exact h.lt
  refine ⟨hlt, fun i hi => ?_, fun j hj => by rw [World.frozen?_setCells]; exact h.free j hj⟩
  by_cases e : i = k
  · subst e
    simp only [if_true]
    subst hL
    exact ⟨hlt, hin 0 (by simp), hin 1 (by simp), hin 2 (by simp), hin 3 (by simp)⟩
  · simp only [e, if_false]
    have h0 := h.ent i (by omega)
    have c : ∀ q, q < 4 → (w.setCells b (k * 4) L).cell? ⟨b, i * 4 + q, none⟩ = w.cell? ⟨b, i * 4 + q, none⟩ := fun q hq => hout _ (by omega)
    exact ⟨hlt, (c 0 (by omega)).trans h0.c0, (c 1 (by omega)).trans h0.c1, (c 2 (by omega)).trans h0.c2, (c 3 (by omega)).trans h0.c3⟩

/-- The one that is marked from k on. -/
def mkM (k : Int) : Met := ⟨k, mt (k + 1), mt (k + 2), k + 3⟩

/-- Its cells. -/
def mc (x : Met) : List Value := [.int .i64 x.file, .string x.least, .string x.most, .int .i64 x.many]
theorem MAt.get {w : World} {b off : Nat} {x : Met} (h : MAt w b off x) (q : Nat) (hq : q < 4) : w.cell? ⟨b, off + q, none⟩ = (mc x)[q]? := by
  have : q = 0 ∨ q = 1 ∨ q = 2 ∨ q = 3 := by omega
  rcases this with rfl | rfl | rfl | rfl
  · exact h.c0
  · exact h.c1
  · exact h.c2
  · exact h.c3
theorem mat_of {w : World} {b off : Nat} {x : Met} (hl : b < w.heap.size) (h : ∀ q, q < 4 → w.cell? ⟨b, off + q, none⟩ = (mc x)[q]?) : MAt w b off x :=
  ⟨hl, h 0 (by omega), h 1 (by omega), h 2 (by omega), h 3 (by omega)⟩
theorem MOwn.put {w : World} {b n k : Nat} {X : Nat → Met} (h : MOwn w b n X) (hk : k < n) (q : Nat) (hq : q < 4) (v : Value) (y : Met) (hy : mc y = (mc (X k)).set q v) :
    MOwn (w.setCell ⟨b, k * 4 + q, none⟩ v) b n (fun i => if i = k then y else X i) := by
  obtain ⟨v0, hv0⟩ := Option.isSome_iff_exists.1 (h.there hk q hq)
  have hoth : Others b w (w.setCell ⟨b, k * 4 + q, none⟩ v) := Others.setCell _ _ _ _
  have hlt : b < (w.setCell ⟨b, k * 4 + q, none⟩ v).heap.size := by rw [hoth.size]; exact h.lt
  have hsame : (w.setCell ⟨b, k * 4 + q, none⟩ v).cell? ⟨b, k * 4 + q, none⟩ = some v := World.cell?_setCell_same _ _ _ hv0
  have hother : ∀ j, j ≠ k * 4 + q → (w.setCell ⟨b, k * 4 + q, none⟩ v).cell? ⟨b, j, none⟩ = w.cell? ⟨b, j, none⟩ := fun j hj => World.cell?_setCell_other _ _ _ _ (by intro hh; injection hh with _ h2 _; omega)
  refine ⟨hlt, fun i hi => mat_of hlt fun r hr => ?_, fun j hj => by simpa using h.free j hj⟩
  by_cases e : i = k
  · subst e
    simp only [if_true]
    rw [hy]
    by_cases e2 : r = q
    · subst e2
      rw [hsame, List.getElem?_set_self (by simp [mc]; omega)]
    · rw [hother _ (by omega), List.getElem?_set_ne (by omega)]
      exact (h.ent i hi).get r hr
  · simp only [e, if_false]
    rw [hother _ (by omega)]
    exact (h.ent i hi).get r hr

end Go.Proofs.Ytagkhohglpjjlaa
namespace Go.Proofs.Ytagkhohglpjjlaa
open Go.RowKit
set_option linter.unusedSimpArgs false
set_option linter.unusedVariables false

/-- The i-th of a list. -/
def mL (L : List Met) (i : Nat) : Met := L.getD i (⟨0, .empty, .empty, 0⟩ : Met)
theorem mc_len (x : Met) : (mc x).length = 4 := rfl
theorem mf_len (L : List Met) : (L.flatMap mc).length = L.length * 4 := by
  induction L with
  | nil => rfl
  | cons x L ih => simp only [List.flatMap_cons, List.length_append, mc_len, ih, List.length_cons]; omega
theorem mf_get : ∀ (L : List Met) (i q : Nat), i < L.length → q < 4 → (L.flatMap mc)[i * 4 + q]? = (mc (mL L i))[q]?
  | [], i, q, h, _ => by simp at h
  | x :: L, 0, q, _, hq => by
    simp only [List.flatMap_cons, Nat.zero_mul, Nat.zero_add]
    rw [List.getElem?_append_left (by rw [mc_len]; exact hq)]
    rfl
  | x :: L, i + 1, q, h, hq => by
    have := mf_get L i q (by simpa using h) hq
    simp only [List.flatMap_cons]
    rw [List.getElem?_append_right (by rw [mc_len]; omega), mc_len]
    have e : (i + 1) * 4 + q - 4 = i * 4 + q := by omega
    rw [e, this]
    rfl
/-- v is a slice of the call's own that holds L. -/
structure OwnM (w : World) (base : Nat) (v : Value) (L : List Met) : Prop where
  bd : ∀ x ∈ L, MB x
  own : w.ownsRow base 52 4 v L.length (L.flatMap mc)
theorem ownM_nil (w : World) (base : Nat) : OwnM w base (.slice none 0 0) [] := ⟨fun x hx => (by cases hx), World.ownsRow_nil _ _ _ _⟩
theorem mL_mem {L : List Met} {i : Nat} (h : i < L.length) : mL L i ∈ L := by simp [mL, h]
section
variable {w w' : World} {base base' : Nat} {v : Value} {L : List Met}
theorem OwnM.form (h : OwnM w base v L) : ∃ ao cap, v = .slice ao L.length cap ∧ L.length ≤ cap := by
  rcases h.own.2 with ⟨rfl, h0⟩ | ⟨g, cap, cur, rfl, hbg, hg, hnc, _⟩
  · exact ⟨none, 0, by rw [h0], by omega⟩
  · exact ⟨some ⟨g, 0, none⟩, cap, rfl, hnc⟩
theorem OwnM.at (h : OwnM w base v L) (hn : 0 < L.length) : ∃ g cap, v = .slice (some ⟨g, 0, none⟩) L.length cap ∧ base ≤ g ∧ L.length ≤ cap ∧ MOwn w g L.length (mL L) := by
  have ho := h.own
  rcases ho.2 with ⟨_, h0⟩ | ⟨g, cap, cur, rfl, hbg, hg, hnc, _⟩
  · omega
  · have hlt := (Array.getElem?_eq_some_iff.1 hg).1
    exact ⟨g, cap, rfl, hbg, hnc, hlt, fun i hi => mat_of hlt fun q hq => by rw [ho.cellAt (i * 4 + q) (by omega), mf_get L i q hi hq], fun j hj => ho.frozenAt j⟩
theorem OwnM.row {ao : Option Addr} {n c : Nat} (h : OwnM w base (.slice ao n c) L) : MRow w ao L.length (mL L) := by
  by_cases h0 : L.length = 0
  · exact ⟨fun i hi => by omega, .inl h0⟩
  · obtain ⟨g, cap, e, _, _, h1⟩ := h.at (by omega)
    injection e with e1 e2 e3
    rw [e1]
    exact h1.row fun i hi => h.bd _ (mL_mem hi)
theorem OwnM.keep (h : OwnM w base v L) (hb : Below w.heap.size w w') : OwnM w' base v L := by
  refine ⟨h.bd, h.own.1, ?_⟩
  rcases h.own.2 with ⟨rfl, h0⟩ | ⟨g, cap, cur, rfl, h1, h2, h3⟩
  · exact .inl ⟨rfl, h0⟩
  · exact .inr ⟨g, cap, cur, rfl, h1, (hb.block g (Array.getElem?_eq_some_iff.1 h2).1).trans h2, h3⟩
theorem OwnM.same (h : OwnM w base v L) (hb : ∀ c, v.ownBlock = some c → w'.heap[c]? = w.heap[c]?) : OwnM w' base v L := by
  refine ⟨h.bd, h.own.1, ?_⟩
  rcases h.own.2 with ⟨rfl, h0⟩ | ⟨g, cap, cur, rfl, h1, h2, h3⟩
  · exact .inl ⟨rfl, h0⟩
  · exact .inr ⟨g, cap, cur, rfl, h1, (hb g rfl).trans h2, h3⟩
theorem OwnM.lower (h : OwnM w base v L) (hb : base' ≤ base) : OwnM w base' v L := by
  refine ⟨h.bd, h.own.1, ?_⟩
  rcases h.own.2 with h0 | ⟨g, cap, cur, e, h1, h2⟩
  · exact .inl h0
  · exact .inr ⟨g, cap, cur, e, Nat.le_trans hb h1, h2⟩
theorem OwnM.below {B : Nat} {wr : World} (ho : OwnM wr base v L) (hb : Below B w wr) (hg : wr.grownBy w' v.ownBlock) (hB : B ≤ base) (hs : B ≤ wr.heap.size) : Below B w w' := by
  refine hb.grown hg hs fun k hk => ?_
  have := (ho.own.lt k hk).1
  omega
end
theorem cell_one_m (w : World) (x : Met) (T : Nat) : ∀ j u, (mc x)[j]? = some u → (w.alloc (.cells #[.int .i64 x.file, .string x.least, .string x.most, .int .i64 x.many] T)).cell? ((⟨w.heap.size, 0, none⟩ : Addr).add j) = some u := by
  intro j u hj
  have h := MAt.new w x T
  have hq : j < 4 := by
    have := (List.getElem?_eq_some_iff.1 hj).1
    simpa [mc] using this
  have e : (⟨w.heap.size, 0, none⟩ : Addr).add j = ⟨w.heap.size, 0 + j, none⟩ := by
    unfold Addr.add
    split
    · simp_all
    · rfl
  rw [e, h.get j hq]
  exact hj

/-- One put behind. -/
theorem wpList_pushM {w : World} {ops : Array Oper} {rest : List Oper} {o : Oper} {a : Act} {Q : Exit → Act → World → Prop} (hgd : o.guard = none) (s y : Operand)
    (ho : o.op = .call { callee := .builtin .append, args := #[s, y], argTypes := #[71, 71] })
    (base B : Nat) (v : Value) (L : List Met) (x : Met) (hs : a.eval s = v) (h : OwnM w base v L) (hx : MB x)
    (hy : a.eval y = .slice (some ⟨B, 0, none⟩) 1 1) (hB : B = w.heap.size) (hn : L.length ≤ 1048576) (hbase : base ≤ w.heap.size)
    (hk : ∀ v' w', OwnM w' base v' (L ++ [x]) → (w.alloc (.cells #[.int .i64 x.file, .string x.least, .string x.most, .int .i64 x.many] 52)).grownBy w' v.ownBlock → wpList Try.prog ops Q rest (a.put o.dst v') w') :
    wpList Try.prog ops Q (o :: rest) a (w.alloc (.cells #[.int .i64 x.file, .string x.least, .string x.most, .int .i64 x.many] 52)) := by
  subst hB
  obtain ⟨i0, hi, hz0, hz1, hz2⟩ := info_parts Try.infoM
  refine wpList_append_own (w := w.alloc (.cells #[.int .i64 x.file, .string x.least, .string x.most, .int .i64 x.many] 52)) hgd s y 71 ho base 52 i0 (.agg #[.int .i64 0, .string ByteArray.empty, .string ByteArray.empty, .int .i64 0]) 4 48 Try.underlying71 hi hz0 hz1 hz2 rfl (by decide) v L.length (L.flatMap mc) hs (h.keep (below_new w _)).own ⟨w.heap.size, 0, none⟩ 1 1 (mc x) hy rfl (cell_one_m _ _ _) (fun u hu => by
    simp only [mc, List.mem_cons, List.not_mem_nil, or_false] at hu
    rcases hu with rfl | rfl | rfl | rfl <;> rfl) (by unfold maxLen; omega) (by omega) (by simp; omega) ?_
  intro v' w' h1 h2 _
  refine hk v' w' ⟨fun z hz => ?_, ?_⟩ h2
  · rcases List.mem_append.1 hz with hz | hz
    · exact h.bd z hz
    · rw [List.mem_singleton.1 hz]; exact hx
  · have e : (L ++ [x]).length = L.length + 1 := by simp
    rw [e, List.flatMap_append]
    simpa using h1
end Go.Proofs.Ytagkhohglpjjlaa
