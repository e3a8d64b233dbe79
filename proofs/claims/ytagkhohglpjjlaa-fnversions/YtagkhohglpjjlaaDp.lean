/- Rows of Add: measured, copied, compared, marked, held. / Rows of Add that the call itself gathers by append. -/
import Derived.Test.YtagkhohglpjjlaaMp
import Derived.Laws.IdiomCopy
import Derived.Deep.RegionHeld3
namespace Go.Proofs.Ytagkhohglpjjlaa
open Go.RowKit
set_option linter.unusedSimpArgs false
set_option linter.unusedVariables false

/-- What an add holds. -/
structure Adm where
  lv : Int
  m : Met
/-- Its fields are what a machine can hold. -/
structure DB (x : Adm) : Prop where
  lv : -9223372036854775808 ≤ x.lv ∧ x.lv ≤ 9223372036854775807
  m : MB x.m
/-- One in 5 cells from off on. -/
structure DAt (w : World) (b off : Nat) (x : Adm) : Prop where
  lt : b < w.heap.size
  c0 : w.cell? ⟨b, off, none⟩ = some (.int .i64 x.lv)
  c1 : w.cell? ⟨b, off + 1, none⟩ = some (.int .i64 x.m.file)
  c2 : w.cell? ⟨b, off + 2, none⟩ = some (.string x.m.least)
  c3 : w.cell? ⟨b, off + 3, none⟩ = some (.string x.m.most)
  c4 : w.cell? ⟨b, off + 4, none⟩ = some (.int .i64 x.m.many)
section
variable {w w' : World} {b off : Nat} {x : Adm}
theorem DAt.move (h : DAt w b off x) (lt : b < w'.heap.size) (k : ∀ j, w'.cell? ⟨b, j, none⟩ = w.cell? ⟨b, j, none⟩) : DAt w' b off x :=
  ⟨lt, (k _).trans h.c0, (k _).trans h.c1, (k _).trans h.c2, (k _).trans h.c3, (k _).trans h.c4⟩
theorem DAt.keep (h : DAt w b off x) (hb : Below w.heap.size w w') : DAt w' b off x :=
  h.move (Nat.lt_of_lt_of_le h.lt hb.size) fun j => hb.cell (p := ⟨b, j, none⟩) h.lt
theorem DAt.others {d : Nat} (h : DAt w b off x) (ho : Others d w w') (hne : b ≠ d) : DAt w' b off x :=
  h.move (by rw [ho.size]; exact h.lt) fun j => World.cell?_of_block (w := w) (a := ⟨b, j, none⟩) (ho.block b hne)
end
theorem DAt.new (w : World) (x : Adm) (T : Nat) : DAt (w.alloc (.cells #[.int .i64 x.lv, .int .i64 x.m.file, .string x.m.least, .string x.m.most, .int .i64 x.m.many] T)) w.heap.size 0 x := by
  refine ⟨by simp, ?_, ?_, ?_, ?_, ?_⟩ <;> simp [go_sem]
/-- n of them at ao. -/
structure DRow (w : World) (ao : Option Addr) (n : Nat) (X : Nat → Adm) : Prop where
  bd : ∀ i, i < n → DB (X i)
  lies : n = 0 ∨ ∃ b off, ao = some ⟨b, off, none⟩ ∧ b < w.heap.size ∧ ∀ i, i < n → DAt w b (off + i * 5) (X i)
theorem DRow.keep {w w' : World} {ao : Option Addr} {n : Nat} {X : Nat → Adm} (h : DRow w ao n X) (hb : Below w.heap.size w w') : DRow w' ao n X :=
  ⟨h.bd, h.lies.elim .inl fun ⟨b, off, e, hlt, hc⟩ => .inr ⟨b, off, e, Nat.lt_of_lt_of_le hlt hb.size, fun i hi => (hc i hi).keep hb⟩⟩
theorem DRow.nil (w : World) (ao : Option Addr) (X : Nat → Adm) : DRow w ao 0 X := ⟨fun i hi => by omega, .inl rfl⟩
theorem DRow.congr {w : World} {ao : Option Addr} {n : Nat} {X Y : Nat → Adm} (h : DRow w ao n X) (e : ∀ i, i < n → X i = Y i) : DRow w ao n Y :=
  ⟨fun i hi => by rw [← e i hi]; exact h.bd i hi, h.lies.elim .inl fun ⟨b, off, e1, hlt, hc⟩ => .inr ⟨b, off, e1, hlt, fun i hi => by rw [← e i hi]; exact hc i hi⟩⟩

theorem Try.infoD : (Try.prog.info? 54).map (fun i => (i.zero, i.size, i.bytes)) = some (some (.agg #[.int .i64 0, .int .i64 0, .string ByteArray.empty, .string ByteArray.empty, .int .i64 0]), 5, 56) := by kernel_rfl

/-- The letters of the first k together. -/
def dtot (X : Nat → Adm) : Nat → Nat
  | 0 => 0
  | k + 1 => dtot X k + ((X k).m.least.size + (X k).m.most.size)
theorem dtot_le {X : Nat → Adm} : ∀ {n i : Nat}, i < n → (X i).m.least.size + (X i).m.most.size ≤ dtot X n
  | n + 1, i, h => by
    unfold dtot
    rcases Nat.lt_succ_iff_lt_or_eq.1 h with h | rfl
    · have := dtot_le (X := X) h; omega
    · omega

/-- n of them in block b, to be written. -/
structure DOwn (w : World) (b n : Nat) (X : Nat → Adm) : Prop where
  lt : b < w.heap.size
  ent : ∀ i, i < n → DAt w b (i * 5) (X i)
  free : ∀ j, j < n * 5 → w.frozen? ⟨b, j, none⟩ = false
section
variable {w w' : World} {b n k : Nat} {X Y : Nat → Adm}
theorem DOwn.row (h : DOwn w b n X) (hbd : ∀ i, i < n → DB (X i)) : DRow w (some ⟨b, 0, none⟩) n X :=
  ⟨hbd, .inr ⟨b, 0, rfl, h.lt, fun i hi => by rw [Nat.zero_add]; exact h.ent i hi⟩⟩
theorem DOwn.same (h : DOwn w b n X) (hs : w.heap.size ≤ w'.heap.size) (hb : w'.heap[b]? = w.heap[b]?) : DOwn w' b n X :=
  ⟨Nat.lt_of_lt_of_le h.lt hs, fun i hi => (h.ent i hi).move (Nat.lt_of_lt_of_le h.lt hs) fun j => World.cell?_of_block (w := w) (a := ⟨b, j, none⟩) hb, fun j hj => (World.frozen?_of_block (w := w) (a := ⟨b, j, none⟩) hb).trans (h.free j hj)⟩
theorem DOwn.keep (h : DOwn w b n X) (hb : Below w.heap.size w w') : DOwn w' b n X := h.same hb.size (hb.block b h.lt)
theorem DOwn.congr (h : DOwn w b n X) (e : ∀ i, i < n → X i = Y i) : DOwn w b n Y := ⟨h.lt, fun i hi => by rw [← e i hi]; exact h.ent i hi, h.free⟩
theorem DOwn.there (h : DOwn w b n X) (hk : k < n) (q : Nat) (hq : q < 5) : (w.cell? ⟨b, k * 5 + q, none⟩).isSome = true := by
  obtain ⟨_, a0, a1, a2, a3, a4⟩ := h.ent k hk
  have : q = 0 ∨ q = 1 ∨ q = 2 ∨ q = 3 ∨ q = 4 := by omega
  rcases this with rfl | rfl | rfl | rfl | rfl
  · rw [Nat.add_zero, a0]; rfl
  · rw [a1]; rfl
  · rw [a2]; rfl
  · rw [a3]; rfl
  · rw [a4]; rfl
end
set_option maxRecDepth 10000 in
theorem DOwn.store {w : World} {b n k : Nat} {X : Nat → Adm} (h : DOwn w b n X) (hk : k < n) (y : Adm) :
    DOwn (w.setCells b (k * 5) [.int .i64 y.lv, .int .i64 y.m.file, .string y.m.least, .string y.m.most, .int .i64 y.m.many]) b n (fun i => if i = k then y else X i) := by
  generalize hL : ([.int .i64 y.lv, .int .i64 y.m.file, .string y.m.least, .string y.m.most, .int .i64 y.m.many] : List Value) = L
  have hlen : L.length = 5 := by rw [← hL]; rfl
  have hoth := setCells_others b L (k * 5) w
  have hin := World.cell?_setCells_in b L (k * 5) w (fun j hj => h.there hk j (by omega))
  have hout : ∀ j, j < k * 5 ∨ k * 5 + 5 ≤ j → (w.setCells b (k * 5) L).cell? ⟨b, j, none⟩ = w.cell? ⟨b, j, none⟩ := fun j hj => World.cell?_setCells_out b L (k * 5) w ⟨b, j, none⟩ (fun _ _ => by simp only [hlen]; exact hj)
  have hlt : b < (w.setCells b (k * 5) L).heap.size := by rw [hoth.size]; exact h.lt
  refine ⟨hlt, fun i hi => ?_, fun j hj => by rw [World.frozen?_setCells]; exact h.free j hj⟩
  by_cases e : i = k
  · subst e
    simp only [if_true]
    subst hL
    exact ⟨hlt, hin 0 (by simp), hin 1 (by simp), hin 2 (by simp), hin 3 (by simp), hin 4 (by simp)⟩
  · simp only [e, if_false]
    have h0 := h.ent i (by omega)
    have c : ∀ q, q < 5 → (w.setCells b (k * 5) L).cell? ⟨b, i * 5 + q, none⟩ = w.cell? ⟨b, i * 5 + q, none⟩ := fun q hq => hout _ (by omega)
    exact ⟨hlt, (c 0 (by omega)).trans h0.c0, (c 1 (by omega)).trans h0.c1, (c 2 (by omega)).trans h0.c2, (c 3 (by omega)).trans h0.c3, (c 4 (by omega)).trans h0.c4⟩

/-- The one that is marked from k on. -/
def mkD (k : Int) : Adm := ⟨k, k + 1, mt (k + 2), mt (k + 3), k + 4⟩

/-- Its cells. -/
def dc (x : Adm) : List Value := [.int .i64 x.lv, .int .i64 x.m.file, .string x.m.least, .string x.m.most, .int .i64 x.m.many]
theorem DAt.get {w : World} {b off : Nat} {x : Adm} (h : DAt w b off x) (q : Nat) (hq : q < 5) : w.cell? ⟨b, off + q, none⟩ = (dc x)[q]? := by
  have : q = 0 ∨ q = 1 ∨ q = 2 ∨ q = 3 ∨ q = 4 := by omega
  rcases this with rfl | rfl | rfl | rfl | rfl
  · exact h.c0
  · exact h.c1
  · exact h.c2
  · exact h.c3
  · exact h.c4
theorem dat_of {w : World} {b off : Nat} {x : Adm} (hl : b < w.heap.size) (h : ∀ q, q < 5 → w.cell? ⟨b, off + q, none⟩ = (dc x)[q]?) : DAt w b off x :=
  ⟨hl, h 0 (by omega), h 1 (by omega), h 2 (by omega), h 3 (by omega), h 4 (by omega)⟩
theorem DOwn.put {w : World} {b n k : Nat} {X : Nat → Adm} (h : DOwn w b n X) (hk : k < n) (q : Nat) (hq : q < 5) (v : Value) (y : Adm) (hy : dc y = (dc (X k)).set q v) :
    DOwn (w.setCell ⟨b, k * 5 + q, none⟩ v) b n (fun i => if i = k then y else X i) := by
  obtain ⟨v0, hv0⟩ := Option.isSome_iff_exists.1 (h.there hk q hq)
  have hoth : Others b w (w.setCell ⟨b, k * 5 + q, none⟩ v) := Others.setCell _ _ _ _
  have hlt : b < (w.setCell ⟨b, k * 5 + q, none⟩ v).heap.size := by rw [hoth.size]; exact h.lt
  have hsame : (w.setCell ⟨b, k * 5 + q, none⟩ v).cell? ⟨b, k * 5 + q, none⟩ = some v := World.cell?_setCell_same _ _ _ hv0
  have hother : ∀ j, j ≠ k * 5 + q → (w.setCell ⟨b, k * 5 + q, none⟩ v).cell? ⟨b, j, none⟩ = w.cell? ⟨b, j, none⟩ := fun j hj => World.cell?_setCell_other _ _ _ _ (by intro hh; injection hh with _ h2 _; omega)
  refine ⟨hlt, fun i hi => dat_of hlt fun r hr => ?_, fun j hj => by simpa using h.free j hj⟩
  by_cases e : i = k
  · subst e
    simp only [if_true]
    rw [hy]
    by_cases e2 : r = q
    · subst e2
      rw [hsame, List.getElem?_set_self (by simp [dc]; omega)]
    · rw [hother _ (by omega), List.getElem?_set_ne (by omega)]
      exact (h.ent i hi).get r hr
  · simp only [e, if_false]
    rw [hother _ (by omega)]
    exact (h.ent i hi).get r hr

end Go.Proofs.Ytagkhohglpjjlaa
namespace Go.Proofs.Ytagkhohglpjjlaa
open Go.RowKit
set_option linter.unusedSimpArgs false
set_option linter.unusedVariables false

/-- The i-th of a list. -/
def dL (L : List Adm) (i : Nat) : Adm := L.getD i (⟨0, ⟨0, .empty, .empty, 0⟩⟩ : Adm)
theorem dc_len (x : Adm) : (dc x).length = 5 := rfl
theorem df_len (L : List Adm) : (L.flatMap dc).length = L.length * 5 := by
  induction L with
  | nil => rfl
  | cons x L ih => simp only [List.flatMap_cons, List.length_append, dc_len, ih, List.length_cons]; omega
theorem df_get : ∀ (L : List Adm) (i q : Nat), i < L.length → q < 5 → (L.flatMap dc)[i * 5 + q]? = (dc (dL L i))[q]?
  | [], i, q, h, _ => by simp at h
  | x :: L, 0, q, _, hq => by
    simp only [List.flatMap_cons, Nat.zero_mul, Nat.zero_add]
    rw [List.getElem?_append_left (by rw [dc_len]; exact hq)]
    rfl
  | x :: L, i + 1, q, h, hq => by
    have := df_get L i q (by simpa using h) hq
    simp only [List.flatMap_cons]
    rw [List.getElem?_append_right (by rw [dc_len]; omega), dc_len]
    have e : (i + 1) * 5 + q - 5 = i * 5 + q := by omega
    rw [e, this]
    rfl
/-- v is a slice of the call's own that holds L. -/
structure OwnD (w : World) (base : Nat) (v : Value) (L : List Adm) : Prop where
  bd : ∀ x ∈ L, DB x
  own : w.ownsRow base 54 5 v L.length (L.flatMap dc)
theorem ownD_nil (w : World) (base : Nat) : OwnD w base (.slice none 0 0) [] := ⟨fun x hx => (by cases hx), World.ownsRow_nil _ _ _ _⟩
theorem dL_mem {L : List Adm} {i : Nat} (h : i < L.length) : dL L i ∈ L := by simp [dL, h]
section
variable {w w' : World} {base base' : Nat} {v : Value} {L : List Adm}
theorem OwnD.form (h : OwnD w base v L) : ∃ ao cap, v = .slice ao L.length cap ∧ L.length ≤ cap := by
  rcases h.own.2 with ⟨rfl, h0⟩ | ⟨g, cap, cur, rfl, hbg, hg, hnc, _⟩
  · exact ⟨none, 0, by rw [h0], by omega⟩
  · exact ⟨some ⟨g, 0, none⟩, cap, rfl, hnc⟩
theorem OwnD.at (h : OwnD w base v L) (hn : 0 < L.length) : ∃ g cap, v = .slice (some ⟨g, 0, none⟩) L.length cap ∧ base ≤ g ∧ L.length ≤ cap ∧ DOwn w g L.length (dL L) := by
  have ho := h.own
  rcases ho.2 with ⟨_, h0⟩ | ⟨g, cap, cur, rfl, hbg, hg, hnc, _⟩
  · omega
  · have hlt := (Array.getElem?_eq_some_iff.1 hg).1
    exact ⟨g, cap, rfl, hbg, hnc, hlt, fun i hi => dat_of hlt fun q hq => by rw [ho.cellAt (i * 5 + q) (by omega), df_get L i q hi hq], fun j hj => ho.frozenAt j⟩
theorem OwnD.row {ao : Option Addr} {n c : Nat} (h : OwnD w base (.slice ao n c) L) : DRow w ao L.length (dL L) := by
  by_cases h0 : L.length = 0
  · exact ⟨fun i hi => by omega, .inl h0⟩
  · obtain ⟨g, cap, e, _, _, h1⟩ := h.at (by omega)
    injection e with e1 e2 e3
    rw [e1]
    exact h1.row fun i hi => h.bd _ (dL_mem hi)
theorem OwnD.keep (h : OwnD w base v L) (hb : Below w.heap.size w w') : OwnD w' base v L := by
  refine ⟨h.bd, h.own.1, ?_⟩
  rcases h.own.2 with ⟨rfl, h0⟩ | ⟨g, cap, cur, rfl, h1, h2, h3⟩
  · exact .inl ⟨rfl, h0⟩
  · exact .inr ⟨g, cap, cur, rfl, h1, (hb.block g (Array.getElem?_eq_some_iff.1 h2).1).trans h2, h3⟩
theorem OwnD.same (h : OwnD w base v L) (hb : ∀ c, v.ownBlock = some c → w'.heap[c]? = w.heap[c]?) : OwnD w' base v L := by
  refine ⟨h.bd, h.own.1, ?_⟩
  rcases h.own.2 with ⟨rfl, h0⟩ | ⟨g, cap, cur, rfl, h1, h2, h3⟩
  · exact .inl ⟨rfl, h0⟩
  · exact .inr ⟨g, cap, cur, rfl, h1, (hb g rfl).trans h2, h3⟩
theorem OwnD.lower (h : OwnD w base v L) (hb : base' ≤ base) : OwnD w base' v L := by
  refine ⟨h.bd, h.own.1, ?_⟩
  rcases h.own.2 with h0 | ⟨g, cap, cur, e, h1, h2⟩
  · exact .inl h0
  · exact .inr ⟨g, cap, cur, e, Nat.le_trans hb h1, h2⟩
theorem OwnD.below {B : Nat} {wr : World} (ho : OwnD wr base v L) (hb : Below B w wr) (hg : wr.grownBy w' v.ownBlock) (hB : B ≤ base) (hs : B ≤ wr.heap.size) : Below B w w' := by
  refine hb.grown hg hs fun k hk => ?_
  have := (ho.own.lt k hk).1
  omega
end
theorem cell_one_d (w : World) (x : Adm) (T : Nat) : ∀ j u, (dc x)[j]? = some u → (w.alloc (.cells #[.int .i64 x.lv, .int .i64 x.m.file, .string x.m.least, .string x.m.most, .int .i64 x.m.many] T)).cell? ((⟨w.heap.size, 0, none⟩ : Addr).add j) = some u := by
  intro j u hj
  have h := DAt.new w x T
  have hq : j < 5 := by
    have := (List.getElem?_eq_some_iff.1 hj).1
    simpa [dc] using this
  have e : (⟨w.heap.size, 0, none⟩ : Addr).add j = ⟨w.heap.size, 0 + j, none⟩ := by
    unfold Addr.add
    split
    · simp_all
    · rfl
  rw [e, h.get j hq]
  exact hj

/-- One put behind. -/
theorem wpList_pushD {w : World} {ops : Array Oper} {rest : List Oper} {o : Oper} {a : Act} {Q : Exit → Act → World → Prop} (hgd : o.guard = none) (s y : Operand)
    (ho : o.op = .call { callee := .builtin .append, args := #[s, y], argTypes := #[27, 27] })
    (base B : Nat) (v : Value) (L : List Adm) (x : Adm) (hs : a.eval s = v) (h : OwnD w base v L) (hx : DB x)
    (hy : a.eval y = .slice (some ⟨B, 0, none⟩) 1 1) (hB : B = w.heap.size) (hn : L.length ≤ 1048576) (hbase : base ≤ w.heap.size)
    (hk : ∀ v' w', OwnD w' base v' (L ++ [x]) → (w.alloc (.cells #[.int .i64 x.lv, .int .i64 x.m.file, .string x.m.least, .string x.m.most, .int .i64 x.m.many] 54)).grownBy w' v.ownBlock → wpList Try.prog ops Q rest (a.put o.dst v') w') :
    wpList Try.prog ops Q (o :: rest) a (w.alloc (.cells #[.int .i64 x.lv, .int .i64 x.m.file, .string x.m.least, .string x.m.most, .int .i64 x.m.many] 54)) := by
  subst hB
  obtain ⟨i0, hi, hz0, hz1, hz2⟩ := info_parts Try.infoD
  refine wpList_append_own (w := w.alloc (.cells #[.int .i64 x.lv, .int .i64 x.m.file, .string x.m.least, .string x.m.most, .int .i64 x.m.many] 54)) hgd s y 27 ho base 54 i0 (.agg #[.int .i64 0, .int .i64 0, .string ByteArray.empty, .string ByteArray.empty, .int .i64 0]) 5 56 Try.underlying27 hi hz0 hz1 hz2 rfl (by decide) v L.length (L.flatMap dc) hs (h.keep (below_new w _)).own ⟨w.heap.size, 0, none⟩ 1 1 (dc x) hy rfl (cell_one_d _ _ _) (fun u hu => by
    simp only [dc, List.mem_cons, List.not_mem_nil, or_false] at hu
    rcases hu with rfl | rfl | rfl | rfl | rfl <;> rfl) (by unfold maxLen; omega) (by omega) (by simp; omega) ?_
  intro v' w' h1 h2 _
  refine hk v' w' ⟨fun z hz => ?_, ?_⟩ h2
  · rcases List.mem_append.1 hz with hz | hz
    · exact h.bd z hz
    · rw [List.mem_singleton.1 hz]; exact hx
  · have e : (L ++ [x]).length = L.length + 1 := by simp
    rw [e, List.flatMap_append]
    simpa using h1
end Go.Proofs.Ytagkhohglpjjlaa
