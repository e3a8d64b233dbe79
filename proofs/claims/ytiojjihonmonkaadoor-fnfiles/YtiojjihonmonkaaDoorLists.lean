/- Bytes as lists: where they lie, rows of the call's own, append. -/
import Derived.Test.YtiojjihonmonkaaDoorCur
import Derived.Test.YtiojjihonmonkaaDoorPutFixed
import Derived.Laws.OwnMore
import Derived.Maps.AppendAt
import Derived.Lib.AppendZeros
import Derived.OpenShut
namespace Go.Proofs.YtiojjihonmonkaaDoor
open Go.RowKit
set_option linter.unusedSimpArgs false
set_option linter.unusedVariables false

def fl (L : List Int) : Nat → Int := fun i => L.getD i 0
def Byt (L : List Int) : Prop := ∀ x ∈ L, 0 ≤ x ∧ x ≤ 255
def vb (L : List Int) : List Value := L.map fun x => Value.int .u8 x

theorem vb_length (L : List Int) : (vb L).length = L.length := by simp [vb]
theorem vb_append (L M : List Int) : vb L ++ vb M = vb (L ++ M) := by simp [vb]
theorem vb_get {L : List Int} {i : Nat} (h : i < L.length) : (vb L)[i]? = some (.int .u8 (fl L i)) := by
  simp [vb, fl, h]
theorem Byt.fl {L : List Int} (h : Byt L) (i : Nat) : 0 ≤ fl L i ∧ fl L i ≤ 255 := by
  unfold Go.Proofs.YtiojjihonmonkaaDoor.fl
  rw [List.getD_eq_getElem?_getD]
  by_cases hi : i < L.length
  · rw [List.getElem?_eq_getElem hi]
    exact h _ (List.getElem_mem hi)
  · rw [List.getElem?_eq_none (by omega)]
    simp
theorem Byt.append {L M : List Int} (h : Byt L) (k : Byt M) : Byt (L ++ M) := fun x hx => by
  rcases List.mem_append.1 hx with hx | hx
  · exact h x hx
  · exact k x hx
theorem Byt.take {L : List Int} (h : Byt L) (n : Nat) : Byt (L.take n) := fun x hx => h x (List.mem_of_mem_take hx)
theorem Byt.drop {L : List Int} (h : Byt L) (n : Nat) : Byt (L.drop n) := fun x hx => h x (List.mem_of_mem_drop hx)
theorem byt_nil : Byt [] := fun x hx => by cases hx
theorem byt_one {x : Int} (h : 0 ≤ x ∧ x ≤ 255) : Byt [x] := fun y hy => by rw [List.mem_singleton.1 hy]; exact h
theorem byt_cons {x : Int} {L : List Int} (h : 0 ≤ x ∧ x ≤ 255) (k : Byt L) : Byt (x :: L) := (byt_one h).append k

/-- The bytes L lie in block b from off on. -/
structure At (w : World) (b off : Nat) (L : List Int) : Prop where
  bd : Byt L
  lt : b < w.heap.size
  cell : ∀ i, i < L.length → w.cell? ⟨b, off + i, none⟩ = some (.int .u8 (fl L i))

theorem At.keep {w w' : World} {b off : Nat} {L : List Int} (h : At w b off L) (hb : Below w.heap.size w w') : At w' b off L :=
  ⟨h.bd, Nat.lt_of_lt_of_le h.lt hb.size, fun i hi => (hb.cell (p := ⟨b, off + i, none⟩) h.lt).trans (h.cell i hi)⟩
theorem At.grown {w w' : World} {b off : Nat} {L : List Int} {row : Option Nat} (h : At w b off L) (hg : w.grownBy w' row) (hne : row ≠ some b) : At w' b off L :=
  ⟨h.bd, Nat.lt_of_lt_of_le h.lt hg.size, fun i hi => hg.cell (h.cell i hi) (fun e => hne e.symm)⟩
theorem At.row {w : World} {b off : Nat} {L : List Int} (h : At w b off L) : Row w (some ⟨b, off, none⟩) L.length (fl L) :=
  ⟨h.bd.fl, .inr ⟨b, off, rfl, h.lt, h.cell⟩⟩
theorem At.take {w : World} {b off : Nat} {L : List Int} (h : At w b off L) (n : Nat) : At w b off (L.take n) :=
  ⟨h.bd.take n, h.lt, fun i hi => by
    rw [List.length_take] at hi
    rw [h.cell i (by omega)]
    simp only [fl, List.getD_eq_getElem?_getD]
    rw [List.getElem?_take_of_lt (by omega)]⟩
theorem At.drop {w : World} {b off : Nat} {L : List Int} (h : At w b off L) (n : Nat) : At w b (off + n) (L.drop n) :=
  ⟨h.bd.drop n, h.lt, fun i hi => by
    rw [List.length_drop] at hi
    rw [Nat.add_assoc, h.cell (n + i) (by omega)]
    simp only [fl, List.getD_eq_getElem?_getD]
    rw [List.getElem?_drop]⟩
theorem At.news {w : World} {b off : Nat} {L : List Int} (h : At w b off L) : ∀ j u, (vb L)[j]? = some u → w.cell? ((⟨b, off, none⟩ : Addr).add j) = some u := by
  intro j u hu
  have hj : j < L.length := by
    rcases Nat.lt_or_ge j L.length with hj | hj
    · exact hj
    · rw [List.getElem?_eq_none (by rw [vb_length]; exact hj)] at hu
      cases hu
  rw [vb_get hj] at hu
  have := h.cell j hj
  by_cases h0 : j = 0
  · subst h0
    simpa [Addr.add] using this.trans hu
  · simpa [Addr.add, h0] using this.trans hu
theorem vb_one (L : List Int) : ∀ u ∈ vb L, u.oneCell' = true := by
  intro u hu
  obtain ⟨x, _, rfl⟩ := List.mem_map.1 hu
  rfl

/-- v is a slice of the call's own (all of it lies in a block from base on) that holds L. -/
structure OwnL (w : World) (base : Nat) (v : Value) (L : List Int) : Prop where
  bd : Byt L
  own : w.ownsRow base 5 1 v L.length (vb L)

theorem ownL_nil (w : World) (base : Nat) : OwnL w base (.slice none 0 0) [] := ⟨byt_nil, World.ownsRow_nil _ _ _ _⟩
theorem OwnL.form {w : World} {base : Nat} {v : Value} {L : List Int} (h : OwnL w base v L) : ∃ ao cap, v = .slice ao L.length cap := by
  rcases h.own.2 with ⟨rfl, h0⟩ | ⟨g, cap, cur, rfl, _⟩
  · exact ⟨none, 0, by rw [h0]⟩
  · exact ⟨_, _, rfl⟩
theorem OwnL.keep {w w' : World} {base : Nat} {v : Value} {L : List Int} (h : OwnL w base v L) (hb : Below w.heap.size w w') : OwnL w' base v L := by
  refine ⟨h.bd, h.own.1, ?_⟩
  rcases h.own.2 with ⟨rfl, h0⟩ | ⟨g, cap, cur, rfl, h1, h2, h3⟩
  · exact .inl ⟨rfl, h0⟩
  · exact .inr ⟨g, cap, cur, rfl, h1, (hb.block g (Array.getElem?_eq_some_iff.1 h2).1).trans h2, h3⟩
theorem OwnL.kept {w w' : World} {base : Nat} {v : Value} {L : List Int} {row : Option Nat} (h : OwnL w base v L) (hg : w.grownBy w' row) (hne : ∀ k, row = some k → v.ownBlock ≠ some k) : OwnL w' base v L := by
  refine ⟨h.bd, h.own.kept hg ?_⟩
  cases hr : v.ownBlock with
  | none => exact .inl rfl
  | some k => exact .inr fun e => hne k e.symm hr
theorem OwnL.lt {w : World} {base : Nat} {v : Value} {L : List Int} (h : OwnL w base v L) : ∀ k, v.ownBlock = some k → base ≤ k ∧ k < w.heap.size := h.own.lt
theorem OwnL.mono {w : World} {base base' : Nat} {v : Value} {L : List Int} (h : OwnL w base v L) (hb : base' ≤ base) : OwnL w base' v L := by
  refine ⟨h.bd, h.own.1, ?_⟩
  rcases h.own.2 with ⟨rfl, h0⟩ | ⟨g, cap, cur, rfl, h1, h2⟩
  · exact .inl ⟨rfl, h0⟩
  · exact .inr ⟨g, cap, cur, rfl, Nat.le_trans hb h1, h2⟩
theorem OwnL.at {w : World} {base : Nat} {v : Value} {L : List Int} (h : OwnL w base v L) (hn : 0 < L.length) :
    ∃ g cap, v = .slice (some ⟨g, 0, none⟩) L.length cap ∧ base ≤ g ∧ L.length ≤ cap ∧ At w g 0 L := by
  have ho := h.own
  rcases ho.2 with ⟨_, h0⟩ | ⟨g, cap, cur, rfl, hbg, hg, hnc, _⟩
  · omega
  · refine ⟨g, cap, rfl, hbg, hnc, h.bd, (Array.getElem?_eq_some_iff.1 hg).1, fun i hi => ?_⟩
    rw [Nat.zero_add, ho.cellAt i (by omega), vb_get hi]
theorem OwnL.own' {w : World} {base : Nat} {v : Value} {L : List Int} (h : OwnL w base v L) (hn : 0 < L.length) :
    ∃ g cap, v = .slice (some ⟨g, 0, none⟩) L.length cap ∧ base ≤ g ∧ L.length ≤ cap ∧ Own w g 0 L.length (fl L) := by
  have ho := h.own
  rcases ho.2 with ⟨_, h0⟩ | ⟨g, cap, cur, rfl, hbg, hg, hnc, _⟩
  · omega
  · refine ⟨g, cap, rfl, hbg, hnc, h.bd.fl, (Array.getElem?_eq_some_iff.1 hg).1, fun i hi => ?_, fun i _ => by simpa using ho.frozenAt i⟩
    rw [Nat.zero_add, ho.cellAt i (by omega), vb_get hi]
theorem ownL_lit (w : World) (base : Nat) (L : List Int) (hL : Byt L) (hb : base ≤ w.heap.size) (hm : L.length ≤ maxLen) :
    OwnL (w.alloc (.cells (vb L).toArray 5)) base (.slice (some ⟨w.heap.size, 0, none⟩) L.length L.length) L := by
  refine ⟨hL, ?_⟩
  have := World.ownsRow_lit (base := base) (e := 5) (size := 1) w (vb L).toArray L.length hb hm (by simp [vb_length])
  simpa using this

theorem at_new (w : World) (L : List Int) (hL : Byt L) (T : Nat) : At (w.alloc (.cells (vb L).toArray T)) w.heap.size 0 L := by
  have hh : (w.alloc (.cells (vb L).toArray T)).heap[w.heap.size]? = some (.cells (vb L).toArray T (0, 0)) := heap_alloc_new w _
  refine ⟨hL, by simp, fun i hi => ?_⟩
  rw [cell_of_row _ _ _ _ _ _ hh, Nat.zero_add, ← Array.getElem?_toList]
  exact vb_get hi
theorem below_new (w : World) (o : Obj) : Below w.heap.size w (w.alloc o) := (Below.refl _ _).alloc (Nat.le_refl _) _

theorem OwnL.below {B : Nat} {w wr w' : World} {base : Nat} {v : Value} {L : List Int} (ho : OwnL wr base v L) (hb : Below B w wr) (hg : wr.grownBy w' v.ownBlock) (hB : B ≤ base) (hs : B ≤ wr.heap.size) : Below B w w' :=
  hb.grown hg hs fun k hk => Nat.le_trans hB (ho.lt k hk).1

theorem block_ne {w : World} {v v' : Value} {G : Nat} (h : v'.ownBlock = v.ownBlock ∨ v'.ownBlock = some w.heap.size) (hne : v.ownBlock ≠ some G) (hG : G < w.heap.size) : v'.ownBlock ≠ some G := by
  rcases h with h | h
  · rw [h]; exact hne
  · rw [h]; intro e; injection e with e; omega

/-- v' lies where v lay, or in memory that is new. -/
def NB (w : World) (v v' : Value) : Prop := v'.ownBlock = v.ownBlock ∨ ∃ G, v'.ownBlock = some G ∧ w.heap.size ≤ G
theorem nb_of {w : World} {v v' : Value} (h : v'.ownBlock = v.ownBlock ∨ v'.ownBlock = some w.heap.size) : NB w v v' := by
  rcases h with h | h
  · exact .inl h
  · exact .inr ⟨_, h, Nat.le_refl _⟩
theorem NB.trans {w w1 : World} {v v1 v2 : Value} (h : NB w v v1) (k : NB w1 v1 v2) (hs : w.heap.size ≤ w1.heap.size) : NB w v v2 := by
  rcases k with k | ⟨G, k, hG⟩
  · rcases h with h | ⟨G, h, hG⟩
    · exact .inl (k.trans h)
    · exact .inr ⟨G, k.trans h, hG⟩
  · exact .inr ⟨G, k, Nat.le_trans hs hG⟩
theorem NB.ne {w : World} {v v' : Value} {G : Nat} (h : NB w v v') (hne : v.ownBlock ≠ some G) (hG : G < w.heap.size) : v'.ownBlock ≠ some G := by
  rcases h with h | ⟨K, h, hK⟩
  · rw [h]; exact hne
  · rw [h]; intro e; injection e with e; omega
theorem grown_next {w w1 w2 : World} {v v1 : Value} (h : w.grownBy w1 v.ownBlock) (hn : NB w v v1) (k : w1.grownBy w2 v1.ownBlock) : w.grownBy w2 v.ownBlock := by
  refine ⟨k.os.trans h.os, k.tape.trans h.tape, k.output.trans h.output, Nat.le_trans h.size k.size, fun i hi hne => ?_⟩
  refine (k.block i (Nat.lt_of_lt_of_le hi h.size) ?_).trans (h.block i hi hne)
  rcases hn with hn | ⟨G, hn, hG⟩
  · rw [hn]; exact hne
  · rw [hn]; intro e; injection e with e; omega
theorem nb_self (w : World) (v : Value) : NB w v v := .inl rfl

/-- Bytes put behind a row of the call's own. -/
theorem wpList_app {w : World} {ops : Array Oper} {rest : List Oper} {o : Oper} {a : Act} {Q : Exit → Act → World → Prop} (hgd : o.guard = none) (s x : Operand)
    (ho : o.op = .call { callee := .builtin .append, args := #[s, x], argTypes := #[22, 22] })
    (base : Nat) (v : Value) (L : List Int) (hs : a.eval s = v) (hown : OwnL w base v L)
    (b off m c : Nat) (M : List Int) (hx : a.eval x = .slice (some ⟨b, off, none⟩) m c) (hm : m = M.length) (hM : At w b off M)
    (hsz : L.length + M.length ≤ 4194304) (hbase : base ≤ w.heap.size)
    (h : ∀ v' w', OwnL w' base v' (L ++ M) → w.grownBy w' v.ownBlock → (v'.ownBlock = v.ownBlock ∨ v'.ownBlock = some w.heap.size) → wpList Tryd.prog ops Q rest (a.put o.dst v') w') :
    wpList Tryd.prog ops Q (o :: rest) a w := by
  obtain ⟨i0, hi, hz0, hz1, hz2⟩ := info_parts Tryd.info5
  refine wpList_append_own_at (w := w) hgd s x 22 ho base 5 i0 (.int .u8 0) 1 1 Tryd.underlying22 hi hz0 hz1 hz2 rfl (by decide) v L.length (vb L) hs hown.own ⟨b, off, none⟩ m c (vb M) hx (by rw [vb_length, hm, Nat.mul_one]) hM.news (vb_one M) (by unfold maxLen; omega) (by omega) hbase ?_
  intro v' w' h1 h2 h3 h4
  refine h v' w' ⟨hown.bd.append hM.bd, ?_⟩ h2 h4
  rw [List.length_append, ← vb_append, ← hm]
  exact h1

def pfL (n : Int) (m : Nat) : List Int := (List.range m).map (pf n m)
theorem pfL_length (n : Int) (m : Nat) : (pfL n m).length = m := by simp [pfL]
theorem pfL_bd (n : Int) (m : Nat) : Byt (pfL n m) := fun x hx => by
  obtain ⟨i, _, rfl⟩ := List.mem_map.1 hx
  exact pf_bd n m i
theorem pfL_at {w : World} {g off m : Nat} {n : Int} (h : Own w g off m (pf n m)) : At w g off (pfL n m) :=
  ⟨pfL_bd n m, h.lt, fun i hi => by
    rw [pfL_length] at hi
    rw [h.cell i hi]
    simp [fl, pfL, hi]⟩

end Go.Proofs.YtiojjihonmonkaaDoor
