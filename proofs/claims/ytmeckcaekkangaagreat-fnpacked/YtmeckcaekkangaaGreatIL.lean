/- Aggs: where they lie, copied and compared. / Aggs compared by the laws. / Entries: where they lie, measured, copied, compared. / Rows of entries. / Rows of entries: measured, copied, compared. / Ints that the call itself gathers by append. -/
import Derived.Test.YtmeckcaekkangaaGreatVal
import Derived.Laws.IdiomCopy
import Derived.Deep.RegionHeld3
namespace Go.Proofs.YtmeckcaekkangaaGreat
set_option maxRecDepth 100000
open Go.RowKit
set_option linter.unusedSimpArgs false
set_option linter.unusedVariables false

/-- An agg in block b. -/
structure AAt (w : World) (b : Nat) (c s lo hi : Int) (hv : Value) (fu : Bool) : Prop where
  lt : b < w.heap.size
  c0 : w.cell? ⟨b, 0, none⟩ = some (.int .i64 c)
  c1 : w.cell? ⟨b, 1, none⟩ = some (.int .i64 s)
  c2 : w.cell? ⟨b, 2, none⟩ = some (.int .i64 lo)
  c3 : w.cell? ⟨b, 3, none⟩ = some (.int .i64 hi)
  c4 : w.cell? ⟨b, 4, none⟩ = some hv
  c5 : w.cell? ⟨b, 5, none⟩ = some (.bool fu)
section
variable {w w' : World} {b : Nat} {c s lo hi : Int} {hv : Value} {fu : Bool}
theorem AAt.keep (h : AAt w b c s lo hi hv fu) (hb : Below w.heap.size w w') : AAt w' b c s lo hi hv fu :=
  ⟨Nat.lt_of_lt_of_le h.lt hb.size, (hb.cell (p := ⟨b, 0, none⟩) h.lt).trans h.c0, (hb.cell (p := ⟨b, 1, none⟩) h.lt).trans h.c1, (hb.cell (p := ⟨b, 2, none⟩) h.lt).trans h.c2, (hb.cell (p := ⟨b, 3, none⟩) h.lt).trans h.c3, (hb.cell (p := ⟨b, 4, none⟩) h.lt).trans h.c4, (hb.cell (p := ⟨b, 5, none⟩) h.lt).trans h.c5⟩
theorem AAt.others {d : Nat} (h : AAt w b c s lo hi hv fu) (ho : Others d w w') (hne : b ≠ d) : AAt w' b c s lo hi hv fu :=
  have k : ∀ j, w'.cell? ⟨b, j, none⟩ = w.cell? ⟨b, j, none⟩ := fun j => World.cell?_of_block (w := w) (a := ⟨b, j, none⟩) (ho.block b hne)
  ⟨by rw [ho.size]; exact h.lt, (k _).trans h.c0, (k _).trans h.c1, (k _).trans h.c2, (k _).trans h.c3, (k _).trans h.c4, (k _).trans h.c5⟩
end
theorem AAt.new (w : World) (c s lo hi : Int) (hv : Value) (fu : Bool) (T : Nat) : AAt (w.alloc (.cells #[.int .i64 c, .int .i64 s, .int .i64 lo, .int .i64 hi, hv, .bool fu] T)) w.heap.size c s lo hi hv fu := by
  refine ⟨by simp, ?_, ?_, ?_, ?_, ?_, ?_⟩ <;> simp [go_sem]
theorem below_new (w : World) (o : Obj) : Below w.heap.size w (w.alloc o) := (Below.refl _ _).alloc (Nat.le_refl _) _

theorem Others.irow {b : Nat} {w w' : World} (h : Others b w w') {c off n : Nat} {f : Nat → Int} (hr : IOwn w c off n f) (hne : c ≠ b) : IOwn w' c off n f :=
  ⟨hr.bd, by rw [h.size]; exact hr.lt, fun i hi => (World.cell?_of_block (w := w) (a := ⟨c, off + i, none⟩) (h.block c hne)).trans (hr.cell i hi),
    fun i hi => (World.frozen?_of_block (w := w) (a := ⟨c, off + i, none⟩) (h.block c hne)).trans (hr.free i hi)⟩

theorem new3 (w : World) (A B C : Array Value) (T U V : Nat) {w1 : World}
    (hb : Below (((w.alloc (.cells A T)).alloc (.cells B U)).alloc (.cells C V)).heap.size (((w.alloc (.cells A T)).alloc (.cells B U)).alloc (.cells C V)) w1) :
    (∀ j, w1.cell? ⟨w.heap.size, j, none⟩ = A[j]?) ∧ (∀ j, w1.cell? ⟨w.heap.size + 1, j, none⟩ = B[j]?) ∧ (∀ j, w1.cell? ⟨w.heap.size + 1 + 1, j, none⟩ = C[j]?) ∧
    (∀ j, w1.frozen? ⟨w.heap.size + 1, j, none⟩ = false) ∧ (∀ j, w1.frozen? ⟨w.heap.size + 1 + 1, j, none⟩ = false) ∧ w.heap.size + 3 ≤ w1.heap.size := by
  have hs := hb.size
  simp at hs
  have c : ∀ b j, b < w.heap.size + 3 → w1.cell? ⟨b, j, none⟩ = _ := fun b j h => hb.cell (p := ⟨b, j, none⟩) (by simp; omega)
  have d : ∀ b j, b < w.heap.size + 3 → w1.frozen? ⟨b, j, none⟩ = _ := fun b j h => hb.frozen (p := ⟨b, j, none⟩) (by simp; omega)
  refine ⟨fun j => (c _ _ (by omega)).trans ?_, fun j => (c _ _ (by omega)).trans ?_, fun j => (c _ _ (by omega)).trans ?_, fun j => (d _ _ (by omega)).trans ?_, fun j => (d _ _ (by omega)).trans ?_, by omega⟩
  all_goals simp [go_sem]

end Go.Proofs.YtmeckcaekkangaaGreat
namespace Go.Proofs.YtmeckcaekkangaaGreat
set_option maxRecDepth 100000
open Go.RowKit
set_option linter.unusedSimpArgs false
set_option linter.unusedVariables false

end Go.Proofs.YtmeckcaekkangaaGreat
namespace Go.Proofs.YtmeckcaekkangaaGreat
set_option maxRecDepth 100000
open Go.RowKit
set_option linter.unusedSimpArgs false
set_option linter.unusedVariables false

/-- What an entry holds. -/
structure Ent where
  key : ByteArray
  seq : Int
  kind : Int
  c : Int
  s : Int
  lo : Int
  hi : Int
  n : Nat
  f : Nat → Int
  fu : Bool

/-- An entry in the nine cells from off on. -/
structure EAt (w : World) (b off : Nat) (x : Ent) (ao : Option Addr) (cap : Nat) : Prop where
  lt : b < w.heap.size
  c0 : w.cell? ⟨b, off, none⟩ = some (.string x.key)
  c1 : w.cell? ⟨b, off + 1, none⟩ = some (.int .i64 x.seq)
  c2 : w.cell? ⟨b, off + 2, none⟩ = some (.int .i64 x.kind)
  c3 : w.cell? ⟨b, off + 3, none⟩ = some (.int .i64 x.c)
  c4 : w.cell? ⟨b, off + 4, none⟩ = some (.int .i64 x.s)
  c5 : w.cell? ⟨b, off + 5, none⟩ = some (.int .i64 x.lo)
  c6 : w.cell? ⟨b, off + 6, none⟩ = some (.int .i64 x.hi)
  c7 : w.cell? ⟨b, off + 7, none⟩ = some (.slice ao x.n cap)
  c8 : w.cell? ⟨b, off + 8, none⟩ = some (.bool x.fu)
section
variable {w w' : World} {b off cap : Nat} {x : Ent} {ao : Option Addr}
theorem EAt.move (h : EAt w b off x ao cap) (lt : b < w'.heap.size) (k : ∀ j, w'.cell? ⟨b, j, none⟩ = w.cell? ⟨b, j, none⟩) : EAt w' b off x ao cap :=
  ⟨lt, (k _).trans h.c0, (k _).trans h.c1, (k _).trans h.c2, (k _).trans h.c3, (k _).trans h.c4, (k _).trans h.c5, (k _).trans h.c6, (k _).trans h.c7, (k _).trans h.c8⟩
theorem EAt.keep (h : EAt w b off x ao cap) (hb : Below w.heap.size w w') : EAt w' b off x ao cap :=
  h.move (Nat.lt_of_lt_of_le h.lt hb.size) fun j => hb.cell (p := ⟨b, j, none⟩) h.lt
theorem EAt.others {d : Nat} (h : EAt w b off x ao cap) (ho : Others d w w') (hne : b ≠ d) : EAt w' b off x ao cap :=
  h.move (by rw [ho.size]; exact h.lt) fun j => World.cell?_of_block (w := w) (a := ⟨b, j, none⟩) (ho.block b hne)
end
theorem EAt.new (w : World) (x : Ent) (ao : Option Addr) (cap : Nat) (T : Nat) : EAt (w.alloc (.cells #[.string x.key, .int .i64 x.seq, .int .i64 x.kind, .int .i64 x.c, .int .i64 x.s, .int .i64 x.lo, .int .i64 x.hi, .slice ao x.n cap, .bool x.fu] T)) w.heap.size 0 x ao cap := by
  refine ⟨by simp, ?_, ?_, ?_, ?_, ?_, ?_, ?_, ?_, ?_⟩ <;> simp [go_sem]

theorem EAt.z {w : World} {b cap : Nat} {x : Ent} {ao : Option Addr} (h : EAt w b 0 x ao cap) : b < w.heap.size ∧ w.cell? ⟨b, 0, none⟩ = some (.string x.key) ∧ w.cell? ⟨b, 1, none⟩ = some (.int .i64 x.seq) ∧ w.cell? ⟨b, 2, none⟩ = some (.int .i64 x.kind) ∧ w.cell? ⟨b, 3, none⟩ = some (.int .i64 x.c) ∧ w.cell? ⟨b, 4, none⟩ = some (.int .i64 x.s) ∧ w.cell? ⟨b, 5, none⟩ = some (.int .i64 x.lo) ∧ w.cell? ⟨b, 6, none⟩ = some (.int .i64 x.hi) ∧ w.cell? ⟨b, 7, none⟩ = some (.slice ao x.n cap) ∧ w.cell? ⟨b, 8, none⟩ = some (.bool x.fu) :=
  ⟨h.lt, h.c0, h.c1, h.c2, h.c3, h.c4, h.c5, h.c6, h.c7, h.c8⟩

/-- What a measure leaves. -/
def SzOut (left : Int) (P : Prop) (w : World) (e : Ending) (w' : World) : Prop :=
  ∃ v : Int, e = .returned (.int .i64 v) ∧ -1 ≤ v ∧ v ≤ left ∧ (0 ≤ v → P) ∧ Below w.heap.size w w'

end Go.Proofs.YtmeckcaekkangaaGreat
namespace Go.Proofs.YtmeckcaekkangaaGreat
set_option maxRecDepth 100000
open Go.RowKit
set_option linter.unusedSimpArgs false
set_option linter.unusedVariables false

/-- What its type says of an entry. -/
structure EB (x : Ent) : Prop where
  seq : -9223372036854775808 ≤ x.seq ∧ x.seq ≤ 9223372036854775807
  s : -9223372036854775808 ≤ x.s ∧ x.s ≤ 9223372036854775807
  key : x.key.size ≤ 9223372036854775807
  n : x.n ≤ 9223372036854775807

/-- n entries lie at ao. -/
structure ERow (w : World) (ao : Option Addr) (n : Nat) (X : Nat → Ent) : Prop where
  bd : ∀ i, i < n → EB (X i)
  lies : n = 0 ∨ ∃ b off, ao = some ⟨b, off, none⟩ ∧ b < w.heap.size ∧ ∀ i, i < n → ∃ da dc, EAt w b (off + i * 9) (X i) da dc ∧ IRow w da (X i).n (X i).f
theorem ERow.keep {w w' : World} {ao : Option Addr} {n : Nat} {X : Nat → Ent} (h : ERow w ao n X) (hb : Below w.heap.size w w') : ERow w' ao n X :=
  ⟨h.bd, h.lies.elim .inl fun ⟨b, off, e, hlt, hc⟩ => .inr ⟨b, off, e, Nat.lt_of_lt_of_le hlt hb.size, fun i hi => by obtain ⟨da, dc, h1, h2⟩ := hc i hi; exact ⟨da, dc, h1.keep hb, h2.keep hb⟩⟩⟩
end Go.Proofs.YtmeckcaekkangaaGreat
namespace Go.Proofs.YtmeckcaekkangaaGreat
set_option maxRecDepth 100000
open Go.RowKit
set_option linter.unusedSimpArgs false
set_option linter.unusedVariables false

theorem Tryz.infoEnt : (Tryz.prog.info? 48).map (fun i => (i.zero, i.size, i.bytes)) = some (some (.agg #[.string ByteArray.empty, .int .i64 0, .int .i64 0, .int .i64 0, .int .i64 0, .int .i64 0, .int .i64 0, .slice none 0 0, .bool false]), 9, 96) := by kernel_rfl

/-- Each entry's text and Hist are no longer than what is measured. -/
def ESize (n : Nat) (X : Nat → Ent) : Prop := ∀ i, i < n → (X i).key.size ≤ 1048576 ∧ (X i).n ≤ 1048576

/-- n entries of the call's own in block b, the first k of them laid, their lists in blocks of their own. -/
structure EOwn (w : World) (b n k : Nat) (X : Nat → Ent) (G : Nat → Nat) : Prop where
  lt : b < w.heap.size
  ent : ∀ i, i < k → EAt w b (i * 9) (X i) (some ⟨G i, 0, none⟩) (X i).n
  data : ∀ i, i < k → b < G i ∧ IOwn w (G i) 0 (X i).n (X i).f
  mono : ∀ i j, i < j → j < k → G i < G j
  there : ∀ j, j < n * 9 → (w.cell? ⟨b, j, none⟩).isSome = true
  free : ∀ j, j < n * 9 → w.frozen? ⟨b, j, none⟩ = false
section
variable {w w' : World} {b n k : Nat} {X : Nat → Ent} {G : Nat → Nat}
theorem EOwn.row (h : EOwn w b n n X G) (hbd : ∀ i, i < n → EB (X i)) : ERow w (some ⟨b, 0, none⟩) n X :=
  ⟨hbd, .inr ⟨b, 0, rfl, h.lt, fun i hi => ⟨_, _, by rw [Nat.zero_add]; exact h.ent i hi, (h.data i hi).2.row⟩⟩⟩
theorem EOwn.keep (h : EOwn w b n k X G) (hb : Below w.heap.size w w') : EOwn w' b n k X G :=
  ⟨Nat.lt_of_lt_of_le h.lt hb.size, fun i hi => (h.ent i hi).keep hb, fun i hi => ⟨(h.data i hi).1, (h.data i hi).2.keep hb⟩, h.mono,
    fun j hj => by rw [hb.cell (p := ⟨b, j, none⟩) h.lt]; exact h.there j hj, fun j hj => (hb.frozen (p := ⟨b, j, none⟩) h.lt).trans (h.free j hj)⟩
end
theorem setCells_others (b : Nat) : ∀ (vs : List Value) (o : Nat) (w : World), Others b w (w.setCells b o vs)
  | [], _, _ => Others.refl _ _
  | v :: r, o, w => (Others.setCell w b o v).trans (setCells_others b r (o + 1) _)

set_option maxRecDepth 10000 in
theorem EOwn.store {w : World} {b n k : Nat} {X : Nat → Ent} {G : Nat → Nat} (h : EOwn w b n k X G) (hk : k < n) {g : Nat} (ho : IOwn w g 0 (X k).n (X k).f) (hg : b < g) (hm : ∀ i, i < k → G i < g) :
    EOwn (w.setCells b (k * 9) [.string (X k).key, .int .i64 (X k).seq, .int .i64 (X k).kind, .int .i64 (X k).c, .int .i64 (X k).s, .int .i64 (X k).lo, .int .i64 (X k).hi, .slice (some ⟨g, 0, none⟩) (X k).n (X k).n, .bool (X k).fu]) b n (k + 1) X (fun i => if i = k then g else G i) := by
  generalize hL : ([.string (X k).key, .int .i64 (X k).seq, .int .i64 (X k).kind, .int .i64 (X k).c, .int .i64 (X k).s, .int .i64 (X k).lo, .int .i64 (X k).hi, .slice (some ⟨g, 0, none⟩) (X k).n (X k).n, .bool (X k).fu] : List Value) = L
  have hlen : L.length = 9 := by rw [← hL]; rfl
  have hoth := setCells_others b L (k * 9) w
  have hin := World.cell?_setCells_in b L (k * 9) w (fun j hj => h.there _ (by omega))
  have hout : ∀ j, j < k * 9 ∨ k * 9 + 9 ≤ j → (w.setCells b (k * 9) L).cell? ⟨b, j, none⟩ = w.cell? ⟨b, j, none⟩ := fun j hj => World.cell?_setCells_out b L (k * 9) w ⟨b, j, none⟩ (fun _ _ => by simp only [hlen]; exact hj)
  have hlt : b < (w.setCells b (k * 9) L).heap.size := by rw [hoth.size]; exact h.lt
  refine ⟨hlt, fun i hi => ?_, fun i hi => ?_, fun i j hij hj => ?_, fun j hj => ?_, fun j hj => by rw [World.frozen?_setCells]; exact h.free j hj⟩
  · by_cases e : i = k
    · subst e
      simp only [if_true]
      subst hL
      exact ⟨hlt, hin 0 (by simp), hin 1 (by simp), hin 2 (by simp), hin 3 (by simp), hin 4 (by simp), hin 5 (by simp), hin 6 (by simp), hin 7 (by simp), hin 8 (by simp)⟩
    · simp only [e, if_false]
      have h0 := h.ent i (by omega)
      have c : ∀ q, q < 9 → (w.setCells b (k * 9) L).cell? ⟨b, i * 9 + q, none⟩ = w.cell? ⟨b, i * 9 + q, none⟩ := fun q hq => hout _ (by omega)
      exact ⟨hlt, (c 0 (by omega)).trans h0.c0, (c 1 (by omega)).trans h0.c1, (c 2 (by omega)).trans h0.c2, (c 3 (by omega)).trans h0.c3, (c 4 (by omega)).trans h0.c4, (c 5 (by omega)).trans h0.c5, (c 6 (by omega)).trans h0.c6, (c 7 (by omega)).trans h0.c7, (c 8 (by omega)).trans h0.c8⟩
  · by_cases e : i = k
    · subst e
      simp only [if_true]
      exact ⟨hg, hoth.irow ho (by omega)⟩
    · simp only [e, if_false]
      have := h.data i (by omega)
      exact ⟨this.1, hoth.irow this.2 (by omega)⟩
  · by_cases e : j = k
    · subst e
      simp only [if_true, show ¬ i = j by omega, if_false]
      exact hm i hij
    · simp only [e, show ¬ i = k by omega, if_false]
      exact h.mono i j hij (by omega)
  · by_cases hj2 : j < k * 9 ∨ k * 9 + 9 ≤ j
    · rw [hout j hj2]; exact h.there j hj
    · obtain ⟨q, rfl⟩ : ∃ q, j = k * 9 + q := ⟨j - k * 9, by omega⟩
      rw [hin q (by omega)]
      rfl

end Go.Proofs.YtmeckcaekkangaaGreat
namespace Go.Proofs.YtmeckcaekkangaaGreat
set_option maxRecDepth 100000
open Go.RowKit
set_option linter.unusedSimpArgs false
set_option linter.unusedVariables false


/-- Ints as cells. -/
def vi (L : List Int) : List Value := L.map fun x => Value.int .i64 x
/-- Ints, each an int. -/
def Ib (L : List Int) : Prop := ∀ x ∈ L, -9223372036854775808 ≤ x ∧ x ≤ 9223372036854775807
def fi (L : List Int) (i : Nat) : Int := L.getD i 0
theorem vi_get {L : List Int} {i : Nat} (h : i < L.length) : (vi L)[i]? = some (.int .i64 (fi L i)) := by
  simp [vi, fi, List.getElem?_eq_getElem h]
theorem Ib.fi {L : List Int} (h : Ib L) (i : Nat) : -9223372036854775808 ≤ fi L i ∧ fi L i ≤ 9223372036854775807 := by
  unfold Go.Proofs.YtmeckcaekkangaaGreat.fi
  by_cases hi : i < L.length
  · have := h (L[i]) (List.getElem_mem hi)
    simpa [hi] using this
  · simp [hi]
theorem Ib.push {L : List Int} (h : Ib L) {x : Int} (hx : -9223372036854775808 ≤ x ∧ x ≤ 9223372036854775807) : Ib (L ++ [x]) := fun y hy => by
  rcases List.mem_append.1 hy with hy | hy
  · exact h y hy
  · rw [List.mem_singleton.1 hy]; exact hx
theorem ib_nil : Ib [] := fun x hx => by cases hx

/-- v is a slice of the call's own (all of it lies in a block from base on) that holds L. -/
structure OwnI (w : World) (base : Nat) (v : Value) (L : List Int) : Prop where
  bd : Ib L
  own : w.ownsRow base 3 1 v L.length (vi L)
theorem ownI_nil (w : World) (base : Nat) : OwnI w base (.slice none 0 0) [] := ⟨ib_nil, World.ownsRow_nil _ _ _ _⟩
section
variable {w w' : World} {base : Nat} {v : Value} {L : List Int}
theorem OwnI.form (h : OwnI w base v L) : ∃ ao cap, v = .slice ao L.length cap ∧ L.length ≤ cap ∧ IRow w ao L.length (fi L) := by
  have ho := h.own
  rcases ho.2 with ⟨rfl, h0⟩ | ⟨g, cap, cur, rfl, hbg, hg, hnc, _⟩
  · exact ⟨none, 0, by rw [h0], by omega, h.bd.fi, .inl h0⟩
  · refine ⟨some ⟨g, 0, none⟩, cap, rfl, hnc, h.bd.fi, .inr ⟨g, 0, rfl, (Array.getElem?_eq_some_iff.1 hg).1, fun i hi => ?_⟩⟩
    rw [Nat.zero_add, ho.cellAt i (by omega), vi_get hi]
theorem OwnI.own' (h : OwnI w base v L) (hn : 0 < L.length) : ∃ g cap, v = .slice (some ⟨g, 0, none⟩) L.length cap ∧ base ≤ g ∧ L.length ≤ cap ∧ IOwn w g 0 L.length (fi L) := by
  have ho := h.own
  rcases ho.2 with ⟨_, h0⟩ | ⟨g, cap, cur, rfl, hbg, hg, hnc, _⟩
  · omega
  · refine ⟨g, cap, rfl, hbg, hnc, h.bd.fi, (Array.getElem?_eq_some_iff.1 hg).1, fun i hi => ?_, fun i _ => by simpa using ho.frozenAt i⟩
    rw [Nat.zero_add, ho.cellAt i (by omega), vi_get hi]
theorem OwnI.nil_of (h : OwnI w base v L) (h0 : v = .slice none 0 0) : L = [] := by
  rcases h.own.2 with ⟨_, h1⟩ | ⟨g, cap, cur, e, _⟩
  · exact List.eq_nil_of_length_eq_zero h1
  · rw [h0] at e; simp at e
theorem OwnI.keep (h : OwnI w base v L) (hb : Below w.heap.size w w') : OwnI w' base v L := by
  refine ⟨h.bd, h.own.1, ?_⟩
  rcases h.own.2 with ⟨rfl, h0⟩ | ⟨g, cap, cur, rfl, h1, h2, h3⟩
  · exact .inl ⟨rfl, h0⟩
  · exact .inr ⟨g, cap, cur, rfl, h1, (hb.block g (Array.getElem?_eq_some_iff.1 h2).1).trans h2, h3⟩
theorem OwnI.below {B : Nat} {wr : World} (ho : OwnI wr base v L) (hb : Below B w wr) (hg : wr.grownBy w' v.ownBlock) (hB : B ≤ base) (hs : B ≤ wr.heap.size) : Below B w w' := by
  refine hb.grown hg hs fun k hk => ?_
  have := (ho.own.lt k hk).1
  omega
end
theorem cell_one_at (w : World) (y : Int) (T : Nat) : ∀ j u, [Value.int .i64 y][j]? = some u → (w.alloc (.cells #[.int .i64 y] T)).cell? ((⟨w.heap.size, 0, none⟩ : Addr).add j) = some u := by
  intro j u hj
  match j with
  | 0 => simp at hj; subst hj; simp [go_sem, Addr.add]
  | j + 1 => simp at hj

/-- One int put behind. -/
theorem wpList_pushI {w : World} {ops : Array Oper} {rest : List Oper} {o : Oper} {a : Act} {Q : Exit → Act → World → Prop} (hgd : o.guard = none) (s y : Operand)
    (ho : o.op = .call { callee := .builtin .append, args := #[s, y], argTypes := #[44, 44] })
    (base : Nat) (v : Value) (L : List Int) (x : Int) (hs : a.eval s = v) (h : OwnI w base v L) (hx : -9223372036854775808 ≤ x ∧ x ≤ 9223372036854775807)
    (hy : a.eval y = .slice (some ⟨w.heap.size, 0, none⟩) 1 1) (hn : L.length ≤ 1048576) (hbase : base ≤ w.heap.size)
    (hk : ∀ v' w', OwnI w' base v' (L ++ [x]) → (w.alloc (.cells #[.int .i64 x] 3)).grownBy w' v.ownBlock → wpList Tryz.prog ops Q rest (a.put o.dst v') w') :
    wpList Tryz.prog ops Q (o :: rest) a (w.alloc (.cells #[.int .i64 x] 3)) := by
  obtain ⟨i0, hi, hz0, hz1, hz2⟩ := info_parts Tryz.infoInt
  refine wpList_append_own (w := w.alloc (.cells #[.int .i64 x] 3)) hgd s y 44 ho base 3 i0 (.int .i64 0) 1 8 Tryz.underlying44 hi hz0 hz1 hz2 rfl (by decide) v L.length (vi L) hs (h.keep (below_new w _)).own ⟨w.heap.size, 0, none⟩ 1 1 [.int .i64 x] hy rfl (cell_one_at _ _ _) (fun u hu => by rw [List.mem_singleton.1 hu]; rfl) (by unfold maxLen; omega) (by omega) (by simp; omega) ?_
  intro v' w' h1 h2 _
  refine hk v' w' ⟨h.bd.push hx, ?_⟩ h2
  have e : (L ++ [x]).length = L.length + 1 := by simp
  rw [e]
  simpa [vi] using h1
end Go.Proofs.YtmeckcaekkangaaGreat
