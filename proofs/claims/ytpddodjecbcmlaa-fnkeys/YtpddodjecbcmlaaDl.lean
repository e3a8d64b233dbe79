/- The model's cursor draws a key. -/
import Derived.Test.YtpddodjecbcmlaaDk
import Derived.Test.YtpddodjecbcmlaaKeyAt
namespace Go.Proofs.Ytpddodjecbcmlaa
open Go.RowKit
set_option linter.unusedSimpArgs false
set_option linter.unusedVariables false

theorem below_new_tg (w : World) (o : Obj) : Below w.heap.size w (w.alloc o) := (Below.refl _ _).alloc (Nat.le_refl _) _
/-- A list of texts lies in a block. -/
def LsAt (w : World) (LB : Nat) (l : List ByteArray) : Prop := LB < w.heap.size ∧ ∀ i, i < l.length → w.cell? ⟨LB, i, none⟩ = some (.string (l.getD i ⟨#[]⟩))
theorem LsAt.new (w : World) (l : List ByteArray) (T : Nat) : LsAt (w.alloc (.cells (l.map Value.string).toArray T)) w.heap.size l := by
  have hh : (w.alloc (.cells (l.map Value.string).toArray T)).heap[w.heap.size]? = some (.cells (l.map Value.string).toArray T (0, 0)) := heap_alloc_new w _
  refine ⟨by simp, fun i hi => ?_⟩
  rw [cell_of_row _ _ _ _ _ _ hh]
  simp [hi]
theorem LsAt.grown {w w' : World} {LB CB : Nat} {l : List ByteArray} (h : LsAt w LB l) (hg : w.grownBy w' (some CB)) (hne : LB ≠ CB) : LsAt w' LB l :=
  ⟨Nat.lt_of_lt_of_le h.1 hg.size, fun i hi => hg.cell (h.2 i hi) (fun e => hne (Option.some.inj e))⟩
theorem LsAt.keep {w w' : World} {LB : Nat} {l : List ByteArray} (h : LsAt w LB l) (hb : Below w.heap.size w w') : LsAt w' LB l :=
  ⟨Nat.lt_of_lt_of_le h.1 hb.size, fun i hi => (hb.cell (p := ⟨LB, i, none⟩) h.1).trans (h.2 i hi)⟩
theorem of_list (l : List ByteArray) (z : Nat) (hq : 2 ≤ l.length ∧ l.length ≤ 200) (hz : ∀ i, i < l.length → (l.getD i ⟨#[]⟩).size ≤ z) (LB CB : Nat) (ao : Option Addr) (n cap a : Nat) (f : Nat → Int) (sd : Int) (w : World) (hC : Cu w CB (.slice ao n cap) a sd) (hB : Cb w CB ao n f) (hn : n ≤ 1048576) (ha : a ≤ 1000000000) (hL : LsAt w LB l) (hne : LB ≠ CB) :
    Calls Try.prog 48 #[.pointer (some ⟨CB, 0, none⟩), .slice (some ⟨LB, 0, none⟩) l.length l.length] w fun e w' => OfO z CB (.slice ao n cap) a w e w' :=
  of_any l.length z hq LB (fun i => l.getD i ⟨#[]⟩) hz CB ao n cap a f sd w hC hB hn ha hL.1 hne hL.2

/-- A key that is being drawn: its box in kb, its tags behind it. -/
structure KS (w0 w : World) (CB r kb : Nat) (ao : Option Addr) (n cap : Nat) (f : Nat → Int) (a : Nat) (m : ByteArray) (v : Value) (T : List (ByteArray × ByteArray)) (st : Int) : Prop where
  cur : ∃ sd, Cu w CB (.slice ao n cap) a sd
  cb0 : Cb w0 CB ao n f
  o1 : CB < w0.heap.size
  o2 : w0.heap.size ≤ r
  o3 : r < kb
  box : KAt w kb m v st
  fz : ∀ j, w.frozen? ⟨kb, j, none⟩ = false
  rs : ∃ x0 x1 x2, w.cell? ⟨r, 0, none⟩ = some x0 ∧ w.cell? ⟨r, 1, none⟩ = some x1 ∧ w.cell? ⟨r, 2, none⟩ = some x2
  rz : ∀ j, w.frozen? ⟨r, j, none⟩ = false
  tg : TgL w (kb + 1) v T
  gr : w0.grownBy w (some CB)
variable {w0 w w' : World} {CB r kb : Nat} {ao : Option Addr} {n cap : Nat} {f : Nat → Int} {a a' : Nat} {m : ByteArray} {v : Value} {T : List (ByteArray × ByteArray)} {st : Int}
theorem frozen_grown {w w' : World} {row : Option Nat} {p : Addr} (h : w.grownBy w' row) (hp : p.block < w.heap.size) (hne : some p.block ≠ row) : w'.frozen? p = w.frozen? p := World.frozen?_of_block (h.block p.block hp hne)
theorem KS.grown (h : KS w0 w CB r kb ao n cap f a m v T st) (hg : w.grownBy w' (some CB)) (hc : ∃ sd, Cu w' CB (.slice ao n cap) a' sd) : KS w0 w' CB r kb ao n cap f a' m v T st := by
  have h1 := h.o1
  have h2 := h.o2
  have h3 := h.o3
  have hk := h.box.lt
  have n1 : ∀ j : Nat, (some kb : Option Nat) ≠ some CB := fun _ e => by injection e with e; omega
  have n2 : (some kb : Option Nat) ≠ some CB := fun e => by injection e with e; omega
  have n3 : (some r : Option Nat) ≠ some CB := fun e => by injection e with e; omega
  obtain ⟨x0, x1, x2, y0, y1, y2⟩ := h.rs
  refine ⟨hc, h.cb0, h1, h2, h3, ⟨Nat.lt_of_lt_of_le hk hg.size, hg.cell h.box.c0 n2, hg.cell h.box.c1 n2, hg.cell h.box.c2 n2⟩, fun j => ?_, ⟨x0, x1, x2, hg.cell y0 n3, hg.cell y1 n3, hg.cell y2 n3⟩, fun j => ?_, ownsRow_kept h.tg hg (fun k e1 e2 => ?_), ?_⟩
  · rw [frozen_grown (p := ⟨kb, j, none⟩) hg hk n2]; exact h.fz j
  · rw [frozen_grown (p := ⟨r, j, none⟩) hg (by show r < _; omega) n3]; exact h.rz j
  · injection e1 with e1
    have := (World.ownsRow.lt h.tg k e2).1
    omega
  · exact ⟨hg.os.trans h.gr.os, hg.tape.trans h.gr.tape, hg.output.trans h.gr.output, Nat.le_trans h.gr.size hg.size, fun i hi hne => (hg.block i (Nat.lt_of_lt_of_le hi h.gr.size) hne).trans (h.gr.block i hi hne)⟩
theorem KS.cb (h : KS w0 w CB r kb ao n cap f a m v T st) : Cb w CB ao n f := h.cb0.grown h.gr
theorem KS.keep (h : KS w0 w CB r kb ao n cap f a m v T st) (hb : Below w.heap.size w w') : KS w0 w' CB r kb ao n cap f a m v T st := by
  obtain ⟨sd, hc⟩ := h.cur
  exact h.grown (grown_of_below hb _) ⟨sd, hc.keep hb⟩
theorem others_grown {w w' : World} {d CB : Nat} (ho : Others d w w') : w.grownBy w' (some d) := ⟨ho.os, ho.tape, ho.output, by rw [ho.size]; exact Nat.le_refl _, fun i _ hn => ho.block i (fun e => hn (by rw [e]))⟩
/-- Something is written into the key's box. -/
theorem KS.set (h : KS w0 w CB r kb ao n cap f a m v T st) (j : Nat) (x : Value) {m' : ByteArray} {v' : Value} {T' : List (ByteArray × ByteArray)} {st' : Int} (hb : KAt (w.setCell ⟨kb, j, none⟩ x) kb m' v' st') (ht : TgL w (kb + 1) v' T') : KS w0 (w.setCell ⟨kb, j, none⟩ x) CB r kb ao n cap f a m' v' T' st' := by
  have h1 := h.o1
  have h2 := h.o2
  have h3 := h.o3
  have ho := Others.setCell w kb j x
  obtain ⟨x0, x1, x2, y0, y1, y2⟩ := h.rs
  have hr : ∀ i, (w.setCell ⟨kb, j, none⟩ x).cell? ⟨r, i, none⟩ = w.cell? ⟨r, i, none⟩ := fun i => World.cell?_of_block (w := w) (a := ⟨r, i, none⟩) (ho.block r (by omega))
  obtain ⟨sd, hc⟩ := h.cur
  have hcc : ∀ i, (w.setCell ⟨kb, j, none⟩ x).cell? ⟨CB, i, none⟩ = w.cell? ⟨CB, i, none⟩ := fun i => World.cell?_of_block (w := w) (a := ⟨CB, i, none⟩) (ho.block CB (by omega))
  refine ⟨⟨sd, ⟨by rw [ho.size]; exact hc.lt, (hcc 0).trans hc.c0, (hcc 1).trans hc.c1, (hcc 2).trans hc.c2, fun i => ?_, hc.sb⟩⟩, h.cb0, h1, h2, h3, hb, fun i => ?_, ⟨x0, x1, x2, (hr 0).trans y0, (hr 1).trans y1, (hr 2).trans y2⟩, fun i => ?_, ownsRow_others ht ho (fun e => ?_), ?_⟩
  · rw [World.frozen?_of_block (w := w) (a := ⟨CB, i, none⟩) (ho.block CB (by omega))]; exact hc.fz i
  · have := h.fz i
    simpa using this
  · rw [World.frozen?_of_block (w := w) (a := ⟨r, i, none⟩) (ho.block r (by omega))]; exact h.rz i
  · have := (World.ownsRow.lt ht kb e).1
    omega
  · refine ⟨ho.os.trans h.gr.os, ho.tape.trans h.gr.tape, ho.output.trans h.gr.output, by rw [ho.size]; exact h.gr.size, fun i hi hne => (ho.block i (by omega)).trans (h.gr.block i hi hne)⟩
theorem KAt.set0 {w : World} {b : Nat} {m : ByteArray} {sv : Value} {st : Int} (h : KAt w b m sv st) (s : ByteArray) : KAt (w.setCell ⟨b, 0, none⟩ (.string s)) b s sv st :=
  ⟨by simpa using h.lt, by rw [World.cell?_setCell_same _ _ _ h.c0], by rw [World.cell?_setCell_other _ _ _ _ (by intro hh; injection hh with _ h2 _; omega)]; exact h.c1, by rw [World.cell?_setCell_other _ _ _ _ (by intro hh; injection hh with _ h2 _; omega)]; exact h.c2⟩
theorem KAt.set1 {w : World} {b : Nat} {m : ByteArray} {sv : Value} {st : Int} (h : KAt w b m sv st) (s : Value) : KAt (w.setCell ⟨b, 1, none⟩ s) b m s st :=
  ⟨by simpa using h.lt, by rw [World.cell?_setCell_other _ _ _ _ (by intro hh; injection hh with _ h2 _; omega)]; exact h.c0, by rw [World.cell?_setCell_same _ _ _ h.c1], by rw [World.cell?_setCell_other _ _ _ _ (by intro hh; injection hh with _ h2 _; omega)]; exact h.c2⟩
theorem KAt.set2 {w : World} {b : Nat} {m : ByteArray} {sv : Value} {st : Int} (h : KAt w b m sv st) (s : Int) : KAt (w.setCell ⟨b, 2, none⟩ (.int .i64 s)) b m sv s :=
  ⟨by simpa using h.lt, by rw [World.cell?_setCell_other _ _ _ _ (by intro hh; injection hh with _ h2 _; omega)]; exact h.c0, by rw [World.cell?_setCell_other _ _ _ _ (by intro hh; injection hh with _ h2 _; omega)]; exact h.c1, by rw [World.cell?_setCell_same _ _ _ h.c2]⟩
/-- A tag put behind the others; the row is written into the box. -/
theorem KS.push {ua : Option Addr} {uc : Nat} (h : KS w0 w CB r kb ao n cap f a m (.slice ua T.length uc) T st) (hT : T.length ≤ 100) (x y : ByteArray) (ty : TypeId) :
    ∃ va vc w', (Builtin.append_ #[35, 35] ty #[.slice ua T.length uc, .slice (some ⟨w.heap.size, 0, none⟩) 1 1]).run Try.prog (w.alloc (.cells #[.string x, .string y] 64)) = .ok (.slice va (T.length + 1) vc) w' ∧ w'.cell? ⟨kb, 1, none⟩ = some (.slice ua T.length uc) ∧ w'.frozen? ⟨kb, 1, none⟩ = false ∧ KS w0 (w'.setCell ⟨kb, 1, none⟩ (.slice va (T.length + 1) vc)) CB r kb ao n cap f a m (.slice va (T.length + 1) vc) (T ++ [(x, y)]) st := by
  have h1 := h.keep (below_new_tg w (.cells #[.string x, .string y] 64))
  have hk := h.box.lt
  obtain ⟨va, vc, w', hrun, h2, hg, hat⟩ := tgL_push h1.tg w.heap.size 1 x y (by simp [go_sem]) (by simp [go_sem]) (by omega) (by simp; omega) ty
  have hne : ∀ d, d ≤ kb → (Value.slice ua T.length uc).ownBlock ≠ some d := fun d hd e => by have := (World.ownsRow.lt h.tg d e).1; omega
  have hg' : ∀ d, d ≤ kb → w'.heap[d]? = (w.alloc (.cells #[.string x, .string y] 64)).heap[d]? := fun d hd => hg.block d (by simp; omega) (fun e => hne d hd e.symm)
  have o1 := h.o1
  have o2 := h.o2
  have o3 := h.o3
  have cl : ∀ d j, d ≤ kb → w'.cell? ⟨d, j, none⟩ = (w.alloc (.cells #[.string x, .string y] 64)).cell? ⟨d, j, none⟩ := fun d j hd => World.cell?_of_block (hg' d hd)
  have fr : ∀ d j, d ≤ kb → w'.frozen? ⟨d, j, none⟩ = (w.alloc (.cells #[.string x, .string y] 64)).frozen? ⟨d, j, none⟩ := fun d j hd => World.frozen?_of_block (hg' d hd)
  obtain ⟨sd, hc⟩ := h1.cur
  obtain ⟨x0, x1, x2, y0, y1, y2⟩ := h1.rs
  have B2 : KAt w' kb m (.slice ua T.length uc) st := ⟨Nat.lt_of_lt_of_le h1.box.lt hg.size, (cl kb 0 (by omega)).trans h1.box.c0, (cl kb 1 (by omega)).trans h1.box.c1, (cl kb 2 (by omega)).trans h1.box.c2⟩
  have ho := Others.setCell w' kb 1 (.slice va (T.length + 1) vc)
  refine ⟨va, vc, w', hrun, B2.c1, (fr kb 1 (by omega)).trans (h1.fz 1), ?_⟩
  have c2 : ∀ d j, d < kb → (w'.setCell ⟨kb, 1, none⟩ (.slice va (T.length + 1) vc)).cell? ⟨d, j, none⟩ = (w.alloc (.cells #[.string x, .string y] 64)).cell? ⟨d, j, none⟩ := fun d j hd => (World.cell?_of_block (ho.block d (by omega))).trans (cl d j (by omega))
  have f2 : ∀ d j, d < kb → (w'.setCell ⟨kb, 1, none⟩ (.slice va (T.length + 1) vc)).frozen? ⟨d, j, none⟩ = (w.alloc (.cells #[.string x, .string y] 64)).frozen? ⟨d, j, none⟩ := fun d j hd => (World.frozen?_of_block (ho.block d (by omega))).trans (fr d j (by omega))
  refine ⟨⟨sd, ⟨by rw [ho.size]; exact Nat.lt_of_lt_of_le hc.lt hg.size, (c2 CB 0 (by omega)).trans hc.c0, (c2 CB 1 (by omega)).trans hc.c1, (c2 CB 2 (by omega)).trans hc.c2, fun i => (f2 CB i (by omega)).trans (hc.fz i), hc.sb⟩⟩, h.cb0, o1, o2, o3, B2.set1 _, fun i => ?_, ⟨x0, x1, x2, (c2 r 0 (by omega)).trans y0, (c2 r 1 (by omega)).trans y1, (c2 r 2 (by omega)).trans y2⟩, fun i => (f2 r i (by omega)).trans (h1.rz i), ownsRow_others h2 ho (fun e => ?_), ?_⟩
  · have := (fr kb i (by omega)).trans (h1.fz i)
    simpa using this
  · have := (World.ownsRow.lt h2 kb e).1
    omega
  · refine ⟨ho.os.trans (hg.os.trans h1.gr.os), ho.tape.trans (hg.tape.trans h1.gr.tape), ho.output.trans (hg.output.trans h1.gr.output), by rw [ho.size]; exact Nat.le_trans h1.gr.size hg.size, fun i hi hne => ?_⟩
    rw [ho.block i (by omega), hg' i (by omega)]
    exact h1.gr.block i hi hne
end Go.Proofs.Ytpddodjecbcmlaa
