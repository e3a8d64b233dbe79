/- A key that the model reads out of a text: its state. -/
import Derived.Test.YtpddodjecbcmlaaRk
namespace Go.Proofs.Ytpddodjecbcmlaa
open Go.RowKit
set_option linter.unusedSimpArgs false
set_option linter.unusedVariables false

/-- A key that is being read: its box kb, its tags from base world w3 on. -/
structure RS (w3 w : World) (kb : Nat) (m : ByteArray) (v : Value) (T : List (ByteArray × ByteArray)) (st : Int) : Prop where
  lt : kb < w3.heap.size
  box : KAt w kb m v st
  fz : ∀ j, w.frozen? ⟨kb, j, none⟩ = false
  tg : TgL w w3.heap.size v T
  gr : w3.grownBy w (some kb)
theorem RS.keep {w3 w w' : World} {kb : Nat} {m : ByteArray} {v : Value} {T : List (ByteArray × ByteArray)} {st : Int} (h : RS w3 w kb m v T st) (hb : Below w.heap.size w w') : RS w3 w' kb m v T st := by
  refine ⟨h.lt, h.box.keep hb, fun j => (hb.frozen (p := ⟨kb, j, none⟩) h.box.lt).trans (h.fz j), ownsRow_keep h.tg hb, ?_⟩
  exact ⟨hb.os.trans h.gr.os, hb.tape.trans h.gr.tape, hb.output.trans h.gr.output, Nat.le_trans h.gr.size hb.size, fun i hi hne => (hb.block i (Nat.lt_of_lt_of_le hi h.gr.size)).trans (h.gr.block i hi hne)⟩
theorem RS.set0 {w3 w : World} {kb : Nat} {m : ByteArray} {v : Value} {T : List (ByteArray × ByteArray)} {st : Int} (h : RS w3 w kb m v T st) (x : ByteArray) : RS w3 (w.setCell ⟨kb, 0, none⟩ (.string x)) kb x v T st := by
  have ho := Others.setCell w kb 0 (.string x)
  refine ⟨h.lt, ⟨by simpa using h.box.lt, by rw [World.cell?_setCell_same _ _ _ h.box.c0], by rw [World.cell?_setCell_other _ _ _ _ (by intro hh; injection hh with _ h2 _; omega)]; exact h.box.c1, by rw [World.cell?_setCell_other _ _ _ _ (by intro hh; injection hh with _ h2 _; omega)]; exact h.box.c2⟩, fun j => by simpa using h.fz j, ownsRow_others h.tg ho (fun e => ?_), ?_⟩
  · have := (World.ownsRow.lt h.tg kb e).1
    have := h.lt
    omega
  · exact ⟨ho.os.trans h.gr.os, ho.tape.trans h.gr.tape, ho.output.trans h.gr.output, by rw [ho.size]; exact h.gr.size, fun i hi hne => (ho.block i (fun e => hne (by rw [e]))).trans (h.gr.block i hi hne)⟩
/-- A cell of another block that was there. -/
theorem RS.cell {w3 w : World} {kb : Nat} {m : ByteArray} {v : Value} {T : List (ByteArray × ByteArray)} {st : Int} (h : RS w3 w kb m v T st) {b j : Nat} (hb : b < w3.heap.size) (hne : b ≠ kb) : w.cell? ⟨b, j, none⟩ = w3.cell? ⟨b, j, none⟩ := World.cell?_of_block (h.gr.block b hb (fun e => hne (Option.some.inj e)))
theorem RS.frozen {w3 w : World} {kb : Nat} {m : ByteArray} {v : Value} {T : List (ByteArray × ByteArray)} {st : Int} (h : RS w3 w kb m v T st) {b j : Nat} (hb : b < w3.heap.size) (hne : b ≠ kb) : w.frozen? ⟨b, j, none⟩ = w3.frozen? ⟨b, j, none⟩ := World.frozen?_of_block (h.gr.block b hb (fun e => hne (Option.some.inj e)))
theorem RS.below {w0 w3 w : World} {kb : Nat} {m : ByteArray} {v : Value} {T : List (ByteArray × ByteArray)} {st : Int} (h : RS w3 w kb m v T st) {B : Nat} (hb : Below B w0 w3) (hB : B ≤ kb) (hB3 : B ≤ w3.heap.size) : Below B w0 w :=
  hb.grown h.gr hB3 (fun k e => by injection e with e; omega)
/-- A tag put behind the others; the row is written into the box. -/
theorem RS.push {w3 w : World} {kb : Nat} {m : ByteArray} {ua : Option Addr} {uc : Nat} {T : List (ByteArray × ByteArray)} {st : Int} (h : RS w3 w kb m (.slice ua T.length uc) T st) (hT : T.length ≤ 1048576) (x y : ByteArray) (ty : TypeId) :
    ∃ va vc w', (Builtin.append_ #[35, 35] ty #[.slice ua T.length uc, .slice (some ⟨w.heap.size, 0, none⟩) 1 1]).run Try.prog (w.alloc (.cells #[.string x, .string y] 64)) = .ok (.slice va (T.length + 1) vc) w' ∧ w'.cell? ⟨kb, 1, none⟩ = some (.slice ua T.length uc) ∧ w'.frozen? ⟨kb, 1, none⟩ = false ∧ (∀ d, d < w.heap.size → (Value.slice ua T.length uc).ownBlock ≠ some d → w'.heap[d]? = w.heap[d]?) ∧ RS w3 (w'.setCell ⟨kb, 1, none⟩ (.slice va (T.length + 1) vc)) kb m (.slice va (T ++ [(x, y)]).length vc) (T ++ [(x, y)]) st := by
  have bn : Below w.heap.size w (w.alloc (.cells #[.string x, .string y] 64)) := (Below.refl _ _).alloc (Nat.le_refl _) _
  have h1 := h.keep bn
  have hk := h.box.lt
  have o1 := h.lt
  have o2 := h.gr.size
  obtain ⟨va, vc, w', hrun, h2, hg, hat⟩ := tgL_push h1.tg w.heap.size 1 x y (by simp [go_sem]) (by simp [go_sem]) hT (by simp; omega) ty
  have hne : ∀ d, d < w3.heap.size → (Value.slice ua T.length uc).ownBlock ≠ some d := fun d hd e => by have := (World.ownsRow.lt h.tg d e).1; omega
  have hg' : ∀ d, d < w3.heap.size → w'.heap[d]? = (w.alloc (.cells #[.string x, .string y] 64)).heap[d]? := fun d hd => hg.block d (by simp; omega) (fun e => hne d hd e.symm)
  have B2 : KAt w' kb m (.slice ua T.length uc) st := ⟨Nat.lt_of_lt_of_le h1.box.lt hg.size, (World.cell?_of_block (hg' kb o1)).trans h1.box.c0, (World.cell?_of_block (hg' kb o1)).trans h1.box.c1, (World.cell?_of_block (hg' kb o1)).trans h1.box.c2⟩
  have F2 : ∀ j, w'.frozen? ⟨kb, j, none⟩ = false := fun j => (World.frozen?_of_block (hg' kb o1)).trans (h1.fz j)
  have ho := Others.setCell w' kb 1 (.slice va (T.length + 1) vc)
  refine ⟨va, vc, w', hrun, B2.c1, F2 1, fun d hd hn => (hg.block d (by simp; omega) (fun e => hn e.symm)).trans (bn.block d hd), o1, ?_, fun j => by simpa using F2 j, ?_, ?_⟩
  · rw [List.length_append]
    exact ⟨by simpa using B2.lt, by rw [World.cell?_setCell_other _ _ _ _ (by intro hh; injection hh with _ h2 _; omega)]; exact B2.c0, by rw [World.cell?_setCell_same _ _ _ B2.c1]; rfl, by rw [World.cell?_setCell_other _ _ _ _ (by intro hh; injection hh with _ h2 _; omega)]; exact B2.c2⟩
  · rw [List.length_append]
    refine ownsRow_others h2 ho (fun e => ?_)
    have := (World.ownsRow.lt h2 kb e).1
    omega
  · refine ⟨ho.os.trans (hg.os.trans h1.gr.os), ho.tape.trans (hg.tape.trans h1.gr.tape), ho.output.trans (hg.output.trans h1.gr.output), by rw [ho.size]; exact Nat.le_trans h1.gr.size hg.size, fun i hi hn => ?_⟩
    rw [ho.block i (fun e => hn (by rw [e])), hg' i hi]
    exact h1.gr.block i hi hn
end Go.Proofs.Ytpddodjecbcmlaa
