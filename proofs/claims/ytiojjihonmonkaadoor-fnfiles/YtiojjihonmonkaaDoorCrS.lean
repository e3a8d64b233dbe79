/- A round of the model's crash: what it keeps. -/
import Derived.Test.YtiojjihonmonkaaDoorInts
import Derived.Test.YtiojjihonmonkaaDoorRemM
import Derived.Test.YtiojjihonmonkaaDoorAppH
namespace Go.Proofs.YtiojjihonmonkaaDoor
open Go.RowKit
set_option linter.unusedSimpArgs false
set_option linter.unusedVariables false

structure SC (w : World) (Q : Int) (fb g n c base : Nat) (F : Nat → Fil) (dn : Nat) (d : Nat → Int) (k : Nat) (dv : Value) (wr : World) : Prop where
  draws : ∃ ao cap, dv = .slice ao (dn - uD F dn k) cap ∧ DL wr ao (dn - uD F dn k) cap (fun i => d (uD F dn k + i)) ∧ ∀ b off, ao = some ⟨b, off, none⟩ → dn - uD F dn k ≠ 0 → b < base
  box : QAt wr fb Q (.slice (some ⟨g, 0, none⟩) n c)
  fz : ∀ j, wr.frozen? ⟨g, j, none⟩ = false
  glt : g < wr.heap.size
  cel : ∀ i, i < n → ∃ da dc, FAt wr g (i * 3) (crF F dn d k i) da dc ∧ (k ≤ i → (F i).len ≤ dc) ∧ ∀ b off, da = some ⟨b, off, none⟩ → (crF F dn d k i).len ≠ 0 → b ≠ g ∧ base ≤ b
  bel : Below base w wr
section
variable {w wr w' : World} {Q : Int} {fb g n c base dn k : Nat} {F : Nat → Fil} {d : Nat → Int} {dv : Value}
theorem SC.keep (h : SC w Q fb g n c base F dn d k dv wr) (hbs : base ≤ wr.heap.size) (hb : Below wr.heap.size wr w') : SC w Q fb g n c base F dn d k dv w' := by
  obtain ⟨ao, cap, e, ⟨h1, h2⟩, h8⟩ := h.draws
  refine ⟨⟨ao, cap, e, ⟨h1, h2.keep hb⟩, h8⟩, h.box.keep hb, fun j => (hb.frozen (p := ⟨g, j, none⟩) h.glt).trans (h.fz j), Nat.lt_of_lt_of_le h.glt hb.size, fun i hi => ?_, h.bel.trans (hb.mono hbs)⟩
  obtain ⟨da, dc, hf, hc, hx⟩ := h.cel i hi
  exact ⟨da, dc, hf.keep (B := 0) h.glt hb, hc, hx⟩
theorem SC.skip (h : SC w Q fb g n c base F dn d k dv wr) (hl : loose F k = 0) : SC w Q fb g n c base F dn d (k + 1) dv wr := by
  have hul : uD F dn (k + 1) = uD F dn k := by simp [uD, hl]
  have hcr : crF F dn d (k + 1) = crF F dn d k := by
    rw [crF_succ]
    funext i
    by_cases e : i = k
    · subst e
      rw [if_pos rfl]
      simp [crFil, crF, hl]
    · rw [if_neg e]
  refine ⟨by rw [hul]; exact h.draws, h.box, h.fz, h.glt, fun i hi => ?_, h.bel⟩
  obtain ⟨da, dc, hf, hc, hx⟩ := h.cel i hi
  rw [hcr]
  exact ⟨da, dc, hf, fun h => hc (by omega), hx⟩
/-- A file's bytes and its mark are written. -/
theorem SC.step {u w4 : World} {p4 ao' : Option Addr} {c4 T cap' m' : Nat} {dv : Value} (hlt : k < n) (hl0 : loose F k ≠ 0) (hT : stayD F dn d k = (T : Int)) (h : SC w Q fb g n c base F dn d k dv u) (hfb : fb ≠ g) (hgb : base ≤ g) (hbs : base ≤ u.heap.size) (hs : u.heap.size ≤ w4.heap.size) (hos : w4.os = u.os) (hta : w4.tape = u.tape) (hou : w4.output = u.output) (hbl : ∀ j, j < u.heap.size → w4.heap[j]? = u.heap[j]?)
    (hf : ∀ i, 0 ≤ (F k).f i ∧ (F k).f i ≤ 255) (hown : w4.ownsRow u.heap.size 5 1 (.slice p4 T c4) T (bl (F k).f T))
    (hd' : m' = dn - uD F dn (k + 1)) (hdr : DL u ao' m' cap' (fun i => d (uD F dn (k + 1) + i))) (hnb : ∀ b off, ao' = some ⟨b, off, none⟩ → m' ≠ 0 → b < base) :
    SC w Q fb g n c base F dn d (k + 1) (.slice ao' m' cap') ((w4.setCell ⟨g, k * 3 + 1, none⟩ (.slice p4 T c4)).setCell ⟨g, k * 3 + 2, none⟩ (.int .i64 (T : Int))) := by
  subst hd'
  have hg2 := h.glt
  generalize hW : (w4.setCell ⟨g, k * 3 + 1, none⟩ (.slice p4 T c4)).setCell ⟨g, k * 3 + 2, none⟩ (.int .i64 (T : Int)) = W
  have blk : ∀ j, j ≠ g → W.heap[j]? = w4.heap[j]? := fun j hj => by
    rw [← hW]
    exact (Below.heap_setCell _ _ _ _ hj).trans (Below.heap_setCell _ _ _ _ hj)
  have szW : W.heap.size = w4.heap.size := by rw [← hW]; simp
  have cl : ∀ j, w4.cell? ⟨g, j, none⟩ = u.cell? ⟨g, j, none⟩ := fun j => World.cell?_of_block (w := u) (a := ⟨g, j, none⟩) (hbl g hg2)
  have oth : ∀ j, j ≠ k * 3 + 1 → j ≠ k * 3 + 2 → W.cell? ⟨g, j, none⟩ = u.cell? ⟨g, j, none⟩ := fun j h1 h2 => by
    rw [← hW, World.cell?_setCell_other _ _ _ _ (by intro hh; injection hh with _ h3 _; omega), World.cell?_setCell_other _ _ _ _ (by intro hh; injection hh with _ h3 _; omega)]
    exact cl j
  have blkU : ∀ j, j ≠ g → j < u.heap.size → W.heap[j]? = u.heap[j]? := fun j h1 h2 => (blk j h1).trans (hbl j h2)
  obtain ⟨ka, kc, ⟨q0, q1, q2, qrow⟩, _, _⟩ := h.cel k hlt
  refine ⟨⟨ao', cap', rfl, ⟨hdr.1, hdr.2.bd, ?_⟩, hnb⟩, ?_, fun j => ?_, by rw [szW]; omega, fun i hi => ?_, ?_⟩
  · by_cases h0 : dn - uD F dn (k + 1) = 0
    · exact .inl h0
    · obtain ⟨b, off, e, h1, h2⟩ := hdr.2.lies.resolve_left h0
      have hb := hnb b off e h0
      exact .inr ⟨b, off, e, by rw [szW]; omega, fun i hi => (World.cell?_of_block (w := u) (a := ⟨b, off + i, none⟩) (blkU b (by omega) h1)).trans (h2 i hi)⟩
  · have hq := h.box
    have hb := blkU fb hfb hq.lt
    exact ⟨by rw [szW]; exact Nat.lt_of_lt_of_le hq.lt hs, (World.cell?_of_block (w := u) (a := ⟨fb, 0, none⟩) hb).trans hq.c0, (World.cell?_of_block (w := u) (a := ⟨fb, 1, none⟩) hb).trans hq.c1⟩
  · rw [← hW]
    simpa using (World.frozen?_of_block (w := u) (a := ⟨g, j, none⟩) (hbl g hg2)).trans (h.fz j)
  · by_cases e : i = k
    · subst e
      have e1 : crF F dn d (i + 1) i = { F i with len := T, sy := (T : Int) } := by
        rw [crF_succ]
        simp only [if_true]
        rw [crFil, if_neg hl0, hT]
        simp
      rw [e1]
      have c0 : (crF F dn d i i).nm = (F i).nm := crF_nm F dn d i i
      refine ⟨p4, c4, ⟨?_, ?_, ?_, ?_⟩, fun hh => by omega, fun b off e h0 => ?_⟩
      · rw [oth _ (by omega) (by omega), q0, c0]
      · rw [← hW, World.cell?_setCell_other _ _ _ _ (by intro hh; injection hh with _ h3 _; omega)]
        exact World.cell?_setCell_same _ _ _ ((cl _).trans q1)
      · rw [← hW]
        exact World.cell?_setCell_same _ _ _ (by rw [World.cell?_setCell_other _ _ _ _ (by intro hh; injection hh with _ h3 _; omega)]; exact (cl _).trans q2)
      · rcases hown.2 with ⟨_, h0⟩ | ⟨g4, cap, cur, e, h1, h2, _⟩
        · exact ⟨hf, .inl h0⟩
        · injection e with e _ _
          subst e
          have hO := (own_of_rowP hf hown).row
          exact row_blocks hO (by rw [szW]; exact Nat.le_refl _) (fun b off e _ _ => blk b (by
            injection e with e
            injection e with e _ _
            omega))
      · have := brow_ge hown (b := b) (by rw [e]; rfl)
        omega
    · have e1 : crF F dn d (k + 1) i = crF F dn d k i := by rw [crF_succ]; simp only [if_neg e]
      rw [e1]
      obtain ⟨da, dc, ⟨f0, f1, f2, frow⟩, hcp, hda⟩ := h.cel i hi
      exact ⟨da, dc, ⟨(oth _ (by omega) (by omega)).trans f0, (oth _ (by omega) (by omega)).trans f1, (oth _ (by omega) (by omega)).trans f2, row_blocks frow (by rw [szW]; exact hs) (fun b off e h0 hlt => blkU b (hda b off e h0).1 hlt)⟩, fun h => hcp (by omega), hda⟩
  · refine ⟨by rw [← hW]; exact hos.trans h.bel.os, by rw [← hW]; exact hta.trans h.bel.tape, by rw [← hW]; exact hou.trans h.bel.output, by rw [szW]; exact Nat.le_trans h.bel.size hs, fun j hj => (blkU j (by omega) (by omega)).trans (h.bel.block j hj)⟩
end
end Go.Proofs.YtiojjihonmonkaaDoor
