/- A round of crash: what it keeps. / What a method of the model leaves. / remove: what it leaves. -/
import Derived.Test.YtiojjihonmonkaaDoorCrM
import Derived.Test.YtiojjihonmonkaaDoorSyncS
import Derived.Test.YtiojjihonmonkaaDoorAppF
namespace Go.Proofs.YtiojjihonmonkaaDoor
open Go.RowKit
open Go.ChangeMaps (setBlock)
set_option linter.unusedSimpArgs false
set_option linter.unusedVariables false

theorem ok_sy {F : Nat → Fil} {i : Nat} (h : fileOk F i = true) : 0 ≤ (F i).sy ∧ (F i).sy ≤ ((F i).len : Int) := by
  simp only [fileOk, Bool.and_eq_true, decide_eq_true_eq] at h
  exact ⟨h.1.2, h.2⟩

theorem CR.keep {w wr w' : World} {Q : Int} {bm n dn rb k : Nat} {F : Nat → Fil} {S : Nat → Value} {d : Nat → Int} {rv dv : Value} (h : CR w Q bm n F S dn d rb rv k dv wr) (hs : w.heap.size ≤ wr.heap.size) (hb : Below wr.heap.size wr w') : CR w Q bm n F S dn d rb rv k dv w' := by
  obtain ⟨ao, cap, e, ⟨h1, h2⟩, h8⟩ := h.draws
  exact ⟨⟨ao, cap, e, ⟨h1, h2.keep hb⟩, h8⟩, h.map.keep hb, row_low h.row (fun j _ hj => hb.block j hj), h.box.keep hb, h.bel.trans (hb.mono (Nat.le_of_lt h.map.lt)), fun j h3 h4 => (hb.block j (by omega)).trans (h.oth j h3 h4)⟩

theorem CR.step {w u : World} {Q : Int} {bm n dn rb k xb T : Nat} {F : Nat → Fil} {S : Nat → Value} {d : Nat → Int} {rv : Value} {ao ao' : Option Addr} {cap cap' : Nat} {da : Option Addr} {len dc m' : Nat} {v1 v2 : Value} (hlt : k < n) (hl0 : loose F k ≠ 0) (hT : stayD F dn d k = (T : Int)) (hSk : S k = .slice da len dc) (h : CR w Q bm n F S dn d rb rv k (.slice ao (dn - uD F dn k) cap) u) (hbm : bm < w.heap.size) (hxb : w.heap.size < xb) (hx2 : xb < u.heap.size) (hrv : ∀ b, some b = rv.ownBlock → b ≠ xb ∧ b ≠ bm)
    (hd' : m' = dn - uD F dn (k + 1)) (hdr : DL ((u.setCell ⟨xb, 1, none⟩ v1).setCell ⟨xb, 2, none⟩ v2) ao' m' cap' (fun i => d (uD F dn (k + 1) + i))) (hnb : ∀ b off, ao' = some ⟨b, off, none⟩ → m' ≠ 0 → b ≠ bm) :
    CR w Q bm n F S dn d rb rv (k + 1) (.slice ao' m' cap') (setBlock ((u.setCell ⟨xb, 1, none⟩ v1).setCell ⟨xb, 2, none⟩ v2) bm (.map (esOf ((lOf (crF F dn d k) (Sk F S dn d k) n).set k (((F k).nm, (da, T, T), (T : Int)), k))) n)) := by
  subst hd'
  have hs : ((lOf (crF F dn d k) (Sk F S dn d k) n).set k (((F k).nm, (da, T, T), (T : Int)), k)) = lOf (crF F dn d (k + 1)) (Sk F S dn d (k + 1)) n := by
    rw [← cr_set hlt hl0, hT, hSk]
    rfl
  have hM := h.map
  have blk : ∀ j, j ≠ bm → j ≠ xb → (setBlock ((u.setCell ⟨xb, 1, none⟩ v1).setCell ⟨xb, 2, none⟩ v2) bm (.map (esOf ((lOf (crF F dn d k) (Sk F S dn d k) n).set k (((F k).nm, (da, T, T), (T : Int)), k))) n)).heap[j]? = u.heap[j]? := fun j h1 h2 => (heap_setBlock_ne _ _ _ h1).trans ((Below.heap_setCell _ _ _ _ h2).trans (Below.heap_setCell _ _ _ _ h2))
  have hup := hM.upd (wX := (u.setCell ⟨xb, 1, none⟩ v1).setCell ⟨xb, 2, none⟩ v2) (cr_at hlt) ((F k).nm, (da, T, T), (T : Int)) rfl (by simpa using hM.lt)
  refine ⟨⟨ao', cap', rfl, ⟨hdr.1, ?_⟩, hnb⟩, by rw [hs] at hup ⊢; exact hup, ?_, ?_, ?_, fun j h1 h2 => (blk j h2 (by omega)).trans (h.oth j h1 h2)⟩
  · refine ⟨hdr.2.bd, ?_⟩
    by_cases h0 : dn - uD F dn (k + 1) = 0
    · exact .inl h0
    · obtain ⟨b, off, e, h1, h2⟩ := hdr.2.lies.resolve_left h0
      exact .inr ⟨b, off, e, by rw [size_setBlock]; exact h1, fun i hi => (World.cell?_of_block (w := (u.setCell ⟨xb, 1, none⟩ v1).setCell ⟨xb, 2, none⟩ v2) (a := ⟨b, off + i, none⟩) (heap_setBlock_ne _ _ _ (hnb b off e h0))).trans (h2 i hi)⟩
  · refine ⟨h.row.1, ?_⟩
    rcases h.row.2 with h1 | ⟨g, cp, cur, e, h1, h2, h3⟩
    · exact .inl h1
    · have := hrv g (by rw [e]; rfl)
      exact .inr ⟨g, cp, cur, e, h1, (blk g this.2 this.1).trans h2, h3⟩
  · have hq := h.box
    have hb := blk w.heap.size (by omega) (by omega)
    exact ⟨by rw [size_setBlock]; simpa using hq.lt, (World.cell?_of_block (w := u) (a := ⟨w.heap.size, 0, none⟩) hb).trans hq.c0, (World.cell?_of_block (w := u) (a := ⟨w.heap.size, 1, none⟩) hb).trans hq.c1⟩
  · exact ⟨h.bel.os, h.bel.tape, h.bel.output, by rw [size_setBlock]; simpa using h.bel.size, fun j hj => (blk j (by omega) (by omega)).trans (h.bel.block j hj)⟩

end Go.Proofs.YtiojjihonmonkaaDoor
namespace Go.Proofs.YtiojjihonmonkaaDoor
open Go.RowKit
set_option linter.unusedSimpArgs false
set_option linter.unusedVariables false

/-- A method of the model leaves m files behind the box fb, from base on, and a code. -/
def LOut (Q c : Int) (m : Nat) (Fo : Nat → Fil) (fb base : Nat) (w : World) (e : Ending) (w' : World) : Prop :=
  ∃ p' c', e = .returned (.int .i64 c) ∧ QAt w' fb Q (.slice p' m c') ∧ SRow w' base (.slice p' m c') m Fo ∧ w.heap.size ≤ w'.heap.size ∧ Below fb w w' ∧ ∀ k, k < base → k ≠ fb → k < w.heap.size → w'.heap[k]? = w.heap[k]?
end Go.Proofs.YtiojjihonmonkaaDoor
namespace Go.Proofs.YtiojjihonmonkaaDoor
open Go.RowKit
open Go.ChangeMaps (setBlock)
set_option linter.unusedSimpArgs false
set_option linter.unusedVariables false

/-- Where file i stood before file j was struck. -/
def sh (j i : Nat) : Nat := if i < j then i else i + 1
theorem sh_lt {j i n : Nat} (hj : j < n) (hi : i < n - 1) : sh j i < n := by unfold sh; split <;> omega
theorem sh_mono {j i k : Nat} (h : i < k) : sh j i < sh j k := by unfold sh; split <;> split <;> omega
def remF (F : Nat → Fil) (j i : Nat) : Fil := F (sh j i)

end Go.Proofs.YtiojjihonmonkaaDoor
