/- ReadKey, the model's text: what it leans on. -/
import Derived.Test.YtddppcfkjhhmhaaReadImpl
import Derived.Deep.RegionHeldLaw
import Derived.Deep.RegionHeld3
import Derived.Deep.AppendLies
namespace Go.Proofs.Ytddppcfkjhhmhaa
open Go.RowKit
set_option linter.unusedSimpArgs false
set_option linter.unusedVariables false

/-- A key lies in block b and may be written. -/
structure KBox (w : World) (b : Nat) (m : ByteArray) (sv : Value) (st : Int) : Prop where
  lt : b < w.heap.size
  c0 : w.cell? ⟨b, 0, none⟩ = some (.string m)
  c1 : w.cell? ⟨b, 1, none⟩ = some sv
  c2 : w.cell? ⟨b, 2, none⟩ = some (.int .i64 st)
  fz : ∀ j, w.frozen? ⟨b, j, none⟩ = false
theorem KBox.keep {w w' : World} {b : Nat} {m : ByteArray} {sv : Value} {st : Int} (h : KBox w b m sv st) (hb : Below w.heap.size w w') : KBox w' b m sv st :=
  ⟨Nat.lt_of_lt_of_le h.lt hb.size, (hb.cell (p := ⟨b, 0, none⟩) h.lt).trans h.c0, (hb.cell (p := ⟨b, 1, none⟩) h.lt).trans h.c1, (hb.cell (p := ⟨b, 2, none⟩) h.lt).trans h.c2, fun j => (hb.frozen (p := ⟨b, j, none⟩) h.lt).trans (h.fz j)⟩
theorem KBox.new (w : World) (m : ByteArray) (sv : Value) (st : Int) (T : Nat) : KBox (w.alloc (.cells #[.string m, sv, .int .i64 st] T)) w.heap.size m sv st :=
  ⟨by simp, by simp [go_sem], by simp [go_sem], by simp [go_sem], fun j => by simp [go_sem]⟩
theorem KBox.others {w w' : World} {b c : Nat} {m : ByteArray} {sv : Value} {st : Int} (h : KBox w b m sv st) (ho : Others c w w') (hne : b ≠ c) : KBox w' b m sv st :=
  have cl : ∀ j, w'.cell? ⟨b, j, none⟩ = w.cell? ⟨b, j, none⟩ := fun j => World.cell?_of_block (w := w) (a := ⟨b, j, none⟩) (ho.block b hne)
  ⟨by rw [ho.size]; exact h.lt, by rw [cl]; exact h.c0, by rw [cl]; exact h.c1, by rw [cl]; exact h.c2, fun j => (World.frozen?_of_block (w := w) (a := ⟨b, j, none⟩) (ho.block b hne)).trans (h.fz j)⟩
theorem KBox.set1 {w : World} {b : Nat} {m : ByteArray} {sv : Value} {st : Int} (h : KBox w b m sv st) (v : Value) : KBox (w.setCell ⟨b, 1, none⟩ v) b m v st := by
  have other : ∀ j, j ≠ 1 → (w.setCell ⟨b, 1, none⟩ v).cell? ⟨b, j, none⟩ = w.cell? ⟨b, j, none⟩ := fun j h1 => World.cell?_setCell_other _ _ _ _ (by intro hh; injection hh with _ h3 _; omega)
  exact ⟨by simpa using h.lt, by rw [other _ (by omega)]; exact h.c0, World.cell?_setCell_same w ⟨b, 1, none⟩ v h.c1, by rw [other _ (by omega)]; exact h.c2, fun j => by simpa using h.fz j⟩
theorem KBox.set2 {w : World} {b : Nat} {m : ByteArray} {sv : Value} {st : Int} (h : KBox w b m sv st) (s : Int) : KBox (w.setCell ⟨b, 2, none⟩ (.int .i64 s)) b m sv s := by
  have other : ∀ j, j ≠ 2 → (w.setCell ⟨b, 2, none⟩ (.int .i64 s)).cell? ⟨b, j, none⟩ = w.cell? ⟨b, j, none⟩ := fun j h1 => World.cell?_setCell_other _ _ _ _ (by intro hh; injection hh with _ h3 _; omega)
  exact ⟨by simpa using h.lt, by rw [other _ (by omega)]; exact h.c0, by rw [other _ (by omega)]; exact h.c1, World.cell?_setCell_same w ⟨b, 2, none⟩ _ h.c2, fun j => by simpa using h.fz j⟩
theorem ownsRow_block {w : World} {base n : Nat} {v : Value} {xs : List Value} (ho : w.ownsRow base 69 2 v n xs) {k : Nat} (hk : v.ownBlock = some k) : base ≤ k := by
  rcases ho.2 with ⟨rfl, _⟩ | ⟨g, cap, cur, rfl, hbg, _⟩
  · simp [Value.ownBlock] at hk
  · simp [Value.ownBlock] at hk; omega
theorem KBox.grown {w w' : World} {b base n : Nat} {m : ByteArray} {sv v : Value} {st : Int} {xs : List Value} (h : KBox w b m sv st) (ho : w.ownsRow base 69 2 v n xs) (hg : w.grownBy w' v.ownBlock) (hb : b < base) : KBox w' b m sv st :=
  have hne : some b ≠ v.ownBlock := fun e => by have := ownsRow_block ho e.symm; omega
  have cl : ∀ j, w'.cell? ⟨b, j, none⟩ = w.cell? ⟨b, j, none⟩ := fun j => hg.cell_far ⟨b, j, none⟩ h.lt hne
  ⟨Nat.lt_of_lt_of_le h.lt hg.size, by rw [cl]; exact h.c0, by rw [cl]; exact h.c1, by rw [cl]; exact h.c2, fun j => (hg.frozen_far ⟨b, j, none⟩ h.lt hne).trans (h.fz j)⟩
theorem ownsRow_others {w w' : World} {base n c : Nat} {v : Value} {xs : List Value} (h : w.ownsRow base 69 2 v n xs) (ho : Others c w w') (hc : c < base) : w'.ownsRow base 69 2 v n xs := by
  rcases h with ⟨h0, h1 | ⟨g, cap, cur, rfl, hbg, hg, h2⟩⟩
  · exact ⟨h0, .inl h1⟩
  · exact ⟨h0, .inr ⟨g, cap, cur, rfl, hbg, by rw [ho.block g (by omega)]; exact hg, h2⟩⟩

theorem find_skip {f : Nat → Int} {N q j : Nat} {x : Int} (h : Find f N q x j) (hq : q < N) (hx : f q ≠ x) : Find f N (q + 1) x j := by
  have hne : j ≠ q := fun e => by subst e; exact hx (h.hit hq)
  exact ⟨by have := h.ge; omega, h.le, fun i g1 g2 => h.no i (by omega) g2, h.hit⟩
theorem find_end {f : Nat → Int} {N j : Nat} {x : Int} (h : Find f N N x j) : j = N := by have := h.ge; have := h.le; omega

section
variable {w : World} {b off N : Nat} {f : Nat → Int}
theorem cv_str (hc : ∀ i, i < N → w.cell? ⟨b, off + i, none⟩ = some (.int .u8 (f i))) (q j cap : Nat) (hj : j ≤ N) (hq : q ≤ j) :
    (convert 23 9 (.slice (some ⟨b, off + q, none⟩) (j - q) cap)).run Try.prog w = .ok (.string (str f q j)) w :=
  run_convert_bytes_arg (P := Try.prog) w 23 5 Try.underlying23 Try.underlying5 b (off + q) (j - q) cap ((List.range (j - q)).map fun i => f (q + i)) (by simp) (fun i hi => by
    rw [Nat.add_assoc, hc (q + i) (by omega)]
    simp [hi]) 9 Try.underlying9
theorem cv_all (hc : ∀ i, i < N → w.cell? ⟨b, off + i, none⟩ = some (.int .u8 (f i))) (j cap : Nat) (hj : j ≤ N) :
    (convert 23 9 (.slice (some ⟨b, off, none⟩) j cap)).run Try.prog w = .ok (.string (str f 0 j)) w := by
  have := cv_str hc 0 j cap hj (Nat.zero_le _)
  rwa [Nat.add_zero, Nat.sub_zero] at this
end

section
variable {f : Nat → Int} {N j q k : Nat} {nm vl : Nat → ByteArray}
theorem TInv.few (h : TInv f N (j + 1) q k nm vl) (hf : Find f N 0 0 j) (hk : 4 < k) : ∀ m n nm' vl' st, ¬ IsKey f N m n nm' vl' st := fun m n nm' vl' st hi => by
  have h1 := (h.key m n nm' vl' st hi (hi.first hf).2.2.2.symm).1
  have h2 := (goodB_sizes hi.good).2.1
  omega
theorem TInv.far (h : TInv f N (j + 1) q k nm vl) (hf : Find f N 0 0 j) (h2 : ¬ (q < N ∧ f q = 2)) (h9 : q + 9 ≠ N) : ∀ m n nm' vl' st, ¬ IsKey f N m n nm' vl' st := fun m n nm' vl' st hi => by
  obtain ⟨g1, g2, g3⟩ := h.key m n nm' vl' st hi (hi.first hf).2.2.2.symm
  rcases Nat.lt_or_ge k n with g | g
  · have := hi.next k g q g2
    exact h2 ⟨this.1, this.2.1⟩
  · have e : k = n := by omega
    subst e
    exact h9 (hi.last q g2).1
theorem str_all {m : ByteArray} {n : Nat} {st : Int} (h : IsKey f N m n nm vl st) {S : ByteArray} (hS : bytesOf S = kbytes m n nm vl st) : S = str f 0 N := by
  have e : str f 0 (0 + S.size) = S := str_seg (by rw [hS]; exact h.seg)
  rw [← e, ← bytesOf_len, hS, h.len, Nat.zero_add]
end
theorem slice_lh (b off N cap lo hi : Nat) (h1 : lo + 1 ≤ hi) (h2 : hi ≤ cap) (h3 : lo + 1 < cap) (w : World) :
    (Instr.slice 23 (.slice (some ⟨b, off, none⟩) N cap) (some (.int .i64 ((lo : Int) + 1))) (some (.int .i64 (hi : Int))) none).run Try.prog w = .ok (.slice (some ⟨b, off + (lo + 1), none⟩) (hi - (lo + 1)) (cap - (lo + 1))) w := by
  have e2 : ¬ cap = lo + 1 := by omega
  have e3 : ((lo : Int) + 1).toNat = lo + 1 := by omega
  obtain ⟨i0, hi, hz0, hz1, hz2⟩ := info_parts Try.info5
  rw [run_slice_lh (P := Try.prog) (w := w) 23 _ N cap Try.underlying23 _ _ _ _ (by omega) (by omega) (by omega)]
  simp [go_sem, sliced, e2, e3, Addr.add]
theorem slice_lh' (b off N cap lo hi : Nat) (h1 : lo + 1 ≤ hi) (h2 : hi ≤ cap) (h3 : lo + 1 < cap) (w : World) :
    (Instr.sliceAt 23 (.slice (some ⟨b, off, none⟩) N cap) (some (.int .i64 ((lo : Int) + 1))) (some (.int .i64 (hi : Int))) none).run Try.prog w = .ok (.slice (some ⟨b, off + (lo + 1), none⟩) (hi - (lo + 1)) (cap - (lo + 1))) w := by
  rw [run_sliceAt_slice (P := Try.prog) (w := w) 23 _ _ _ _ Try.underlying23]
  exact slice_lh b off N cap lo hi h1 h2 h3 w
end Go.Proofs.Ytddppcfkjhhmhaa
