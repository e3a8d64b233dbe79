/- The last of each key, in numbers: told once, whoever finds them. / LastTold in the program, where every key is good. -/
import Derived.Test.YtjdijikmdlklkaaYl
import Derived.Test.YtjdijikmdlklkaaYq
import Derived.Test.YtjdijikmdlklkaaTv
namespace Go.Proofs.Ytjdijikmdlklkaa
open Go.RowKit
set_option linter.unusedSimpArgs false
set_option linter.unusedVariables false

def kx (X : Nat → Wn) (i : Nat) : List Int := kbW (X i)
theorem RT_key {X : Nat → Wn} {i j : Nat} (h : RT X i j) : ltL (kx X i) (kx X j) ∨ kx X i = kx X j := h.elim .inl fun h => .inr h.1
theorem lt_of_le_lt {X : Nat → Wn} {i j k : Nat} (h : RT X i j ∨ i = j) (g : ltL (kx X j) (kx X k)) : ltL (kx X i) (kx X k) := by
  rcases h with h | rfl
  · rcases RT_key h with q | q
    · exact ltL_trans _ _ _ q g
    · rw [q]; exact g
  · exact g
theorem lt_of_lt_le {X : Nat → Wn} {i j k : Nat} (h : ltL (kx X i) (kx X j)) (g : RT X j k ∨ j = k) : ltL (kx X i) (kx X k) := by
  rcases g with g | rfl
  · rcases RT_key g with q | q
    · exact ltL_trans _ _ _ h q
    · rw [← q]; exact h
  · exact h
/-- z lists, key by key, the last of those with that key among the first n. -/
structure Fin' (X : Nat → Wn) (n : Nat) (z : Nat → Nat) (m : Nat) : Prop where
  lt : ∀ j, j < m → z j < n
  last : ∀ j, j < m → ∀ i, i < n → kx X i = kx X (z j) → i = z j ∨ RT X i (z j)
  rise : ∀ j j', j < j' → j' < m → ltL (kx X (z j)) (kx X (z j'))
  all : ∀ i, i < n → ∃ j, j < m ∧ kx X (z j) = kx X i
theorem Fin'.le {X : Nat → Wn} {n m : Nat} {z : Nat → Nat} (h : Fin' X n z m) {j j' : Nat} (hj : j ≤ j') (hm : j' < m) : kx X (z j) = kx X (z j') ∨ ltL (kx X (z j)) (kx X (z j')) := by
  by_cases e : j = j'
  · rw [e]; exact .inl rfl
  · exact .inr (h.rise j j' (by omega) hm)
theorem Fin'.same {X : Nat → Wn} {n m m' : Nat} {z z' : Nat → Nat} (h : Fin' X n z m) (g : Fin' X n z' m') : ∀ j, j < m → j < m' ∧ z j = z' j := by
  intro j
  induction j using Nat.strongRecOn with
  | _ j ih =>
    intro hj
    obtain ⟨j', hj', e'⟩ := g.all (z j) (h.lt j hj)
    have h1 : j ≤ j' := by
      refine Nat.not_lt.1 fun hlt => ?_
      have := (ih j' hlt (by omega)).2
      rw [← this] at e'
      have q := h.rise j' j hlt hj
      rw [e'] at q
      exact ltL_irr _ q
    have hjm : j < m' := by omega
    obtain ⟨j'', hj'', e''⟩ := h.all (z' j) (g.lt j hjm)
    have h2 : j ≤ j'' := by
      refine Nat.not_lt.1 fun hlt => ?_
      have e3 := (ih j'' hlt hj'').2
      rw [e3] at e''
      have q := g.rise j'' j hlt hjm
      rw [e''] at q
      exact ltL_irr _ q
    have k : kx X (z j) = kx X (z' j) := by
      rcases g.le h1 hj' with q | q
      · rw [← e', q]
      · rcases h.le h2 hj'' with q2 | q2
        · rw [← e'', q2]
        · rw [e'] at q
          rw [e''] at q2
          exact (ltL_irr _ (ltL_trans _ _ _ q q2)).elim
    refine ⟨hjm, ?_⟩
    rcases g.last j hjm (z j) (h.lt j hj) k with q | q
    · exact q
    · rcases h.last j hj (z' j) (g.lt j hjm) k.symm with q2 | q2
      · exact q2.symm
      · exact ((RT_ord X).asym q q2).elim
theorem Fin'.one {X : Nat → Wn} {n m m' : Nat} {z z' : Nat → Nat} (h : Fin' X n z m) (g : Fin' X n z' m') : m = m' ∧ ∀ j, j < m → z j = z' j := by
  refine ⟨?_, fun j hj => (h.same g j hj).2⟩
  rcases Nat.lt_trichotomy m m' with q | q | q
  · have := (g.same h m q).1; omega
  · exact q
  · have := (h.same g m' q).1; omega

/-- At i of the sorted row ends a key. -/
def EndK (X : Nat → Wn) (y : Nat → Nat) (n i : Nat) : Prop := i + 1 = n ∨ kx X (y i) ≠ kx X (y (i + 1))
/-- What was taken of the first k of the sorted row. -/
structure Tk (X : Nat → Wn) (y : Nat → Nat) (n k : Nat) (z : Nat → Nat) (m : Nat) : Prop where
  of : ∀ j, j < m → ∃ i, i < k ∧ z j = y i ∧ EndK X y n i
  rise : ∀ j j', j < j' → j' < m → ltL (kx X (z j)) (kx X (z j'))
  all : ∀ i, i < k → EndK X y n i → ∃ j, j < m ∧ z j = y i
theorem Tk.start (X : Nat → Wn) (y : Nat → Nat) (n : Nat) (z : Nat → Nat) : Tk X y n 0 z 0 := ⟨fun j hj => by omega, fun j j' h1 h2 => by omega, fun i hi => by omega⟩
theorem end_lt {X : Nat → Wn} {y : Nat → Nat} {n i k : Nat} (hU : UpR (RT X) y 0 n) (hi : i < k) (hk : k < n) (he : EndK X y n i) : ltL (kx X (y i)) (kx X (y k)) := by
  have hne := he.resolve_left (by omega)
  have h1 := hU i (i + 1) (Nat.zero_le _) (by omega) (by omega)
  have h2 := (RT_key h1).resolve_right hne
  by_cases e : i + 1 = k
  · rw [← e]; exact h2
  · exact lt_of_lt_le h2 (.inl (hU (i + 1) k (Nat.zero_le _) (by omega) hk))
def zput (z : Nat → Nat) (m v j : Nat) : Nat := if j = m then v else z j
theorem Tk.put {X : Nat → Wn} {y : Nat → Nat} {n k m : Nat} {z : Nat → Nat} (h : Tk X y n k z m) (hU : UpR (RT X) y 0 n) (hk : k < n) (he : EndK X y n k) : Tk X y n (k + 1) (zput z m (y k)) (m + 1) := by
  have z0 : zput z m (y k) m = y k := by simp [zput]
  have z1 : ∀ j, j < m → zput z m (y k) j = z j := fun j hj => by unfold zput; rw [if_neg (by omega)]
  refine ⟨fun j hj => ?_, fun j j' h1 h2 => ?_, fun i hi hei => ?_⟩
  · by_cases e : j = m
    · exact ⟨k, by omega, by rw [e, z0], he⟩
    · obtain ⟨i, i1, i2, i3⟩ := h.of j (by omega)
      exact ⟨i, by omega, by rw [z1 j (by omega)]; exact i2, i3⟩
  · rw [z1 j (by omega)]
    by_cases e : j' = m
    · rw [e, z0]
      obtain ⟨i, i1, i2, i3⟩ := h.of j (by omega)
      rw [i2]
      exact end_lt hU i1 hk i3
    · rw [z1 j' (by omega)]
      exact h.rise j j' h1 (by omega)
  · by_cases e : i = k
    · exact ⟨m, by omega, by rw [e, z0]⟩
    · obtain ⟨j, j1, j2⟩ := h.all i (by omega) hei
      exact ⟨j, by omega, by rw [z1 j j1]; exact j2⟩
theorem Tk.leave {X : Nat → Wn} {y : Nat → Nat} {n k m : Nat} {z : Nat → Nat} (h : Tk X y n k z m) (he : ¬ EndK X y n k) : Tk X y n (k + 1) z m := by
  refine ⟨fun j hj => ?_, h.rise, fun i hi hei => ?_⟩
  · obtain ⟨i, i1, i2⟩ := h.of j hj
    exact ⟨i, by omega, i2⟩
  · by_cases e : i = k
    · rw [e] at hei; exact (he hei).elim
    · exact h.all i (by omega) hei
theorem end_of {X : Nat → Wn} {y : Nat → Nat} {n : Nat} : ∀ d q, q + d = n → 0 < d → ∃ i, q ≤ i ∧ i < n ∧ kx X (y i) = kx X (y q) ∧ EndK X y n i
  | 0, q, hd, hq => by omega
  | d + 1, q, hd, hq => by
    by_cases e : EndK X y n q
    · exact ⟨q, Nat.le_refl _, by omega, rfl, e⟩
    · have e1 : d ≠ 0 := fun h => e (.inl (by omega))
      have e2 : kx X (y q) = kx X (y (q + 1)) := Classical.not_not.1 fun h => e (.inr h)
      obtain ⟨i, i1, i2, i3, i4⟩ := end_of (X := X) (y := y) (n := n) d (q + 1) (by omega) (by omega)
      exact ⟨i, by omega, i2, i3.trans e2.symm, i4⟩
theorem Tk.fin {X : Nat → Wn} {y : Nat → Nat} {n m : Nat} {z : Nat → Nat} (h : Tk X y n n z m) (hU : UpR (RT X) y 0 n) (hS : SSet (fun i => i) y 0 n) : Fin' X n z m := by
  have hy : ∀ i, i < n → y i < n := fun i hi => by
    obtain ⟨q, q1, q2, e⟩ := hS.bwd i (Nat.zero_le _) hi
    rw [← e]; exact q2
  refine ⟨fun j hj => ?_, fun j hj i0 hi0 hk => ?_, h.rise, fun i0 hi0 => ?_⟩
  · obtain ⟨i, i1, i2, _⟩ := h.of j hj
    rw [i2]; exact hy i i1
  · obtain ⟨i, i1, i2, i3⟩ := h.of j hj
    rw [i2] at hk ⊢
    obtain ⟨q, q1, q2, e⟩ := hS.fwd i0 (Nat.zero_le _) hi0
    have e : y q = i0 := e
    rw [← e] at hk ⊢
    rcases Nat.lt_trichotomy q i with c | c | c
    · exact .inr (hU q i (Nat.zero_le _) c i1)
    · rw [c]; exact .inl rfl
    · have := end_lt hU c q2 i3
      rw [hk] at this
      exact (ltL_irr _ this).elim
  · obtain ⟨q, q1, q2, e⟩ := hS.fwd i0 (Nat.zero_le _) hi0
    have e : y q = i0 := e
    obtain ⟨i, i1, i2, i3, i4⟩ := end_of (X := X) (y := y) (n := n) (n - q) q (by omega) (by omega)
    obtain ⟨j, j1, j2⟩ := h.all i i2 i4
    exact ⟨j, j1, by rw [j2, i3, e]⟩
end Go.Proofs.Ytjdijikmdlklkaa
namespace Go.Proofs.Ytjdijikmdlklkaa
open Go.RowKit
set_option linter.unusedSimpArgs false
set_option linter.unusedVariables false

theorem WrB.below {B d : Nat} {w u : World} (h : WrB B w u) (hB : d ≤ B) (hd : d ≤ w.heap.size) : Below d w u := ⟨h.os, h.tape, h.output, h.size, fun i hi => h.block i (by omega) (by omega)⟩
theorem AR.kb {w u : World} {b n d : Nat} {C : Nat → Nat → Value} {x : Nat → Nat} (h : AR w b n C x) (hb : Below d w u) (hd : b < d) : AR u b n C x :=
  ⟨Nat.lt_of_lt_of_le h.lt hb.size, fun p hp j hj => (hb.cell (p := ⟨b, p * 10 + j, none⟩) hd).trans (h.at' p hp j hj), fun j hj => (hb.frozen (p := ⟨b, j, none⟩) hd).trans (h.fz j hj)⟩
theorem toAt_of {w : World} {b q : Nat} {x : Wn} {a0 a1 : Option Addr} {c0 c1 : Nat} (h : Lie10 w b q (tC x a0 c0 a1 c1)) (hb : b < w.heap.size) : ToAt w b q x a0 a1 c0 c1 :=
  ⟨hb, h 0 (by omega), h 1 (by omega), h 2 (by omega), h 3 (by omega), h 4 (by omega), h 5 (by omega), h 6 (by omega), h 7 (by omega), h 8 (by omega), h 9 (by omega)⟩
theorem lie_of {w : World} {b q : Nat} {x : Wn} {a0 a1 : Option Addr} {c0 c1 : Nat} (h : ToAt w b q x a0 a1 c0 c1) : Lie10 w b q (tC x a0 c0 a1 c1) := by
  intro j hj
  rcases (show j = 0 ∨ j = 1 ∨ j = 2 ∨ j = 3 ∨ j = 4 ∨ j = 5 ∨ j = 6 ∨ j = 7 ∨ j = 8 ∨ j = 9 by omega) with rfl | rfl | rfl | rfl | rfl | rfl | rfl | rfl | rfl | rfl
  · exact h.c0
  · exact h.c1
  · exact h.c2
  · exact h.c3
  · exact h.c4
  · exact h.c5
  · exact h.c6
  · exact h.c7
  · exact h.c8
  · exact h.c9
/-- A good told one. -/
def gd : Wn := ⟨⟨#[97]⟩, 0, fun _ => ByteArray.empty, fun _ => ByteArray.empty, 0, 0, 0, 0, 0, 0, fun _ => 0, false, 0, false⟩
theorem gd_key : gK gd = true := by kernel_rfl
theorem gd_siz : WiS gd := ⟨by decide, Nat.zero_le _, fun i hi => absurd hi (Nat.not_lt_zero _), Nat.zero_le _⟩
/-- n good ones lie at b. -/
structure Goods (w : World) (b n : Nat) (Y : Nat → Wn) (A0 A1 : Nat → Option Addr) (K0 K1 : Nat → Nat) : Prop where
  lt : b < w.heap.size
  key : ∀ v, gK (Y v) = true
  siz : ∀ v, WiS (Y v)
  lie : ∀ p, p < n → Lie10 w b (0 + p * 10) (tC (Y p) (A0 p) (K0 p) (A1 p) (K1 p))
  far : ∀ B, w.heap.size ≤ B → ∀ v, Far w B (Y v) (A0 v) (A1 v)
theorem goods_of {w : World} {b n : Nat} {X : Nat → Wn} {G0 G1 : Nat → Nat} (h : ToOwn w b n n X G0 G1) (hz : ToSize n X) (hg : ∀ i, i < n → gK (X i) = true) : ∃ Y A0 A1 K0 K1, (∀ i, i < n → Y i = X i) ∧ Goods w b n Y A0 A1 K0 K1 := by
  refine ⟨fun i => if i < n then X i else gd, fun i => some ⟨G0 i, 0, none⟩, fun i => some ⟨G1 i, 0, none⟩, fun i => if i < n then (X i).tn else 0, fun i => if i < n then (X i).n else 0, fun i hi => if_pos hi, h.lt, fun v => ?_, fun v => ?_, fun p hp => ?_, fun B hB v => ?_⟩
  · by_cases e : v < n
    · simp only [if_pos e]; exact hg v e
    · simp only [if_neg e]; exact gd_key
  · by_cases e : v < n
    · simp only [if_pos e]; exact hz v e
    · simp only [if_neg e]; exact gd_siz
  · simp only [if_pos hp]
    rw [Nat.zero_add]
    exact lie_of (h.ent p hp)
  · by_cases e : v < n
    · simp only [if_pos e]
      obtain ⟨_, o0, o1, _⟩ := h.data v e
      have l0 := o0.lt
      have l1 := o1.lt
      exact ⟨.inr ⟨G0 v, 0, rfl, l0, by omega, fun i hi => by have := o0.cell i hi hi; simpa using this⟩, .inr ⟨G1 v, 0, rfl, l1, by omega, o1.cell⟩, o1.bd⟩
    · simp only [if_neg e]
      exact ⟨.inl rfl, .inl rfl, fun _ => ⟨by simp [gd], by simp [gd]⟩⟩
theorem Far.kb {w u : World} {B d : Nat} {x : Wn} {a0 a1 : Option Addr} (h : Far w B x a0 a1) (hb : Below d w u) (hd : w.heap.size ≤ d) : Far u B x a0 a1 :=
  ⟨h.tr.elim .inl fun ⟨b, off, e, h1, h2, h3⟩ => .inr ⟨b, off, e, Nat.lt_of_lt_of_le h1 hb.size, h2, fun i hi => ⟨(hb.cell (p := ⟨b, off + i * 2, none⟩) (Nat.lt_of_lt_of_le h1 hd)).trans (h3 i hi).1, (hb.cell (p := ⟨b, off + i * 2 + 1, none⟩) (Nat.lt_of_lt_of_le h1 hd)).trans (h3 i hi).2⟩⟩, h.ir.elim .inl fun ⟨b, off, e, h1, h2, h3⟩ => .inr ⟨b, off, e, Nat.lt_of_lt_of_le h1 hb.size, h2, fun i hi => (hb.cell (p := ⟨b, off + i, none⟩) (Nat.lt_of_lt_of_le h1 hd)).trans (h3 i hi)⟩, h.bd⟩
end Go.Proofs.Ytjdijikmdlklkaa
