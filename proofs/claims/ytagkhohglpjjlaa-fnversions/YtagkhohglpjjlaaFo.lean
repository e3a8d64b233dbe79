/- Versions: measured, copied, compared, marked, held. / FilesOf, in both texts. -/
import Derived.Test.YtagkhohglpjjlaaVr
import Derived.Test.YtagkhohglpjjlaaGt
namespace Go.Proofs.Ytagkhohglpjjlaa
open Go.RowKit
set_option linter.unusedSimpArgs false
set_option linter.unusedVariables false

/-- A version in a box. -/
structure VX (w : World) (b : Nat) (nx lg sq : Int) (ao : Option Addr) (N cap : Nat) : Prop where
  lt : b < w.heap.size
  c0 : w.cell? ⟨b, 0, none⟩ = some (.int .i64 nx)
  c1 : w.cell? ⟨b, 1, none⟩ = some (.int .i64 lg)
  c2 : w.cell? ⟨b, 2, none⟩ = some (.int .i64 sq)
  c3 : w.cell? ⟨b, 3, none⟩ = some (.slice ao N cap)
theorem VX.same {w w' : World} {b : Nat} {nx lg sq : Int} {ao : Option Addr} {N cap : Nat} (h : VX w b nx lg sq ao N cap) (hs : w.heap.size ≤ w'.heap.size) (hb : w'.heap[b]? = w.heap[b]?) : VX w' b nx lg sq ao N cap :=
  have c := fun j => World.cell?_of_block (w := w) (w' := w') (a := ⟨b, j, none⟩) hb
  ⟨Nat.lt_of_lt_of_le h.lt hs, (c 0).trans h.c0, (c 1).trans h.c1, (c 2).trans h.c2, (c 3).trans h.c3⟩
theorem VX.keep {w w' : World} {b : Nat} {nx lg sq : Int} {ao : Option Addr} {N cap : Nat} (h : VX w b nx lg sq ao N cap) (hb : Below w.heap.size w w') : VX w' b nx lg sq ao N cap := h.same hb.size (hb.block b h.lt)
theorem VX.new (w : World) (nx lg sq : Int) (ao : Option Addr) (N cap T : Nat) : VX (w.alloc (.cells #[.int .i64 nx, .int .i64 lg, .int .i64 sq, .slice ao N cap] T)) w.heap.size nx lg sq ao N cap := by
  refine ⟨by simp, ?_, ?_, ?_, ?_⟩ <;> simp [go_sem]
end Go.Proofs.Ytagkhohglpjjlaa
namespace Go.Proofs.Ytagkhohglpjjlaa
open Go.RowKit Go.Shelf
open Go.Sort (Holds putRow holds_putRow)
set_option linter.unusedSimpArgs false
set_option linter.unusedVariables false

/-- The numbers from 1 to k, each as often as it stands in L. -/
def ups (L : List Int) : Nat → List Int
  | 0 => []
  | k + 1 => ups L k ++ List.replicate (L.count ((k + 1 : Nat) : Int)) ((k + 1 : Nat) : Int)
/-- Rising, or equal. -/
def srt (L : List Int) : List Int := L.mergeSort fun x y => decide (x ≤ y)
theorem ups_le (L : List Int) : ∀ k, ∀ x ∈ ups L k, x ≤ (k : Int)
  | 0, x, h => by cases h
  | k + 1, x, h => by
    rcases List.mem_append.1 h with h | h
    · have := ups_le L k x h; omega
    · have := List.eq_of_mem_replicate h; omega
theorem ups_sorted (L : List Int) : ∀ k, (ups L k).Pairwise (fun a b => a ≤ b)
  | 0 => List.Pairwise.nil
  | k + 1 => by
    refine List.pairwise_append.2 ⟨ups_sorted L k, ?_, fun a ha b hb => ?_⟩
    · rw [List.pairwise_replicate]; exact .inr (Int.le_refl _)
    · have h1 := ups_le L k a ha
      have h2 := List.eq_of_mem_replicate hb
      omega
theorem ups_count (L : List Int) (x : Int) : ∀ k : Nat, (ups L k).count x = if 1 ≤ x ∧ x ≤ (k : Int) then L.count x else 0
  | 0 => by
    have : ¬ (1 ≤ x ∧ x ≤ ((0 : Nat) : Int)) := by omega
    rw [if_neg this]; rfl
  | k + 1 => by
    show (ups L k ++ _).count x = _
    rw [List.count_append, ups_count L x k, List.count_replicate]
    by_cases e : ((k + 1 : Nat) : Int) = x
    · have h1 : ¬ (1 ≤ x ∧ x ≤ (k : Int)) := by omega
      have h2 : (1 ≤ x ∧ x ≤ ((k + 1 : Nat) : Int)) := by omega
      have he : (((k + 1 : Nat) : Int) == x) = true := beq_iff_eq.2 e
      rw [if_neg h1, if_pos h2, if_pos he, e]; omega
    · have hne : (((k + 1 : Nat) : Int) == x) = false := beq_eq_false_iff_ne.2 e
      simp only [hne, Bool.false_eq_true, if_false, Nat.add_zero]
      by_cases h : 1 ≤ x ∧ x ≤ (k : Int)
      · rw [if_pos h, if_pos ⟨h.1, by omega⟩]
      · rw [if_neg h, if_neg (fun h2 => h ⟨h2.1, by omega⟩)]
theorem ups_srt (L : List Int) (k : Nat) (h : ∀ x ∈ L, 1 ≤ x ∧ x ≤ (k : Int)) : ups L k = srt L := by
  have hp : (ups L k).Perm L := by
    rw [List.perm_iff_count]
    intro x
    rw [ups_count]
    by_cases hx : x ∈ L
    · rw [if_pos (h x hx)]
    · rw [List.count_eq_zero.2 hx]; split <;> rfl
  refine List.Perm.eq_of_pairwise (le := fun a b => a ≤ b) (fun a b _ _ h1 h2 => Int.le_antisymm h1 h2) (ups_sorted L k) (sorted_of L) (hp.trans (List.mergeSort_perm L _).symm)
theorem srt_len (L : List Int) : (srt L).length = L.length := List.length_mergeSort L
/-- v is a list of the ints L whose memory lies in a block from lo on and below hi, and may be written. -/
def IA (w : World) (lo hi : Nat) (v : Value) (L : List Int) : Prop :=
  hi ≤ w.heap.size ∧ Ib L ∧ ((L = [] ∧ ∃ ao c, v = .slice ao 0 c) ∨ ∃ g cap, v = .slice (some ⟨g, 0, none⟩) L.length cap ∧ lo ≤ g ∧ g < hi ∧ IOwn w g 0 L.length (fi L))
section
variable {w w' : World} {lo hi lo' hi' : Nat} {v : Value} {L : List Int}
theorem IA.form (h : IA w lo hi v L) : ∃ ao c, v = .slice ao L.length c := by
  rcases h.2.2 with ⟨rfl, ao, c, e⟩ | ⟨g, cap, e, _⟩
  · exact ⟨ao, c, e⟩
  · exact ⟨_, _, e⟩
theorem IA.row {ao : Option Addr} {n c : Nat} (h : IA w lo hi (.slice ao n c) L) : IRow w ao L.length (fi L) := by
  rcases h.2.2 with ⟨rfl, _, _, e⟩ | ⟨g, cap, e, _, _, h1⟩
  · exact ⟨h.2.1.fi, .inl rfl⟩
  · injection e with e1 e2 e3
    rw [e1]; exact h1.row
theorem IA.same (h : IA w lo hi v L) (hs : w.heap.size ≤ w'.heap.size) (hb : ∀ c, lo ≤ c → c < hi → w'.heap[c]? = w.heap[c]?) : IA w' lo hi v L := by
  refine ⟨Nat.le_trans h.1 hs, h.2.1, ?_⟩
  rcases h.2.2 with h0 | ⟨g, cap, e, h1, h2, h3⟩
  · exact .inl h0
  · have eb := hb g h1 h2
    exact .inr ⟨g, cap, e, h1, h2, h3.bd, Nat.lt_of_lt_of_le h3.lt hs, fun i hi => (World.cell?_of_block (w := w) (a := ⟨g, 0 + i, none⟩) eb).trans (h3.cell i hi), fun i hi => (World.frozen?_of_block (w := w) (a := ⟨g, 0 + i, none⟩) eb).trans (h3.free i hi)⟩
theorem IA.keep (h : IA w lo hi v L) (hb : Below w.heap.size w w') : IA w' lo hi v L := h.same hb.size (fun c _ hc => hb.block c (Nat.lt_of_lt_of_le hc h.1))
theorem IA.mono (h : IA w lo hi v L) (h1 : lo' ≤ lo) (h2 : hi ≤ hi') (h3 : hi' ≤ w.heap.size) : IA w lo' hi' v L := by
  refine ⟨h3, h.2.1, ?_⟩
  rcases h.2.2 with h0 | ⟨g, cap, e, g1, g2, g3⟩
  · exact .inl h0
  · exact .inr ⟨g, cap, e, by omega, by omega, g3⟩
theorem ia_nil (w : World) (lo : Nat) (ao : Option Addr) (c : Nat) : IA w lo w.heap.size (.slice ao 0 c) [] := ⟨Nat.le_refl _, ib_nil, .inl ⟨rfl, ao, c, rfl⟩⟩
theorem OwnI.ia (h : OwnI w lo v L) : IA w lo w.heap.size v L := by
  refine ⟨Nat.le_refl _, h.bd, ?_⟩
  by_cases h0 : L.length = 0
  · obtain rfl := List.eq_nil_of_length_eq_zero h0
    obtain ⟨ao, c, e, _⟩ := h.form
    exact .inl ⟨rfl, ao, c, e⟩
  · obtain ⟨g, cap, e, h1, _, h2⟩ := h.own' (by omega)
    exact .inr ⟨g, cap, e, h1, h2.lt, h2⟩
end
/-- What FilesOf leaves. -/
def FoO (L : List Int) (c : Bool) (w : World) (e : Ending) (w' : World) : Prop :=
  ∃ v, e = .returned (.tuple #[v, .bool c]) ∧ IA w' w.heap.size w'.heap.size v L ∧ Below w.heap.size w w'
theorem gm_file {x : Met} (h : gm x = true) : 1 ≤ x.file ∧ x.file ≤ 100000 := by
  simp only [gm, Bool.and_eq_true] at h
  simpa [fN, btw] using h.1.1.1.1
theorem fls_mem {X : Nat → Met} {x : Int} : ∀ {n : Nat}, x ∈ fls X n → ∃ j, j < n ∧ x = (X j).file
  | 0, h => by cases h
  | n + 1, h => by
    rcases List.mem_append.1 h with h | h
    · obtain ⟨j, hj, e⟩ := fls_mem h
      exact ⟨j, by omega, e⟩
    · exact ⟨n, by omega, List.mem_singleton.1 h⟩
theorem flsR_mem {R : Nat → Nat → Met} {M : Nat → Nat} {x : Int} : ∀ {N : Nat}, x ∈ flsR R M N → ∃ k j, k < N ∧ j < M k ∧ x = (R k j).file
  | 0, h => by cases h
  | N + 1, h => by
    rcases List.mem_append.1 h with h | h
    · obtain ⟨k, j, hk, hj, e⟩ := flsR_mem h
      exact ⟨k, j, by omega, hj, e⟩
    · obtain ⟨j, hj, e⟩ := fls_mem h
      exact ⟨N, j, by omega, hj, e⟩
theorem GoodVP.files {nx lg sq : Int} {N : Nat} {R : Nat → Nat → Met} {M : Nat → Nat} (h : GoodVP nx lg sq N R M) : ∀ x ∈ flsR R M N, 1 ≤ x ∧ x < nx := fun x hx => by
  obtain ⟨k, j, hk, hj, e⟩ := flsR_mem hx
  have := gm_file ((h.2.2.2.2.1.2 k hk).1.2 j hj)
  exact ⟨by omega, (h.2.2.2.2.2.1 x hx).1⟩
theorem flsR_ib {R : Nat → Nat → Met} {M : Nat → Nat} {N : Nat} (h : ∀ i, i < N → ∀ j, j < M i → MB (R i j)) : Ib (flsR R M N) := fun x hx => by
  obtain ⟨k, j, hk, hj, e⟩ := flsR_mem hx
  rw [e]; exact (h k hk j hj).file

theorem srt_nil : srt [] = [] := by simp [srt]
theorem srt_mem {L : List Int} {x : Int} (h : x ∈ srt L) : x ∈ L := (List.mergeSort_perm L _).mem_iff.1 h
/-- A slice of one's own, sorted. -/
theorem sortOwn (w : World) (base : Nat) (v : Value) (L : List Int) (h : OwnI w base v L) (hn : L.length ≤ 1048576) :
    Calls Try.prog 67 #[v] w fun e w' => e = .returned (.tuple #[]) ∧ IA w' base w'.heap.size v (srt L) ∧ Below base w w' := by
  by_cases h0 : L.length = 0
  · obtain rfl := List.eq_nil_of_length_eq_zero h0
    rcases h.own.2 with ⟨rfl, _⟩ | ⟨g, c, cur, rfl, _⟩
    · refine Calls.mono (Any.slices_Sort_int_none sortInts none 0 w) ?_
      rintro e w' ⟨rfl, rfl⟩
      exact ⟨rfl, by rw [srt_nil]; exact ia_nil _ _ _ _, Below.refl _ _⟩
    · refine Calls.mono (Any.slices_Sort_int_none sortInts _ _ w) ?_
      rintro e w' ⟨rfl, rfl⟩
      exact ⟨rfl, by rw [srt_nil]; exact ia_nil _ _ _ _, Below.refl _ _⟩
  · obtain ⟨g, cap, rfl, h1, _, h2⟩ := h.own' (by omega)
    have hH : Holds (Value.int .i64) w g 0 L.toArray := by
      intro j hj
      have hj' : j < L.length := by simpa using hj
      refine ⟨?_, by simpa using h2.free j hj'⟩
      have := h2.cell j hj'
      simpa [fi, hj'] using this
    refine (sortI_any w g cap base L hH h2.lt hn h1).mono ?_
    rintro e w' ⟨rfl, q1, q2⟩
    have hl : (srt L).length = L.length := srt_len L
    refine ⟨rfl, ⟨Nat.le_refl _, fun x hx => h.bd x (srt_mem hx), .inr ⟨g, cap, by rw [hl], h1, Nat.lt_of_lt_of_le h2.lt q2.size, ?_⟩⟩, q2⟩
    have hib : Ib (srt L) := fun x hx => h.bd x (srt_mem hx)
    refine ⟨hib.fi, Nat.lt_of_lt_of_le h2.lt q2.size, fun i hi => ?_, fun i hi => ?_⟩
    · have := (q1 i (by simpa [srt] using hi)).1
      simpa [fi, hi, srt] using this
    · exact (q1 i (by simpa [srt] using hi)).2

theorem nd_count {L : List Int} (h : L.Nodup) (x : Int) : L.count x ≤ 1 := by
  induction L with
  | nil => simp
  | cons a t ih =>
    rw [List.nodup_cons] at h
    rw [List.count_cons]
    by_cases e : a = x
    · subst e
      rw [List.count_eq_zero.2 h.1]
      simp
    · have hne : (a == x) = false := beq_eq_false_iff_ne.2 e
      rw [hne]
      have := ih h.2
      simpa using this
theorem ups_len {L : List Int} (h : ∀ x, L.count x ≤ 1) : ∀ k, (ups L k).length ≤ k
  | 0 => Nat.le_refl _
  | k + 1 => by
    have h1 := ups_len h k
    have h2 := h ((k + 1 : Nat) : Int)
    simp only [ups, List.length_append, List.length_replicate]
    omega
/-- How often x stands in the first rows. -/
def cnt (R : Nat → Nat → Met) (M : Nat → Nat) (q r : Nat) (x : Int) : Nat := (flsR R M q ++ fls (R q) r).count x
theorem cnt_succ (R : Nat → Nat → Met) (M : Nat → Nat) (q r : Nat) (x : Int) : cnt R M q (r + 1) x = cnt R M q r x + (if (R q r).file == x then 1 else 0) := by
  simp only [cnt, fls, ← List.append_assoc]
  rw [List.count_append]
  simp [List.count_cons]
theorem cnt_next (R : Nat → Nat → Met) (M : Nat → Nat) (q : Nat) (x : Int) : cnt R M q (M q) x = cnt R M (q + 1) 0 x := by
  simp [cnt, fls, flsR]
theorem cnt_le (R : Nat → Nat → Met) (M : Nat → Nat) {N q r : Nat} (hq : q < N) (hr : r ≤ M q) (x : Int) : cnt R M q r x ≤ (flsR R M N).count x := by
  have hp : flsR R M q ++ fls (R q) r <+: flsR R M N := by
    refine List.IsPrefix.trans ?_ (flsR_pre R M (show q + 1 ≤ N from hq))
    exact (List.prefix_append_right_inj _).2 (fls_pre (R q) hr)
  exact List.Sublist.count_le _ hp.sublist

theorem OwnI.lower {w : World} {base base' : Nat} {v : Value} {L : List Int} (h : OwnI w base v L) (hb : base' ≤ base) : OwnI w base' v L := by
  refine ⟨h.bd, h.own.1, ?_⟩
  rcases h.own.2 with h0 | ⟨g, cap, cur, e, h1, h2⟩
  · exact .inl h0
  · exact .inr ⟨g, cap, cur, e, Nat.le_trans hb h1, h2⟩
end Go.Proofs.Ytagkhohglpjjlaa
