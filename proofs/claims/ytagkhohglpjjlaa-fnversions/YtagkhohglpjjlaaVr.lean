/- Rows of metas, and versions: measured, copied, compared, marked, held. -/
import Derived.Test.YtagkhohglpjjlaaMp
namespace Go.Proofs.Ytagkhohglpjjlaa
open Go.RowKit
set_option linter.unusedSimpArgs false
set_option linter.unusedVariables false

theorem Try.infoMS : (Try.prog.info? 71).map (fun i => (i.zero, i.size, i.bytes)) = some (some (.slice none 0 0), 1, 24) := by kernel_rfl

/-- N rows of metas lie at ao: the i-th has M i metas R i. -/
structure VRow (w : World) (ao : Option Addr) (N : Nat) (R : Nat → Nat → Met) (M : Nat → Nat) : Prop where
  bd : ∀ i, i < N → ∀ j, j < M i → MB (R i j)
  len : ∀ i, i < N → M i ≤ 9223372036854775807
  lies : N = 0 ∨ ∃ b off, ao = some ⟨b, off, none⟩ ∧ b < w.heap.size ∧ ∀ i, i < N → ∃ da dc, w.cell? ⟨b, off + i, none⟩ = some (.slice da (M i) dc) ∧ MRow w da (M i) (R i)
theorem VRow.keep {w w' : World} {ao : Option Addr} {N : Nat} {R : Nat → Nat → Met} {M : Nat → Nat} (h : VRow w ao N R M) (hb : Below w.heap.size w w') : VRow w' ao N R M :=
  ⟨h.bd, h.len, h.lies.elim .inl fun ⟨b, off, e, hlt, hc⟩ => .inr ⟨b, off, e, Nat.lt_of_lt_of_le hlt hb.size, fun i hi => by obtain ⟨da, dc, h1, h2⟩ := hc i hi; exact ⟨da, dc, (hb.cell (p := ⟨b, off + i, none⟩) hlt).trans h1, h2.keep hb⟩⟩⟩
/-- All together. -/
def totV (R : Nat → Nat → Met) (M : Nat → Nat) : Nat → Nat
  | 0 => 0
  | k + 1 => totV R M k + (M k + mtot (R k) (M k))
theorem totV_le {R : Nat → Nat → Met} {M : Nat → Nat} : ∀ {N i : Nat}, i < N → M i + mtot (R i) (M i) ≤ totV R M N
  | N + 1, i, h => by
    unfold totV
    rcases Nat.lt_succ_iff_lt_or_eq.1 h with h | rfl
    · have := totV_le (R := R) (M := M) h; omega
    · omega
/-- How many metas the first k rows have. -/
def sumM (M : Nat → Nat) : Nat → Nat
  | 0 => 0
  | k + 1 => sumM M k + M k
theorem sumM_tot (R : Nat → Nat → Met) (M : Nat → Nat) : ∀ N, sumM M N ≤ totV R M N
  | 0 => Nat.le_refl _
  | N + 1 => by have := sumM_tot R M N; unfold sumM totV; omega
theorem sumM_mono {M : Nat → Nat} : ∀ {N i : Nat}, i ≤ N → sumM M i ≤ sumM M N
  | 0, i, h => by obtain rfl : i = 0 := by omega
                  exact Nat.le_refl _
  | N + 1, i, h => by
    rcases Nat.lt_or_ge i (N + 1) with h1 | h1
    · have := sumM_mono (M := M) (show i ≤ N by omega)
      exact Nat.le_trans this (Nat.le_add_right _ _)
    · obtain rfl : i = N + 1 := by omega
      exact Nat.le_refl _

/-- N rows to be written in block b, the first k of them laid, each in a block of its own. -/
structure VO (w : World) (b N k : Nat) (R : Nat → Nat → Met) (M : Nat → Nat) (A : Nat → Option Addr) (C : Nat → Nat) : Prop where
  lt : b < w.heap.size
  cell : ∀ i, i < k → w.cell? ⟨b, i, none⟩ = some (.slice (A i) (M i) (C i))
  row : ∀ i, i < k → M i = 0 ∨ ∃ g, A i = some ⟨g, 0, none⟩ ∧ g ≠ b ∧ MOwn w g (M i) (R i)
  dis : ∀ i j, i < k → j < k → i ≠ j → 0 < M i → 0 < M j → A i ≠ A j
  there : ∀ j, j < N → (w.cell? ⟨b, j, none⟩).isSome = true
  free : ∀ j, j < N → w.frozen? ⟨b, j, none⟩ = false
section
variable {w w' : World} {b N k : Nat} {R R' : Nat → Nat → Met} {M : Nat → Nat} {A : Nat → Option Addr} {C : Nat → Nat}
theorem VO.same (h : VO w b N k R M A C) (hs : w.heap.size ≤ w'.heap.size) (hb : w'.heap[b]? = w.heap[b]?) (hg : ∀ i, i < k → 0 < M i → ∀ g, A i = some ⟨g, 0, none⟩ → w'.heap[g]? = w.heap[g]?) : VO w' b N k R M A C := by
  have c := fun j => World.cell?_of_block (w := w) (w' := w') (a := ⟨b, j, none⟩) hb
  refine ⟨Nat.lt_of_lt_of_le h.lt hs, fun i hi => (c i).trans (h.cell i hi), fun i hi => ?_, h.dis, fun j hj => by rw [c j]; exact h.there j hj, fun j hj => (World.frozen?_of_block (w := w) (a := ⟨b, j, none⟩) hb).trans (h.free j hj)⟩
  by_cases h0 : M i = 0
  · exact .inl h0
  · obtain ⟨g, e, hne, ho⟩ := (h.row i hi).resolve_left h0
    exact .inr ⟨g, e, hne, ho.same hs (hg i hi (by omega) g e)⟩
theorem VO.glt (h : VO w b N k R M A C) {i g : Nat} (hi : i < k) (h0 : 0 < M i) (e : A i = some ⟨g, 0, none⟩) : g < w.heap.size := by
  obtain ⟨g', e', _, ho⟩ := (h.row i hi).resolve_left (by omega)
  rw [e] at e'
  injection e' with e'
  injection e' with e' _ _
  rw [e']; exact ho.lt
theorem VO.keep (h : VO w b N k R M A C) (hb : Below w.heap.size w w') : VO w' b N k R M A C :=
  h.same hb.size (hb.block b h.lt) (fun i hi h0 g e => hb.block g (h.glt hi h0 e))
theorem VO.store {a : Option Addr} {c m : Nat} {X : Nat → Met} (h : VO w b N k R M A C) (hk : k < N) (hl : M k = 0 ∨ ∃ g, a = some ⟨g, 0, none⟩ ∧ g ≠ b ∧ MOwn w g (M k) (R k)) (hd : 0 < M k → ∀ i, i < k → 0 < M i → A i ≠ a) :
    VO (w.setCell ⟨b, k, none⟩ (.slice a (M k) c)) b N (k + 1) R M (fun i => if i = k then a else A i) (fun i => if i = k then c else C i) := by
  have hoth : Others b w (w.setCell ⟨b, k, none⟩ (.slice a (M k) c)) := Others.setCell _ _ _ _
  have hs : w.heap.size ≤ (w.setCell ⟨b, k, none⟩ (.slice a (M k) c)).heap.size := by rw [hoth.size]; exact Nat.le_refl _
  obtain ⟨v0, hv0⟩ := Option.isSome_iff_exists.1 (h.there k hk)
  have hsame : (w.setCell ⟨b, k, none⟩ (.slice a (M k) c)).cell? ⟨b, k, none⟩ = some (.slice a (M k) c) := World.cell?_setCell_same _ _ _ hv0
  have hother : ∀ j, j ≠ k → (w.setCell ⟨b, k, none⟩ (.slice a (M k) c)).cell? ⟨b, j, none⟩ = w.cell? ⟨b, j, none⟩ := fun j hj => World.cell?_setCell_other _ _ _ _ (by intro hh; injection hh with _ h2 _; omega)
  refine ⟨by rw [hoth.size]; exact h.lt, fun i hi => ?_, fun i hi => ?_, fun i j hi hj hij h1 h2 => ?_, fun j hj => ?_, fun j hj => by simpa using h.free j hj⟩
  · by_cases e : i = k
    · subst e; simp only [if_true]; exact hsame
    · simp only [e, if_false]; rw [hother i e]; exact h.cell i (by omega)
  · by_cases e : i = k
    · subst e; simp only [if_true]
      rcases hl with h0 | ⟨g, e1, hne, ho⟩
      · exact .inl h0
      · exact .inr ⟨g, e1, hne, ho.same hs (hoth.block g hne)⟩
    · simp only [e, if_false]
      rcases h.row i (by omega) with h0 | ⟨g, e1, hne, ho⟩
      · exact .inl h0
      · exact .inr ⟨g, e1, hne, ho.same hs (hoth.block g hne)⟩
  · by_cases e : i = k
    · subst e
      simp only [if_true, show ¬ j = i by omega, if_false]
      exact fun ee => hd h1 j (by omega) h2 ee.symm
    · by_cases e' : j = k
      · subst e'
        simp only [if_true, e, if_false]
        exact hd h2 i (by omega) h1
      · simp only [e, e', if_false]
        exact h.dis i j (by omega) (by omega) hij h1 h2
  · by_cases e : j = k
    · subst e; rw [hsame]; rfl
    · rw [hother j e]; exact h.there j hj
end

/-- Rows of metas, all of whose memory lies in blocks from lo on and below hi, and may be written. -/
def VA (w : World) (lo hi : Nat) (ao : Option Addr) (N : Nat) (R : Nat → Nat → Met) (M : Nat → Nat) : Prop :=
  hi ≤ w.heap.size ∧ (N = 0 ∨ ∃ b A C, ao = some ⟨b, 0, none⟩ ∧ lo ≤ b ∧ b < hi ∧ VO w b N N R M A C ∧ ∀ i, i < N → 0 < M i → ∀ g, A i = some ⟨g, 0, none⟩ → lo ≤ g ∧ g < hi)
section
variable {w w' : World} {lo hi lo' hi' N : Nat} {ao : Option Addr} {R : Nat → Nat → Met} {M : Nat → Nat}
theorem va_nil (w : World) (lo : Nat) (ao : Option Addr) (R : Nat → Nat → Met) (M : Nat → Nat) : VA w lo w.heap.size ao 0 R M := ⟨Nat.le_refl _, .inl rfl⟩
theorem VA.same (h : VA w lo hi ao N R M) (hs : w.heap.size ≤ w'.heap.size) (hb : ∀ c, lo ≤ c → c < hi → w'.heap[c]? = w.heap[c]?) : VA w' lo hi ao N R M := by
  refine ⟨Nat.le_trans h.1 hs, ?_⟩
  rcases h.2 with h0 | ⟨b, A, C, e, h1, h2, h3, h4⟩
  · exact .inl h0
  · exact .inr ⟨b, A, C, e, h1, h2, h3.same hs (hb b h1 h2) (fun i hi' h0 g eg => by have := h4 i hi' h0 g eg; exact hb g this.1 this.2), h4⟩
theorem VA.keep (h : VA w lo hi ao N R M) (hb : Below w.heap.size w w') : VA w' lo hi ao N R M :=
  h.same hb.size (fun c _ hc => hb.block c (Nat.lt_of_lt_of_le hc h.1))
theorem VA.mono (h : VA w lo hi ao N R M) (hb : lo' ≤ lo) (ht : hi ≤ hi') (ht2 : hi' ≤ w.heap.size) : VA w lo' hi' ao N R M := by
  refine ⟨ht2, ?_⟩
  rcases h.2 with h0 | ⟨b, A, C, e, h1, h2, h3, h4⟩
  · exact .inl h0
  · exact .inr ⟨b, A, C, e, by omega, by omega, h3, fun i hi h0 g eg => by have := h4 i hi h0 g eg; omega⟩
theorem VA.row (h : VA w lo hi ao N R M) (hbd : ∀ i, i < N → ∀ j, j < M i → MB (R i j)) (hlen : ∀ i, i < N → M i ≤ 9223372036854775807) : VRow w ao N R M := by
  refine ⟨hbd, hlen, ?_⟩
  rcases h.2 with h0 | ⟨b, A, C, e, h1, h2, h3, h4⟩
  · exact .inl h0
  · refine .inr ⟨b, 0, e, h3.lt, fun i hi => ⟨A i, C i, by rw [Nat.zero_add]; exact h3.cell i hi, ?_⟩⟩
    rcases h3.row i hi with h0 | ⟨g, eg, _, ho⟩
    · exact ⟨hbd i hi, .inl h0⟩
    · rw [eg]; exact ho.row (hbd i hi)
theorem VA.congr {R' : Nat → Nat → Met} {M' : Nat → Nat} (h : VA w lo hi ao N R M) (e : ∀ i, i < N → M i = M' i) (e2 : ∀ i, i < N → ∀ j, j < M i → R i j = R' i j) : VA w lo hi ao N R' M' := by
  refine ⟨h.1, ?_⟩
  rcases h.2 with h0 | ⟨b, A, C, e1, h1, h2, h3, h4⟩
  · exact .inl h0
  · refine .inr ⟨b, A, C, e1, h1, h2, ⟨h3.lt, fun i hi => by rw [← e i hi]; exact h3.cell i hi, fun i hi => ?_, fun i j hi hj => by rw [← e i hi, ← e j hj]; exact h3.dis i j hi hj, h3.there, h3.free⟩, fun i hi => by rw [← e i hi]; exact h4 i hi⟩
    rw [← e i hi]
    rcases h3.row i hi with h0 | ⟨g, eg, hne, ho⟩
    · exact .inl h0
    · exact .inr ⟨g, eg, hne, ho.congr (e2 i hi)⟩
end

/-- Rows that are marked from k0 on. -/
def mkR (M : Nat → Nat) (k0 : Nat) (i j : Nat) : Met := mkM ((k0 + 4 * sumM M i + 4 * j : Nat) : Int)

end Go.Proofs.Ytagkhohglpjjlaa
