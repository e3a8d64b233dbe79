/- Rows of entries: measured, copied, compared, marked. -/
import Derived.Test.YtmeckcaekkangaaGreatLw
import Derived.Laws.IdiomCopy
import Derived.Deep.RegionHeld3
namespace Go.Proofs.YtmeckcaekkangaaGreat
set_option maxRecDepth 100000
open Go.RowKit
set_option linter.unusedSimpArgs false
set_option linter.unusedVariables false

theorem Tryz.infoES : (Tryz.prog.info? 26).map (fun i => (i.zero, i.size, i.bytes)) = some (some (.slice none 0 0), 1, 24) := by kernel_rfl

/-- N rows of entries lie at ao: the i-th has M i entries R i. -/
structure RRow (w : World) (ao : Option Addr) (N : Nat) (R : Nat → Nat → Ent) (M : Nat → Nat) : Prop where
  bd : ∀ i, i < N → ∀ j, j < M i → EB (R i j)
  len : ∀ i, i < N → M i ≤ 9223372036854775807
  lies : N = 0 ∨ ∃ b off, ao = some ⟨b, off, none⟩ ∧ b < w.heap.size ∧ ∀ i, i < N → ∃ da dc, w.cell? ⟨b, off + i, none⟩ = some (.slice da (M i) dc) ∧ ERow w da (M i) (R i)
theorem RRow.keep {w w' : World} {ao : Option Addr} {N : Nat} {R : Nat → Nat → Ent} {M : Nat → Nat} (h : RRow w ao N R M) (hb : Below w.heap.size w w') : RRow w' ao N R M :=
  ⟨h.bd, h.len, h.lies.elim .inl fun ⟨b, off, e, hlt, hc⟩ => .inr ⟨b, off, e, Nat.lt_of_lt_of_le hlt hb.size, fun i hi => by obtain ⟨da, dc, h1, h2⟩ := hc i hi; exact ⟨da, dc, (hb.cell (p := ⟨b, off + i, none⟩) hlt).trans h1, h2.keep hb⟩⟩⟩
/-- All together. -/
def totR (R : Nat → Nat → Ent) (M : Nat → Nat) : Nat → Nat
  | 0 => 0
  | k + 1 => totR R M k + (M k + tot (R k) (M k))
theorem totR_le {R : Nat → Nat → Ent} {M : Nat → Nat} : ∀ {N i : Nat}, i < N → M i + tot (R i) (M i) ≤ totR R M N
  | N + 1, i, h => by
    unfold totR
    rcases Nat.lt_succ_iff_lt_or_eq.1 h with h | rfl
    · have := totR_le (R := R) (M := M) h; omega
    · omega

/-- The first k of N rows copied, each behind the one before. -/
structure RO (w : World) (b N k : Nat) (R : Nat → Nat → Ent) (M A H : Nat → Nat) : Prop where
  lt : b < w.heap.size
  cell : ∀ i, i < k → w.cell? ⟨b, i, none⟩ = some (.slice (some ⟨A i, 0, none⟩) (M i) (M i))
  la : ∀ i, i < k → LA w (A i) (H i) (M i) (R i)
  ord : ∀ i, i < k → b < A i
  mono : ∀ i j, i < j → j < k → H i ≤ A j
  there : ∀ j, j < N → (w.cell? ⟨b, j, none⟩).isSome = true
  free : ∀ j, j < N → w.frozen? ⟨b, j, none⟩ = false
theorem LA.same {w w' : World} {lo hi n : Nat} {X : Nat → Ent} (h : LA w lo hi n X) (hs : w.heap.size ≤ w'.heap.size) (hb : ∀ c, lo ≤ c → c < hi → w'.heap[c]? = w.heap[c]?) : LA w' lo hi n X := by
  obtain ⟨G, h, h1, h2, h3⟩ := h
  have c := fun b off (h : lo ≤ b ∧ b < hi) => World.cell?_of_block (w := w) (a := ⟨b, off, none⟩) (hb b h.1 h.2)
  have f := fun b off (h : lo ≤ b ∧ b < hi) => World.frozen?_of_block (w := w) (a := ⟨b, off, none⟩) (hb b h.1 h.2)
  have hl : lo ≤ lo ∧ lo < hi := ⟨Nat.le_refl _, h1⟩
  refine ⟨G, ⟨Nat.lt_of_lt_of_le h.lt hs, fun i hi => (h.ent i hi).move (Nat.lt_of_lt_of_le h.lt hs) (fun j => c lo j hl), fun i hi' => ?_, h.mono, fun j hj => by rw [c lo j hl]; exact h.there j hj, fun j hj => (f lo j hl).trans (h.free j hj)⟩, h1, Nat.le_trans h2 hs, h3⟩
  obtain ⟨g1, g2⟩ := h.data i hi'
  have g3 := h3 i hi'
  exact ⟨g1, g2.bd, Nat.lt_of_lt_of_le g2.lt hs, fun j hj => (c (G i) _ ⟨by omega, g3⟩).trans (g2.cell j hj), fun j hj => (f (G i) _ ⟨by omega, g3⟩).trans (g2.free j hj)⟩
theorem RO.keep {w w' : World} {b N k : Nat} {R : Nat → Nat → Ent} {M A H : Nat → Nat} (h : RO w b N k R M A H) (hb : Below w.heap.size w w') : RO w' b N k R M A H :=
  ⟨Nat.lt_of_lt_of_le h.lt hb.size, fun i hi => (hb.cell (p := ⟨b, i, none⟩) h.lt).trans (h.cell i hi), fun i hi => (h.la i hi).keep hb, h.ord, h.mono, fun j hj => by rw [hb.cell (p := ⟨b, j, none⟩) h.lt]; exact h.there j hj, fun j hj => (hb.frozen (p := ⟨b, j, none⟩) h.lt).trans (h.free j hj)⟩
theorem RO.store {w : World} {b N k a h' : Nat} {R : Nat → Nat → Ent} {M A H : Nat → Nat} (h : RO w b N k R M A H) (hk : k < N) (hl : LA w a h' (M k) (R k)) (ha : b < a) (hm : ∀ i, i < k → H i ≤ a) :
    RO (w.setCell ⟨b, k, none⟩ (.slice (some ⟨a, 0, none⟩) (M k) (M k))) b N (k + 1) R M (fun i => if i = k then a else A i) (fun i => if i = k then h' else H i) := by
  have hoth : Others b w (w.setCell ⟨b, k, none⟩ (.slice (some ⟨a, 0, none⟩) (M k) (M k))) := Others.setCell _ _ _ _
  have hs : w.heap.size ≤ (w.setCell ⟨b, k, none⟩ (.slice (some ⟨a, 0, none⟩) (M k) (M k))).heap.size := by rw [hoth.size]; exact Nat.le_refl _
  obtain ⟨v0, hv0⟩ := Option.isSome_iff_exists.1 (h.there k hk)
  have hsame : (w.setCell ⟨b, k, none⟩ (.slice (some ⟨a, 0, none⟩) (M k) (M k))).cell? ⟨b, k, none⟩ = some (.slice (some ⟨a, 0, none⟩) (M k) (M k)) := World.cell?_setCell_same _ _ _ hv0
  have hother : ∀ j, j ≠ k → (w.setCell ⟨b, k, none⟩ (.slice (some ⟨a, 0, none⟩) (M k) (M k))).cell? ⟨b, j, none⟩ = w.cell? ⟨b, j, none⟩ := fun j hj => World.cell?_setCell_other _ _ _ _ (by intro hh; injection hh with _ h2 _; omega)
  refine ⟨by rw [hoth.size]; exact h.lt, fun i hi => ?_, fun i hi => ?_, fun i hi => ?_, fun i j hij hj => ?_, fun j hj => ?_, fun j hj => by simpa using h.free j hj⟩
  · by_cases e : i = k
    · subst e; simp only [if_true]; exact hsame
    · simp only [e, if_false]; rw [hother i e]; exact h.cell i (by omega)
  · by_cases e : i = k
    · subst e; simp only [if_true]; exact hl.same hs (fun c hc _ => hoth.block c (by omega))
    · simp only [e, if_false]; exact (h.la i (by omega)).same hs (fun c hc _ => hoth.block c (by have := h.ord i (by omega); omega))
  · by_cases e : i = k
    · subst e; simpa using ha
    · simp only [e, if_false]; exact h.ord i (by omega)
  · by_cases e : j = k
    · subst e
      simp only [if_true, show ¬ i = j by omega, if_false]
      exact hm i hij
    · simp only [e, show ¬ i = k by omega, if_false]
      exact h.mono i j hij (by omega)
  · by_cases e : j = k
    · subst e; rw [hsame]; rfl
    · rw [hother j e]; exact h.there j hj
/-- A copy of rows, all in blocks from lo on and below hi. -/
def RA (w : World) (lo hi N : Nat) (R : Nat → Nat → Ent) (M : Nat → Nat) : Prop := ∃ A H, RO w lo N N R M A H ∧ lo < hi ∧ hi ≤ w.heap.size ∧ ∀ i, i < N → H i ≤ hi
section
variable {w w' : World} {lo hi N : Nat} {R : Nat → Nat → Ent} {M : Nat → Nat}
theorem RA.keep (h : RA w lo hi N R M) (hb : Below w.heap.size w w') : RA w' lo hi N R M := by obtain ⟨A, H, h, h1, h2, h3⟩ := h; exact ⟨A, H, h.keep hb, h1, Nat.le_trans h2 hb.size, h3⟩
theorem RA.lt (h : RA w lo hi N R M) : lo < hi ∧ hi ≤ w.heap.size := by obtain ⟨A, H, _, h1, h2, _⟩ := h; exact ⟨h1, h2⟩
theorem RA.row (h : RA w lo hi N R M) (hbd : ∀ i, i < N → ∀ j, j < M i → EB (R i j)) (hlen : ∀ i, i < N → M i ≤ 9223372036854775807) : RRow w (some ⟨lo, 0, none⟩) N R M := by
  obtain ⟨A, H, h, h1, h2, h3⟩ := h
  exact ⟨hbd, hlen, .inr ⟨lo, 0, rfl, h.lt, fun i hi => ⟨_, _, by rw [Nat.zero_add]; exact h.cell i hi, (h.la i hi).row (hbd i hi)⟩⟩⟩
end

/-- The mark behind k rows. -/
def kOfR (R : Nat → Nat → Ent) (M : Nat → Nat) (k0 : Nat) : Nat → Nat
  | 0 => k0
  | i + 1 => kOf (R i) (kOfR R M k0 i) (M i)
theorem kOf_le (X : Nat → Ent) (k0 : Nat) : ∀ n, k0 ≤ kOf X k0 n ∧ kOf X k0 n ≤ k0 + 8 * n + tot X n
  | 0 => by simp [kOf, tot]
  | n + 1 => by
    have := kOf_le X k0 n
    unfold kOf tot
    omega
theorem kOfR_le (R : Nat → Nat → Ent) (M : Nat → Nat) (k0 : Nat) : ∀ N, k0 ≤ kOfR R M k0 N ∧ kOfR R M k0 N ≤ k0 + 8 * totR R M N
  | 0 => by simp [kOfR, totR]
  | N + 1 => by
    have h1 := kOfR_le R M k0 N
    have h2 := kOf_le (R N) (kOfR R M k0 N) (M N)
    unfold kOfR totR
    omega
theorem kOfR_tot (R : Nat → Nat → Ent) (M : Nat → Nat) (N : Nat) : kOfR R M 1 N ≤ 1 + 8 * totR R M N := (kOfR_le R M 1 N).2
theorem totR_mono {R : Nat → Nat → Ent} {M : Nat → Nat} : ∀ {N i : Nat}, i ≤ N → totR R M i ≤ totR R M N
  | 0, i, h => by obtain rfl : i = 0 := by omega
                  exact Nat.le_refl _
  | N + 1, i, h => by
    rcases Nat.lt_or_ge i (N + 1) with h1 | h1
    · have := totR_mono (R := R) (M := M) (show i ≤ N by omega)
      exact Nat.le_trans this (Nat.le_add_right _ _)
    · obtain rfl : i = N + 1 := by omega
      exact Nat.le_refl _

end Go.Proofs.YtmeckcaekkangaaGreat
