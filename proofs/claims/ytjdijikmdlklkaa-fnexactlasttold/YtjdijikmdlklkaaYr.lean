/- A stable sort in numbers: what stands at which place. -/
import Derived.Test.YtjdijikmdlklkaaIn
namespace Go.Proofs.Ytjdijikmdlklkaa
open Go.RowKit
set_option linter.unusedSimpArgs false
set_option linter.unusedVariables false

/-- A strict order in which any two are told apart. -/
structure TOrd (R : Nat → Nat → Prop) : Prop where
  tr : ∀ i j k, R i j → R j k → R i k
  irr : ∀ i, ¬ R i i
  tot : ∀ i j, i ≠ j → R i j ∨ R j i
theorem TOrd.not {R : Nat → Nat → Prop} (h : TOrd R) {i j : Nat} (hn : ¬ R i j) (hne : i ≠ j) : R j i := (h.tot i j hne).resolve_left hn
theorem TOrd.asym {R : Nat → Nat → Prop} (h : TOrd R) {i j : Nat} (h1 : R i j) : ¬ R j i := fun h2 => h.irr _ (h.tr _ _ _ h1 h2)
/-- Only places a to b are written, and what stands there is the same. -/
structure SSet (x y : Nat → Nat) (a b : Nat) : Prop where
  out : ∀ k, ¬ (a ≤ k ∧ k < b) → y k = x k
  fwd : ∀ k, a ≤ k → k < b → ∃ i, a ≤ i ∧ i < b ∧ y i = x k
  bwd : ∀ k, a ≤ k → k < b → ∃ i, a ≤ i ∧ i < b ∧ x i = y k
theorem SSet.refl (x : Nat → Nat) (a b : Nat) : SSet x x a b := ⟨fun _ _ => rfl, fun k h1 h2 => ⟨k, h1, h2, rfl⟩, fun k h1 h2 => ⟨k, h1, h2, rfl⟩⟩
theorem SSet.trans {x y z : Nat → Nat} {a b : Nat} (h : SSet x y a b) (g : SSet y z a b) : SSet x z a b :=
  ⟨fun k hk => (g.out k hk).trans (h.out k hk), fun k h1 h2 => by
    obtain ⟨i, i1, i2, e⟩ := h.fwd k h1 h2
    obtain ⟨j, j1, j2, e2⟩ := g.fwd i i1 i2
    exact ⟨j, j1, j2, e2.trans e⟩, fun k h1 h2 => by
    obtain ⟨i, i1, i2, e⟩ := g.bwd k h1 h2
    obtain ⟨j, j1, j2, e2⟩ := h.bwd i i1 i2
    exact ⟨j, j1, j2, e2.trans e⟩⟩
theorem SSet.wide {x y : Nat → Nat} {a b a' b' : Nat} (h : SSet x y a b) (h1 : a' ≤ a) (h2 : b ≤ b') : SSet x y a' b' :=
  ⟨fun k hk => h.out k (by omega), fun k k1 k2 => by
    by_cases hc : a ≤ k ∧ k < b
    · obtain ⟨i, i1, i2, e⟩ := h.fwd k hc.1 hc.2
      exact ⟨i, by omega, by omega, e⟩
    · exact ⟨k, k1, k2, h.out k hc⟩, fun k k1 k2 => by
    by_cases hc : a ≤ k ∧ k < b
    · obtain ⟨i, i1, i2, e⟩ := h.bwd k hc.1 hc.2
      exact ⟨i, by omega, by omega, e⟩
    · exact ⟨k, k1, k2, (h.out k hc).symm⟩⟩
/-- In order from a to b. -/
def UpR (R : Nat → Nat → Prop) (x : Nat → Nat) (a b : Nat) : Prop := ∀ i j, a ≤ i → i < j → j < b → R (x i) (x j)
/-- What stands in front is less than what stands behind. -/
def Apt (x : Nat → Nat) (a m b : Nat) : Prop := ∀ i j, a ≤ i → i < m → m ≤ j → j < b → x i < x j
/-- Two places exchanged. -/
def sw1 (x : Nat → Nat) (p q k : Nat) : Nat := if k = p then x q else if k = q then x p else x k
/-- n places from a on and from b on exchanged. -/
def swR (x : Nat → Nat) (a b n k : Nat) : Nat := if a ≤ k ∧ k < a + n then x (b + (k - a)) else if b ≤ k ∧ k < b + n then x (a + (k - b)) else x k
/-- a to m and m to b exchanged. -/
def rot (x : Nat → Nat) (a m b k : Nat) : Nat := if a ≤ k ∧ k < a + (b - m) then x (m + (k - a)) else if a + (b - m) ≤ k ∧ k < b then x (a + (k - (a + (b - m)))) else x k
theorem swR_zero (x : Nat → Nat) (a b : Nat) : swR x a b 0 = x := by
  funext k
  unfold swR
  rw [if_neg (by omega), if_neg (by omega)]
theorem swR_succ (x : Nat → Nat) {a b i : Nat} (h : a + i < b) : sw1 (swR x a b i) (a + i) (b + i) = swR x a b (i + 1) := by
  funext k
  unfold sw1 swR
  by_cases h1 : k = a + i
  · subst h1
    rw [if_pos rfl, if_neg (by omega), if_neg (by omega), if_pos (by omega)]
    congr 1; omega
  · by_cases h2 : k = b + i
    · subst h2
      rw [if_neg h1, if_pos rfl, if_neg (by omega), if_neg (by omega), if_neg (by omega), if_pos (by omega)]
      congr 1; omega
    · rw [if_neg h1, if_neg h2]
      by_cases h3 : a ≤ k ∧ k < a + i
      · rw [if_pos h3, if_pos (by omega)]
      · rw [if_neg h3]
        by_cases h4 : b ≤ k ∧ k < b + i
        · rw [if_pos h4, if_neg (show ¬ (a ≤ k ∧ k < a + (i + 1)) by omega), if_pos (by omega)]
        · rw [if_neg h4, if_neg (show ¬ (a ≤ k ∧ k < a + (i + 1)) by omega), if_neg (by omega)]
theorem rot_eq (x : Nat → Nat) (m i : Nat) (h : i ≤ m) : swR x (m - i) m i = rot x (m - i) m (m + i) := by
  funext k
  unfold swR rot
  by_cases h1 : m - i ≤ k ∧ k < m - i + i
  · rw [if_pos h1, if_pos (by omega)]
  · rw [if_neg h1]
    by_cases h2 : m ≤ k ∧ k < m + i
    · rw [if_pos h2, if_neg (show ¬ (m - i ≤ k ∧ k < m - i + (m + i - m)) by omega), if_pos (by omega)]
      congr 1; omega
    · rw [if_neg h2, if_neg (show ¬ (m - i ≤ k ∧ k < m - i + (m + i - m)) by omega), if_neg (by omega)]
theorem rot_gt (x : Nat → Nat) {m i j : Nat} (h : i ≤ m) (hj : j < i) : rot (swR x (m - i) m j) (m - (i - j)) m (m + j) = rot x (m - i) m (m + j) := by
  funext k
  unfold rot
  by_cases h1 : m - (i - j) ≤ k ∧ k < m - (i - j) + (m + j - m)
  · rw [if_pos h1]
    by_cases h2 : m - i ≤ k ∧ k < m - i + (m + j - m)
    · omega
    · rw [if_neg h2, if_pos (by omega)]
      unfold swR
      rw [if_neg (by omega), if_pos (by omega)]
      congr 1; omega
  · rw [if_neg h1]
    by_cases h2 : m - (i - j) + (m + j - m) ≤ k ∧ k < m + j
    · rw [if_pos h2, if_neg (by omega), if_pos (by omega)]
      unfold swR
      rw [if_neg (by omega), if_neg (by omega)]
      congr 1; omega
    · rw [if_neg h2]
      by_cases h3 : m - i ≤ k ∧ k < m - i + (m + j - m)
      · rw [if_pos h3]
        unfold swR
        rw [if_pos (by omega)]
      · rw [if_neg h3, if_neg (by omega)]
        unfold swR
        rw [if_neg (by omega), if_neg (by omega)]
theorem rot_lt (x : Nat → Nat) {m i j : Nat} (h : i ≤ m) (hj : i < j) : rot (swR x (m - i) (m + j - i) i) (m - i) m (m + (j - i)) = rot x (m - i) m (m + j) := by
  funext k
  unfold rot
  by_cases h1 : m - i ≤ k ∧ k < m - i + (m + (j - i) - m)
  · rw [if_pos h1, if_pos (by omega)]
    unfold swR
    by_cases h2 : m + (k - (m - i)) < m + j - i
    · rw [if_neg (by omega), if_neg (by omega)]
    · omega
  · rw [if_neg h1]
    by_cases h2 : m - i + (m + (j - i) - m) ≤ k ∧ k < m + (j - i)
    · rw [if_pos h2, if_pos (by omega)]
      unfold swR
      rw [if_pos (by omega)]
      congr 1; omega
    · rw [if_neg h2]
      by_cases h3 : m - i ≤ k ∧ k < m - i + (m + j - m)
      · omega
      · rw [if_neg h3]
        by_cases h4 : m - i + (m + j - m) ≤ k ∧ k < m + j
        · rw [if_pos h4]
          unfold swR
          rw [if_neg (by omega), if_pos (by omega)]
          congr 1; omega
        · rw [if_neg h4]
          unfold swR
          rw [if_neg (by omega), if_neg (by omega)]
theorem rot_set (x : Nat → Nat) {a m b : Nat} (h1 : a ≤ m) (h2 : m ≤ b) : SSet x (rot x a m b) a b := by
  refine ⟨fun k hk => ?_, fun k k1 k2 => ?_, fun k k1 k2 => ?_⟩
  · unfold rot
    rw [if_neg (by omega), if_neg (by omega)]
  · by_cases h : k < m
    · refine ⟨k + (b - m), by omega, by omega, ?_⟩
      unfold rot
      rw [if_neg (by omega), if_pos (by omega)]
      congr 1; omega
    · refine ⟨k - m + a, by omega, by omega, ?_⟩
      unfold rot
      rw [if_pos (by omega)]
      congr 1; omega
  · unfold rot
    by_cases h : k < a + (b - m)
    · rw [if_pos (by omega)]
      exact ⟨m + (k - a), by omega, by omega, rfl⟩
    · rw [if_neg (by omega), if_pos (by omega)]
      exact ⟨a + (k - (a + (b - m))), by omega, by omega, rfl⟩
/-- The two parts of a rotation. -/
theorem rot_front (x : Nat → Nat) {a m b k : Nat} (h : a ≤ k ∧ k < a + (b - m)) : rot x a m b k = x (m + (k - a)) := by unfold rot; rw [if_pos h]
theorem rot_back (x : Nat → Nat) {a m b k : Nat} (h : a + (b - m) ≤ k ∧ k < b) : rot x a m b k = x (a + (k - (a + (b - m)))) := by unfold rot; rw [if_neg (by omega), if_pos h]
theorem rot_out (x : Nat → Nat) {a m b k : Nat} (h1 : a ≤ m) (h2 : m ≤ b) (h : ¬ (a ≤ k ∧ k < b)) : rot x a m b k = x k := (rot_set x h1 h2).out k h
theorem rot_none (x : Nat → Nat) (a b : Nat) (h : a ≤ b) : rot x a b b = x := by
  funext k
  unfold rot
  rw [if_neg (by omega)]
  by_cases h2 : a + (b - b) ≤ k ∧ k < b
  · rw [if_pos h2]; congr 1; omega
  · rw [if_neg h2]
theorem rot_none2 (x : Nat → Nat) (a b : Nat) : rot x a a b = x := by
  funext k
  unfold rot
  by_cases h1 : a ≤ k ∧ k < a + (b - a)
  · rw [if_pos h1]; congr 1; omega
  · rw [if_neg h1, if_neg (by omega)]
/-- The first of a to b on its way back. -/
theorem rot_first (x : Nat → Nat) {a k : Nat} (h : a ≤ k) : sw1 (rot x a (a + 1) (k + 1)) k (k + 1) = rot x a (a + 1) (k + 2) := by
  funext q
  unfold sw1
  by_cases h1 : q = k
  · subst h1
    rw [if_pos rfl, rot_out x (by omega) (by omega) (by omega), rot_front x (by omega)]
    congr 1; omega
  · rw [if_neg h1]
    by_cases h2 : q = k + 1
    · subst h2
      rw [if_pos rfl, rot_back x (by omega), rot_back x (by omega)]
      congr 1; omega
    · rw [if_neg h2]
      by_cases h3 : a ≤ q ∧ q < k
      · rw [rot_front x (by omega), rot_front x (by omega)]
      · rw [rot_out x (by omega) (by omega) (by omega), rot_out x (by omega) (by omega) (by omega)]
/-- The last of a to m on its way to the front. -/
theorem rot_last (x : Nat → Nat) {k m : Nat} (h1 : 1 ≤ k) (h : k ≤ m) : sw1 (rot x k m (m + 1)) k (k - 1) = rot x (k - 1) m (m + 1) := by
  funext q
  unfold sw1
  by_cases h2 : q = k
  · subst h2
    rw [if_pos rfl, rot_out x (by omega) (by omega) (by omega), rot_back x (by omega)]
    congr 1; omega
  · rw [if_neg h2]
    by_cases h3 : q = k - 1
    · subst h3
      rw [if_pos rfl, rot_front x (by omega), rot_front x (by omega)]
      congr 1; omega
    · rw [if_neg h3]
      by_cases h4 : k < q ∧ q < m + 1
      · rw [rot_back x (by omega), rot_back x (by omega)]
        congr 1; omega
      · rw [rot_out x (by omega) (by omega) (by omega), rot_out x (by omega) (by omega) (by omega)]
section
variable {R : Nat → Nat → Prop} {x : Nat → Nat} {a m b : Nat}
/-- One in front put in its place. -/
theorem up_first (hR : TOrd R) {i : Nat} (h1 : a + 1 ≤ i) (h2 : i ≤ b) (hU : UpR R x (a + 1) b) (hl : ∀ h, a + 1 ≤ h → h < i → R (x h) (x a)) (hg : ∀ h, i ≤ h → h < b → R (x a) (x h)) : UpR R (rot x a (a + 1) i) a b := by
  intro p q hp hpq hq
  have val : ∀ k, a ≤ k → k < b → (k + 1 < i ∧ rot x a (a + 1) i k = x (k + 1)) ∨ (k + 1 = i ∧ rot x a (a + 1) i k = x a) ∨ (i ≤ k ∧ rot x a (a + 1) i k = x k) := fun k k1 k2 => by
    by_cases c1 : k + 1 < i
    · refine .inl ⟨c1, ?_⟩
      rw [rot_front x (by omega)]
      congr 1; omega
    · by_cases c2 : k + 1 = i
      · refine .inr (.inl ⟨c2, ?_⟩)
        rw [rot_back x (by omega)]
        congr 1; omega
      · exact .inr (.inr ⟨by omega, rot_out x (by omega) (by omega) (by omega)⟩)
  rcases val p hp (by omega) with ⟨c, e⟩ | ⟨c, e⟩ | ⟨c, e⟩ <;> rcases val q (by omega) hq with ⟨d, e2⟩ | ⟨d, e2⟩ | ⟨d, e2⟩ <;> rw [e, e2]
  · exact hU _ _ (by omega) (by omega) (by omega)
  · exact hl _ (by omega) (by omega)
  · exact hU _ _ (by omega) (by omega) (by omega)
  · omega
  · omega
  · exact hg _ (by omega) (by omega)
  · omega
  · omega
  · exact hU _ _ (by omega) (by omega) (by omega)
/-- One behind put in its place. -/
theorem up_last (hR : TOrd R) {i : Nat} (h1 : a ≤ i) (h2 : i ≤ m) (hU : UpR R x a m) (hl : ∀ h, a ≤ h → h < i → R (x h) (x m)) (hg : ∀ h, i ≤ h → h < m → R (x m) (x h)) : UpR R (rot x i m (m + 1)) a (m + 1) := by
  intro p q hp hpq hq
  have val : ∀ k, a ≤ k → k < m + 1 → (k < i ∧ rot x i m (m + 1) k = x k) ∨ (k = i ∧ rot x i m (m + 1) k = x m) ∨ (i < k ∧ rot x i m (m + 1) k = x (k - 1)) := fun k k1 k2 => by
    by_cases c1 : k < i
    · exact .inl ⟨c1, rot_out x (by omega) (by omega) (by omega)⟩
    · by_cases c2 : k = i
      · refine .inr (.inl ⟨c2, ?_⟩)
        rw [rot_front x (by omega)]
        congr 1; omega
      · refine .inr (.inr ⟨by omega, ?_⟩)
        rw [rot_back x (by omega)]
        congr 1; omega
  rcases val p hp (by omega) with ⟨c, e⟩ | ⟨c, e⟩ | ⟨c, e⟩ <;> rcases val q (by omega) hq with ⟨d, e2⟩ | ⟨d, e2⟩ | ⟨d, e2⟩ <;> rw [e, e2]
  · exact hU _ _ (by omega) (by omega) (by omega)
  · exact hl _ (by omega) (by omega)
  · exact hU _ _ (by omega) (by omega) (by omega)
  · omega
  · omega
  · exact hg _ (by omega) (by omega)
  · omega
  · omega
  · exact hU _ _ (by omega) (by omega) (by omega)
/-- What the search for the cut of a merge has found. -/
structure Cut (R : Nat → Nat → Prop) (x : Nat → Nat) (a m b s e mid : Nat) : Prop where
  sum : s + e = mid + m
  aS : a ≤ s
  sm : s ≤ m
  me : m ≤ e
  eb : e ≤ b
  amid : a < mid
  midb : mid < b
  lo : a < s → e < b → R (x (s - 1)) (x e)
  hi : m < e → s < m → R (x (e - 1)) (x s)
theorem Cut.parts {s e mid : Nat} (hc : Cut R x a m b s e mid) (hR : TOrd R) (hL : UpR R x a m) (hM : UpR R x m b) (hA : Apt x a m b) :
    UpR R (rot x s m e) a s ∧ UpR R (rot x s m e) s mid ∧ Apt (rot x s m e) a s mid ∧ UpR R (rot x s m e) mid e ∧ UpR R (rot x s m e) e b ∧ Apt (rot x s m e) mid e b ∧
    ∀ i j, a ≤ i → i < mid → mid ≤ j → j < b → R (rot x s m e i) (rot x s m e j) := by
  obtain ⟨h1, h2, h3, h4, h5, h6, h7, h8, h9⟩ := hc
  have v1 : ∀ k, a ≤ k → k < s → rot x s m e k = x k := fun k k1 k2 => rot_out x h3 h4 (by omega)
  have v2 : ∀ k, s ≤ k → k < mid → rot x s m e k = x (m + (k - s)) := fun k k1 k2 => rot_front x (by omega)
  have v3 : ∀ k, mid ≤ k → k < e → rot x s m e k = x (s + (k - mid)) := fun k k1 k2 => by
    rw [rot_back x (by omega)]
    congr 1; omega
  have v4 : ∀ k, e ≤ k → k < b → rot x s m e k = x k := fun k k1 k2 => rot_out x h3 h4 (by omega)
  have le : ∀ {p q r : Nat}, (R (x p) (x q) ∨ p = q) → R (x q) (x r) → R (x p) (x r) := by
    intro p q r h g
    rcases h with h | h
    · exact hR.tr _ _ _ h g
    · rw [h]; exact g
  have L : ∀ i j, a ≤ i → i ≤ j → j < m → R (x i) (x j) ∨ i = j := fun i j k1 k2 k3 => by
    by_cases e : i = j
    · exact .inr e
    · exact .inl (hL i j k1 (by omega) k3)
  have M : ∀ i j, m ≤ i → i ≤ j → j < b → R (x i) (x j) ∨ i = j := fun i j k1 k2 k3 => by
    by_cases e : i = j
    · exact .inr e
    · exact .inl (hM i j k1 (by omega) k3)
  have le2 : ∀ {p q r : Nat}, R (x p) (x q) → (R (x q) (x r) ∨ q = r) → R (x p) (x r) := by
    intro p q r g h
    rcases h with h | h
    · exact hR.tr _ _ _ g h
    · rw [← h]; exact g
  refine ⟨fun i j i1 i2 i3 => ?_, fun i j i1 i2 i3 => ?_, fun i j i1 i2 i3 i4 => ?_, fun i j i1 i2 i3 => ?_, fun i j i1 i2 i3 => ?_, fun i j i1 i2 i3 i4 => ?_, fun i j i1 i2 i3 i4 => ?_⟩
  · rw [v1 i i1 (by omega), v1 j (by omega) i3]; exact hL i j i1 i2 (by omega)
  · rw [v2 i i1 (by omega), v2 j (by omega) i3]; exact hM _ _ (by omega) (by omega) (by omega)
  · rw [v1 i i1 i2, v2 j i3 i4]; exact hA _ _ i1 (by omega) (by omega) (by omega)
  · rw [v3 i i1 (by omega), v3 j (by omega) i3]; exact hL _ _ (by omega) (by omega) (by omega)
  · rw [v4 i i1 (by omega), v4 j (by omega) i3]; exact hM _ _ (by omega) (by omega) (by omega)
  · rw [v3 i i1 i2, v4 j i3 i4]; exact hA _ _ (by omega) (by omega) (by omega) (by omega)
  · by_cases c1 : i < s
    · rw [v1 i i1 c1]
      by_cases c2 : j < e
      · rw [v3 j i3 c2]; exact hL _ _ i1 (by omega) (by omega)
      · rw [v4 j (by omega) i4]
        exact le2 (le (L i (s - 1) i1 (by omega) (by omega)) (h8 (by omega) (by omega))) (M e j (by omega) (by omega) i4)
    · rw [v2 i (by omega) i2]
      by_cases c2 : j < e
      · rw [v3 j i3 c2]
        exact le2 (le (M (m + (i - s)) (e - 1) (by omega) (by omega) (by omega)) (h9 (by omega) (by omega))) (L s _ (by omega) (by omega) (by omega))
      · rw [v4 j (by omega) i4]; exact hM _ _ (by omega) (by omega) (by omega)
/-- Both halves in order, all in order. -/
theorem up_join {y z : Nat → Nat} {mid : Nat} (h1 : a ≤ mid) (h2 : mid ≤ b) (hx : ∀ i j, a ≤ i → i < mid → mid ≤ j → j < b → R (x i) (x j)) (s1 : SSet x y a mid) (u1 : UpR R y a mid) (s2 : SSet y z mid b) (u2 : UpR R z mid b) : UpR R z a b ∧ SSet x z a b := by
  refine ⟨fun i j i1 i2 i3 => ?_, (s1.wide (Nat.le_refl _) h2).trans (s2.wide h1 (Nat.le_refl _))⟩
  by_cases c1 : j < mid
  · rw [s2.out i (by omega), s2.out j (by omega)]; exact u1 i j i1 i2 c1
  · by_cases c2 : i < mid
    · rw [s2.out i (by omega)]
      obtain ⟨p, p1, p2, e⟩ := s1.bwd i i1 c2
      obtain ⟨q, q1, q2, e2⟩ := s2.bwd j (by omega) i3
      rw [← e, ← e2, s1.out q (by omega)]
      exact hx p q p1 p2 q1 q2
    · exact u2 i j (by omega) i2 i3
end
end Go.Proofs.Ytjdijikmdlklkaa
