/- Entries into which one was put are good, one more, and it is among them. / Where a tower's path ends, and how long it is. -/
import Derived.Test.YtiigpmhaicfocaaDg
import Derived.Test.YtiigpmhaicfocaaNx
namespace Go.Proofs.Ytiigpmhaicfocaa
set_option linter.unusedSimpArgs false
set_option linter.unusedVariables false

theorem less_tri : ∀ a b : List UInt8, (Op.bytesLess a b = true → Op.bytesLess b a = false ∧ (a == b) = false) ∧ (Op.bytesLess a b = false → (a == b) = false → Op.bytesLess b a = true)
  | [], [] => by simp [Op.bytesLess]
  | [], _ :: _ => by simp [Op.bytesLess]
  | _ :: _, [] => by simp [Op.bytesLess]
  | x :: a, y :: b => by
    obtain ⟨i1, i2⟩ := less_tri a b
    simp only [Op.bytesLess, Bool.or_eq_true, Bool.and_eq_true, decide_eq_true_eq, beq_iff_eq, Bool.or_eq_false_iff, Bool.and_eq_false_iff, decide_eq_false_iff_not, beq_eq_false_iff_ne, List.cons_beq_cons]
    refine ⟨fun h => ?_, fun h h2 => ?_⟩
    · rcases h with h | ⟨rfl, h⟩
      · have h' : ¬ y < x := by rw [UInt8.lt_iff_toNat_lt] at h ⊢; omega
        have hne : x ≠ y := by rintro rfl; rw [UInt8.lt_iff_toNat_lt] at h; omega
        exact ⟨⟨h', .inl hne.symm⟩, .inl hne⟩
      · have h' : ¬ x < x := by rw [UInt8.lt_iff_toNat_lt]; omega
        exact ⟨⟨h', .inr (i1 h).1⟩, .inr (beq_eq_false_iff_ne.1 (i1 h).2)⟩
    · by_cases e : x = y
      · subst e
        refine .inr ⟨rfl, i2 (h.2.resolve_left (fun h => h rfl)) (beq_eq_false_iff_ne.2 (h2.resolve_left (fun h => h rfl)))⟩
      · refine .inl ?_
        have h3 := h.1
        rw [UInt8.lt_iff_toNat_lt] at h3 ⊢
        have : x.toNat ≠ y.toNat := fun h4 => e (UInt8.toNat_inj.1 h4)
        omega

theorem pcF_facts (X : Nat → Ent) (n : Nat) (e : Ent) : ∀ (f q : Nat), q + f = n → (∀ i, q ≤ i → i < pcF X n e f q → cE (X i) e < 0) ∧ (pcF X n e f q < n → ¬ cE (X (pcF X n e f q)) e < 0)
  | 0, q, h => ⟨fun i h1 h2 => by simp only [pcF] at h2; omega, fun h1 => by simp only [pcF] at h1; omega⟩
  | f + 1, q, h => by
    by_cases hc : q < n ∧ cE (X q) e < 0
    · have h3 := pcF_facts X n e f (q + 1) (by omega)
      simp only [pcF, hc, and_self, if_true]
      refine ⟨fun i h1 h2 => ?_, h3.2⟩
      rcases Nat.eq_or_lt_of_le h1 with h4 | h4
      · subst h4; exact hc.2
      · exact h3.1 i h4 h2
    · simp only [pcF, hc, if_false]
      exact ⟨fun i h1 h2 => by omega, fun h1 h2 => hc ⟨h1, h2⟩⟩
theorem bef_tri {x y : Ent} (h : ¬ Bef x y) (hs : x.seq ≠ y.seq) : Bef y x := by
  unfold Bef at h ⊢
  by_cases e : x.key.toList = y.key.toList
  · refine .inr ⟨e.symm, ?_⟩
    have : ¬ y.seq < x.seq := fun h1 => h (.inr ⟨e, h1⟩)
    omega
  · refine .inl ((less_tri _ _).2 ?_ (beq_eq_false_iff_ne.2 e))
    cases hb : Op.bytesLess x.key.toList y.key.toList
    · rfl
    · exact absurd (.inl hb) h
theorem pX_at {X : Nat → Ent} {x : Ent} {P : Nat} : pX X x P P = x := by simp [pX]
theorem good_put {X : Nat → Ent} {n : Nat} {x : Ent} (h : GoodP X n x) : GoodL (eL (pE X n x (pc X n x 0))) (n + 1) := by
  obtain ⟨hn, ⟨hg, hr, h2⟩, hx, hs⟩ := h
  have hP := (pc_le (X := X) (n := n) (e := x) (q := 0) (Nat.zero_le _)).2
  obtain ⟨f1, f2⟩ := pcF_facts X n x n 0 (by omega)
  have e0 : pc X n x 0 = pcF X n x n 0 := rfl
  rw [← e0] at f1 f2
  generalize pc X n x 0 = P at hP f1 f2 ⊢
  have ns : ∀ i, i < n → (X i).seq ≠ x.seq := fun i hi e => hs ⟨i, hi, e⟩
  refine ⟨fun i hi => ?_, fun i hi => ?_, fun i j hij hj => ?_⟩
  · rw [pE_at X n x P hi]
    exact pX_all hg hx hP i hi
  · rw [pE_at X n x P (by omega), pE_at X n x P hi]
    unfold pX
    by_cases c1 : i + 1 < P
    · rw [if_pos (by omega), if_pos c1]; exact hr i (by omega)
    · by_cases c2 : i + 1 = P
      · rw [if_pos (by omega), if_neg c1, if_pos c2]
        exact (cE_lt _ _).1 (f1 i (by omega) (by omega))
      · by_cases c3 : i = P
        · rw [if_neg (by omega), if_pos c3, if_neg c1, if_neg c2]
          subst c3
          rw [Nat.add_sub_cancel]
          exact bef_tri (fun h => f2 (by omega) ((cE_lt _ _).2 h)) (ns i (by omega))
        · rw [if_neg (by omega), if_neg c3, if_neg c1, if_neg c2]
          have := hr (i - 1) (by omega)
          rw [show i - 1 + 1 = i + 1 - 1 by omega] at this
          exact this
  · rw [pE_at X n x P (by omega), pE_at X n x P hj]
    unfold pX
    by_cases c1 : i < P
    · rw [if_pos c1]
      by_cases c2 : j < P
      · rw [if_pos c2]; exact h2 i j hij (by omega)
      · rw [if_neg c2]
        by_cases c3 : j = P
        · rw [if_pos c3]; exact ns i (by omega)
        · rw [if_neg c3]; exact h2 i (j - 1) (by omega) (by omega)
    · rw [if_neg c1, if_neg (show ¬ j < P by omega), if_neg (show ¬ j = P by omega)]
      by_cases c2 : i = P
      · rw [if_pos c2]; exact fun e => ns (j - 1) (by omega) e.symm
      · rw [if_neg c2]; exact h2 (i - 1) (j - 1) (by omega) (by omega)
theorem fX_some {X : Nat → Ent} {key : ByteArray} : ∀ {k i : Nat}, i < k → (X i).key = key → fX X key k ≠ []
  | k + 1, i, hi, he => by
    unfold fX
    by_cases hk : ((X k).key.toList == key.toList) = true
    · rw [if_pos hk]; simp
    · rw [if_neg hk]
      rcases Nat.lt_succ_iff_lt_or_eq.1 hi with h | rfl
      · exact fX_some h he
      · exact absurd (by rw [he]; exact beq_self_eq_true _) hk
theorem put_found {X : Nat → Ent} {n : Nat} {x : Ent} : 0 < (fX (eL (pE X n x (pc X n x 0))) x.key (n + 1)).length := by
  have hP := (pc_le (X := X) (n := n) (e := x) (q := 0) (Nat.zero_le _)).2
  have h := fX_some (X := eL (pE X n x (pc X n x 0))) (key := x.key) (k := n + 1) (i := pc X n x 0) (by omega) (by rw [pE_at X n x _ (by omega), pX_at])
  exact List.length_pos_iff.2 h
end Go.Proofs.Ytiigpmhaicfocaa
namespace Go.Proofs.Ytiigpmhaicfocaa
set_option linter.unusedSimpArgs false
set_option linter.unusedVariables false

theorem nxF_ge (t : Nat → Int) (n : Nat) (y : Int) : ∀ (f q : Nat), q ≤ nxF t n y f q
  | 0, q => Nat.le_refl _
  | f + 1, q => by
    unfold nxF
    split
    · exact Nat.le_trans (Nat.le_succ q) (nxF_ge t n y f (q + 1))
    · exact Nat.le_refl _
section
variable {t : Nat → Int} {n c : Nat} {K : Nat → ByteArray} {key : ByteArray}
theorem goW_le (hc : ∀ i, i < n → cB (K i) key < 0 → i < c) (y : Int) : ∀ (f p : Nat) (L : List Int), p ≤ c → L.length ≤ p → (goW t n K key y f (p, L)).1 ≤ c ∧ (goW t n K key y f (p, L)).2.length ≤ (goW t n K key y f (p, L)).1
  | 0, p, L, h1, h2 => ⟨h1, h2⟩
  | f + 1, p, L, h1, h2 => by
    unfold goW
    split
    · rename_i h
      have h3 := hc _ h.1 h.2
      have h4 : p ≤ nx t n y p := nxF_ge _ _ _ _ _
      exact goW_le hc y f _ _ h3 (by simp only [List.length_append, List.length_cons, List.length_nil]; omega)
    · exact ⟨h1, h2⟩
theorem goW_last (ht : ∀ i, i < n → 1 ≤ t i) (hcn : c ≤ n) (hb : ∀ i, i < c → cB (K i) key < 0) (hc : ∀ i, i < n → cB (K i) key < 0 → i < c) : ∀ (f p : Nat) (L : List Int), p ≤ c → c < p + f → (goW t n K key 1 f (p, L)).1 = c
  | 0, p, L, h1, h2 => by omega
  | f + 1, p, L, h1, h2 => by
    by_cases hp : p < c
    · have e : nx t n 1 p = p := nx_stop (by omega) (by have := ht p (by omega); omega)
      unfold goW
      rw [if_pos (by simp only [e]; exact ⟨by omega, hb p hp⟩)]
      simp only [e]
      exact goW_last ht hcn hb hc f (p + 1) _ hp (by omega)
    · have e : p = c := by omega
      subst e
      rw [goW_stop (by
        rintro ⟨h3, h4⟩
        have h5 : p ≤ nx t n 1 p := nxF_ge _ _ _ _ _
        have := hc _ h3 h4
        omega)]
/-- The place is that of the keys below it; the path is no longer. -/
theorem pathF_place (ht : ∀ i, i < n → 1 ≤ t i) (hcn : c ≤ n) (hb : ∀ i, i < c → cB (K i) key < 0) (hc : ∀ i, i < n → cB (K i) key < 0 → i < c) : ∀ (y p : Nat) (L : List Int), p ≤ c → L.length ≤ p → (pathF t n K key (y + 1) (p, L)).1 = c ∧ (pathF t n K key (y + 1) (p, L)).2.length ≤ c
  | 0, p, L, h1, h2 => by
    have e : pathF t n K key (0 + 1) (p, L) = goW t n K key 1 (n + 1) (p, L) := rfl
    have h3 := goW_last ht hcn hb hc (n + 1) p L h1 (by omega)
    have h4 := goW_le (t := t) hc 1 (n + 1) p L h1 h2
    rw [e, h3]
    exact ⟨rfl, by have := h4.2; omega⟩
  | y + 1, p, L, h1, h2 => by
    have h4 := goW_le (t := t) hc (((y + 1) + 1 : Nat) : Int) (n + 1) p L h1 h2
    exact pathF_place ht hcn hb hc y (goW t n K key (((y + 1) + 1 : Nat) : Int) (n + 1) (p, L)).1 (goW t n K key (((y + 1) + 1 : Nat) : Int) (n + 1) (p, L)).2 h4.1 h4.2
end
end Go.Proofs.Ytiigpmhaicfocaa
