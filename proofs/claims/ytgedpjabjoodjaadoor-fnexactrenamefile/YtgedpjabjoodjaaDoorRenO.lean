/- rename: the files that it leaves. -/
import Derived.Test.YtgedpjabjoodjaaDoorRenM
import Derived.Test.YtgedpjabjoodjaaDoorInsR
namespace Go.Proofs.YtgedpjabjoodjaaDoor
open Go.RowKit
open Go.ChangeMaps (setBlock)
set_option linter.unusedSimpArgs false
set_option linter.unusedVariables false

def Rises (F : Nat → Fil) (n : Nat) : Prop := ∀ i j, i < j → j < n → Op.bytesLess (F i).nm.toList (F j).nm.toList = true
theorem Rises.rem {F : Nat → Fil} {n : Nat} (h : Rises F n) {a : Nat} (ha : a < n) : Rises (remF F a) (n - 1) := fun i j hij hj => h _ _ (sh_mono hij) (sh_lt ha hj)
theorem Rises.ne {F : Nat → Fil} {n : Nat} (h : Rises F n) {i j : Nat} (hi : i < n) (hj : j < n) (hne : i ≠ j) : (F i).nm ≠ (F j).nm := fun e => by
  rcases Nat.lt_or_gt_of_ne hne with g | g
  · have := h i j g hj
    rw [e, bl_self] at this
    exact absurd this (by decide)
  · have := h j i g hi
    rw [e, bl_self] at this
    exact absurd this (by decide)
theorem rank_ex2 {F : Nat → Fil} {s : ByteArray} : ∀ {n : Nat}, Rises F n → (∀ j, j < n → (F j).nm ≠ s) → ∃ k, Rank F n s k
  | 0, _, _ => ⟨0, Nat.le_refl _, fun i hi => absurd hi (Nat.not_lt_zero _), fun i _ hi => absurd hi (Nat.not_lt_zero _)⟩
  | n + 1, hK, hs => by
    obtain ⟨k, h1, h2, h3⟩ := rank_ex2 (n := n) (fun i j h1 h2 => hK i j h1 (by omega)) (fun j hj => hs j (by omega))
    cases hb : Op.bytesLess (F n).nm.toList s.toList with
    | true =>
      have hk : k = n := by
        rcases Nat.lt_or_ge k n with hk | hk
        · have g1 := h3 k (Nat.le_refl _) hk
          have := bl_trans _ _ _ (bl_trans _ _ _ g1 (hK k n hk (by omega))) hb
          rw [bl_self] at this
          exact absurd this (by decide)
        · omega
      exact ⟨n + 1, Nat.le_refl _, fun i hi => by
        by_cases e : i = n
        · subst e; exact hb
        · exact h2 i (by omega), fun i h4 h5 => by omega⟩
    | false =>
      have hb2 : Op.bytesLess s.toList (F n).nm.toList = true := by
        cases h : Op.bytesLess s.toList (F n).nm.toList with
        | true => rfl
        | false => exact absurd (toList_inj (bl_tot _ _ hb h)) (hs n (by omega))
      exact ⟨k, by omega, h2, fun i h4 h5 => by
        by_cases e : i = n
        · subst e; exact hb2
        · exact h3 i h4 (by omega)⟩
theorem insG_rise {F : Nat → Fil} {n k : Nat} {y : Fil} (hK : Rises F n) (hR : Rank F n y.nm k) {i j : Nat} (hij : i < j) (hj : j < n + 1) : Op.bytesLess (insG F y k i).nm.toList (insG F y k j).nm.toList = true := by
  have hle := hR.le
  unfold insG
  by_cases h1 : i < k
  · by_cases h2 : j < k
    · rw [if_pos h1, if_pos h2]; exact hK i j hij (by omega)
    · by_cases h3 : j = k
      · rw [if_pos h1, if_neg h2, if_pos h3]; exact hR.lo i h1
      · rw [if_pos h1, if_neg h2, if_neg h3]; exact hK i (j - 1) (by omega) (by omega)
  · by_cases h3 : i = k
    · rw [if_neg h1, if_pos h3, if_neg (by omega), if_neg (by omega)]; exact hR.hi _ (by omega) (by omega)
    · rw [if_neg h1, if_neg h3, if_neg (by omega), if_neg (by omega)]; exact hK _ _ (by omega) (by omega)

theorem MHas.push {w wX : World} {L : List (FT × Nat)} {bm clock : Nat} (hM : MHas w bm L clock) (x : FT) (hx : ∀ p ∈ L, p.1.1 ≠ x.1) (hlt : bm < wX.heap.size) : MHas (setBlock wX bm (.map (esOf (L ++ [(x, clock)])) (clock + 1))) bm (L ++ [(x, clock)]) (clock + 1) := by
  refine ⟨heap_setBlock _ _ _ hlt, ?_, fun p hp => ?_, ?_⟩
  · rw [List.map_append, List.nodup_append]
    refine ⟨hM.born, by simp, fun a ha b hb' e => ?_⟩
    obtain ⟨p, hp, rfl⟩ := List.mem_map.1 ha
    simp at hb'
    have := hM.old p hp
    omega
  · rcases List.mem_append.1 hp with hp | hp
    · have := hM.old p hp; omega
    · rw [List.mem_singleton.1 hp]; show clock < clock + 1; omega
  · rw [List.map_append, List.nodup_append]
    refine ⟨hM.names, by simp, fun a ha b hb' e => ?_⟩
    obtain ⟨p, hp, rfl⟩ := List.mem_map.1 ha
    simp at hb'
    exact hx p hp (by rw [← hb', ← e])
theorem insL_set {l : List FT} {b : Nat} (hb : b < l.length) (x : FT) : insL (l.eraseIdx b) x b = l.set b x := by
  have h1 : (l.take b).length = b := by rw [List.length_take]; omega
  unfold insL
  rw [List.eraseIdx_eq_take_drop_succ, List.take_left' h1, List.drop_left' h1, List.set_eq_take_append_cons_drop, if_pos hb]

/-- The files of a list that are among those opened, and one of them put in under another name. -/
theorem zown_ins {W : World} {bm n n2 a k : Nat} {F : Nat → Fil} {S : Nat → Value} {G σ : Nat → Nat} {l2 : List FT} (t : ByteArray) (hz : ZOwn W bm n ((lOf F S n).map (·.1)) F G) (ha : a < n) (hσ : ∀ i, i < n2 → σ i < n ∧ σ i ≠ a) (hmono : ∀ i j, i < j → j < n2 → σ i < σ j) (hl2 : l2.length = n2) (hdat : ∀ i x, l2[i]? = some x → ((lOf F S n).map (·.1))[σ i]? = some x) (hk : k ≤ n2) :
    ZOwn W bm (n2 + 1) (insL l2 (t, (sAd (S a), (F a).len, sCp (S a)), (F a).sy) k) (insG (fun i => F (σ i)) { F a with nm := t } k) (fun i => if i < k then G (σ i) else if i = k then G a else G (σ (i - 1))) := by
  have ap : ∀ i j, i ≠ j → i < n → j < n → (F i).len ≠ 0 → (F j).len ≠ 0 → G i ≠ G j := fun i j hij hi hj h1 h2 => by
    rcases Nat.lt_or_gt_of_ne hij with g | g
    · exact hz.apart i j g hj h1 h2
    · exact (hz.apart j i g hi h2 h1).symm
  have hA : ((lOf F S n).map (·.1))[a]? = some (fOf F S a) := by rw [List.getElem?_map, lOf_at F S ha]; rfl
  refine ⟨by rw [insL_length, hl2], fun i x hx => ?_, fun i hi j => ?_, fun i j hij hj h1 h2 => ?_⟩
  · unfold insG
    rcases insL_at (by rw [hl2]; exact hk) hx with ⟨h1, h2⟩ | ⟨h1, h2⟩ | ⟨h1, h2⟩
    · simp only [h1, if_true]; exact hz.data (σ i) x (hdat i x h2)
    · subst h1
      simp only [Nat.lt_irrefl, if_false, if_true]
      rw [h2]
      obtain ⟨d1, d2, d3, d4⟩ := hz.data a _ hA
      exact ⟨rfl, d2, d3, d4⟩
    · have n1 : ¬ i < k := by omega
      have n2 : ¬ i = k := by omega
      simp only [n1, n2, if_false]; exact hz.data (σ (i - 1)) x (hdat (i - 1) x h2)
  · unfold insG
    by_cases h1 : i < k
    · simp only [h1, if_true]; exact hz.bd _ (hσ i (by omega)).1 j
    · by_cases h2 : i = k
      · simp only [h1, h2, if_false, if_true, Nat.lt_irrefl]; exact hz.bd a ha j
      · simp only [h1, h2, if_false]; exact hz.bd _ (hσ (i - 1) (by omega)).1 j
  · unfold insG at h1 h2
    by_cases a1 : i < k
    · by_cases a2 : j < k
      · simp only [a1, a2, if_true] at h1 h2 ⊢; exact ap _ _ (by have := hmono i j hij (by omega); omega) (hσ i (by omega)).1 (hσ j (by omega)).1 h1 h2
      · by_cases a3 : j = k
        · simp only [a1, a2, a3, if_true, if_false, Nat.lt_irrefl] at h1 h2 ⊢; exact ap _ _ (hσ i (by omega)).2 (hσ i (by omega)).1 ha h1 h2
        · simp only [a1, a2, a3, if_true, if_false] at h1 h2 ⊢; exact ap _ _ (by have := hmono i (j - 1) (by omega) (by omega); omega) (hσ i (by omega)).1 (hσ (j - 1) (by omega)).1 h1 h2
    · have a2 : ¬ j < k := by omega
      have a4 : ¬ j = k := by omega
      by_cases a3 : i = k
      · simp only [a3, a2, a4, if_true, if_false, Nat.lt_irrefl] at h1 h2 ⊢; exact ap _ _ (Ne.symm (hσ (j - 1) (by omega)).2) ha (hσ (j - 1) (by omega)).1 h1 h2
      · simp only [a1, a2, a3, a4, if_false] at h1 h2 ⊢; exact ap _ _ (by have := hmono (i - 1) (j - 1) (by omega) (by omega); omega) (hσ (i - 1) (by omega)).1 (hσ (j - 1) (by omega)).1 h1 h2
theorem rise_ins {n n2 k : Nat} {F : Nat → Fil} {S : Nat → Value} {σ : Nat → Nat} {l2 : List FT} {y : Fil} {x : FT} (hx : x.1 = y.nm) (hK : Rises (fun i => F (σ i)) n2) (hR : Rank (fun i => F (σ i)) n2 y.nm k) (hσ : ∀ i, i < n2 → σ i < n) (hl2 : l2.length = n2) (hdat : ∀ i x, l2[i]? = some x → ((lOf F S n).map (·.1))[σ i]? = some x) : (insL l2 x k).Pairwise (fun x y => Op.bytesLess x.1.toList y.1.toList = true) := by
  have hle := hR.le
  have nm : ∀ i (hi : i < (insL l2 x k).length), (insL l2 x k)[i].1 = (insG (fun i => F (σ i)) y k i).nm := fun i hi => by
    have hx' := List.getElem?_eq_getElem hi
    have hi' : i < n2 + 1 := by rw [insL_length, hl2] at hi; exact hi
    have at' : ∀ i z, i < n2 → l2[i]? = some z → z.1 = (F (σ i)).nm := fun i z h1 h2 => by
      have := hdat i z h2
      rw [List.getElem?_map, lOf_at F S (hσ i h1)] at this
      simp only [Option.map_some, Option.some.injEq] at this
      rw [← this]; rfl
    unfold insG
    rcases insL_at (by rw [hl2]; exact hle) hx' with ⟨h1, h2⟩ | ⟨h1, h2⟩ | ⟨h1, h2⟩
    · rw [if_pos h1]; exact at' i _ (by omega) h2
    · rw [h2, if_neg (by omega), if_pos h1]; exact hx
    · rw [if_neg (by omega), if_neg (by omega)]; exact at' (i - 1) _ (by omega) h2
  rw [List.pairwise_iff_getElem]
  intro i j hi hj hij
  rw [nm i hi, nm j hj]
  exact insG_rise hK hR hij (by rw [insL_length, hl2] at hj; exact hj)
theorem rem_dat {F : Nat → Fil} {S : Nat → Value} {n a : Nat} (i : Nat) (x : FT) (h : (((lOf F S n).eraseIdx a).map (·.1))[i]? = some x) : ((lOf F S n).map (·.1))[sh a i]? = some x := by
  rw [← h, ← erase_map, List.getElem?_eraseIdx]
  unfold sh
  split <;> rfl
end Go.Proofs.YtgedpjabjoodjaaDoor
