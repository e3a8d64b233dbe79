/- What is packed is good, and packed once more at the bottom it is what the rows are at the bottom. / What PackRows and LiveIn answer can be held by a law. -/
import Derived.Test.YtmeckcaekkangaaGreatJv
import Derived.Test.YtmeckcaekkangaaGreatNn
namespace Go.Proofs.YtmeckcaekkangaaGreat
set_option maxRecDepth 100000
set_option linter.unusedSimpArgs false
set_option linter.unusedVariables false

theorem sumF_add {f g h : Nat → Int} : ∀ {n : Nat}, (∀ i, i < n → h i = f i + g i) → sumF h n = sumF f n + sumF g n
  | 0, _ => by simp [sumF]
  | n + 1, e => by
    have ih := sumF_add (n := n) (fun i hi => e i (by omega))
    have := e n (by omega)
    unfold sumF
    omega
theorem ov_no {f g : Nat → Int} : ∀ {k : Nat}, ov f g k = false → ∀ i, i < k → f i + g i ≤ 1000000000
  | 0, _, i, hi => by omega
  | k + 1, h, i, hi => by
    simp only [ov, Bool.or_eq_false_iff, decide_eq_false_iff_not] at h
    by_cases e : i = k
    · subst e; omega
    · exact ov_no h.1 i (by omega)
theorem ga_zero : GA dZ := by
  refine ⟨by simp [dZ, isC, btw], rfl, fun i _ => by simp [dZ, isC, btw], fun _ => ⟨by simp [dZ, sumF], by simp [dZ], by simp [dZ]⟩, fun h => by simp [dZ] at h, fun _ => ⟨rfl, rfl⟩, fun h => absurd rfl h⟩
theorem ga_cA {b : Ent} (h : GA b) : GA (cA b) := by
  obtain ⟨h1, h2, h3, h4, h5, h6, h7⟩ := h
  have hs : sumF (fun i => if i < 8 then b.f i else 0) 8 = sumF b.f 8 := by simp [sumF]
  refine ⟨h1, rfl, fun i hi => ?_, fun hf => ?_, h5, h6, h7⟩
  · show isC (if i < 8 then b.f i else 0) = true
    rw [if_pos hi]; exact h3 i hi
  · show sumF (fun i => if i < 8 then b.f i else 0) 8 = b.c ∧ _
    rw [hs]; exact h4 hf
theorem isV_iff {v : Int} : isV v = true ↔ -1000000000 ≤ v ∧ v ≤ 1000000000 := by simp [isV, btw]
theorem ga_jn {a b : Ent} (ha : GA a) (hb : GA b) : GA (jn a b) := by
  unfold jn
  split
  · exact ga_cA hb
  · split
    · exact ga_cA ha
    · rename_i ca cb
      have ac := ha.c
      have bc := hb.c
      have af := ha.f
      have bf := hb.f
      obtain ⟨a1, a2, a3, a4, a5, a6, a7⟩ := ha
      obtain ⟨b1, b2, b3, b4, b5, b6, b7⟩ := hb
      obtain ⟨av, aw, al⟩ := a7 ca
      obtain ⟨bv, bw, bl⟩ := b7 cb
      rw [isV_iff] at av aw bv bw
      refine ⟨isC_iff.2 (by show 0 ≤ min (a.c + b.c) 1000000000 ∧ min (a.c + b.c) 1000000000 ≤ 1000000000; omega), rfl, fun i hi => ?_, fun hf => ?_, fun hf => ?_, fun h0 => ?_, fun _ => ⟨isV_iff.2 (by show -1000000000 ≤ min a.lo b.lo ∧ min a.lo b.lo ≤ 1000000000; omega), isV_iff.2 (by show -1000000000 ≤ max a.hi b.hi ∧ max a.hi b.hi ≤ 1000000000; omega), by show min a.lo b.lo ≤ max a.hi b.hi; omega⟩⟩
      · show isC (if i < 8 then min (a.f i + b.f i) 1000000000 else 0) = true
        rw [if_pos hi, isC_iff]
        have := af i hi
        have := bf i hi
        omega
      · have hf' : fuJ a b = false := hf
        unfold fuJ fu0 at hf'
        simp only [Bool.or_eq_false_iff, decide_eq_false_iff_not] at hf'
        obtain ⟨⟨⟨fa, fb⟩, fc⟩, fo⟩ := hf'
        obtain ⟨p1, p2, p3⟩ := a4 fa
        obtain ⟨q1, q2, q3⟩ := b4 fb
        have hs : sumF (fun i => if i < 8 then min (a.f i + b.f i) 1000000000 else 0) 8 = sumF a.f 8 + sumF b.f 8 := sumF_add fun i hi => by
          have := ov_no fo i hi
          simp only [hi, if_true]
          omega
        refine ⟨?_, ?_, ?_⟩
        · show sumF (fun i => if i < 8 then min (a.f i + b.f i) 1000000000 else 0) 8 = min (a.c + b.c) 1000000000
          rw [hs]; omega
        · show -1000000000 * min (a.c + b.c) 1000000000 ≤ (if fuJ a b = true then 0 else IntKind.i64.wrap (a.s + b.s))
          have hf2 : fuJ a b = false := hf
          rw [hf2, if_neg (by decide), IntKind.wrap_i64]
          omega
        · show (if fuJ a b = true then 0 else IntKind.i64.wrap (a.s + b.s)) ≤ 1000000000 * min (a.c + b.c) 1000000000
          have hf2 : fuJ a b = false := hf
          rw [hf2, if_neg (by decide), IntKind.wrap_i64]
          omega
      · have hf2 : fuJ a b = true := hf
        refine ⟨?_, ?_⟩
        · show (if fuJ a b = true then 0 else IntKind.i64.wrap (a.s + b.s)) = 0
          rw [hf2, if_pos rfl]
        · show 0 < min (a.c + b.c) 1000000000
          omega
      · have : min (a.c + b.c) 1000000000 = 0 := h0
        omega
theorem fdn_ga {X : Nat → Ent} {n m : Nat} (hg : ∀ i, i < n → GoodE (X i)) (hm : m ≤ n) : ∀ k, k ≤ m → GA (fdn X m k)
  | 0, _ => ga_zero
  | k + 1, hk => by
    unfold fdn
    split
    · exact fdn_ga hg hm k (by omega)
    · rename_i h
      exact ga_jn (fdn_ga hg hm k (by omega)) ((hg _ (by omega)).ga h)
theorem fdA_ga {X : Nat → Ent} {n : Nat} (hg : ∀ i, i < n → GoodE (X i)) : GA (fdA X n) := by
  have h1 := en_le (X := X) (n := n) (q := 0) (Nat.zero_le _)
  have hm : mN X n ≤ n := by unfold mN; split <;> omega
  exact fdn_ga hg hm _ (Nat.le_refl _)
theorem pkX_good {X : Nat → Ent} {n : Nat} {bt : Bool} (hg : ∀ i, i < n → GoodE (X i)) : ∀ x ∈ pkX X n bt, GoodE x := by
  intro x hx
  unfold pkX at hx
  split at hx
  · split at hx
    · cases hx
    · rw [List.mem_singleton.1 hx]
      exact hg 0 (by omega)
  · rename_i h
    rw [List.mem_singleton.1 hx]
    have h0 := hg 0 (by omega)
    refine ⟨h0.1, h0.2.1, .inl ⟨?_, fdA_ga hg⟩⟩
    show (if bt = false ∧ allJ X n = true then (3 : Int) else 1) = 1 ∨ (if bt = false ∧ allJ X n = true then (3 : Int) else 1) = 3
    split <;> simp
theorem pkX_head {X : Nat → Ent} {n : Nat} {bt : Bool} : ∀ x ∈ pkX X n bt, 0 < n ∧ x.key = (X 0).key ∧ x.seq = (X 0).seq := by
  intro x hx
  unfold pkX at hx
  split at hx
  · split at hx
    · cases hx
    · rw [List.mem_singleton.1 hx]; exact ⟨by omega, rfl, rfl⟩
  · rw [List.mem_singleton.1 hx]; exact ⟨by omega, rfl, rfl⟩
theorem mN_one (X : Nat → Ent) : mN X 1 = 1 := by
  unfold mN
  by_cases h : (X 0).kind = 3
  · rw [en_step (by omega) h, en_end (by omega)]; simp
  · rw [en_stop (by omega) h]; simp
theorem fdA_one {X : Nat → Ent} (h : (X 0).kind ≠ 2) : fdA X 1 = cA (X 0) := by
  unfold fdA
  rw [mN_one]
  show (if (X (1 - 1 - 0)).kind = 2 then fdn X 1 0 else jn (fdn X 1 0) (X (1 - 1 - 0))) = _
  rw [if_neg (by simpa using h)]
  unfold jn
  rw [if_pos (by rfl)]
/-- Packed at the bottom, of one. -/
theorem pkX_one {X Y : Nat → Ent} {n : Nat} {bt : Bool} (hn : 0 < n) (hg : ∀ i, i < n → GoodE (X i)) : ∀ x ∈ pkX X n bt, Y 0 = x → pkX Y 1 true = pkX X n true := by
  intro x hx hY
  unfold pkX at hx
  split at hx
  · rename_i h
    split at hx
    · cases hx
    · rw [List.mem_singleton.1 hx] at hY
      have h2 : (X 0).kind = 2 := by omega
      unfold pkX
      rw [if_pos (.inr (by rw [hY]; exact h2)), if_pos (.inr rfl), if_pos (.inr h2), if_pos (.inr rfl)]
  · rename_i h
    have hk : (X 0).kind ≠ 2 := fun e => h (.inr e)
    rw [List.mem_singleton.1 hx] at hY
    have hYk : (Y 0).kind ≠ 2 := by
      rw [hY]
      show (if bt = false ∧ allJ X n = true then (3 : Int) else 1) ≠ 2
      split <;> decide
    unfold pkX
    rw [if_neg (by omega), if_neg h]
    unfold pk1
    rw [fdA_one hYk, hY]
    have ha := fdA_ai hg
    have hc := ha.can
    have hcan : cA (pk1 X n bt) = fdA X n := by
      have : cA (pk1 X n bt) = cA (fdA X n) := rfl
      rw [this, hc]
    rw [hcan]
    simp [pk1]
theorem pkX_nil {X : Nat → Ent} {n : Nat} {bt : Bool} (h : pkX X n bt = []) : pkX X n true = [] := by
  unfold pkX at h ⊢
  split at h
  · rename_i h1
    rw [if_pos h1, if_pos (.inr rfl)]
  · cases h

/-- What is packed, run by run. -/
def pkL (bt : Bool) (L : List Ent) : List Ent := pkX (eL L) L.length bt
theorem pkP_flat (Rs : List (List Ent)) (bt : Bool) : ∀ k, k ≤ Rs.length → pkP Rs bt k = (Rs.take k).flatMap (pkL bt)
  | 0, _ => by simp [pkP]
  | k + 1, h => by
    have e : gR Rs k = Rs[k] := by simp [gR, show k < Rs.length by omega]
    rw [pkP, pkP_flat Rs bt k (by omega), List.take_succ_eq_append_getElem (by omega), List.flatMap_append]
    simp [pkL, e]
theorem blI {a b : List UInt8} (h : Op.bytesLess a b = true) : a ≠ b := fun e => by rw [e, bl_self] at h; cases h
/-- Runs are in the order of their keys. -/
def KLt (L M : List Ent) : Prop := ∀ a ∈ L, ∀ b ∈ M, Op.bytesLess a.key.toList b.key.toList = true
theorem rn_less {X : Nat → Ent} {K : Nat} (hB : ∀ i j, i < j → j < K → Bef (X i) (X j)) : ∀ k, k ≤ K → (rn X k).Pairwise KLt
  | 0, _ => List.Pairwise.nil
  | k + 1, hk => by
    have ih := rn_less hB k (by omega)
    obtain ⟨hf, hne, hl⟩ := rn_prop X k
    by_cases hc : k = 0 ∨ (X (k - 1)).key.toList ≠ (X k).key.toList
    · rw [rn_new hc, List.pairwise_append]
      refine ⟨ih, List.pairwise_singleton _ _, fun L hL M hM a ha b hb => ?_⟩
      rw [List.mem_singleton.1 hM] at hb
      rw [List.mem_singleton.1 hb]
      have ha2 : a ∈ sl X 0 k := by rw [← hf]; exact List.mem_flatten.2 ⟨L, hL, ha⟩
      obtain ⟨i, hi, rfl⟩ := List.mem_map.1 ha2
      rw [Nat.zero_add]
      have hik : i < k := by have := List.mem_range.1 hi; omega
      rcases hB i k hik (by omega) with h | ⟨h, _⟩
      · exact h
      · exfalso
        have hkk := hc.resolve_left (by omega)
        by_cases e : i = k - 1
        · rw [e] at h; exact hkk h
        · have h1 := hB i (k - 1) (by omega) (by omega)
          have h2 := hB (k - 1) k (by omega) (by omega)
          rcases h1 with h1 | ⟨h1, _⟩
          · rcases h2 with h2 | ⟨h2, _⟩
            · exact blI (blT _ _ _ h1 h2) h
            · exact hkk h2
          · exact hkk (h1.symm.trans h)
    · have h0 : k ≠ 0 := fun h => hc (.inl h)
      have he : (X (k - 1)).key.toList = (X k).key.toList := Classical.not_not.1 (fun h => hc (.inr h))
      obtain ⟨Rs, a, ha, e, hk2⟩ := hl (by omega)
      rw [rn_more h0 he e]
      rw [e, List.pairwise_append] at ih
      rw [List.pairwise_append]
      refine ⟨ih.1, List.pairwise_singleton _ _, fun L hL M hM x hx b hb => ?_⟩
      rw [List.mem_singleton.1 hM] at hb
      have hLs := ih.2.2 L hL (sl X a k) (List.mem_singleton.2 rfl) x hx
      rcases List.mem_append.1 hb with hb | hb
      · exact hLs b hb
      · rw [List.mem_singleton.1 hb, ← he]
        refine hLs (X (k - 1)) (List.mem_map.2 ⟨k - 1 - a, List.mem_range.2 (by omega), by rw [show a + (k - 1 - a) = k - 1 by omega]⟩)
theorem rn_single {X : Nat → Ent} : ∀ k, (∀ i, 0 < i → i < k → (X (i - 1)).key.toList ≠ (X i).key.toList) → rn X k = (sl X 0 k).map fun e => [e]
  | 0, _ => rfl
  | k + 1, h => by
    have hc : k = 0 ∨ (X (k - 1)).key.toList ≠ (X k).key.toList := by
      by_cases e : k = 0
      · exact .inl e
      · exact .inr (h k (by omega) (by omega))
    rw [rn_new hc, rn_single k (fun i h1 h2 => h i h1 (by omega)), sl_succ (Nat.zero_le _), List.map_append]
    simp

theorem runs_flat (E : List Ent) : (rn (eL E) E.length).flatten = E := by rw [(rn_prop (eL E) E.length).1, sl_zero]
theorem pkAll_flat (E : List Ent) (bt : Bool) : pkP (rn (eL E) E.length) bt (rn (eL E) E.length).length = (rn (eL E) E.length).flatMap (pkL bt) := by
  rw [pkP_flat _ _ _ (Nat.le_refl _), List.take_length]
section
theorem runs_less {E : List Ent} (hE : GoodLs E) : (rn (eL E) E.length).Pairwise KLt := rn_less (K := E.length) (fun i j hij hj => by
  have := (List.pairwise_iff_getElem.1 hE.2.1) i j (by omega) hj hij
  rwa [← eL_get (by omega), ← eL_get hj] at this) _ (Nat.le_refl _)
theorem runs_uns {E : List Ent} (hE : GoodLs E) : (rn (eL E) E.length).Pairwise (fun L M => ∀ a ∈ L, ∀ b ∈ M, Uns a b) := by
  have h := hE.2.2
  rw [← runs_flat E, List.pairwise_flatten] at h
  exact h.2
theorem run_mem {E : List Ent} (hE : GoodLs E) {L : List Ent} (hL : L ∈ rn (eL E) E.length) : (∀ i, i < L.length → GoodE (eL L i)) ∧ 0 < L.length ∧ eL L 0 ∈ L := by
  have hs : L.Sublist E := by
    have := (rn_all (eL E) E.length L hL).2.1
    rwa [sl_zero] at this
  have h0 : 0 < L.length := List.length_pos_iff.2 ((rn_prop (eL E) E.length).2.1 L hL)
  exact ⟨fun i hi => by rw [eL_get hi]; exact hE.1 _ (hs.subset (List.getElem_mem hi)), h0, by rw [eL_get h0]; exact List.getElem_mem h0⟩
theorem pk_mem {E : List Ent} (hE : GoodLs E) {bt : Bool} {L : List Ent} (hL : L ∈ rn (eL E) E.length) {x : Ent} (hx : x ∈ pkL bt L) : GoodE x ∧ x.key = (eL L 0).key ∧ x.seq = (eL L 0).seq ∧ eL L 0 ∈ L := by
  obtain ⟨h1, h2, h3⟩ := run_mem hE hL
  obtain ⟨_, k1, k2⟩ := pkX_head x hx
  exact ⟨pkX_good h1 x hx, k1, k2, h3⟩
theorem pk_rise {E : List Ent} (hE : GoodLs E) (bt : Bool) : ((rn (eL E) E.length).flatMap (pkL bt)).Pairwise (fun a b => Op.bytesLess a.key.toList b.key.toList = true) := by
  rw [List.flatMap, List.pairwise_flatten]
  refine ⟨fun L hL => ?_, ?_⟩
  · obtain ⟨M, hM, rfl⟩ := List.mem_map.1 hL
    have := pkX_len (eL M) M.length bt
    unfold pkL
    match h : pkX (eL M) M.length bt with
    | [] => exact List.Pairwise.nil
    | [x] => exact List.pairwise_singleton _ _
    | x :: y :: l => rw [h] at this; simp at this
  · rw [List.pairwise_map]
    refine (runs_less hE).imp_of_mem fun {L M} hL hM h a ha b hb => ?_
    obtain ⟨_, k1, _, k3⟩ := pk_mem hE hL ha
    obtain ⟨_, m1, _, m3⟩ := pk_mem hE hM hb
    rw [k1, m1]
    exact h _ k3 _ m3
/-- What is packed is good. -/
theorem pk_good {E : List Ent} (hE : GoodLs E) (bt : Bool) : GoodLs ((rn (eL E) E.length).flatMap (pkL bt)) := by
  refine ⟨fun x hx => ?_, (pk_rise hE bt).imp fun h => .inl h, ?_⟩
  · obtain ⟨L, hL, hx2⟩ := List.mem_flatMap.1 hx
    exact (pk_mem hE hL hx2).1
  · rw [List.flatMap, List.pairwise_flatten]
    refine ⟨fun L hL => ?_, ?_⟩
    · obtain ⟨M, hM, rfl⟩ := List.mem_map.1 hL
      have := pkX_len (eL M) M.length bt
      unfold pkL
      match h : pkX (eL M) M.length bt with
      | [] => exact List.Pairwise.nil
      | [x] => exact List.pairwise_singleton _ _
      | x :: y :: l => rw [h] at this; simp at this
    · rw [List.pairwise_map]
      refine (runs_uns hE).imp_of_mem fun {L M} hL hM h a ha b hb => ?_
      obtain ⟨_, _, k2, k3⟩ := pk_mem hE hL ha
      obtain ⟨_, _, m2, m3⟩ := pk_mem hE hM hb
      unfold Uns
      rw [k2, m2]
      exact h _ k3 _ m3
/-- The runs of what is packed. -/
theorem pk_runs {E : List Ent} (hE : GoodLs E) (bt : Bool) : rn (eL ((rn (eL E) E.length).flatMap (pkL bt))) ((rn (eL E) E.length).flatMap (pkL bt)).length = ((rn (eL E) E.length).flatMap (pkL bt)).map fun e => [e] := by
  have hr := pk_rise hE bt
  generalize (rn (eL E) E.length).flatMap (pkL bt) = x at *
  rw [rn_single, sl_zero]
  intro i h1 h2
  have := (List.pairwise_iff_getElem.1 hr) (i - 1) i (by omega) h2 (by omega)
  rw [← eL_get (by omega), ← eL_get h2] at this
  exact blI this
/-- Packed once more, at the bottom. -/
theorem pk_twice {E : List Ent} (hE : GoodLs E) (bt : Bool) : (((rn (eL E) E.length).flatMap (pkL bt)).map fun e => [e]).flatMap (pkL true) = (rn (eL E) E.length).flatMap (pkL true) := by
  rw [List.flatMap_map, List.flatMap_assoc]
  have key : ∀ L ∈ rn (eL E) E.length, (pkL bt L).flatMap (fun e => pkL true [e]) = pkL true L := by
    intro L hL
    obtain ⟨h1, h2, h3⟩ := run_mem hE hL
    have hlen := pkX_len (eL L) L.length bt
    unfold pkL
    match h : pkX (eL L) L.length bt with
    | [] => rw [pkX_nil h]; rfl
    | [x] =>
      have := pkX_one (Y := eL [x]) (bt := bt) h2 h1 x (by rw [h]; exact List.mem_singleton.2 rfl) rfl
      simpa using this
    | x :: y :: l => rw [h] at hlen; simp at hlen
  generalize rn (eL E) E.length = Rs at key
  induction Rs with
  | nil => rfl
  | cons L Rs ih =>
    rw [List.flatMap_cons, List.flatMap_cons, key L (List.mem_cons_self ..), ih (fun M hM => key M (List.mem_cons_of_mem _ hM))]
end
/-- One row alone is joined to itself. -/
theorem mg_one (x : List Ent) : mg 1 (fun _ => x) = x := by
  have hs := mg_sub 1 _ (fun _ => x) rfl 0 (by omega)
  have hl : (mg 1 (fun _ => x)).length = x.length := by rw [mg_len]; simp [sm]
  exact (hs.eq_of_length hl.symm).symm
theorem rowsOk_one {x : List Ent} (h : GoodLs x) (hl : x.length ≤ 300) : RowsOk 1 (fun _ => x) :=
  rows_iff.2 ⟨⟨by omega, by simp [sm]; exact hl⟩, by rw [mg_one]; exact h⟩
end Go.Proofs.YtmeckcaekkangaaGreat
namespace Go.Proofs.YtmeckcaekkangaaGreat
set_option maxRecDepth 100000
open Go.RowKit
set_option linter.unusedSimpArgs false
set_option linter.unusedVariables false

theorem pkP_sm {E : List Ent} (hg : GoodLs E) (hs : SmL E) (bt : Bool) : ∀ k, k ≤ (rn (eL E) E.length).length → SmL (pkP (rn (eL E) E.length) bt k)
  | 0, _ => (fun x hx => nomatch hx)
  | k + 1, hk => by
    have ih := pkP_sm hg hs bt k (by omega)
    intro x hx
    unfold pkP at hx
    rcases List.mem_append.1 hx with h | h
    · exact ih x h
    · have hi : k < (rn (eL E) E.length).length := by omega
      have h2 := (rn_all (eL E) E.length _ (gR_mem hi)).2.1
      rw [sl_zero] at h2
      have hm : ∀ j, j < (gR (rn (eL E) E.length) k).length → eL (gR (rn (eL E) E.length) k) j ∈ E := fun j hj => h2.subset (eL_mem hj)
      exact pkX_sm (fun j hj => hg.1 _ (hm j hj)) (fun j hj => (hs _ (hm j hj)).eb) (fun j hj => (hs _ (hm j hj)).f) x h
theorem pro_of {w : World} {ao : Option Addr} {N : Nat} {R : Nat → Nat → Ent} {M : Nat → Nat} (hr : RRow w ao N R M) (bt : Bool) : ∃ (E : List Ent) (c : Bool), SmL E ∧ E.length ≤ 1000 ∧ ∀ w e w', PrO N (dR R M) bt w e w' → AnE E c w e w' := by
  by_cases h : RowsOk N (dR R M)
  · have h3 : (mg N (dR R M)).length ≤ 300 := by rw [mg_len]; exact h.2.1
    have h4 := rn_len (eL (mg N (dR R M))) (mg N (dR R M)).length
    have h5 := pkP_len (rn (eL (mg N (dR R M))) (mg N (dR R M)).length) bt (rn (eL (mg N (dR R M))) (mg N (dR R M)).length).length
    exact ⟨pkAll (mg N (dR R M)) bt, true, pkP_sm (rows_iff.1 h).2 (mg_sm hr h) bt _ (Nat.le_refl _), by unfold pkAll; omega, fun w e w' hp => hp.1 h⟩
  · exact ⟨[], false, (fun x hx => nomatch hx), by simp, fun w e w' hp => hp.2 h⟩
end Go.Proofs.YtmeckcaekkangaaGreat
