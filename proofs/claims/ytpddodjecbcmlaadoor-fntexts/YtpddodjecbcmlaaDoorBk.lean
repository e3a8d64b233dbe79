/- A good key's text is read back. -/
import Derived.Test.YtpddodjecbcmlaaDoorKx
import Derived.Test.YtpddodjecbcmlaaDoorRk
namespace Go.Proofs.YtpddodjecbcmlaaDoor
open Go.RowKit
set_option linter.unusedSimpArgs false
set_option linter.unusedVariables false

theorem sp_snoc (b : UInt8) (p : List UInt8) (hp : ∀ c ∈ p, c ≠ b) : ∀ l : List UInt8, sp b (l ++ b :: p) = sp b l ++ [p]
  | [] => by simp [sp, sp_none b p hp]
  | c :: l => by
    have ih := sp_snoc b p hp l
    have h1 := sp_pos b l
    rw [List.cons_append]
    by_cases hc : c = b
    · simp [sp, hc, ih]
    · simp only [sp, hc, if_false, ih]
      match hs : sp b l, h1 with
      | q :: qs, _ => simp
/-- The bytes of a text. -/
def bl (s : ByteArray) : List UInt8 := s.data.toList
theorem bl_app (a b : ByteArray) : bl (a ++ b) = bl a ++ bl b := by simp [bl, ByteArray.data_append]
theorem bl_one (c : UInt8) : bl ⟨#[c]⟩ = [c] := rfl
theorem of_bl (s : ByteArray) : (⟨(bl s).toArray⟩ : ByteArray) = s := by
  apply ByteArray.ext
  simp [bl]
theorem spB_bl (b : UInt8) (s : ByteArray) : spB b s = spL b (bl s) := rfl
theorem spL_snoc (b : UInt8) (l p : List UInt8) (hp : ∀ c ∈ p, c ≠ b) : spL b (l ++ b :: p) = spL b l ++ [⟨p.toArray⟩] := by
  unfold spL; rw [sp_snoc b p hp, List.map_append]; rfl
theorem spL_one (b : UInt8) (p : List UInt8) (hp : ∀ c ∈ p, c ≠ b) : spL b p = [⟨p.toArray⟩] := by
  unfold spL; rw [sp_none b p hp]; rfl
/-- A name has only letters. -/
theorem nm_let {s : ByteArray} (h : nmB s = true) {b : UInt8} (hb : b.toNat < 65) : ∀ c ∈ bl s, c ≠ b := by
  intro c hc e
  simp only [nmB, Bool.and_eq_true, List.all_eq_true, decide_eq_true_eq] at h
  have := h.2 c hc
  subst e
  omega
theorem bl_tag (a b : ByteArray) : bl (kxTag a b) = 44 :: (bl a ++ 61 :: bl b) := by
  unfold kxTag
  rw [bl_app, bl_app, bl_app, bl_one, bl_one]
  simp
/-- The tag's text without its sign. -/
def tt (a b : ByteArray) : ByteArray := ⟨(bl a ++ 61 :: bl b).toArray⟩
theorem bl_tt (a b : ByteArray) : bl (tt a b) = bl a ++ 61 :: bl b := by simp [bl, tt]
theorem tt_side {a b : ByteArray} (ha : nmB a = true) (hb : nmB b = true) : Two (tt a b) ∧ side (tt a b) = (a, b) := by
  have e : spB 61 (tt a b) = [a, b] := by
    rw [spB_bl, bl_tt, spL_snoc 61 _ _ (nm_let hb (by decide)), spL_one 61 _ (nm_let ha (by decide)), of_bl, of_bl]
    rfl
  exact ⟨by unfold Two; rw [e]; rfl, by unfold side; rw [e]; rfl⟩
section
variable {m : ByteArray} {nm vl : Nat → ByteArray}
theorem words_of (hm : nmB m = true) : ∀ k, (∀ i, i < k → nmB (nm i) = true ∧ nmB (vl i) = true) → spB 44 (kxS m nm vl k) = m :: (List.range k).map fun i => tt (nm i) (vl i)
  | 0, _ => by
    show spB 44 m = [m]
    rw [spB_bl, spL_one 44 _ (nm_let hm (by decide)), of_bl]
  | k + 1, h => by
    have ih := words_of hm k (fun i hi => h i (by omega))
    have hk := h k (by omega)
    have hno : ∀ c ∈ bl (nm k) ++ 61 :: bl (vl k), c ≠ 44 := by
      intro c hc
      rcases List.mem_append.1 hc with h1 | h1
      · exact nm_let hk.1 (by decide) c h1
      · rcases List.mem_cons.1 h1 with rfl | h2
        · decide
        · exact nm_let hk.2 (by decide) c h2
    show spB 44 (kxS m nm vl k ++ kxTag (nm k) (vl k)) = _
    rw [spB_bl, bl_app, bl_tag, spL_snoc 44 _ _ hno, ← spB_bl, ih, List.range_succ, List.map_append]
    rfl
theorem kxS_no64 (hm : nmB m = true) : ∀ k, (∀ i, i < k → nmB (nm i) = true ∧ nmB (vl i) = true) → ∀ c ∈ bl (kxS m nm vl k), c ≠ 64
  | 0, _ => nm_let hm (by decide)
  | k + 1, h => by
    have ih := kxS_no64 hm k (fun i hi => h i (by omega))
    have hk := h k (by omega)
    intro c hc
    have hc : c ∈ bl (kxS m nm vl k ++ kxTag (nm k) (vl k)) := hc
    rw [bl_app, bl_tag] at hc
    rcases List.mem_append.1 hc with h1 | h1
    · exact ih c h1
    · rcases List.mem_cons.1 h1 with rfl | h1
      · decide
      · rcases List.mem_append.1 h1 with h1 | h1
        · exact nm_let hk.1 (by decide) c h1
        · rcases List.mem_cons.1 h1 with rfl | h2
          · decide
          · exact nm_let hk.2 (by decide) c h2
end
/-- The number's digits. -/
theorem dec_dig (u : Nat) : ∀ c ∈ Lib.decDigits u, 48 ≤ c.toNat ∧ c.toNat ≤ 57 := by
  induction u using Nat.strongRecOn with
  | _ u ih =>
    by_cases h : u < 10
    · rw [Lib.decDigits_one h]
      intro c hc
      rw [List.mem_singleton.1 hc]
      simp [UInt8.toNat_ofNat']
      omega
    · rw [Lib.decDigits, dif_neg h]
      intro c hc
      rcases List.mem_append.1 hc with h1 | h1
      · exact ih (u / 10) (by omega) c h1
      · rw [List.mem_singleton.1 h1]
        simp [UInt8.toNat_ofNat']
        omega
theorem dec_len : ∀ k u, u < 10 ^ (k + 1) → (Lib.decDigits u).length ≤ k + 1
  | 0, u, h => by rw [Lib.decDigits_one (by simpa using h)]; simp
  | k + 1, u, h => by
    by_cases h1 : u < 10
    · rw [Lib.decDigits_one h1]; simp
    · have ih := dec_len k (u / 10) (by rw [Nat.pow_succ] at h; omega)
      rw [Lib.decDigits, dif_neg h1]
      simp; omega
theorem dec_pos (u : Nat) : 1 ≤ (Lib.decDigits u).length := by
  rw [Lib.decDigits]
  split <;> simp
def ofL (l : List UInt8) : ByteArray := ⟨l.toArray⟩
theorem at8_ofL (l : List UInt8) (k : Nat) : at8 (ofL l) k = (l.getD k 0).toNat := by simp [at8, ofL]
theorem dgs_congr {s t : ByteArray} : ∀ k, (∀ i, i < k → at8 s i = at8 t i) → dgs s k = dgs t k
  | 0, _ => rfl
  | k + 1, h => by rw [dgs, dgs, dgs_congr k (fun i hi => h i (by omega)), h k (by omega)]
theorem dec_val (u : Nat) : dgs (ofL (Lib.decDigits u)) (Lib.decDigits u).length = (u : Int) := by
  induction u using Nat.strongRecOn with
  | _ u ih =>
    by_cases h : u < 10
    · rw [Lib.decDigits_one h]
      simp only [List.length_cons, List.length_nil, dgs, at8_ofL]
      simp [UInt8.toNat_ofNat']
      omega
    · have e : Lib.decDigits u = Lib.decDigits (u / 10) ++ [UInt8.ofNat (48 + u % 10)] := by conv => lhs; rw [Lib.decDigits, dif_neg h]
      have i1 := ih (u / 10) (by omega)
      rw [e, List.length_append]
      show dgs _ ((Lib.decDigits (u / 10)).length + 1) = _
      rw [dgs, dgs_congr (t := ofL (Lib.decDigits (u / 10))) _ (fun i hi => by rw [at8_ofL, at8_ofL]; simp [List.getD_eq_getElem?_getD, List.getElem?_append_left hi]), i1, at8_ofL]
      simp [List.getD_eq_getElem?_getD, UInt8.toNat_ofNat']
      omega
theorem dec_head (u : Nat) (hu : 1 ≤ u) : ((Lib.decDigits u).getD 0 0).toNat ≠ 48 := by
  induction u using Nat.strongRecOn with
  | _ u ih =>
    by_cases h : u < 10
    · rw [Lib.decDigits_one h]
      simp [UInt8.toNat_ofNat']
      omega
    · have e : Lib.decDigits u = Lib.decDigits (u / 10) ++ [UInt8.ofNat (48 + u % 10)] := by conv => lhs; rw [Lib.decDigits, dif_neg h]
      have i1 := ih (u / 10) (by omega) (by omega)
      have h0 : 0 < (Lib.decDigits (u / 10)).length := dec_pos _
      rw [e, List.getD_eq_getElem?_getD, List.getElem?_append_left h0, ← List.getD_eq_getElem?_getD]
      exact i1
theorem tx_num (st : Int) (h : 0 ≤ st ∧ st ≤ 1000000000) : numI (tx st) = st ∧ (∀ c ∈ bl (tx st), c ≠ 64) := by
  obtain ⟨u, rfl⟩ := Int.eq_ofNat_of_zero_le h.1
  have e : tx (u : Int) = ofL (Lib.decDigits u) := by unfold tx ofL; rw [show Lib.itoa (u : Int) = Lib.decDigits u from Lib.itoa_nonneg u]
  rw [e]
  have hz : (ofL (Lib.decDigits u)).size = (Lib.decDigits u).length := by simp [ofL, ByteArray.size]
  have hl := dec_len 9 u (by omega)
  have hp := dec_pos u
  have hN : NumP (ofL (Lib.decDigits u)) := by
    refine ⟨by omega, by omega, fun ⟨h1, h2⟩ => ?_, fun i hi => ?_⟩
    · by_cases h0 : 1 ≤ u
      · rw [at8_ofL] at h2
        exact dec_head u h0 h2
      · have : u = 0 := by omega
        subst this
        rw [hz, Lib.decDigits_one (by omega)] at h1
        simp at h1
    · rw [hz] at hi
      unfold isDig
      rw [at8_ofL, List.getD_eq_getElem?_getD, List.getElem?_eq_getElem hi]
      exact dec_dig u _ (List.getElem_mem hi)
  refine ⟨by rw [numI_yes hN, hz, dec_val], fun c hc e => ?_⟩
  have hc : c ∈ Lib.decDigits u := by simpa [bl, ofL] using hc
  have := dec_dig u c hc
  subst e
  simp at this
theorem kxS_congr {m : ByteArray} {nm vl nm' vl' : Nat → ByteArray} : ∀ k, (∀ i, i < k → nm i = nm' i ∧ vl i = vl' i) → kxS m nm vl k = kxS m nm' vl' k
  | 0, _ => rfl
  | k + 1, h => by rw [kxS, kxS, kxS_congr k (fun i hi => h i (by omega)), (h k (by omega)).1, (h k (by omega)).2]
/-- A good key's text is read as that key. -/
theorem key_back {m : ByteArray} {n : Nat} {nm vl : Nat → ByteArray} {st : Int} (h : goodB m n nm vl st = true) :
    KP (kxT m n nm vl st) ∧ kxT (km (kxT m n nm vl st)) (kt (kxT m n nm vl st)).length (nmL (kt (kxT m n nm vl st))) (vlL (kt (kxT m n nm vl st))) (numI (h1 (kxT m n nm vl st))) = kxT m n nm vl st := by
  have hg := h
  simp only [goodB, goodTagsB, tagsOk, Bool.and_eq_true, decide_eq_true_eq, List.all_eq_true, List.mem_range, tagOk] at h
  obtain ⟨⟨⟨g1, g2, g3⟩, g4⟩, g5⟩ := h
  have hnm : ∀ i, i < n → nmB (nm i) = true ∧ nmB (vl i) = true := fun i hi => (g3 i hi).1
  obtain ⟨t1, t2⟩ := tx_num st ⟨g4, g5⟩
  have e64 : spB 64 (kxT m n nm vl st) = [kxS m nm vl n, tx st] := by
    unfold kxT
    rw [spB_bl, bl_app, bl_app, bl_one, List.append_assoc]
    show spL 64 (bl (kxS m nm vl n) ++ 64 :: bl (tx st)) = _
    rw [spL_snoc 64 _ _ t2, spL_one 64 _ (kxS_no64 g1 n hnm), of_bl, of_bl]
    rfl
  have eh0 : h0 (kxT m n nm vl st) = kxS m nm vl n := by unfold h0; rw [e64]; rfl
  have eh1 : h1 (kxT m n nm vl st) = tx st := by unfold h1; rw [e64]; rfl
  have ew : wd (kxT m n nm vl st) = m :: (List.range n).map fun i => tt (nm i) (vl i) := by unfold wd; rw [eh0]; exact words_of g1 n hnm
  have em : km (kxT m n nm vl st) = m := by unfold km; rw [ew]; rfl
  have et : kt (kxT m n nm vl st) = (List.range n).map fun i => (nm i, vl i) := by
    unfold kt tagsW
    rw [ew, List.tail_cons, List.map_map]
    refine List.map_congr_left fun i hi => ?_
    have := hnm i (List.mem_range.1 hi)
    exact (tt_side this.1 this.2).2
  have el : (kt (kxT m n nm vl st)).length = n := by rw [et]; simp
  have en : ∀ i, i < n → nmL (kt (kxT m n nm vl st)) i = nm i ∧ vlL (kt (kxT m n nm vl st)) i = vl i := fun i hi => by rw [et]; simp [nmL, vlL, List.getD_eq_getElem?_getD, hi]
  have ei : numI (h1 (kxT m n nm vl st)) = st := by rw [eh1]; exact t1
  have hgood : goodB (km (kxT m n nm vl st)) (kt (kxT m n nm vl st)).length (nmL (kt (kxT m n nm vl st))) (vlL (kt (kxT m n nm vl st))) (numI (h1 (kxT m n nm vl st))) = true := by
    rw [em, el, ei]
    have hc : ∀ i, i < n → tagOk (nmL (kt (kxT m n nm vl st))) (vlL (kt (kxT m n nm vl st))) i = tagOk nm vl i := fun i hi => by
      unfold tagOk
      rw [(en i hi).1, (en i hi).2]
      by_cases h0 : i = 0
      · simp [h0]
      · rw [(en (i - 1) (by omega)).1]
    have ht : tagsOk n (nmL (kt (kxT m n nm vl st))) (vlL (kt (kxT m n nm vl st))) = tagsOk n nm vl := by
      unfold tagsOk
      rw [Bool.eq_iff_iff, List.all_eq_true, List.all_eq_true]
      exact ⟨fun hh i hi => by rw [← hc i (List.mem_range.1 hi)]; exact hh i hi, fun hh i hi => by rw [hc i (List.mem_range.1 hi)]; exact hh i hi⟩
    unfold goodB goodTagsB
    rw [ht]
    exact hg
  refine ⟨⟨by rw [e64]; rfl, fun x hx => ?_, hgood⟩, ?_⟩
  · rw [ew, List.tail_cons] at hx
    obtain ⟨i, hi, rfl⟩ := List.mem_map.1 hx
    have := hnm i (List.mem_range.1 hi)
    exact (tt_side this.1 this.2).1
  · rw [em, el, ei]
    show kxS m (nmL (kt (kxT m n nm vl st))) (vlL (kt (kxT m n nm vl st))) n ++ ⟨#[64]⟩ ++ tx st = kxT m n nm vl st
    rw [kxS_congr n en]
    rfl
end Go.Proofs.YtpddodjecbcmlaaDoor
