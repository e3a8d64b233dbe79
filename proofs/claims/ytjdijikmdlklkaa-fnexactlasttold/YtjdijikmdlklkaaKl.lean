/- Good windows, in the program. / Good boards, in the program. / Good keys in their order have bytes in their order, so rising keys have unlike bytes. -/
import Derived.Test.YtjdijikmdlklkaaWr
import Derived.Test.YtjdijikmdlklkaaGdI
import Derived.Test.YtjdijikmdlklkaaCompareK
import Derived.Deep.RegionWith
import Derived.Deep.RegionHeld3
import Derived.Laws.Strings
namespace Go.Proofs.Ytjdijikmdlklkaa
open Go.RowKit
set_option linter.unusedSimpArgs false
set_option linter.unusedVariables false

/-- A good window's key. -/
def gK (x : Wn) : Bool := goodB x.m x.tn x.nm x.vl x.st
/-- A good window, by the board's size. -/
structure GW (z : Int) (x : Wn) : Prop where
  key : gK x = true
  mul : x.st % z = 0
  agg : GoodA x.c x.s x.lo x.hi x.n x.f x.fu
  cnt : x.c ≠ 0
  ver : btw 0 x.ver 1000000 = true
  dir : x.ver = 0 → x.di = true
/-- Two windows' keys compared. -/
def kc (x y : Wn) : Int := keyCmp x.m y.m x.st y.st x.tn y.tn x.nm x.vl y.nm y.vl
/-- Good windows: each good, and rising. -/
structure GWs (z : Int) (X : Nat → Wn) (n : Nat) : Prop where
  each : ∀ i, i < n → GW z (X i)
  rise : ∀ i, i + 1 < n → kc (X i) (X (i + 1)) < 0

theorem agg_nz {c s lo hi : Int} {n : Nat} {f : Nat → Int} {fu : Bool} (h : GoodA c s lo hi n f fu) : 0 ≤ c := by
  have := h.1
  simp [isC, btw] at this
  exact this.1

end Go.Proofs.Ytjdijikmdlklkaa
namespace Go.Proofs.Ytjdijikmdlklkaa
open Go.RowKit
set_option linter.unusedSimpArgs false
set_option linter.unusedVariables false

theorem cmp_kc (x y : Wn) (hx : gK x = true) (hy : gK y = true) : cmpAns x.m y.m x.st y.st x.tn y.tn x.nm x.vl y.nm y.vl = kc x y := by
  unfold cmpAns kc gK at *
  rw [hx, hy]
  rfl

theorem GWs.more {z : Int} {X : Nat → Wn} {k : Nat} (h : GWs z X k) (hk : GW z (X k)) (hr : ∀ j, j + 1 = k → kc (X j) (X k) < 0) : GWs z X (k + 1) :=
  ⟨fun i hi => by
    rcases Nat.lt_succ_iff_lt_or_eq.1 hi with h1 | rfl
    · exact h.each i h1
    · exact hk, fun i hi => by
    rcases Nat.lt_succ_iff_lt_or_eq.1 hi with h1 | h1
    · exact h.rise i h1
    · rw [h1]; exact hr i h1⟩

/-- A good board, in the document's words. -/
structure GBd (z h mk : Int) (n : Nat) (X : Nat → Wn) : Prop where
  size : isSz z = true
  hor : btw 0 h 1000000 = true
  mark : isTm mk = true
  few : n ≤ 40
  wins : GWs z X n

end Go.Proofs.Ytjdijikmdlklkaa
namespace Go.Proofs.Ytjdijikmdlklkaa
open Go.RowKit
set_option linter.unusedSimpArgs false
set_option linter.unusedVariables false

/-- One list is ahead of another: at the first place where they differ, or where it ends. -/
def ltL : List Int → List Int → Prop
  | [], [] => False
  | [], _ :: _ => True
  | _ :: _, [] => False
  | a :: l, b :: r => a < b ∨ (a = b ∧ ltL l r)
theorem ltL_irr : ∀ l, ¬ ltL l l
  | [], h => h
  | a :: l, h => by
    rcases h with h | ⟨_, h⟩
    · omega
    · exact ltL_irr l h
theorem ltL_trans : ∀ a b c, ltL a b → ltL b c → ltL a c
  | [], [], _, h, _ => h.elim
  | [], _ :: _, [], _, h => h.elim
  | [], _ :: _, _ :: _, _, _ => trivial
  | _ :: _, [], _, h, _ => h.elim
  | _ :: _, _ :: _, [], _, h => h.elim
  | x :: a, y :: b, z :: c, h, g => by
    rcases h with h | ⟨h1, h⟩ <;> rcases g with g | ⟨g1, g⟩
    · exact .inl (by omega)
    · exact .inl (by omega)
    · exact .inl (by omega)
    · exact .inr ⟨by omega, ltL_trans a b c h g⟩
theorem ltL_app : ∀ (p x y : List Int), ltL x y → ltL (p ++ x) (p ++ y)
  | [], _, _, h => h
  | _ :: p, x, y, h => .inr ⟨rfl, ltL_app p x y h⟩

/-- A name ahead of another, each with a sign behind it that is less than a letter. -/
theorem ltL_bytes : ∀ (s t : List UInt8) (c c' : Int) (r r' : List Int), Op.bytesLess s t = true → (∀ x ∈ t, c < (x.toNat : Int)) → ltL (s.map (fun b => (b.toNat : Int)) ++ c :: r) (t.map (fun b => (b.toNat : Int)) ++ c' :: r')
  | _, [], _, _, _, _, h, _ => by simp [Op.bytesLess] at h
  | [], y :: t, c, c', r, r', _, hl => .inl (hl y (by simp))
  | x :: s, y :: t, c, c', r, r', h, hl => by
    simp only [Op.bytesLess, Bool.or_eq_true, Bool.and_eq_true, decide_eq_true_eq, beq_iff_eq] at h
    rcases h with h | ⟨rfl, h⟩
    · have h1 : x.toNat < y.toNat := UInt8.lt_iff_toNat_lt.1 h
      exact .inl (by show (x.toNat : Int) < (y.toNat : Int); omega)
    · exact .inr ⟨rfl, ltL_bytes s t c c' r r' h (fun z hz => hl z (by simp [hz]))⟩
theorem nmB_let {s : ByteArray} (h : nmB s = true) : ∀ x ∈ s.data.toList, (2 : Int) < (x.toNat : Int) := by
  intro x hx
  simp only [nmB, Bool.and_eq_true, List.all_eq_true, decide_eq_true_eq] at h
  have := h.2 x hx
  omega
theorem cmpT_neg {a b : ByteArray} (h : cmpT a b < 0) : Op.bytesLess a.toList b.toList = true := by
  unfold cmpT at h
  by_cases h1 : Op.bytesLess a.toList b.toList = true
  · exact h1
  · rw [if_neg h1] at h
    split at h <;> omega
theorem cmpT_zero {a b : ByteArray} (h : cmpT a b = 0) : a = b := by
  unfold cmpT at h
  by_cases h1 : Op.bytesLess a.toList b.toList = true
  · rw [if_pos h1] at h; omega
  · rw [if_neg h1] at h
    by_cases h2 : (a.toList == b.toList) = true
    · have h3 := beq_iff_eq.1 h2
      rw [ByteArray.toList_eq, ByteArray.toList_eq] at h3
      exact ByteArray.ext (Array.toList_inj.1 h3)
    · rw [if_neg h2] at h; omega
theorem ltL_name {a b : ByteArray} (h : cmpT a b < 0) (hb : nmB b = true) (c c' : Int) (hc : c ≤ 2) (r r' : List Int) : ltL (bytesOf a ++ c :: r) (bytesOf b ++ c' :: r') := by
  have h1 := cmpT_neg h
  rw [ByteArray.toList_eq, ByteArray.toList_eq] at h1
  exact ltL_bytes _ _ c c' r r' h1 (fun x hx => by have := nmB_let hb x hx; omega)

/-- Tags that are good. -/
def TgOk (n : Nat) (nm vl : Nat → ByteArray) : Prop := ∀ i, i < n → nmB (nm i) = true ∧ nmB (vl i) = true
theorem goodB_tags {m : ByteArray} {n : Nat} {nm vl : Nat → ByteArray} {st : Int} (h : goodB m n nm vl st = true) : TgOk n nm vl ∧ nmB m = true := by
  simp only [goodB, goodTagsB, Bool.and_eq_true, tagsOk, List.all_eq_true, List.mem_range, tagOk] at h
  exact ⟨fun i hi => (h.1.1.2.2 i hi).1, h.1.1.1⟩

/-- The bytes of tags from the k-th on. -/
def ktf (nm vl : Nat → ByteArray) : Nat → Nat → List Int
  | 0, _ => []
  | t + 1, k => tagB (nm k) (vl k) ++ ktf nm vl t (k + 1)
theorem ktf_end (nm vl : Nat → ByteArray) : ∀ (t k : Nat), ktf nm vl (t + 1) k = ktf nm vl t k ++ tagB (nm (k + t)) (vl (k + t))
  | 0, k => by simp [ktf]
  | t + 1, k => by
    rw [ktf, ktf_end nm vl t (k + 1), ktf, List.append_assoc, show k + 1 + t = k + (t + 1) from by omega]
theorem ktags_ktf (nm vl : Nat → ByteArray) : ∀ n, ktags nm vl n = ktf nm vl n 0
  | 0 => rfl
  | n + 1 => by rw [ktags, ktags_ktf nm vl n, ktf_end, Nat.zero_add]

theorem ltL_tag {a b a' b' : ByteArray} (h : cmpTag a b a' b' < 0) (ha : nmB a' = true) (hb : nmB b' = true) (r r' : List Int) : ltL (tagB a b ++ r) (tagB a' b' ++ r') := by
  rw [cmpTag_eq] at h
  have e1 : tagB a b ++ r = [2] ++ (bytesOf a ++ 1 :: (bytesOf b ++ 0 :: r)) := by simp [tagB]
  have e2 : tagB a' b' ++ r' = [2] ++ (bytesOf a' ++ 1 :: (bytesOf b' ++ 0 :: r')) := by simp [tagB]
  rw [e1, e2]
  refine ltL_app _ _ _ ?_
  by_cases h0 : cmpT a a' = 0
  · rw [if_pos h0] at h
    obtain rfl := cmpT_zero h0
    refine ltL_app _ _ _ (.inr ⟨rfl, ?_⟩)
    exact ltL_name h hb 0 0 (by omega) _ _
  · rw [if_neg h0] at h
    exact ltL_name h ha 1 1 (by omega) _ _
theorem cmpTag_zero {a b a' b' : ByteArray} (h : cmpTag a b a' b' = 0) : tagB a b = tagB a' b' := by
  rw [cmpTag_eq] at h
  by_cases h0 : cmpT a a' = 0
  · rw [if_pos h0] at h
    rw [cmpT_zero h0, cmpT_zero h]
  · rw [if_neg h0] at h; exact absurd h h0

/-- Two lists of tags, from the k-th on. -/
theorem ltL_tags (nm vl nm' vl' : Nat → ByteArray) (n n' : Nat) (hg : TgOk n' nm' vl') (s s' : List Int) : ∀ (d k : Nat), k + d = min n n' →
    (tc (fun k => cmpTag (nm k) (vl k) (nm' k) (vl' k)) d k < 0 → ltL (ktf nm vl (n - k) k ++ 1 :: s) (ktf nm' vl' (n' - k) k ++ 1 :: s')) ∧
    (tc (fun k => cmpTag (nm k) (vl k) (nm' k) (vl' k)) d k = 0 → (n < n' → ltL (ktf nm vl (n - k) k ++ 1 :: s) (ktf nm' vl' (n' - k) k ++ 1 :: s')) ∧ (n = n' → ltL s s' → ltL (ktf nm vl (n - k) k ++ 1 :: s) (ktf nm' vl' (n' - k) k ++ 1 :: s')))
  | 0, k, hk => by
    refine ⟨fun h => by simp [tc] at h, fun _ => ⟨fun hl => ?_, fun he hs => ?_⟩⟩
    · have e1 : n - k = 0 := by omega
      obtain ⟨j, hj⟩ : ∃ j, n' - k = j + 1 := ⟨n' - k - 1, by omega⟩
      rw [e1, hj]
      simp only [ktf, List.nil_append, tagB, List.append_assoc, List.singleton_append, List.cons_append]
      exact .inl (by omega)
    · have e1 : n - k = 0 := by omega
      have e2 : n' - k = 0 := by omega
      rw [e1, e2]
      exact .inr ⟨rfl, hs⟩
  | d + 1, k, hk => by
    obtain ⟨i1, i2⟩ := ltL_tags nm vl nm' vl' n n' hg s s' d (k + 1) (by omega)
    obtain ⟨j, hj⟩ : ∃ j, n - k = j + 1 := ⟨n - k - 1, by omega⟩
    obtain ⟨j', hj'⟩ : ∃ j', n' - k = j' + 1 := ⟨n' - k - 1, by omega⟩
    rw [show n - (k + 1) = j from by omega, show n' - (k + 1) = j' from by omega] at i1 i2
    rw [hj, hj']
    simp only [ktf, List.append_assoc]
    by_cases h0 : cmpTag (nm k) (vl k) (nm' k) (vl' k) = 0
    · have et : tc (fun k => cmpTag (nm k) (vl k) (nm' k) (vl' k)) (d + 1) k = tc (fun k => cmpTag (nm k) (vl k) (nm' k) (vl' k)) d (k + 1) := by simp [tc, h0]
      rw [et, cmpTag_zero h0]
      exact ⟨fun h => ltL_app _ _ _ (i1 h), fun h => ⟨fun hl => ltL_app _ _ _ ((i2 h).1 hl), fun he hs => ltL_app _ _ _ ((i2 h).2 he hs)⟩⟩
    · have et : tc (fun k => cmpTag (nm k) (vl k) (nm' k) (vl' k)) (d + 1) k = cmpTag (nm k) (vl k) (nm' k) (vl' k) := by simp [tc, h0]
      rw [et]
      have hk' := hg k (by omega)
      exact ⟨fun h => ltL_tag h hk'.1 hk'.2 _ _, fun h => absurd h h0⟩

/-- Digits to the base 256, the highest first. -/
def dg (x : Nat) : Nat → List Int
  | 0 => []
  | j + 1 => ((x / 256 ^ j % 256 : Nat) : Int) :: dg x j
theorem dg_lt (x y : Nat) : ∀ j, x % 256 ^ j < y % 256 ^ j → ltL (dg x j) (dg y j)
  | 0, h => by simp [Nat.mod_one] at h
  | j + 1, h => by
    rw [Nat.pow_succ, Nat.mod_mul, Nat.mod_mul] at h
    have hp : 0 < 256 ^ j := Nat.pow_pos (by omega)
    have hx := Nat.mod_lt x hp
    have hy := Nat.mod_lt y hp
    show _ < _ ∨ _ = _ ∧ _
    rcases Nat.lt_trichotomy (x / 256 ^ j % 256) (y / 256 ^ j % 256) with q | q | q
    · exact .inl (by omega)
    · rw [q] at h ⊢
      exact .inr ⟨rfl, dg_lt x y j (by omega)⟩
    · exfalso
      have h1 : 256 ^ j * (y / 256 ^ j % 256 + 1) ≤ 256 ^ j * (x / 256 ^ j % 256) := Nat.mul_le_mul_left _ q
      rw [Nat.mul_add, Nat.mul_one] at h1
      omega
theorem pfl_dg (x : Nat) : pfl (x : Int) = dg x 8 := by
  have e : ∀ i : Nat, (((x / 256 ^ i % 256 : Nat)) : Int) = (x : Int) / 2 ^ (8 * i) % 256 := fun i => by
    rw [show (256 : Nat) ^ i = 2 ^ (8 * i) from by rw [Nat.pow_mul]]
    simp
  simp only [pfl, dg, e]
  simp [List.range_succ, pf]
theorem pfl_lt {a b : Int} (ha : 0 ≤ a) (hab : a < b) (hb : b ≤ 1000000000) : ltL (pfl a) (pfl b) := by
  obtain ⟨x, rfl⟩ := Int.eq_ofNat_of_zero_le ha
  obtain ⟨y, rfl⟩ := Int.eq_ofNat_of_zero_le (show 0 ≤ b by omega)
  have hp : (256 : Nat) ^ 8 = 18446744073709551616 := by decide
  rw [pfl_dg, pfl_dg]
  refine dg_lt x y 8 ?_
  rw [hp, Nat.mod_eq_of_lt (by omega), Nat.mod_eq_of_lt (by omega)]
  omega

/-- The bytes of a window's key. -/
def kbW (x : Wn) : List Int := kbytes x.m x.tn x.nm x.vl x.st
theorem kb_lt {x y : Wn} (hx : gK x = true) (hy : gK y = true) (h : kc x y < 0) : ltL (kbW x) (kbW y) := by
  have gx := goodB_tags hx
  have gy := goodB_tags hy
  have sx := goodB_st hx
  have sy := goodB_st hy
  have f : ∀ z : Wn, kbW z = bytesOf z.m ++ 0 :: (ktf z.nm z.vl (z.tn - 0) 0 ++ 1 :: pfl z.st) := fun z => by
    unfold kbW kbytes
    rw [ktags_ktf]
    simp
  rw [f x, f y]
  unfold kc keyCmp at h
  by_cases h0 : cmpT x.m y.m = 0
  rotate_left
  · have e : tc (keyC x.m y.m x.st y.st (tagsC (fun k => cmpTag (x.nm k) (x.vl k) (y.nm k) (y.vl k)) x.tn y.tn)) 3 0 = cmpT x.m y.m := by simp [tc, keyC, h0]
    rw [e] at h
    exact ltL_name h gy.2 0 0 (by omega) _ _
  rw [cmpT_zero h0]
  refine ltL_app _ _ _ (.inr ⟨rfl, ?_⟩)
  obtain ⟨i1, i2⟩ := ltL_tags x.nm x.vl y.nm y.vl x.tn y.tn gy.1 (pfl x.st) (pfl y.st) (min x.tn y.tn) 0 (by omega)
  have e1 : tc (keyC x.m y.m x.st y.st (tagsC (fun k => cmpTag (x.nm k) (x.vl k) (y.nm k) (y.vl k)) x.tn y.tn)) 3 0 = if tagsC (fun k => cmpTag (x.nm k) (x.vl k) (y.nm k) (y.vl k)) x.tn y.tn = 0 then cmpI x.st y.st else tagsC (fun k => cmpTag (x.nm k) (x.vl k) (y.nm k) (y.vl k)) x.tn y.tn := by
    by_cases ht : tagsC (fun k => cmpTag (x.nm k) (x.vl k) (y.nm k) (y.vl k)) x.tn y.tn = 0
    · rw [if_pos ht]
      simp only [tc, keyC, h0, ht, if_true, show ¬ (0 : Nat) + 1 = 0 from by omega, show (0 : Nat) + 1 = 1 from rfl, if_false]
      by_cases hs : cmpI x.st y.st = 0 <;> simp [hs]
    · rw [if_neg ht]
      simp [tc, keyC, h0, ht]
  rw [e1] at h
  by_cases hz : tc (fun k => cmpTag (x.nm k) (x.vl k) (y.nm k) (y.vl k)) (min x.tn y.tn) 0 = 0
  · rw [tagsC_zero hz] at h
    by_cases hn : cmpI x.tn y.tn = 0
    · rw [if_pos hn] at h
      have en : x.tn = y.tn := by unfold cmpI at hn; split at hn <;> (try split at hn) <;> omega
      have es : x.st < y.st := by unfold cmpI at h; split at h <;> (try split at h) <;> omega
      exact (i2 hz).2 en (pfl_lt sx.1 es sy.2)
    · rw [if_neg hn] at h
      have el : x.tn < y.tn := by unfold cmpI at h; split at h <;> (try split at h) <;> omega
      exact (i2 hz).1 el
  · rw [tagsC_some hz, if_neg hz] at h
    exact i1 h
theorem kb_rise {z : Int} {X : Nat → Wn} {n : Nat} (h : GWs z X n) : ∀ d i, i + (d + 1) < n → ltL (kbW (X i)) (kbW (X (i + (d + 1))))
  | 0, i, hi => kb_lt (h.each i (by omega)).key (h.each (i + 1) hi).key (h.rise i hi)
  | d + 1, i, hi => ltL_trans _ _ _ (kb_rise h d i (by omega)) (kb_lt (h.each (i + (d + 1)) (by omega)).key (h.each _ hi).key (h.rise (i + (d + 1)) hi))
theorem kb_ne {z : Int} {X : Nat → Wn} {n : Nat} (h : GWs z X n) {i j : Nat} (hi : i < n) (hj : j < n) (hne : i ≠ j) : kbW (X i) ≠ kbW (X j) := by
  intro e
  rcases Nat.lt_or_gt_of_ne hne with q | q
  · have := kb_rise h (j - i - 1) i (by omega)
    rw [show i + (j - i - 1 + 1) = j from by omega, e] at this
    exact ltL_irr _ this
  · have := kb_rise h (i - j - 1) j (by omega)
    rw [show j + (i - j - 1 + 1) = i from by omega, e] at this
    exact ltL_irr _ this
end Go.Proofs.Ytjdijikmdlklkaa
