/- Keys read from their bytes: what must lie where. -/
import Derived.Test.YtpddodjecbcmlaaKeyText
import Derived.Test.YtpddodjecbcmlaaReadFixed
namespace Go.Proofs.Ytpddodjecbcmlaa
open Go.RowKit
set_option linter.unusedSimpArgs false
set_option linter.unusedVariables false

/-- The bytes f 0 .. are those of this good key, N of them. -/
structure IsKey (f : Nat → Int) (N : Nat) (m : ByteArray) (n : Nat) (nm vl : Nat → ByteArray) (st : Int) : Prop where
  good : goodB m n nm vl st = true
  len : (kbytes m n nm vl st).length = N
  byte : ∀ i (h : i < (kbytes m n nm vl st).length), f i = (kbytes m n nm vl st)[i]

/-- j is where x stands first from q on, or N. -/
structure Find (f : Nat → Int) (N q : Nat) (x : Int) (j : Nat) : Prop where
  ge : q ≤ j
  le : j ≤ N
  no : ∀ i, q ≤ i → i < j → f i ≠ x
  hit : j < N → f j = x

def Seg (f : Nat → Int) (q : Nat) (a : List Int) : Prop := ∀ i (h : i < a.length), f (q + i) = a[i]
theorem Seg.left {f : Nat → Int} {q : Nat} {a b : List Int} (h : Seg f q (a ++ b)) : Seg f q a := fun i hi => by
  rw [h i (by simp; omega), List.getElem_append_left hi]
theorem Seg.right {f : Nat → Int} {q : Nat} {a b : List Int} (h : Seg f q (a ++ b)) : Seg f (q + a.length) b := fun i hi => by
  rw [Nat.add_assoc, h (a.length + i) (by simp; omega), List.getElem_append_right (by omega)]
  simp
theorem Seg.head {f : Nat → Int} {q : Nat} {x : Int} {b : List Int} (h : Seg f q ([x] ++ b)) : f q = x := by
  have := h 0 (by simp)
  simpa using this
theorem Seg.find {f : Nat → Int} {N q j : Nat} {x : Int} {a : List Int} (h : Seg f q (a ++ [x])) (hN : q + a.length < N) (ha : ∀ z ∈ a, z ≠ x) (hf : Find f N q x j) : j = q + a.length := by
  rcases Nat.lt_trichotomy j (q + a.length) with e | e | e
  · have h1 := hf.hit (by omega)
    have h2 := hf.ge
    have h3 := h.left (j - q) (by omega)
    rw [show q + (j - q) = j from by omega, h1] at h3
    exact absurd h3.symm (ha _ (List.getElem_mem _))
  · exact e
  · have h1 := hf.no (q + a.length) (by omega) e
    exact absurd h.right.head h1
/-- The text of the bytes from q up to j. -/
def str (f : Nat → Int) (q j : Nat) : ByteArray := strOfNums ((List.range (j - q)).map fun i => f (q + i))
theorem strOfNums_bytesOf (s : ByteArray) : strOfNums (bytesOf s) = s := by
  have : (bytesOf s).map (fun n => UInt8.ofNat n.toNat) = s.data.toList := by
    simp only [bytesOf, List.map_map]
    conv => rhs; rw [← List.map_id s.data.toList]
    refine List.map_congr_left fun b _ => ?_
    simp
  simp only [strOfNums, this]
theorem str_seg {f : Nat → Int} {q : Nat} {s : ByteArray} (h : Seg f q (bytesOf s)) : str f q (q + s.size) = s := by
  unfold str
  rw [show q + s.size - q = s.size from by omega]
  have : (List.range s.size).map (fun i => f (q + i)) = bytesOf s := by
    apply List.ext_getElem
    · simp [bytesOf_len]
    · intro i h1 h2
      simp only [List.getElem_map, List.getElem_range]
      exact h i h2
  rw [this, strOfNums_bytesOf]
theorem seg_str {f : Nat → Int} (hf : ∀ i, 0 ≤ f i ∧ f i ≤ 255) (q j : Nat) : Seg f q (bytesOf (str f q j)) := fun i hi => by
  have e : bytesOf (str f q j) = (List.range (j - q)).map fun i => f (q + i) := bytesOf_nums _ (fun z hz => by
    simp only [List.mem_map] at hz
    obtain ⟨k, _, rfl⟩ := hz
    exact hf _)
  simp only [e, List.getElem_map, List.getElem_range]
theorem str_size (f : Nat → Int) (q j : Nat) : (str f q j).size = j - q := by
  show ((List.map (fun n : Int => UInt8.ofNat n.toNat) ((List.range (j - q)).map fun i => f (q + i))).toArray).size = j - q
  simp
theorem nmB_bytes {s : ByteArray} (h : nmB s = true) : ∀ z ∈ bytesOf s, 65 ≤ z := by
  intro z hz
  simp only [bytesOf, List.mem_map] at hz
  obtain ⟨b, hb, rfl⟩ := hz
  simp only [nmB, Bool.and_eq_true, List.all_eq_true] at h
  have := of_decide_eq_true (h.2 b hb)
  omega

/-- The bytes ahead of tag k, and from it on. -/
def kpre (m : ByteArray) (nm vl : Nat → ByteArray) (k : Nat) : List Int := bytesOf m ++ [0] ++ ktags nm vl k
def ktail (nm vl : Nat → ByteArray) : Nat → Nat → List Int
  | _, 0 => []
  | k, t + 1 => tagB (nm k) (vl k) ++ ktail nm vl (k + 1) t
theorem ktags_tail (nm vl : Nat → ByteArray) : ∀ (t k : Nat), ktags nm vl (k + t) = ktags nm vl k ++ ktail nm vl k t
  | 0, k => by simp [ktail]
  | t + 1, k => by
    rw [show k + (t + 1) = (k + 1) + t from by omega, ktags_tail nm vl t (k + 1)]
    simp [ktags, ktail]
theorem kbytes_split (m : ByteArray) (n : Nat) (nm vl : Nat → ByteArray) (st : Int) (k : Nat) (hk : k ≤ n) : kbytes m n nm vl st = kpre m nm vl k ++ (ktail nm vl k (n - k) ++ [1] ++ pfl st) := by
  unfold kbytes kpre
  rw [show n = k + (n - k) from by omega, ktags_tail nm vl (n - k) k]
  simp

section
variable {f : Nat → Int} {N : Nat} {m : ByteArray} {n : Nat} {nm vl : Nat → ByteArray} {st : Int}

theorem IsKey.seg (h : IsKey f N m n nm vl st) : Seg f 0 (kbytes m n nm vl st) := fun i hi => by rw [Nat.zero_add]; exact h.byte i hi
theorem IsKey.at (h : IsKey f N m n nm vl st) (k : Nat) (hk : k ≤ n) : Seg f (kpre m nm vl k).length (ktail nm vl k (n - k) ++ [1] ++ pfl st) ∧ (kpre m nm vl k).length + (ktail nm vl k (n - k) ++ [1] ++ pfl st).length = N := by
  have e := kbytes_split m n nm vl st k hk
  have s := h.seg
  rw [e] at s
  have l := h.len
  rw [e, List.length_append] at l
  refine ⟨?_, l⟩
  have := s.right
  rwa [Nat.zero_add] at this
theorem IsKey.tag (h : IsKey f N m n nm vl st) (k : Nat) (hk : k < n) : nmB (nm k) = true ∧ nmB (vl k) = true := by
  have hg := h.good
  simp only [goodB, goodTagsB, Bool.and_eq_true] at hg
  have ht := hg.1.1.2.2
  unfold tagsOk at ht
  rw [List.all_eq_true] at ht
  have := ht k (List.mem_range.2 hk)
  simp only [tagOk, Bool.and_eq_true] at this
  exact ⟨this.1.1, this.1.2⟩
theorem IsKey.metric (h : IsKey f N m n nm vl st) : nmB m = true := by
  have hg := h.good
  simp only [goodB, Bool.and_eq_true] at hg
  exact hg.1.1.1
/-- The metric ends at the first byte 0. -/
theorem IsKey.first (h : IsKey f N m n nm vl st) {j : Nat} (hf : Find f N 0 0 j) : j = m.size ∧ j < N ∧ str f 0 j = m ∧ (kpre m nm vl 0).length = j + 1 := by
  have s : Seg f 0 (bytesOf m ++ ([0] ++ (ktags nm vl n ++ [1] ++ pfl st))) := by have := h.seg; unfold kbytes at this; simpa [List.append_assoc] using this
  have hl := h.len
  unfold kbytes at hl
  simp [bytesOf_len] at hl
  have hN : 0 + (bytesOf m).length < N := by rw [bytesOf_len]; omega
  have s2 : Seg f 0 (bytesOf m ++ [0]) := by
    have : Seg f 0 ((bytesOf m ++ [0]) ++ (ktags nm vl n ++ [1] ++ pfl st)) := by simpa [List.append_assoc] using s
    exact this.left
  have e := s2.find hN (fun z hz => by have := nmB_bytes h.metric z hz; omega) hf
  rw [bytesOf_len, Nat.zero_add] at e
  subst e
  refine ⟨rfl, by rw [bytesOf_len] at hN; omega, ?_, by simp [kpre, ktags, bytesOf_len]⟩
  have := str_seg s2.left
  rwa [Nat.zero_add] at this
/-- Where a tag begins. -/
theorem IsKey.next (h : IsKey f N m n nm vl st) (k : Nat) (hk : k < n) (q : Nat) (hq : q = (kpre m nm vl k).length) :
    q < N ∧ f q = 2 ∧ (∀ j, Find f N (q + 1) 1 j → j = q + 1 + (nm k).size ∧ j < N ∧ f j = 1 ∧ str f (q + 1) j = nm k ∧ ∀ j2, Find f N (j + 1) 0 j2 → j2 = j + 1 + (vl k).size ∧ j2 < N ∧ str f (j + 1) j2 = vl k ∧ (kpre m nm vl (k + 1)).length = j2 + 1) := by
  obtain ⟨s, hl⟩ := h.at k (by omega)
  rw [← hq] at s hl
  rw [show n - k = (n - k - 1) + 1 from by omega] at s hl
  simp only [ktail, tagB] at s hl
  have s0 : Seg f q ([2] ++ (bytesOf (nm k) ++ [1] ++ (bytesOf (vl k) ++ [0] ++ (ktail nm vl (k + 1) (n - k - 1) ++ [1] ++ pfl st)))) := by simpa [List.append_assoc] using s
  simp [bytesOf_len] at hl
  obtain ⟨g1, g2⟩ := h.tag k hk
  have sr := s0.right
  simp only [List.length_singleton] at sr
  refine ⟨by omega, s0.head, fun j hf => ?_⟩
  have e := sr.left.find (by rw [bytesOf_len]; omega) (fun z hz => by have := nmB_bytes g1 z hz; omega) hf
  rw [bytesOf_len] at e
  have hj := hf.hit (by omega)
  subst e
  refine ⟨rfl, by omega, hj, str_seg sr.left.left, fun j2 hf2 => ?_⟩
  have sr2 := sr.right
  simp only [List.length_append, bytesOf_len, List.length_singleton] at sr2
  rw [← Nat.add_assoc] at sr2
  have e2 := sr2.left.find (by rw [bytesOf_len]; omega) (fun z hz => by have := nmB_bytes g2 z hz; omega) hf2
  rw [bytesOf_len] at e2
  subst e2
  refine ⟨rfl, by omega, str_seg sr2.left.left, ?_⟩
  have : (kpre m nm vl (k + 1)).length = (kpre m nm vl k).length + (tagB (nm k) (vl k)).length := by simp [kpre, ktags]; omega
  rw [this, ← hq, tagB_len]
  omega
/-- Where no tag is left. -/
theorem IsKey.last (h : IsKey f N m n nm vl st) (q : Nat) (hq : q = (kpre m nm vl n).length) : q + 9 = N ∧ f q = 1 ∧ Seg f (q + 1) (pfl st) := by
  obtain ⟨s, hl⟩ := h.at n (Nat.le_refl _)
  rw [← hq] at s hl
  simp only [Nat.sub_self, ktail, List.nil_append] at s hl
  refine ⟨by simp [pfl] at hl; omega, s.head, ?_⟩
  have := s.right
  simpa using this
end

theorem num8 (f : Nat → Int) (q : Nat) : num f q 8 = f q * 72057594037927936 + f (q + 1) * 281474976710656 + f (q + 2) * 1099511627776 + f (q + 3) * 4294967296 + f (q + 4) * 16777216 + f (q + 5) * 65536 + f (q + 6) * 256 + f (q + 7) := by
  simp only [num, Nat.add_zero]
  omega
theorem pfl_get (st : Int) (i : Nat) (hi : i < (pfl st).length) : (pfl st)[i] = st / 2 ^ (8 * (7 - i)) % 256 := by
  simp [pfl, pf]
theorem num_seg {f : Nat → Int} {q : Nat} {st : Int} (h : Seg f q (pfl st)) (hst : 0 ≤ st ∧ st ≤ 1000000000) : num f q 8 = st := by
  have hl : (pfl st).length = 8 := by simp [pfl]
  have g : ∀ i, i < 8 → f (q + i) = st / 2 ^ (8 * (7 - i)) % 256 := fun i hi => by rw [h i (by omega), pfl_get]
  have g0 := g 0 (by omega)
  have g1 := g 1 (by omega)
  have g2 := g 2 (by omega)
  have g3 := g 3 (by omega)
  have g4 := g 4 (by omega)
  have g5 := g 5 (by omega)
  have g6 := g 6 (by omega)
  have g7 := g 7 (by omega)
  simp at g0 g1 g2 g3 g4 g5 g6 g7
  rw [num8, g0, g1, g2, g3, g4, g5, g6, g7]
  omega
theorem seg_num {f : Nat → Int} (hf : ∀ i, 0 ≤ f i ∧ f i ≤ 255) (q : Nat) : Seg f q (pfl (num f q 8)) := fun i hi => by
  have hl : (pfl (num f q 8)).length = 8 := by simp [pfl]
  rw [pfl_get, num8]
  have h0 := hf q
  have h1 := hf (q + 1)
  have h2 := hf (q + 2)
  have h3 := hf (q + 3)
  have h4 := hf (q + 4)
  have h5 := hf (q + 5)
  have h6 := hf (q + 6)
  have h7 := hf (q + 7)
  rcases (show i = 0 ∨ i = 1 ∨ i = 2 ∨ i = 3 ∨ i = 4 ∨ i = 5 ∨ i = 6 ∨ i = 7 by omega) with rfl | rfl | rfl | rfl | rfl | rfl | rfl | rfl
  all_goals (simp; omega)
end Go.Proofs.Ytpddodjecbcmlaa
