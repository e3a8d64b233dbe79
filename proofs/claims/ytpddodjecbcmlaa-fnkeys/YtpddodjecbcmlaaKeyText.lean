/- A key's bytes, the model's text. -/
import Derived.Test.YtpddodjecbcmlaaGoodKeys
import Derived.Test.YtpddodjecbcmlaaKeyAt
import Derived.Test.YtpddodjecbcmlaaPutFixed
import Derived.Laws.BytesArg
namespace Go.Proofs.Ytpddodjecbcmlaa
open Go.RowKit
set_option linter.unusedSimpArgs false
set_option linter.unusedVariables false

def bytesOf (s : ByteArray) : List Int := s.data.toList.map fun b => (b.toNat : Int)
theorem bytesOf_append (a b : ByteArray) : bytesOf (a ++ b) = bytesOf a ++ bytesOf b := by
  simp [bytesOf, ByteArray.data_append]
theorem bytesOf_len (s : ByteArray) : (bytesOf s).length = s.size := by simp [bytesOf]
theorem one_size (c : UInt8) : (⟨#[c]⟩ : ByteArray).size = 1 := rfl
theorem bytesOf_bd (s : ByteArray) : ∀ z ∈ bytesOf s, 0 ≤ z ∧ z ≤ 255 := by
  intro z hz
  simp only [bytesOf, List.mem_map] at hz
  obtain ⟨b, _, rfl⟩ := hz
  have := b.toNat_lt
  omega
theorem bytesOf_nums (l : List Int) (h : ∀ z ∈ l, 0 ≤ z ∧ z ≤ 255) : bytesOf (strOfNums l) = l := by
  simp only [bytesOf, strOfNums, List.map_map]
  conv => rhs; rw [← List.map_id l]
  refine List.map_congr_left fun z hz => ?_
  have := h z hz
  simp only [Function.comp, id, UInt8.toNat_ofNat']
  omega

def tagB (a b : ByteArray) : List Int := [2] ++ bytesOf a ++ [1] ++ bytesOf b ++ [0]
def ktags (nm vl : Nat → ByteArray) : Nat → List Int
  | 0 => []
  | k + 1 => ktags nm vl k ++ tagB (nm k) (vl k)
def pfl (st : Int) : List Int := (List.range 8).map (pf st 8)
/-- The bytes of a key. -/
def kbytes (m : ByteArray) (n : Nat) (nm vl : Nat → ByteArray) (st : Int) : List Int := bytesOf m ++ [0] ++ ktags nm vl n ++ [1] ++ pfl st
theorem tagB_len (a b : ByteArray) : (tagB a b).length = a.size + b.size + 3 := by simp [tagB, bytesOf_len]; omega
theorem ktags_len {n : Nat} {nm vl : Nat → ByteArray} (hs : TSize n nm vl 12) (k : Nat) (hk : k ≤ n) : (ktags nm vl k).length ≤ 27 * k := by
  induction k with
  | zero => simp [ktags]
  | succ k ih =>
    have := hs k (by omega)
    have := ih (by omega)
    simp only [ktags, List.length_append, tagB_len]
    omega
theorem kbytes_len {m : ByteArray} {n : Nat} {nm vl : Nat → ByteArray} {st : Int} (hm : m.size ≤ 12) (hn : n ≤ 4) (hs : TSize n nm vl 12) : (kbytes m n nm vl st).length ≤ 130 := by
  have := ktags_len hs n (Nat.le_refl _)
  simp only [kbytes, pfl, List.length_append, bytesOf_len, List.length_map, List.length_range, List.length_singleton]
  omega
theorem kbytes_pos {m : ByteArray} {n : Nat} {nm vl : Nat → ByteArray} {st : Int} : 0 < (kbytes m n nm vl st).length := by
  simp only [kbytes, pfl, List.length_append, List.length_map, List.length_range, List.length_singleton]
  omega
theorem tagB_bd (a b : ByteArray) : ∀ z ∈ tagB a b, 0 ≤ z ∧ z ≤ 255 := by
  intro z hz
  simp only [tagB, List.mem_append, List.mem_singleton] at hz
  rcases hz with (((rfl | h) | rfl) | h) | rfl
  · omega
  · exact bytesOf_bd _ z h
  · omega
  · exact bytesOf_bd _ z h
  · omega
theorem ktags_bd (nm vl : Nat → ByteArray) (k : Nat) : ∀ z ∈ ktags nm vl k, 0 ≤ z ∧ z ≤ 255 := by
  induction k with
  | zero => intro z hz; simp [ktags] at hz
  | succ k ih =>
    intro z hz
    simp only [ktags, List.mem_append] at hz
    exact hz.elim (ih z) (tagB_bd _ _ z)
theorem pfl_bd (st : Int) : ∀ z ∈ pfl st, 0 ≤ z ∧ z ≤ 255 := by
  intro z hz
  simp only [pfl, List.mem_map] at hz
  obtain ⟨i, _, rfl⟩ := hz
  exact pf_bd _ _ _
theorem kbytes_bd (m : ByteArray) (n : Nat) (nm vl : Nat → ByteArray) (st : Int) : ∀ z ∈ kbytes m n nm vl st, 0 ≤ z ∧ z ≤ 255 := by
  intro z hz
  simp only [kbytes, List.mem_append, List.mem_singleton] at hz
  rcases hz with (((h | rfl) | h) | rfl) | h
  · exact bytesOf_bd _ z h
  · omega
  · exact ktags_bd _ _ _ z h
  · omega
  · exact pfl_bd _ z h
def lf (l : List Int) (i : Nat) : Int := l.getD i 0
theorem lf_bd {l : List Int} (h : ∀ z ∈ l, 0 ≤ z ∧ z ≤ 255) (i : Nat) : 0 ≤ lf l i ∧ lf l i ≤ 255 := by
  unfold lf
  by_cases hi : i < l.length
  · rw [List.getD_eq_getElem?_getD, List.getElem?_eq_getElem hi]; exact h _ (List.getElem_mem hi)
  · rw [List.getD_eq_getElem?_getD, List.getElem?_eq_none (by omega)]; simp

/-- What a KeyBytes leaves of a good key. -/
def KBOut (l : List Int) (w : World) (e : Ending) (w' : World) : Prop :=
  ∃ g cap, e = .returned (.tuple #[.slice (some ⟨g, 0, none⟩) l.length cap, .bool true]) ∧ l.length ≤ cap ∧ w.heap.size ≤ g ∧ Own w' g 0 l.length (lf l) ∧ Below w.heap.size w w'

theorem goodB_sizes {m : ByteArray} {n : Nat} {nm vl : Nat → ByteArray} {st : Int} (h : goodB m n nm vl st = true) : m.size ≤ 12 ∧ n ≤ 4 ∧ TSize n nm vl 12 ∧ 0 ≤ st ∧ st ≤ 1000000000 := by
  simp only [goodB, goodTagsB, Bool.and_eq_true, decide_eq_true_eq] at h
  refine ⟨(nmB_size h.1.1.1).2, h.1.1.2.1, fun i hi => ?_, h.1.2, h.2⟩
  have ht := h.1.1.2.2
  unfold tagsOk at ht
  rw [List.all_eq_true] at ht
  have := ht i (List.mem_range.2 hi)
  simp only [tagOk, Bool.and_eq_true] at this
  exact ⟨(nmB_size this.1.1).2, (nmB_size this.1.2).2⟩

theorem bytesRow_cell (s : ByteArray) (cap i : Nat) (hi : i < s.size) : (bytesRow s cap)[i]? = some (.int .u8 (lf (bytesOf s) i)) := by
  have h1 : i < (s.data.map (fun b => Value.int .u8 b.toNat)).size := by simpa using hi
  unfold bytesRow
  rw [Array.getElem?_append_left h1]
  have hi' : i < s.data.size := hi
  simp [lf, bytesOf, Array.getElem?_eq_getElem hi']

end Go.Proofs.Ytpddodjecbcmlaa
