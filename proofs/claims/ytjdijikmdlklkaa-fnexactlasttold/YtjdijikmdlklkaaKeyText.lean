/- Bytes: copied, compared, marks looked for. / Bytes that the call itself gathers by append. / Arrays of bytes: a slice cut out of one by a third index; a new one's cells. / Numbers of fixed length: what PutFixed lays. / A key's bytes, the model's text. -/
import Derived.Test.YtjdijikmdlklkaaIn
import Derived.OpenShut
import Derived.Test.YtjdijikmdlklkaaGoodKeys
import Derived.Test.YtjdijikmdlklkaaCompareF
import Derived.Laws.BytesArg
namespace Go.Proofs.Ytjdijikmdlklkaa
open Go.RowKit
set_option linter.unusedSimpArgs false
set_option linter.unusedVariables false

theorem Try.info5 : (Try.prog.info? 5).map (fun i => (i.zero, i.size, i.bytes)) = some (some (.int .u8 0), 1, 1) := by kernel_rfl

theorem own_of_made {w : World} {base g n : Nat} (h : w.ownsRow base 5 1 (.slice (some ⟨g, 0, none⟩) n n) n (madeCells (Value.int .u8 0).cells (n * 1)).toList) (hlt : g < w.heap.size) : Own w g 0 n (fun _ => 0) := by
  refine ⟨fun _ => by omega, hlt, fun i hi => ?_, fun i _ => by simpa using h.frozenAt i⟩
  have := h.cellAt i (by omega)
  rw [Nat.zero_add, this]
  simp only [Value.cells, toList_madeCells_one]
  rw [List.getElem?_replicate]
  simp [hi]

end Go.Proofs.Ytjdijikmdlklkaa
namespace Go.Proofs.Ytjdijikmdlklkaa
open Go.RowKit

/-- The bytes f 0 .. f (n - 1) as cells. -/
def bcells (f : Nat → Int) (n : Nat) : List Value := (List.range n).map fun i => Value.int .u8 (f i)
theorem bcells_zero (f : Nat → Int) : bcells f 0 = [] := rfl
theorem bcells_succ (f : Nat → Int) (n : Nat) : bcells f n ++ [Value.int .u8 (f n)] = bcells f (n + 1) := by
  simp [bcells, List.range_succ]
theorem bcells_congr {f g : Nat → Int} {n : Nat} (h : ∀ i, i < n → f i = g i) : bcells f n = bcells g n := by
  unfold bcells
  refine List.map_congr_left fun i hi => ?_
  rw [h i (List.mem_range.1 hi)]

theorem own_of_row {w : World} {base n : Nat} {v : Value} {f : Nat → Int} (h : w.ownsRow base 5 1 v n (bcells f n)) (hn : 0 < n) (hb : ∀ i, 0 ≤ f i ∧ f i ≤ 255) :
    ∃ g cap, v = .slice (some ⟨g, 0, none⟩) n cap ∧ base ≤ g ∧ n ≤ cap ∧ Own w g 0 n f := by
  rcases h.2 with ⟨_, h0⟩ | ⟨g, cap, cur, rfl, hbg, hg, hnc, _⟩
  · omega
  · refine ⟨g, cap, rfl, hbg, hnc, hb, (Array.getElem?_eq_some_iff.1 hg).1, fun i hi => ?_, fun i _ => by simpa using h.frozenAt i⟩
    rw [Nat.zero_add, h.cellAt i (by omega)]
    simp [bcells, hi]

theorem below_append {B : Nat} {w wr w' : World} {base n : Nat} {v : Value} {xs : List Value} (hb : Below B w wr) (ho : wr.ownsRow base 5 1 v n xs) (hg : wr.grownBy w' v.ownBlock) (hB : B ≤ base) (hs : B ≤ wr.heap.size) : Below B w w' := by
  refine hb.grown hg hs fun k hk => ?_
  rcases ho.2 with ⟨rfl, _⟩ | ⟨g, cap, cur, rfl, hbg, _⟩
  · simp [Value.ownBlock] at hk
  · simp [Value.ownBlock] at hk; omega

end Go.Proofs.Ytjdijikmdlklkaa
namespace Go.Proofs.Ytjdijikmdlklkaa
open Go.RowKit
set_option linter.unusedSimpArgs false
set_option linter.unusedVariables false

theorem slice_arr_hm (t len : Nat) (ht : Try.prog.underlying t = some (.array len 5)) (a : Addr) (H : Int) (h : Nat) (eh : H = (h : Int)) (hl : h ≤ len) (w : World) :
    (Instr.sliceAt t (.pointer (some a)) none (some (.int .i64 H)) (some (.int .i64 H))).run Try.prog w = .ok (.slice (some a) h h) w := by
  obtain ⟨i0, hi, hz0, hz1, hz2⟩ := info_parts Try.info5
  subst eh
  have e1 : (0 : Int) ≤ (h : Int) := by omega
  have e2 : ¬ (len : Int) < (h : Int) := by omega
  simp [Instr.sliceAt, Instr.sureAddr, run_underlying ht, Instr.sliceBounds, run_sliceBound, sizeOf, typeInfo, hi, hz1, hl, e1, e2, Addr.add]
theorem slice_arr_lhm (t len : Nat) (ht : Try.prog.underlying t = some (.array len 5)) (a : Addr) (L H : Int) (l h : Nat) (el : L = (l : Int)) (eh : H = (h : Int)) (hlh : l < h) (hl : h ≤ len) (w : World) :
    (Instr.sliceAt t (.pointer (some a)) (some (.int .i64 L)) (some (.int .i64 H)) (some (.int .i64 H))).run Try.prog w = .ok (.slice (some (a.add l)) (h - l) (h - l)) w := by
  obtain ⟨i0, hi, hz0, hz1, hz2⟩ := info_parts Try.info5
  subst eh
  subst el
  have e0 : (0 : Int) ≤ (l : Int) := by omega
  have e1 : (0 : Int) ≤ (h : Int) := by omega
  have e2 : ¬ (len : Int) < (h : Int) := by omega
  have e3 : ¬ (h : Int) < (l : Int) := by omega
  have e4 : ¬ h = l := by omega
  simp [Instr.sliceAt, Instr.sureAddr, run_underlying ht, Instr.sliceBounds, run_sliceBound, sizeOf, typeInfo, hi, hz1, hl, e0, e1, e2, e3, e4, Nat.le_of_lt hlh]

theorem own_new (w : World) (n : Nat) (cs : Array Value) (T : Nat) (hs : cs.toList = List.replicate n (Value.int .u8 0)) : Own (w.alloc (.cells cs T)) w.heap.size 0 n (fun _ => 0) := by
  have hsz : cs.size = n := by rw [← Array.length_toList, hs]; simp
  have hh : (w.alloc (.cells cs T)).heap[w.heap.size]? = some (.cells cs T (0, 0)) := heap_alloc_new w _
  refine ⟨fun _ => by omega, by simp, fun i hi => ?_, fun i _ => frozen_of_row _ _ _ _ _ hh⟩
  rw [cell_of_row _ _ _ _ _ _ hh, Nat.zero_add, ← Array.getElem?_toList, hs]
  simp [hi]

end Go.Proofs.Ytjdijikmdlklkaa
namespace Go.Proofs.Ytjdijikmdlklkaa
open Go.RowKit
set_option linter.unusedSimpArgs false
set_option linter.unusedVariables false

/-- The byte at place i of m bytes of n. -/
def pf (n : Int) (m i : Nat) : Int := n / 2 ^ (8 * (m - 1 - i)) % 256
theorem pf_bd (n : Int) (m i : Nat) : 0 ≤ pf n m i ∧ pf n m i ≤ 255 := by unfold pf; omega
theorem pf_tail (n : Int) (m i : Nat) (hm : m ≤ 8) (hi : i < m) : pf n 8 (8 - m + i) = pf n m i := by
  unfold pf; rw [show 8 - 1 - (8 - m + i) = m - 1 - i from by omega]

/-- What PutFixed takes. -/
def PFGood (n a : Int) : Prop := 0 ≤ n ∧ 1 ≤ a ∧ a ≤ 8 ∧ n / 2 ^ (8 * a.toNat) = 0

def FixOut (n : Int) (m : Nat) (w : World) (e : Ending) (w' : World) : Prop :=
  ∃ g off cap, e = .returned (.tuple #[.slice (some ⟨g, off, none⟩) m cap, .bool true]) ∧ w.heap.size ≤ g ∧ Own w' g off m (pf n m) ∧ Below w.heap.size w w'

theorem slice_arr_tail (t len : Nat) (ht : Try.prog.underlying t = some (.array len 5)) (b : Nat) (L H : Int) (l h : Nat) (el : L = (l : Int)) (eh : H = (h : Int)) (hlh : l < h) (hl : h ≤ len) (w : World) :
    (Instr.sliceAt t (.pointer (some ⟨b, 0, none⟩)) (some (.int .i64 L)) (some (.int .i64 H)) (some (.int .i64 H))).run Try.prog w = .ok (.slice (some ⟨b, l, none⟩) (h - l) (h - l)) w := by
  rw [slice_arr_lhm t len ht ⟨b, 0, none⟩ L H l h el eh hlh hl w]
  by_cases h0 : l = 0
  · subst h0; simp [Addr.add]
  · simp [Addr.add, h0]

end Go.Proofs.Ytjdijikmdlklkaa
namespace Go.Proofs.Ytjdijikmdlklkaa
open Go.RowKit
set_option linter.unusedSimpArgs false
set_option linter.unusedVariables false

def bytesOf (s : ByteArray) : List Int := s.data.toList.map fun b => (b.toNat : Int)
theorem bytesOf_append (a b : ByteArray) : bytesOf (a ++ b) = bytesOf a ++ bytesOf b := by
  simp [bytesOf, ByteArray.data_append]
theorem bytesOf_len (s : ByteArray) : (bytesOf s).length = s.size := by simp [bytesOf]
theorem one_size (c : UInt8) : (⟨#[c]⟩ : ByteArray).size = 1 := rfl
theorem bytesOf_bd (s : ByteArray) : ∀ z ∈ bytesOf s, 0 ≤ z ∧ z ≤ 255 := by
  intro z hz
  simp only [bytesOf, List.mem_map] at hz
  obtain ⟨b, _, rfl⟩ := hz
  have := b.toNat_lt
  omega
theorem bytesOf_nums (l : List Int) (h : ∀ z ∈ l, 0 ≤ z ∧ z ≤ 255) : bytesOf (strOfNums l) = l := by
  simp only [bytesOf, strOfNums, List.map_map]
  conv => rhs; rw [← List.map_id l]
  refine List.map_congr_left fun z hz => ?_
  have := h z hz
  simp only [Function.comp, id, UInt8.toNat_ofNat']
  omega

def tagB (a b : ByteArray) : List Int := [2] ++ bytesOf a ++ [1] ++ bytesOf b ++ [0]
def ktags (nm vl : Nat → ByteArray) : Nat → List Int
  | 0 => []
  | k + 1 => ktags nm vl k ++ tagB (nm k) (vl k)
def pfl (st : Int) : List Int := (List.range 8).map (pf st 8)
/-- The bytes of a key. -/
def kbytes (m : ByteArray) (n : Nat) (nm vl : Nat → ByteArray) (st : Int) : List Int := bytesOf m ++ [0] ++ ktags nm vl n ++ [1] ++ pfl st
theorem tagB_len (a b : ByteArray) : (tagB a b).length = a.size + b.size + 3 := by simp [tagB, bytesOf_len]; omega
theorem ktags_len {n : Nat} {nm vl : Nat → ByteArray} (hs : TSize n nm vl 12) (k : Nat) (hk : k ≤ n) : (ktags nm vl k).length ≤ 27 * k := by
  induction k with
  | zero => simp [ktags]
  | succ k ih =>
    have := hs k (by omega)
    have := ih (by omega)
    simp only [ktags, List.length_append, tagB_len]
    omega
theorem kbytes_len {m : ByteArray} {n : Nat} {nm vl : Nat → ByteArray} {st : Int} (hm : m.size ≤ 12) (hn : n ≤ 4) (hs : TSize n nm vl 12) : (kbytes m n nm vl st).length ≤ 130 := by
  have := ktags_len hs n (Nat.le_refl _)
  simp only [kbytes, pfl, List.length_append, bytesOf_len, List.length_map, List.length_range, List.length_singleton]
  omega
theorem kbytes_pos {m : ByteArray} {n : Nat} {nm vl : Nat → ByteArray} {st : Int} : 0 < (kbytes m n nm vl st).length := by
  simp only [kbytes, pfl, List.length_append, List.length_map, List.length_range, List.length_singleton]
  omega
theorem tagB_bd (a b : ByteArray) : ∀ z ∈ tagB a b, 0 ≤ z ∧ z ≤ 255 := by
  intro z hz
  simp only [tagB, List.mem_append, List.mem_singleton] at hz
  rcases hz with (((rfl | h) | rfl) | h) | rfl
  · omega
  · exact bytesOf_bd _ z h
  · omega
  · exact bytesOf_bd _ z h
  · omega
theorem ktags_bd (nm vl : Nat → ByteArray) (k : Nat) : ∀ z ∈ ktags nm vl k, 0 ≤ z ∧ z ≤ 255 := by
  induction k with
  | zero => intro z hz; simp [ktags] at hz
  | succ k ih =>
    intro z hz
    simp only [ktags, List.mem_append] at hz
    exact hz.elim (ih z) (tagB_bd _ _ z)
theorem pfl_bd (st : Int) : ∀ z ∈ pfl st, 0 ≤ z ∧ z ≤ 255 := by
  intro z hz
  simp only [pfl, List.mem_map] at hz
  obtain ⟨i, _, rfl⟩ := hz
  exact pf_bd _ _ _
theorem kbytes_bd (m : ByteArray) (n : Nat) (nm vl : Nat → ByteArray) (st : Int) : ∀ z ∈ kbytes m n nm vl st, 0 ≤ z ∧ z ≤ 255 := by
  intro z hz
  simp only [kbytes, List.mem_append, List.mem_singleton] at hz
  rcases hz with (((h | rfl) | h) | rfl) | h
  · exact bytesOf_bd _ z h
  · omega
  · exact ktags_bd _ _ _ z h
  · omega
  · exact pfl_bd _ z h
def lf (l : List Int) (i : Nat) : Int := l.getD i 0
theorem lf_bd {l : List Int} (h : ∀ z ∈ l, 0 ≤ z ∧ z ≤ 255) (i : Nat) : 0 ≤ lf l i ∧ lf l i ≤ 255 := by
  unfold lf
  by_cases hi : i < l.length
  · rw [List.getD_eq_getElem?_getD, List.getElem?_eq_getElem hi]; exact h _ (List.getElem_mem hi)
  · rw [List.getD_eq_getElem?_getD, List.getElem?_eq_none (by omega)]; simp

/-- What a KeyBytes leaves of a good key. -/
def KBOut (l : List Int) (w : World) (e : Ending) (w' : World) : Prop :=
  ∃ g cap, e = .returned (.tuple #[.slice (some ⟨g, 0, none⟩) l.length cap, .bool true]) ∧ w.heap.size ≤ g ∧ Own w' g 0 l.length (lf l) ∧ Below w.heap.size w w'

theorem goodB_sizes {m : ByteArray} {n : Nat} {nm vl : Nat → ByteArray} {st : Int} (h : goodB m n nm vl st = true) : m.size ≤ 12 ∧ n ≤ 4 ∧ TSize n nm vl 12 ∧ 0 ≤ st ∧ st ≤ 1000000000 := by
  simp only [goodB, goodTagsB, Bool.and_eq_true, decide_eq_true_eq] at h
  refine ⟨(nmB_size h.1.1.1).2, h.1.1.2.1, fun i hi => ?_, h.1.2, h.2⟩
  have ht := h.1.1.2.2
  unfold tagsOk at ht
  rw [List.all_eq_true] at ht
  have := ht i (List.mem_range.2 hi)
  simp only [tagOk, Bool.and_eq_true] at this
  exact ⟨(nmB_size this.1.1).2, (nmB_size this.1.2).2⟩

theorem bytesRow_cell (s : ByteArray) (cap i : Nat) (hi : i < s.size) : (bytesRow s cap)[i]? = some (.int .u8 (lf (bytesOf s) i)) := by
  have h1 : i < (s.data.map (fun b => Value.int .u8 b.toNat)).size := by simpa using hi
  unfold bytesRow
  rw [Array.getElem?_append_left h1]
  have hi' : i < s.data.size := hi
  simp [lf, bytesOf, Array.getElem?_eq_getElem hi']

end Go.Proofs.Ytjdijikmdlklkaa
