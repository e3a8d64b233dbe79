/- A key's bytes, the model's text. -/
import Derived.Test.YtddppcfkjhhmhaaGoodKeys
import Derived.Test.YtddppcfkjhhmhaaKeyAt
import Derived.Test.YtddppcfkjhhmhaaPutFixed
import Derived.Laws.BytesArg
namespace Go.Proofs.Ytddppcfkjhhmhaa
open Go.RowKit
set_option linter.unusedSimpArgs false
set_option linter.unusedVariables false

def bytesOf (s : ByteArray) : List Int := s.data.toList.map fun b => (b.toNat : Int)
theorem bytesOf_append (a b : ByteArray) : bytesOf (a ++ b) = bytesOf a ++ bytesOf b := by
  simp [bytesOf, ByteArray.data_append]
theorem bytesOf_len (s : ByteArray) : (bytesOf s).length = s.size := by simp [bytesOf]
theorem one_size (c : UInt8) : (⟨#[c]⟩ : ByteArray).size = 1 := rfl
theorem bytesOf_bd (s : ByteArray) : ∀ z ∈ bytesOf s, 0 ≤ z ∧ z ≤ 255 := by
  intro z hz
  simp only [bytesOf, List.mem_map] at hz
  obtain ⟨b, _, rfl⟩ := hz
  have := b.toNat_lt
  omega
theorem bytesOf_nums (l : List Int) (h : ∀ z ∈ l, 0 ≤ z ∧ z ≤ 255) : bytesOf (strOfNums l) = l := by
  simp only [bytesOf, strOfNums, List.map_map]
  conv => rhs; rw [← List.map_id l]
  refine List.map_congr_left fun z hz => ?_
  have := h z hz
  simp only [Function.comp, id, UInt8.toNat_ofNat']
  omega

def tagB (a b : ByteArray) : List Int := [2] ++ bytesOf a ++ [1] ++ bytesOf b ++ [0]
def ktags (nm vl : Nat → ByteArray) : Nat → List Int
  | 0 => []
  | k + 1 => ktags nm vl k ++ tagB (nm k) (vl k)
def pfl (st : Int) : List Int := (List.range 8).map (pf st 8)
/-- The bytes of a key. -/
def kbytes (m : ByteArray) (n : Nat) (nm vl : Nat → ByteArray) (st : Int) : List Int := bytesOf m ++ [0] ++ ktags nm vl n ++ [1] ++ pfl st
theorem tagB_len (a b : ByteArray) : (tagB a b).length = a.size + b.size + 3 := by simp [tagB, bytesOf_len]; omega
theorem ktags_len {n : Nat} {nm vl : Nat → ByteArray} (hs : TSize n nm vl 12) (k : Nat) (hk : k ≤ n) : (ktags nm vl k).length ≤ 27 * k := by
  induction k with
  | zero => simp [ktags]
  | succ k ih =>
    have := hs k (by omega)
    have := ih (by omega)
    simp only [ktags, List.length_append, tagB_len]
    omega
theorem kbytes_len {m : ByteArray} {n : Nat} {nm vl : Nat → ByteArray} {st : Int} (hm : m.size ≤ 12) (hn : n ≤ 4) (hs : TSize n nm vl 12) : (kbytes m n nm vl st).length ≤ 130 := by
  have := ktags_len hs n (Nat.le_refl _)
  simp only [kbytes, pfl, List.length_append, bytesOf_len, List.length_map, List.length_range, List.length_singleton]
  omega
theorem kbytes_pos {m : ByteArray} {n : Nat} {nm vl : Nat → ByteArray} {st : Int} : 0 < (kbytes m n nm vl st).length := by
  simp only [kbytes, pfl, List.length_append, List.length_map, List.length_range, List.length_singleton]
  omega
theorem tagB_bd (a b : ByteArray) : ∀ z ∈ tagB a b, 0 ≤ z ∧ z ≤ 255 := by
  intro z hz
  simp only [tagB, List.mem_append, List.mem_singleton] at hz
  rcases hz with (((rfl | h) | rfl) | h) | rfl
  · omega
  · exact bytesOf_bd _ z h
  · omega
  · exact bytesOf_bd _ z h
  · omega
theorem ktags_bd (nm vl : Nat → ByteArray) (k : Nat) : ∀ z ∈ ktags nm vl k, 0 ≤ z ∧ z ≤ 255 := by
  induction k with
  | zero => intro z hz; simp [ktags] at hz
  | succ k ih =>
    intro z hz
    simp only [ktags, List.mem_append] at hz
    exact hz.elim (ih z) (tagB_bd _ _ z)
theorem pfl_bd (st : Int) : ∀ z ∈ pfl st, 0 ≤ z ∧ z ≤ 255 := by
  intro z hz
  simp only [pfl, List.mem_map] at hz
  obtain ⟨i, _, rfl⟩ := hz
  exact pf_bd _ _ _
theorem kbytes_bd (m : ByteArray) (n : Nat) (nm vl : Nat → ByteArray) (st : Int) : ∀ z ∈ kbytes m n nm vl st, 0 ≤ z ∧ z ≤ 255 := by
  intro z hz
  simp only [kbytes, List.mem_append, List.mem_singleton] at hz
  rcases hz with (((h | rfl) | h) | rfl) | h
  · exact bytesOf_bd _ z h
  · omega
  · exact ktags_bd _ _ _ z h
  · omega
  · exact pfl_bd _ z h
def lf (l : List Int) (i : Nat) : Int := l.getD i 0
theorem lf_bd {l : List Int} (h : ∀ z ∈ l, 0 ≤ z ∧ z ≤ 255) (i : Nat) : 0 ≤ lf l i ∧ lf l i ≤ 255 := by
  unfold lf
  by_cases hi : i < l.length
  · rw [List.getD_eq_getElem?_getD, List.getElem?_eq_getElem hi]; exact h _ (List.getElem_mem hi)
  · rw [List.getD_eq_getElem?_getD, List.getElem?_eq_none (by omega)]; simp

set_option maxHeartbeats 1000000 in
theorem l1Key_any (m : ByteArray) (st : Int) (ao : Option Addr) (n cap : Nat) (nm vl : Nat → ByteArray) (w : World) (hr : TRow w ao n nm vl) (hm : m.size ≤ 12) (hn : n ≤ 4) (hs : TSize n nm vl 12) (hst : 0 ≤ st ∧ st ≤ 1000000000) :
    Calls Try.prog 50 #[.agg #[.string m, .slice ao n cap, .int .i64 st]] w fun e w' => ∃ S, e = .returned (.string S) ∧ bytesOf S = kbytes m n nm vl st ∧ Below w.heap.size w w' := by
  obtain ⟨hl⟩ := hr
  have hB : Below w.heap.size w (w.alloc (.cells #[.string m, .slice ao n cap, .int .i64 st] 48)) := (Below.refl _ _).alloc (Nat.le_refl _) _
  have ka := KAt.new w m (.slice ao n cap) st 48
  go_enter Try.func50, Try.ntmps50
  go_wp2
  go_loopw [3, 12] (fun v i wr => ∃ (k : Nat) (s : ByteArray), k ≤ n ∧ i = .int .i64 k ∧ v = .string s ∧ s.size ≤ 13 + 27 * k ∧ Hid (bytesOf s = bytesOf m ++ [0] ++ ktags nm vl k) ∧ Below (w.alloc (.cells #[.string m, .slice ao n cap, .int .i64 st] 48)).heap.size (w.alloc (.cells #[.string m, .slice ao n cap, .int .i64 st] 48)) wr) (fun _ i _ => n - (intOf i).toNat)
  case atStart => exact ⟨0, _, by omega, rfl, rfl, by simp [ByteArray.size_append, one_size]; omega, by unfold Hid; rw [bytesOf_append]; simp [ktags]; rfl, Below.refl _ _⟩
  case round =>
    obtain ⟨k, s, hk, rfl, rfl, hss, HS, hbk⟩ := hrel
    obtain ⟨la, a0, a1, a2⟩ := ka.keep hbk
    have hbw : Below w.heap.size w wr := hB.trans (hbk.mono hB.size)
    by_cases hlt : k < n
    · obtain ⟨b, off, rfl, hblt, hc⟩ := hl.resolve_left (by omega)
      have d1 : wr.cell? ⟨b, off + k * 2, none⟩ = some (.string (nm k)) := (hbw.cell (p := ⟨b, off + k * 2, none⟩) hblt).trans (hc k hlt).1
      have d2 : wr.cell? ⟨b, off + k * 2 + 1, none⟩ = some (.string (vl k)) := (hbw.cell (p := ⟨b, off + k * 2 + 1, none⟩) hblt).trans (hc k hlt).2
      have hsk := hs k hlt
      have HS' : Hid (bytesOf (s ++ (({ data := #[2] } : ByteArray) ++ nm k ++ { data := #[1] } ++ vl k ++ { data := #[0] })) = bytesOf m ++ [0] ++ ktags nm vl (k + 1)) := by
        unfold Hid
        rw [bytesOf_append, bytesOf_append, bytesOf_append, bytesOf_append, bytesOf_append, HS.out]
        simp [ktags, tagB]
        simp [bytesOf]
      clear hc hl
      go_wp2
      go_roundw
      case rel => exact ⟨k + 1, _, by omega, by go_num, rfl, by simp [ByteArray.size_append, one_size]; omega, HS', hbk.alloc hbk.size _⟩
      case measure => simp [intOf]; omega
    · have e : k = n := by omega
      subst e
      go_wp2_with fail
      refine (l1Fixed_any st 8 _ ⟨hst.1, by omega⟩ (by omega) (by omega)).mono ?_
      rintro e w1 ⟨g, c, rfl, hg, hO, hb1⟩
      have hcv := run_convert_bytes_arg (P := Try.prog) w1 23 5 Try.underlying23 Try.underlying5 g 0 8 c (pfl st) (by simp [pfl]) (fun i hi => by
        rw [hO.cell i hi]
        simp [pfl, hi]) 9 Try.underlying9
      have HF : Hid (bytesOf (s ++ ({ data := #[1] } : ByteArray) ++ strOfNums (pfl st)) = kbytes m k nm vl st) := by
        unfold Hid
        rw [bytesOf_append, bytesOf_append, HS.out, bytesOf_nums _ (pfl_bd st)]
        simp [kbytes]
        simp [bytesOf]
      have hszf : (strOfNums (pfl st)).size = 8 := by rw [← bytesOf_len, bytesOf_nums _ (pfl_bd st)]; simp [pfl]
      generalize strOfNums (pfl st) = z at *
      have hz8 : z.size ≤ 8 := by omega
      clear hszf
      go_wp2
      go_ret
      exact ⟨_, rfl, HF.out, hbw.trans (hb1.mono hbw.size)⟩

/-- What a KeyBytes leaves of a good key. -/
def KBOut (l : List Int) (w : World) (e : Ending) (w' : World) : Prop :=
  ∃ g cap, e = .returned (.tuple #[.slice (some ⟨g, 0, none⟩) l.length cap, .bool true]) ∧ w.heap.size ≤ g ∧ Own w' g 0 l.length (lf l) ∧ Below w.heap.size w w'

theorem goodB_sizes {m : ByteArray} {n : Nat} {nm vl : Nat → ByteArray} {st : Int} (h : goodB m n nm vl st = true) : m.size ≤ 12 ∧ n ≤ 4 ∧ TSize n nm vl 12 ∧ 0 ≤ st ∧ st ≤ 1000000000 := by
  simp only [goodB, goodTagsB, Bool.and_eq_true, decide_eq_true_eq] at h
  refine ⟨(nmB_size h.1.1.1).2, h.1.1.2.1, fun i hi => ?_, h.1.2, h.2⟩
  have ht := h.1.1.2.2
  unfold tagsOk at ht
  rw [List.all_eq_true] at ht
  have := ht i (List.mem_range.2 hi)
  simp only [tagOk, Bool.and_eq_true] at this
  exact ⟨(nmB_size this.1.1).2, (nmB_size this.1.2).2⟩

theorem bytesRow_cell (s : ByteArray) (cap i : Nat) (hi : i < s.size) : (bytesRow s cap)[i]? = some (.int .u8 (lf (bytesOf s) i)) := by
  have h1 : i < (s.data.map (fun b => Value.int .u8 b.toNat)).size := by simpa using hi
  unfold bytesRow
  rw [Array.getElem?_append_left h1]
  have hi' : i < s.data.size := hi
  simp [lf, bytesOf, Array.getElem?_eq_getElem hi']

set_option maxHeartbeats 1000000 in
theorem keyBytes_spec_good (m : ByteArray) (st : Int) (ao : Option Addr) (n cap : Nat) (nm vl : Nat → ByteArray) (w : World) (hr : TRow w ao n nm vl) (hG : Hid (goodB m n nm vl st = true)) :
    Calls Try.prog 31 #[.agg #[.string m, .slice ao n cap, .int .i64 st]] w fun e w' => KBOut (kbytes m n nm vl st) w e w' := by
  obtain ⟨hm, hn, hs, hst⟩ := goodB_sizes hG.out
  have hs' : TSize n nm vl 1048576 := fun i hi => by have := hs i hi; omega
  have hB : Below w.heap.size w (w.alloc (.cells #[.string m, .slice ao n cap, .int .i64 st] 48)) := (Below.refl _ _).alloc (Nat.le_refl _) _
  have ka := KAt.new w m (.slice ao n cap) st 48
  go_enter Try.func31, Try.ntmps31
  go_wp2_with fail
  refine (goodKey_spec m st ao n cap nm vl _ (hr.keep hB) (by omega) (by omega) hs').mono ?_
  rintro e w1 ⟨rfl, hb1⟩
  rw [hG.out]
  obtain ⟨la, a0, a1, a2⟩ := ka.keep hb1
  have hbw1 : Below w.heap.size w w1 := hB.trans (hb1.mono (by simp))
  clear ka hB hb1
  go_wp2_with fail
  refine (l1Key_any m st ao n cap nm vl _ (hr.keep hbw1) hm hn hs hst).mono ?_
  rintro e w2 ⟨S, rfl, hS, hb2⟩
  have HS : Hid (bytesOf S = kbytes m n nm vl st) := hS
  have hbw2 : Below w.heap.size w w2 := hbw1.trans (hb2.mono hbw1.size)
  clear hS hb2 hbw1
  have hcv := run_bytes_of_string (P := Try.prog) w2 9 23 5 S Try.underlying9 Try.underlying23 Try.underlying5
  generalize grownCap w2 S.size 0 5 = C at hcv
  go_wp2
  go_ret2
  have hsz : S.size = (kbytes m n nm vl st).length := by rw [← HS.out, bytesOf_len]
  have hh : (w2.alloc (.cells (bytesRow S C) 5 ((bytesRow S C).size, (bytesRow S C).size + 1))).drew.heap[w2.heap.size]? = some (.cells (bytesRow S C) 5 ((bytesRow S C).size, (bytesRow S C).size + 1)) := heap_alloc_new w2 _
  have hrow : S.size ≤ (bytesRow S C).size := by simp [bytesRow]
  refine ⟨w2.heap.size, C, by rw [hsz]; rfl, hbw2.size, ⟨lf_bd (kbytes_bd _ _ _ _ _), ?_, fun i hi => ?_, fun i hi => ?_⟩, ?_⟩
  · simp
  · rw [Nat.zero_add, ← HS.out]
    refine (cell_of_row _ _ _ _ _ _ hh).trans ?_
    exact bytesRow_cell S C i (by omega)
  · rw [Nat.zero_add]
    unfold World.frozen?
    simp only [hh]
    simp
    omega
  · exact (hbw2.alloc hbw2.size _).drew

set_option maxHeartbeats 1000000 in
theorem keyBytes_spec_bad (m : ByteArray) (st : Int) (ao : Option Addr) (n cap : Nat) (nm vl : Nat → ByteArray) (w : World) (hr : TRow w ao n nm vl) (hm : m.size ≤ 1048576) (hn : n ≤ 1048576) (hs : TSize n nm vl 1048576) (hG : Hid (goodB m n nm vl st = false)) :
    Calls Try.prog 31 #[.agg #[.string m, .slice ao n cap, .int .i64 st]] w fun e w' => e = .returned (.tuple #[.slice none 0 0, .bool false]) ∧ Below w.heap.size w w' := by
  have hB : Below w.heap.size w (w.alloc (.cells #[.string m, .slice ao n cap, .int .i64 st] 48)) := (Below.refl _ _).alloc (Nat.le_refl _) _
  go_enter Try.func31, Try.ntmps31
  go_wp2_with fail
  refine (goodKey_spec m st ao n cap nm vl _ (hr.keep hB) hm hn hs).mono ?_
  rintro e w1 ⟨rfl, hb1⟩
  rw [hG.out]
  have hbw1 : Below w.heap.size w w1 := hB.trans (hb1.mono (by simp))
  go_wp2
  go_ret2
  exact ⟨rfl, hbw1⟩
end Go.Proofs.Ytddppcfkjhhmhaa
