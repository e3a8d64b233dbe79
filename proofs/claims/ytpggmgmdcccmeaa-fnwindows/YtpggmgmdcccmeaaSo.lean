/- A key in memory. / Bytes: copied, compared, marks looked for. / Bytes that the call itself gathers by append. / Arrays of bytes: a slice cut out of one by a third index; a new one's cells. / Numbers of fixed length: what PutFixed lays. / A key's bytes, the model's text. / Bytes gathered in an array, by appends that fit. / KeyBytes, the program's text. / Times, sizes, and the start of a window: both texts, and the law of StartOf, walked. -/
import Derived.Test.YtpggmgmdcccmeaaWr
import Derived.OpenShut
import Derived.Test.YtpggmgmdcccmeaaGoodKeys
import Derived.Laws.BytesArg
import Derived.Deep.AppendSrc
import Derived.Deep.RegionLaw
namespace Go.Proofs.Ytpggmgmdcccmeaa
open Go.RowKit
set_option linter.unusedSimpArgs false
set_option linter.unusedVariables false

/-- A key lies in block b. -/
structure KAt (w : World) (b : Nat) (m : ByteArray) (sv : Value) (st : Int) : Prop where
  lt : b < w.heap.size
  c0 : w.cell? ⟨b, 0, none⟩ = some (.string m)
  c1 : w.cell? ⟨b, 1, none⟩ = some sv
  c2 : w.cell? ⟨b, 2, none⟩ = some (.int .i64 st)
theorem KAt.keep {w w' : World} {b : Nat} {m : ByteArray} {sv : Value} {st : Int} (h : KAt w b m sv st) (hb : Below w.heap.size w w') : KAt w' b m sv st :=
  ⟨Nat.lt_of_lt_of_le h.lt hb.size, (hb.cell (p := ⟨b, 0, none⟩) h.lt).trans h.c0, (hb.cell (p := ⟨b, 1, none⟩) h.lt).trans h.c1, (hb.cell (p := ⟨b, 2, none⟩) h.lt).trans h.c2⟩
theorem KAt.new (w : World) (m : ByteArray) (sv : Value) (st : Int) (T : Nat) : KAt (w.alloc (.cells #[.string m, sv, .int .i64 st] T)) w.heap.size m sv st :=
  ⟨by simp, by simp [go_sem], by simp [go_sem], by simp [go_sem]⟩

end Go.Proofs.Ytpggmgmdcccmeaa
namespace Go.Proofs.Ytpggmgmdcccmeaa
open Go.RowKit
set_option linter.unusedSimpArgs false
set_option linter.unusedVariables false

theorem Try.info5 : (Try.prog.info? 5).map (fun i => (i.zero, i.size, i.bytes)) = some (some (.int .u8 0), 1, 1) := by kernel_rfl

theorem own_of_made {w : World} {base g n : Nat} (h : w.ownsRow base 5 1 (.slice (some ⟨g, 0, none⟩) n n) n (madeCells (Value.int .u8 0).cells (n * 1)).toList) (hlt : g < w.heap.size) : Own w g 0 n (fun _ => 0) := by
  refine ⟨fun _ => by omega, hlt, fun i hi => ?_, fun i _ => by simpa using h.frozenAt i⟩
  have := h.cellAt i (by omega)
  rw [Nat.zero_add, this]
  simp only [Value.cells, toList_madeCells_one]
  rw [List.getElem?_replicate]
  simp [hi]

end Go.Proofs.Ytpggmgmdcccmeaa
namespace Go.Proofs.Ytpggmgmdcccmeaa
open Go.RowKit

/-- The bytes f 0 .. f (n - 1) as cells. -/
def bcells (f : Nat → Int) (n : Nat) : List Value := (List.range n).map fun i => Value.int .u8 (f i)
theorem bcells_zero (f : Nat → Int) : bcells f 0 = [] := rfl
theorem bcells_succ (f : Nat → Int) (n : Nat) : bcells f n ++ [Value.int .u8 (f n)] = bcells f (n + 1) := by
  simp [bcells, List.range_succ]
theorem bcells_congr {f g : Nat → Int} {n : Nat} (h : ∀ i, i < n → f i = g i) : bcells f n = bcells g n := by
  unfold bcells
  refine List.map_congr_left fun i hi => ?_
  rw [h i (List.mem_range.1 hi)]

theorem own_of_row {w : World} {base n : Nat} {v : Value} {f : Nat → Int} (h : w.ownsRow base 5 1 v n (bcells f n)) (hn : 0 < n) (hb : ∀ i, 0 ≤ f i ∧ f i ≤ 255) :
    ∃ g cap, v = .slice (some ⟨g, 0, none⟩) n cap ∧ base ≤ g ∧ n ≤ cap ∧ Own w g 0 n f := by
  rcases h.2 with ⟨_, h0⟩ | ⟨g, cap, cur, rfl, hbg, hg, hnc, _⟩
  · omega
  · refine ⟨g, cap, rfl, hbg, hnc, hb, (Array.getElem?_eq_some_iff.1 hg).1, fun i hi => ?_, fun i _ => by simpa using h.frozenAt i⟩
    rw [Nat.zero_add, h.cellAt i (by omega)]
    simp [bcells, hi]

theorem below_append {B : Nat} {w wr w' : World} {base n : Nat} {v : Value} {xs : List Value} (hb : Below B w wr) (ho : wr.ownsRow base 5 1 v n xs) (hg : wr.grownBy w' v.ownBlock) (hB : B ≤ base) (hs : B ≤ wr.heap.size) : Below B w w' := by
  refine hb.grown hg hs fun k hk => ?_
  rcases ho.2 with ⟨rfl, _⟩ | ⟨g, cap, cur, rfl, hbg, _⟩
  · simp [Value.ownBlock] at hk
  · simp [Value.ownBlock] at hk; omega

end Go.Proofs.Ytpggmgmdcccmeaa
namespace Go.Proofs.Ytpggmgmdcccmeaa
open Go.RowKit
set_option linter.unusedSimpArgs false
set_option linter.unusedVariables false

theorem slice_arr_hm (t len : Nat) (ht : Try.prog.underlying t = some (.array len 5)) (a : Addr) (H : Int) (h : Nat) (eh : H = (h : Int)) (hl : h ≤ len) (w : World) :
    (Instr.sliceAt t (.pointer (some a)) none (some (.int .i64 H)) (some (.int .i64 H))).run Try.prog w = .ok (.slice (some a) h h) w := by
  obtain ⟨i0, hi, hz0, hz1, hz2⟩ := info_parts Try.info5
  subst eh
  have e1 : (0 : Int) ≤ (h : Int) := by omega
  have e2 : ¬ (len : Int) < (h : Int) := by omega
  simp [Instr.sliceAt, Instr.sureAddr, run_underlying ht, Instr.sliceBounds, run_sliceBound, sizeOf, typeInfo, hi, hz1, hl, e1, e2, Addr.add]
theorem slice_arr_lhm (t len : Nat) (ht : Try.prog.underlying t = some (.array len 5)) (a : Addr) (L H : Int) (l h : Nat) (el : L = (l : Int)) (eh : H = (h : Int)) (hlh : l < h) (hl : h ≤ len) (w : World) :
    (Instr.sliceAt t (.pointer (some a)) (some (.int .i64 L)) (some (.int .i64 H)) (some (.int .i64 H))).run Try.prog w = .ok (.slice (some (a.add l)) (h - l) (h - l)) w := by
  obtain ⟨i0, hi, hz0, hz1, hz2⟩ := info_parts Try.info5
  subst eh
  subst el
  have e0 : (0 : Int) ≤ (l : Int) := by omega
  have e1 : (0 : Int) ≤ (h : Int) := by omega
  have e2 : ¬ (len : Int) < (h : Int) := by omega
  have e3 : ¬ (h : Int) < (l : Int) := by omega
  have e4 : ¬ h = l := by omega
  simp [Instr.sliceAt, Instr.sureAddr, run_underlying ht, Instr.sliceBounds, run_sliceBound, sizeOf, typeInfo, hi, hz1, hl, e0, e1, e2, e3, e4, Nat.le_of_lt hlh]

theorem own_new (w : World) (n : Nat) (cs : Array Value) (T : Nat) (hs : cs.toList = List.replicate n (Value.int .u8 0)) : Own (w.alloc (.cells cs T)) w.heap.size 0 n (fun _ => 0) := by
  have hsz : cs.size = n := by rw [← Array.length_toList, hs]; simp
  have hh : (w.alloc (.cells cs T)).heap[w.heap.size]? = some (.cells cs T (0, 0)) := heap_alloc_new w _
  refine ⟨fun _ => by omega, by simp, fun i hi => ?_, fun i _ => frozen_of_row _ _ _ _ _ hh⟩
  rw [cell_of_row _ _ _ _ _ _ hh, Nat.zero_add, ← Array.getElem?_toList, hs]
  simp [hi]

end Go.Proofs.Ytpggmgmdcccmeaa
namespace Go.Proofs.Ytpggmgmdcccmeaa
open Go.RowKit
set_option linter.unusedSimpArgs false
set_option linter.unusedVariables false

/-- The byte at place i of m bytes of n. -/
def pf (n : Int) (m i : Nat) : Int := n / 2 ^ (8 * (m - 1 - i)) % 256
theorem pf_bd (n : Int) (m i : Nat) : 0 ≤ pf n m i ∧ pf n m i ≤ 255 := by unfold pf; omega
theorem pf_tail (n : Int) (m i : Nat) (hm : m ≤ 8) (hi : i < m) : pf n 8 (8 - m + i) = pf n m i := by
  unfold pf; rw [show 8 - 1 - (8 - m + i) = m - 1 - i from by omega]

/-- What PutFixed takes. -/
def PFGood (n a : Int) : Prop := 0 ≤ n ∧ 1 ≤ a ∧ a ≤ 8 ∧ n / 2 ^ (8 * a.toNat) = 0

def FixOut (n : Int) (m : Nat) (w : World) (e : Ending) (w' : World) : Prop :=
  ∃ g off cap, e = .returned (.tuple #[.slice (some ⟨g, off, none⟩) m cap, .bool true]) ∧ w.heap.size ≤ g ∧ Own w' g off m (pf n m) ∧ Below w.heap.size w w'

theorem slice_arr_tail (t len : Nat) (ht : Try.prog.underlying t = some (.array len 5)) (b : Nat) (L H : Int) (l h : Nat) (el : L = (l : Int)) (eh : H = (h : Int)) (hlh : l < h) (hl : h ≤ len) (w : World) :
    (Instr.sliceAt t (.pointer (some ⟨b, 0, none⟩)) (some (.int .i64 L)) (some (.int .i64 H)) (some (.int .i64 H))).run Try.prog w = .ok (.slice (some ⟨b, l, none⟩) (h - l) (h - l)) w := by
  rw [slice_arr_lhm t len ht ⟨b, 0, none⟩ L H l h el eh hlh hl w]
  by_cases h0 : l = 0
  · subst h0; simp [Addr.add]
  · simp [Addr.add, h0]

set_option maxHeartbeats 1000000 in
theorem putFixed_impl_no (n a : Int) (w : World) (hn : -9223372036854775808 ≤ n ∧ n ≤ 9223372036854775807) (ha : -9223372036854775808 ≤ a ∧ a ≤ 9223372036854775807) (h : ¬ PFGood n a) :
    Calls Try.prog 86 #[.int .i64 n, .int .i64 a] w fun e w' => e = .returned (.tuple #[.slice none 0 0, .bool false]) ∧ w' = w := by
  by_cases h0 : n < 0
  · clear h
    go_enter Try.func86, Try.ntmps86
    go_wp2
    go_ret2
    exact ⟨rfl, rfl⟩
  · have hd : decide (n < 0) = false := by simp; omega
    by_cases h1 : a < 1
    · clear h
      go_enter Try.func86, Try.ntmps86
      go_wp2
      go_ret2
      exact ⟨rfl, rfl⟩
    · have hd1 : decide (a < 1) = false := by simp; omega
      by_cases h2 : 8 < a
      · clear h
        go_enter Try.func86, Try.ntmps86
        go_wp2
        go_ret2
        exact ⟨rfl, rfl⟩
      · have hd2 : decide (8 < a) = false := by simp; omega
        obtain ⟨m, rfl⟩ := Int.eq_ofNat_of_zero_le (show 0 ≤ a by omega)
        have hne : n / 2 ^ (8 * m) ≠ 0 := fun hh => h ⟨by omega, by omega, by omega, by simpa using hh⟩
        have hnz : (n / 2 ^ (8 * m) != 0) = true := by simp [hne]
        clear h hne
        go_enter Try.func86, Try.ntmps86
        go_wp2
        go_ret2
        exact ⟨rfl, rfl⟩

set_option maxHeartbeats 1000000 in
theorem putFixed_impl_yes (n : Int) (m : Nat) (w : World) (hn : 0 ≤ n ∧ n ≤ 9223372036854775807) (hm1 : 1 ≤ m) (hm : m ≤ 8) (h : n / 2 ^ (8 * m) = 0) :
    Calls Try.prog 86 #[.int .i64 n, .int .i64 m] w fun e w' => FixOut n m w e w' := by
  have hz : (n / 2 ^ (8 * m) != 0) = false := by simp [h]
  clear h
  have hd : decide (n < 0) = false := by simp; omega
  have hd1 : decide ((m : Int) < 1) = false := by simp; omega
  have hd8 : decide ((8 : Int) < (m : Int)) = false := by simp; omega
  have h0 : Own (w.alloc (.cells #[.int .u8 0, .int .u8 0, .int .u8 0, .int .u8 0, .int .u8 0, .int .u8 0, .int .u8 0, .int .u8 0] 125)) w.heap.size 0 8 (fun _ => 0) := own_new _ _ _ _ rfl
  go_enter Try.func86, Try.ntmps86
  go_wp2
  go_loopw [25] (fun i wr => ∃ k : Nat, k ≤ 8 ∧ i = .int .i64 k ∧ Own wr w.heap.size 0 8 (fun i => if i < k then pf n 8 i else 0) ∧ Below w.heap.size w wr) (fun i _ => 8 - (intOf i).toNat)
  case atStart => exact ⟨0, by omega, rfl, by simpa using h0, (Below.refl _ _).alloc (Nat.le_refl _) _⟩
  case round =>
    obtain ⟨k, hk, rfl, hown, hbk⟩ := hrel
    clear h0
    by_cases hlt : k < 8
    · have hc := hown.cell k (by omega)
      have hf := hown.free k (by omega)
      have hst := hown.store k hlt (pf n 8 k) (pf_bd n 8 k)
      simp only [Nat.zero_add] at hc hf hst
      go_wp2
      go_roundw
      case rel =>
        refine ⟨k + 1, by omega, by go_num, hst.congr (fun i => ?_) (fun i _ => ?_), hbk.setCell (Nat.le_refl _) _⟩
        · have := pf_bd n 8 i
          split <;> omega
        · by_cases h1 : i = k
          · subst h1; simp
          · by_cases h2 : i < k
            · rw [if_neg h1, if_pos h2, if_pos (by omega)]
            · rw [if_neg h1, if_neg h2, if_neg (by omega)]
      case measure => simp [intOf]; omega
    · have hsl := slice_arr_tail 125 8 Try.underlying125 w.heap.size (8 - (m : Int)) 8 (8 - m) 8 (by omega) rfl (by omega) (by omega)
      rw [show 8 - (8 - m) = m from by omega] at hsl
      go_wp2
      go_ret2
      refine ⟨w.heap.size, 8 - m, m, rfl, Nat.le_refl _, ⟨pf_bd n m, hown.lt, fun i hi => ?_, fun i hi => ?_⟩, hbk⟩
      · have := hown.cell (8 - m + i) (by omega)
        rw [Nat.zero_add, if_pos (by omega), pf_tail n m i hm hi] at this
        exact this
      · have := hown.free (8 - m + i) (by omega)
        rw [Nat.zero_add] at this
        exact this
end Go.Proofs.Ytpggmgmdcccmeaa
namespace Go.Proofs.Ytpggmgmdcccmeaa
open Go.RowKit
set_option linter.unusedSimpArgs false
set_option linter.unusedVariables false

def bytesOf (s : ByteArray) : List Int := s.data.toList.map fun b => (b.toNat : Int)
theorem bytesOf_append (a b : ByteArray) : bytesOf (a ++ b) = bytesOf a ++ bytesOf b := by
  simp [bytesOf, ByteArray.data_append]
theorem bytesOf_len (s : ByteArray) : (bytesOf s).length = s.size := by simp [bytesOf]
theorem one_size (c : UInt8) : (⟨#[c]⟩ : ByteArray).size = 1 := rfl
theorem bytesOf_bd (s : ByteArray) : ∀ z ∈ bytesOf s, 0 ≤ z ∧ z ≤ 255 := by
  intro z hz
  simp only [bytesOf, List.mem_map] at hz
  obtain ⟨b, _, rfl⟩ := hz
  have := b.toNat_lt
  omega
theorem bytesOf_nums (l : List Int) (h : ∀ z ∈ l, 0 ≤ z ∧ z ≤ 255) : bytesOf (strOfNums l) = l := by
  simp only [bytesOf, strOfNums, List.map_map]
  conv => rhs; rw [← List.map_id l]
  refine List.map_congr_left fun z hz => ?_
  have := h z hz
  simp only [Function.comp, id, UInt8.toNat_ofNat']
  omega

def tagB (a b : ByteArray) : List Int := [2] ++ bytesOf a ++ [1] ++ bytesOf b ++ [0]
def ktags (nm vl : Nat → ByteArray) : Nat → List Int
  | 0 => []
  | k + 1 => ktags nm vl k ++ tagB (nm k) (vl k)
def pfl (st : Int) : List Int := (List.range 8).map (pf st 8)
/-- The bytes of a key. -/
def kbytes (m : ByteArray) (n : Nat) (nm vl : Nat → ByteArray) (st : Int) : List Int := bytesOf m ++ [0] ++ ktags nm vl n ++ [1] ++ pfl st
theorem tagB_len (a b : ByteArray) : (tagB a b).length = a.size + b.size + 3 := by simp [tagB, bytesOf_len]; omega
theorem ktags_len {n : Nat} {nm vl : Nat → ByteArray} (hs : TSize n nm vl 12) (k : Nat) (hk : k ≤ n) : (ktags nm vl k).length ≤ 27 * k := by
  induction k with
  | zero => simp [ktags]
  | succ k ih =>
    have := hs k (by omega)
    have := ih (by omega)
    simp only [ktags, List.length_append, tagB_len]
    omega
theorem kbytes_len {m : ByteArray} {n : Nat} {nm vl : Nat → ByteArray} {st : Int} (hm : m.size ≤ 12) (hn : n ≤ 4) (hs : TSize n nm vl 12) : (kbytes m n nm vl st).length ≤ 130 := by
  have := ktags_len hs n (Nat.le_refl _)
  simp only [kbytes, pfl, List.length_append, bytesOf_len, List.length_map, List.length_range, List.length_singleton]
  omega
theorem kbytes_pos {m : ByteArray} {n : Nat} {nm vl : Nat → ByteArray} {st : Int} : 0 < (kbytes m n nm vl st).length := by
  simp only [kbytes, pfl, List.length_append, List.length_map, List.length_range, List.length_singleton]
  omega
theorem tagB_bd (a b : ByteArray) : ∀ z ∈ tagB a b, 0 ≤ z ∧ z ≤ 255 := by
  intro z hz
  simp only [tagB, List.mem_append, List.mem_singleton] at hz
  rcases hz with (((rfl | h) | rfl) | h) | rfl
  · omega
  · exact bytesOf_bd _ z h
  · omega
  · exact bytesOf_bd _ z h
  · omega
theorem ktags_bd (nm vl : Nat → ByteArray) (k : Nat) : ∀ z ∈ ktags nm vl k, 0 ≤ z ∧ z ≤ 255 := by
  induction k with
  | zero => intro z hz; simp [ktags] at hz
  | succ k ih =>
    intro z hz
    simp only [ktags, List.mem_append] at hz
    exact hz.elim (ih z) (tagB_bd _ _ z)
theorem pfl_bd (st : Int) : ∀ z ∈ pfl st, 0 ≤ z ∧ z ≤ 255 := by
  intro z hz
  simp only [pfl, List.mem_map] at hz
  obtain ⟨i, _, rfl⟩ := hz
  exact pf_bd _ _ _
theorem kbytes_bd (m : ByteArray) (n : Nat) (nm vl : Nat → ByteArray) (st : Int) : ∀ z ∈ kbytes m n nm vl st, 0 ≤ z ∧ z ≤ 255 := by
  intro z hz
  simp only [kbytes, List.mem_append, List.mem_singleton] at hz
  rcases hz with (((h | rfl) | h) | rfl) | h
  · exact bytesOf_bd _ z h
  · omega
  · exact ktags_bd _ _ _ z h
  · omega
  · exact pfl_bd _ z h
def lf (l : List Int) (i : Nat) : Int := l.getD i 0
theorem lf_bd {l : List Int} (h : ∀ z ∈ l, 0 ≤ z ∧ z ≤ 255) (i : Nat) : 0 ≤ lf l i ∧ lf l i ≤ 255 := by
  unfold lf
  by_cases hi : i < l.length
  · rw [List.getD_eq_getElem?_getD, List.getElem?_eq_getElem hi]; exact h _ (List.getElem_mem hi)
  · rw [List.getD_eq_getElem?_getD, List.getElem?_eq_none (by omega)]; simp

/-- What a KeyBytes leaves of a good key. -/
def KBOut (l : List Int) (w : World) (e : Ending) (w' : World) : Prop :=
  ∃ g cap, e = .returned (.tuple #[.slice (some ⟨g, 0, none⟩) l.length cap, .bool true]) ∧ w.heap.size ≤ g ∧ Own w' g 0 l.length (lf l) ∧ Below w.heap.size w w'

theorem goodB_sizes {m : ByteArray} {n : Nat} {nm vl : Nat → ByteArray} {st : Int} (h : goodB m n nm vl st = true) : m.size ≤ 12 ∧ n ≤ 4 ∧ TSize n nm vl 12 ∧ 0 ≤ st ∧ st ≤ 1000000000 := by
  simp only [goodB, goodTagsB, Bool.and_eq_true, decide_eq_true_eq] at h
  refine ⟨(nmB_size h.1.1.1).2, h.1.1.2.1, fun i hi => ?_, h.1.2, h.2⟩
  have ht := h.1.1.2.2
  unfold tagsOk at ht
  rw [List.all_eq_true] at ht
  have := ht i (List.mem_range.2 hi)
  simp only [tagOk, Bool.and_eq_true] at this
  exact ⟨(nmB_size this.1.1).2, (nmB_size this.1.2).2⟩

theorem bytesRow_cell (s : ByteArray) (cap i : Nat) (hi : i < s.size) : (bytesRow s cap)[i]? = some (.int .u8 (lf (bytesOf s) i)) := by
  have h1 : i < (s.data.map (fun b => Value.int .u8 b.toNat)).size := by simpa using hi
  unfold bytesRow
  rw [Array.getElem?_append_left h1]
  have hi' : i < s.data.size := hi
  simp [lf, bytesOf, Array.getElem?_eq_getElem hi']

end Go.Proofs.Ytpggmgmdcccmeaa
namespace Go.Proofs.Ytpggmgmdcccmeaa
open Go.RowKit
set_option linter.unusedSimpArgs false
set_option linter.unusedVariables false

/-- Block b has room for cap bytes; the first L of them are l. -/
structure Fil (w : World) (b cap L : Nat) (l : List Int) : Prop where
  lt : b < w.heap.size
  len : L = l.length
  le : L ≤ cap
  bd : ∀ z ∈ l, 0 ≤ z ∧ z ≤ 255
  cell : ∀ i (h : i < l.length), w.cell? ⟨b, i, none⟩ = some (.int .u8 l[i])
  there : ∀ i, i < cap → (w.cell? ⟨b, i, none⟩).isSome = true
  free : ∀ i, i < cap → w.frozen? ⟨b, i, none⟩ = false

theorem Fil.keep {w w' : World} {b cap L : Nat} {l : List Int} (h : Fil w b cap L l) (hb : Below w.heap.size w w') : Fil w' b cap L l :=
  ⟨Nat.lt_of_lt_of_le h.lt hb.size, h.len, h.le, h.bd, fun i hi => (hb.cell (p := ⟨b, i, none⟩) h.lt).trans (h.cell i hi), fun i hi => by rw [hb.cell (p := ⟨b, i, none⟩) h.lt]; exact h.there i hi,
    fun i hi => (hb.frozen (p := ⟨b, i, none⟩) h.lt).trans (h.free i hi)⟩

theorem others_setCells (b : Nat) : ∀ (vs : List Value) (o : Nat) (w : World), Others b w (w.setCells b o vs)
  | [], o, w => Others.refl _ _
  | v :: r, o, w => (Others.setCell w b o v).trans (others_setCells b r (o + 1) _)

theorem Fil.more {w : World} {b cap L : Nat} {l : List Int} (h : Fil w b cap L l) (k : List Int) (hk : ∀ z ∈ k, 0 ≤ z ∧ z ≤ 255) (hle : L + k.length ≤ cap) :
    Fil (w.setCells b L (k.map (Value.int .u8))) b cap (L + k.length) (l ++ k) := by
  have hlen := h.len
  refine ⟨by rw [(others_setCells b _ _ _).size]; exact h.lt, by simp; omega, hle, ?_, ?_, ?_, ?_⟩
  · intro z hz
    exact (List.mem_append.1 hz).elim (h.bd z) (hk z)
  · intro i hi
    by_cases h1 : i < l.length
    · rw [World.cell?_setCells_out b _ _ _ _ (fun _ _ => by left; simp; omega), h.cell i h1, List.getElem_append_left h1]
    · have hj : i - L < k.length := by simp at hi; omega
      have := World.cell?_setCells_in b (k.map (Value.int .u8)) L w (fun j hj => h.there _ (by simp at hj; omega)) (i - L) (by simpa using hj)
      rw [show L + (i - L) = i from by omega] at this
      rw [this, List.getElem_append_right (by omega)]
      simp [hlen]
  · intro i hi
    by_cases h1 : L ≤ i ∧ i < L + k.length
    · have := World.cell?_setCells_in b (k.map (Value.int .u8)) L w (fun j hj => h.there _ (by simp at hj; omega)) (i - L) (by simp; omega)
      rw [show L + (i - L) = i from by omega] at this
      rw [this]; rfl
    · rw [World.cell?_setCells_out b _ _ _ _ (fun _ _ => by simp; omega)]
      exact h.there i hi
  · intro i hi
    rw [World.frozen?_setCells]
    exact h.free i hi

theorem src_byte (w : World) (c : Int) : Src Try.prog 1 22 (.slice (some ⟨w.heap.size, 0, none⟩) 1 1) 1 ([c].map (Value.int .u8)) (w.alloc (.cells #[.int .u8 c] 5)) :=
  Src.ofSlice _ Try.underlying22 _ 1 1 _ rfl (cell_one_new _ _ _) (by simp [Value.oneCell'])
theorem src_text (w : World) (s : ByteArray) : Src Try.prog 1 9 (.string s) s.size ((bytesOf s).map (Value.int .u8)) w := by
  have h := Src.ofString (P := Try.prog) w Try.underlying9 s
  have e : byteCells s = (bytesOf s).map (Value.int .u8) := by simp [byteCells, bytesOf]
  rw [e] at h
  exact h
theorem src_row {w : World} {g off n c : Nat} {f : Nat → Int} (h : Own w g off n f) : Src Try.prog 1 22 (.slice (some ⟨g, off, none⟩) n c) n (((List.range n).map f).map (Value.int .u8)) w :=
  Src.ofSlice _ Try.underlying22 _ n c _ (by simp) (fun j u hj => by
    have hjn : j < n := by
      have := (List.getElem?_eq_some_iff.1 hj).1
      simpa using this
    rw [Addr.add_lit, h.cell j hjn]
    simp [hjn] at hj
    rw [hj]) (by simp [Value.oneCell'])

/-- An append that fits. -/
theorem wpList_append_fil (w : World) {ops : Array Oper} {rest : List Oper} {o : Oper} {a : Act} {Q : Exit → Act → World → Prop}
    (hg : o.guard = none) (s x : Operand) (tx : TypeId) (hop : o.op = Op.call { callee := Callee.builtin Builtin.append, args := #[s, x], argTypes := #[22, tx] })
    (b cap L : Nat) (l : List Int) (hF : Fil w b cap L l) (hs : a.eval s = .slice (some ⟨b, 0, none⟩) L cap) (xv : Value) (hx : a.eval x = xv) (m : Nat) (k : List Int) (hk : ∀ z ∈ k, 0 ≤ z ∧ z ≤ 255)
    (hsrc : Src Try.prog 1 tx xv m (k.map (Value.int .u8)) w) (hle : L + m ≤ cap)
    (h : ∀ w' L', L' ≤ L + m → Fil w' b cap L' (l ++ k) → Others b w w' → wpList Try.prog ops Q rest (a.put o.dst (.slice (some ⟨b, 0, none⟩) L' cap)) w') :
    wpList Try.prog ops Q (o :: rest) a w := by
  obtain ⟨i0, hi, hz0, hz1, hz2⟩ := info_parts Try.info5
  have hm : m = k.length := by have := hsrc.newsLen; simp at this; omega
  subst hm
  have hsrc' : Src Try.prog i0.size tx xv k.length (k.map (Value.int .u8)) w := by rw [hz1]; exact hsrc
  have hrun := run_append_room_src (P := Try.prog) w 22 tx o.type 5 i0 Try.underlying22 hi b 0 L cap xv k.length (k.map (Value.int .u8)) hsrc' hle
    (fun j hj => by rw [hz1]; simp at hj; exact hF.there _ (by omega)) (fun j hj => by rw [hz1]; simp at hj; exact hF.free _ (by omega))
  rw [hz1] at hrun
  simp only [Nat.mul_one, Nat.zero_add] at hrun
  refine wpList_plain hg fun K hK' => ?_
  unfold Oper.wp
  simp [execOp, hop, resolve, invoke, builtin, hs, hx, hrun, Result.andThen]
  exact hK' _ _ (h _ _ (Nat.le_refl _) (hF.more k hk hle) (others_setCells b _ _ _))

theorem KAt.others {w w' : World} {b c : Nat} {m : ByteArray} {sv : Value} {st : Int} (h : KAt w b m sv st) (ho : Others c w w') (hne : b ≠ c) : KAt w' b m sv st :=
  have cl : ∀ j, w'.cell? ⟨b, j, none⟩ = w.cell? ⟨b, j, none⟩ := fun j => World.cell?_of_block (w := w) (a := ⟨b, j, none⟩) (ho.block b hne)
  ⟨by rw [ho.size]; exact h.lt, by rw [cl]; exact h.c0, by rw [cl]; exact h.c1, by rw [cl]; exact h.c2⟩

/-- What stays while bytes are gathered in block R: the key, its start's bytes, all that was there. -/
structure KR (w wr : World) (R : Nat) (m : ByteArray) (sv : Value) (st : Int) (gs os : Nat) : Prop where
  box : KAt wr w.heap.size m sv st
  start : Own wr gs os 8 (pf st 8)
  below : Below w.heap.size w wr
  neB : w.heap.size < R
  neS : gs ≠ R
theorem KR.step {w wr wa w' : World} {R : Nat} {m : ByteArray} {sv : Value} {st : Int} {gs os : Nat} (h : KR w wr R m sv st gs os) (hb : Below wr.heap.size wr wa) (hx : Others R wa w') : KR w w' R m sv st gs os :=
  ⟨(h.box.keep hb).others hx (Nat.ne_of_lt h.neB), hx.row (h.start.keep hb) h.neS, (h.below.trans (hb.mono h.below.size)).trans (hx.below (Nat.le_of_lt h.neB)), h.neB, h.neS⟩

theorem slice_arr_0m (t len : Nat) (ht : Try.prog.underlying t = some (.array len 5)) (a : Addr) (H : Int) (eh : H = (len : Int)) (w : World) :
    (Instr.sliceAt t (.pointer (some a)) none (some (.int .i64 0)) (some (.int .i64 H))).run Try.prog w = .ok (.slice (some a) 0 len) w := by
  obtain ⟨i0, hi, hz0, hz1, hz2⟩ := info_parts Try.info5
  subst eh
  have e1 : (0 : Int) ≤ (len : Int) := by omega
  simp [Instr.sliceAt, Instr.sureAddr, run_underlying ht, Instr.sliceBounds, run_sliceBound, sizeOf, typeInfo, hi, hz1, e1, Addr.add]

/-- The same, as one step of a statement whose order is open. -/
theorem step_append_fil {ops : Array Oper} {o : Oper} {a : Act} {w : World} {K : Act → World → Prop} {Q : Exit → Act → World → Prop} {E : Prop}
    (hg : o.guard = none) (s x : Operand) (tx : TypeId) (hop : o.op = Op.call { callee := Callee.builtin Builtin.append, args := #[s, x], argTypes := #[22, tx] })
    (b cap L : Nat) (l : List Int) (hF : Fil w b cap L l) (hs : a.eval s = .slice (some ⟨b, 0, none⟩) L cap) (xv : Value) (hx : a.eval x = xv) (m : Nat) (k : List Int) (hk : ∀ z ∈ k, 0 ≤ z ∧ z ≤ 255)
    (hsrc : Src Try.prog 1 tx xv m (k.map (Value.int .u8)) w) (hle : L + m ≤ cap)
    (h : ∀ w' L', L' ≤ L + m → Fil w' b cap L' (l ++ k) → Others b w w' → K (a.put o.dst (.slice (some ⟨b, 0, none⟩) L' cap)) w') :
    if Region.wanted o (yielded ops a.tmps) = true then Oper.wp Try.prog o a w K Q else E := by
  have hw : Region.wanted o (yielded ops a.tmps) = true := by simp [Region.wanted, hg]
  rw [if_pos hw]
  obtain ⟨i0, hi, hz0, hz1, hz2⟩ := info_parts Try.info5
  have hm : m = k.length := by have := hsrc.newsLen; simp at this; omega
  subst hm
  have hsrc' : Src Try.prog i0.size tx xv k.length (k.map (Value.int .u8)) w := by rw [hz1]; exact hsrc
  have hrun := run_append_room_src (P := Try.prog) w 22 tx o.type 5 i0 Try.underlying22 hi b 0 L cap xv k.length (k.map (Value.int .u8)) hsrc' hle
    (fun j hj => by rw [hz1]; simp at hj; exact hF.there _ (by omega)) (fun j hj => by rw [hz1]; simp at hj; exact hF.free _ (by omega))
  rw [hz1] at hrun
  simp only [Nat.mul_one, Nat.zero_add] at hrun
  unfold Oper.wp
  simp [execOp, hop, resolve, invoke, builtin, hs, hx, hrun, Result.andThen]
  exact h _ _ (Nat.le_refl _) (hF.more k hk hle) (others_setCells b _ _ _)

theorem fil_new (w : World) (n : Nat) (cs : Array Value) (T : Nat) (hs : cs.toList = List.replicate n (Value.int .u8 0)) : Fil (w.alloc (.cells cs T)) w.heap.size n 0 [] := by
  have h := own_new w n cs T hs
  refine ⟨h.lt, rfl, Nat.zero_le _, by simp, fun i hi => by simp at hi, fun i hi => ?_, fun i hi => ?_⟩
  · have := h.cell i hi; rw [Nat.zero_add] at this; rw [this]; rfl
  · have := h.free i hi; rw [Nat.zero_add] at this; exact this

/-- A tag lies in block b. -/
structure TBox (w : World) (b : Nat) (x y : ByteArray) : Prop where
  lt : b < w.heap.size
  c0 : w.cell? ⟨b, 0, none⟩ = some (.string x)
  c1 : w.cell? ⟨b, 1, none⟩ = some (.string y)
theorem TBox.new (w : World) (x y : ByteArray) (T : Nat) : TBox (w.alloc (.cells #[.string x, .string y] T)) w.heap.size x y := ⟨by simp, by simp [go_sem], by simp [go_sem]⟩
theorem TBox.step {w wa w' : World} {b R : Nat} {x y : ByteArray} (h : TBox w b x y) (hb : Below w.heap.size w wa) (hx : Others R wa w') (hne : b ≠ R) : TBox w' b x y :=
  have cl : ∀ j, w'.cell? ⟨b, j, none⟩ = w.cell? ⟨b, j, none⟩ := fun j => (World.cell?_of_block (w := wa) (a := ⟨b, j, none⟩) (hx.block b hne)).trans (hb.cell (p := ⟨b, j, none⟩) h.lt)
  ⟨by rw [hx.size]; exact Nat.lt_of_lt_of_le h.lt hb.size, by rw [cl]; exact h.c0, by rw [cl]; exact h.c1⟩

theorem Fil.own {w : World} {b cap L : Nat} {l : List Int} (h : Fil w b cap L l) : Own w b 0 l.length (lf l) := by
  refine ⟨lf_bd h.bd, h.lt, fun i hi => ?_, fun i hi => ?_⟩
  · rw [Nat.zero_add, h.cell i hi]; simp [lf, hi]
  · rw [Nat.zero_add]; exact h.free i (by have := h.len; have := h.le; omega)
theorem below_new2 (w : World) (o o' : Obj) : Below w.heap.size w ((w.alloc o).alloc o') := (below_new w o).alloc (by simp) _
theorem src_byte2 (w : World) (o : Obj) (c : Int) : Src Try.prog 1 22 (.slice (some ⟨w.heap.size + 1, 0, none⟩) 1 1) 1 ([c].map (Value.int .u8)) ((w.alloc o).alloc (.cells #[.int .u8 c] 5)) := by
  have h := src_byte (w.alloc o) c
  rw [World.size_alloc] at h
  exact h
end Go.Proofs.Ytpggmgmdcccmeaa
namespace Go.Proofs.Ytpggmgmdcccmeaa
open Go.RowKit
set_option linter.unusedSimpArgs false
set_option linter.unusedVariables false

theorem zero130 : Try.zeroCells123.toList = List.replicate 130 (Value.int .u8 0) := by kernel_rfl

set_option maxHeartbeats 4000000 in
set_option maxRecDepth 100000 in
theorem keyBytes_impl_good (m : ByteArray) (st : Int) (ao : Option Addr) (n cap : Nat) (nm vl : Nat → ByteArray) (w : World) (hr : TRow w ao n nm vl) (hG : Hid (goodB m n nm vl st = true)) :
    Calls Try.prog 70 #[.agg #[.string m, .slice ao n cap, .int .i64 st]] w fun e w' => KBOut (kbytes m n nm vl st) w e w' := by
  obtain ⟨hm, hn, hs, hst⟩ := goodB_sizes hG.out
  have hs' : TSize n nm vl 1048576 := fun i hi => by have := hs i hi; omega
  have hB : Below w.heap.size w (w.alloc (.cells #[.string m, .slice ao n cap, .int .i64 st] 32)) := (Below.refl _ _).alloc (Nat.le_refl _) _
  have ka := KAt.new w m (.slice ao n cap) st 32
  go_enter Try.func70, Try.ntmps70
  go_wp2_with fail
  refine (goodKey_impl m st ao n cap nm vl _ (hr.keep hB) (by omega) (by omega) hs').mono ?_
  rintro e w1 ⟨rfl, hb1⟩
  rw [hG.out]
  have ka1 := ka.keep hb1
  have hbw1 : Below w.heap.size w w1 := hB.trans (hb1.mono (by simp))
  clear ka hB hb1
  obtain ⟨la, a0, a1, a2⟩ := ka1
  go_wp2_with fail
  refine (putFixed_impl_yes st 8 _ ⟨hst.1, by omega⟩ (by omega) (by omega) (by have := hst; omega)).mono ?_
  rintro e w2 ⟨gs, os, cs, rfl, hgs, ho2, hb2⟩
  have ka2 := KAt.keep ⟨la, a0, a1, a2⟩ hb2
  have hbw2 : Below w.heap.size w w2 := hbw1.trans (hb2.mono hbw1.size)
  clear hb2 hbw1 la a0 a1 a2
  obtain ⟨la, a0, a1, a2⟩ := ka2
  have hsl := slice_arr_0m 123 130 Try.underlying123 ⟨w2.heap.size, 0, none⟩ 130 rfl
  have F0 := fil_new w2 130 Try.zeroCells123 123 zero130
  have hB2 : Below w2.heap.size w2 (w2.alloc (.cells Try.zeroCells123 123)) := (Below.refl _ _).alloc (Nat.le_refl _) _
  have K0 : KR w (w2.alloc (.cells Try.zeroCells123 123)) w2.heap.size m (.slice ao n cap) st gs os := ⟨KAt.keep ⟨la, a0, a1, a2⟩ hB2, ho2.keep hB2, hbw2.trans (hB2.mono hbw2.size), by omega, Nat.ne_of_lt ho2.lt⟩
  have n0 : (w2.alloc (.cells Try.zeroCells123 123)).cell? ⟨w.heap.size, 0, none⟩ = some (.string m) := K0.box.c0
  go_wp2
  go_region_law (refine step_append_fil rfl (.tmp 21) (.tmp 23) 9 rfl w2.heap.size 130 0 [] (F0.keep (Below.refl _ _).drew) (by simp [Act.eval, Act.put]) (.string m) (by simp [Act.eval, Act.put]) m.size (bytesOf m) (bytesOf_bd m) (src_text _ m) (by omega) ?_; intro w3 L3 hL3 F3 X3; have K3 := K0.step (Below.refl _ _).drew X3)
  clear F0 K0 n0 hB2 ho2 la a0 a1 a2 hbw2 hsl X3
  have hR : w.heap.size < w2.heap.size := K3.neB
  go_wp2_with (at_builtin; refine wpList_append_fil _ rfl (.tmp 25) (.tmp 26) 22 rfl w2.heap.size 130 L3 _ (F3.keep (below_new _ _)) rfl _ rfl 1 [0] (by simp) (src_byte _ 0) (by omega) ?_; intro w4 L4 hL4 F4 X4; have K4 := K3.step (below_new _ _) X4; obtain ⟨la, a0, a1, a2⟩ := K4.box)
  go_loopw [7, 31] (fun v i wr => ∃ k L : Nat, k ≤ n ∧ i = .int .i64 k ∧ v = .slice (some ⟨w2.heap.size, 0, none⟩) L 130 ∧ L ≤ 13 + 27 * k ∧ Fil wr w2.heap.size 130 L (bytesOf m ++ [0] ++ ktags nm vl k) ∧ KR w wr w2.heap.size m (.slice ao n cap) st gs os) (fun _ i _ => n - (intOf i).toNat)
  case atStart => exact ⟨0, L4, by omega, rfl, rfl, by omega, by simpa [ktags] using F4, K4⟩
  case round =>
    clear F3 K3 F4 K4 X4 la a0 a1 a2
    obtain ⟨k, L, hk, rfl, rfl, hL, hF, hK⟩ := hrel
    by_cases hlt : k < n
    · have hbw := hK.below
      obtain ⟨b, off, rfl, hblt, hc⟩ := hr.lies.resolve_left (by omega)
      have d1 : wr.cell? ⟨b, off + k * 2, none⟩ = some (.string (nm k)) := (hbw.cell (p := ⟨b, off + k * 2, none⟩) hblt).trans (hc k hlt).1
      have d2 : wr.cell? ⟨b, off + k * 2 + 1, none⟩ = some (.string (vl k)) := (hbw.cell (p := ⟨b, off + k * 2 + 1, none⟩) hblt).trans (hc k hlt).2
      have hsk := hs k hlt
      have hne : wr.heap.size ≠ w2.heap.size := Nat.ne_of_gt hF.lt
      have T0 := TBox.new wr (nm k) (vl k) 92
      clear hc
      go_wp2_with (first | (at_builtin; refine wpList_append_fil _ rfl (.tmp 35) (.tmp 36) 22 rfl w2.heap.size 130 L _ (hF.keep (below_new2 _ _ _)) rfl _ rfl 1 [2] (by simp) (src_byte2 _ _ 2) (by omega) ?_; intro w5 L5 hL5 F5 X5; have K5 := hK.step (below_new2 _ _ _) X5; have T5 := T0.step (below_new _ _) X5 hne; obtain ⟨lt5, t50, t51⟩ := T5) | (at_builtin; refine wpList_append_fil _ rfl (.tmp 38) (.tmp 40) 9 rfl w2.heap.size 130 L5 _ F5 rfl (.string (nm k)) rfl (nm k).size (bytesOf (nm k)) (bytesOf_bd _) (src_text _ _) (by omega) ?_; intro w6 L6 hL6 F6 X6; have K6 := K5.step (Below.refl _ _) X6; have T6 := TBox.step ⟨lt5, t50, t51⟩ (Below.refl _ _) X6 hne) | (at_builtin; refine wpList_append_fil _ rfl (.tmp 42) (.tmp 43) 22 rfl w2.heap.size 130 L6 _ (F6.keep (below_new _ _)) rfl _ rfl 1 [1] (by simp) (src_byte _ 1) (by omega) ?_; intro w7 L7 hL7 F7 X7; have K7 := K6.step (below_new _ _) X7; have T7 := T6.step (below_new _ _) X7 hne; obtain ⟨lt7, t70, t71⟩ := T7) | (at_builtin; refine wpList_append_fil _ rfl (.tmp 45) (.tmp 47) 9 rfl w2.heap.size 130 L7 _ F7 rfl (.string (vl k)) rfl (vl k).size (bytesOf (vl k)) (bytesOf_bd _) (src_text _ _) (by omega) ?_; intro w8 L8 hL8 F8 X8; have K8 := K7.step (Below.refl _ _) X8) | (at_builtin; refine wpList_append_fil _ rfl (.tmp 49) (.tmp 50) 22 rfl w2.heap.size 130 L8 _ (F8.keep (below_new _ _)) rfl _ rfl 1 [0] (by simp) (src_byte _ 0) (by omega) ?_; intro w9 L9 hL9 F9 X9; have K9 := K8.step (below_new _ _) X9))
      have hl : bytesOf m ++ [0] ++ ktags nm vl k ++ [2] ++ bytesOf (nm k) ++ [1] ++ bytesOf (vl k) ++ [0] = bytesOf m ++ [0] ++ ktags nm vl (k + 1) := by simp [ktags, tagB]
      rw [hl] at F9
      go_roundw
      case rel => exact ⟨k + 1, L9, by omega, by go_num, rfl, by omega, F9, K9⟩
      case measure => simp [intOf]; omega
    · have e : k = n := by omega
      subst e
      go_wp2_with (first | (at_builtin; refine wpList_append_fil _ rfl (.tmp 53) (.tmp 54) 22 rfl w2.heap.size 130 L _ (hF.keep (below_new _ _)) rfl _ rfl 1 [1] (by simp) (src_byte _ 1) (by omega) ?_; intro w5 L5 hL5 F5 X5; have K5 := hK.step (below_new _ _) X5) | (at_builtin; refine wpList_append_fil _ rfl (.tmp 56) (.tmp 57) 22 rfl w2.heap.size 130 L5 _ F5 rfl _ rfl 8 (pfl st) (pfl_bd st) (src_row K5.start) (by omega) ?_; intro w6 L6 hL6 F6 X6; have K6 := K5.step (Below.refl _ _) X6; have hle6 := F6.le))
      go_ret2
      have hl : bytesOf m ++ [0] ++ ktags nm vl k ++ [1] ++ pfl st = kbytes m k nm vl st := rfl
      rw [hl] at F6
      exact ⟨w2.heap.size, L6, by rw [F6.len]; rfl, Nat.le_of_lt hR, F6.own, K6.below⟩
end Go.Proofs.Ytpggmgmdcccmeaa
namespace Go.Proofs.Ytpggmgmdcccmeaa
open Go.RowKit
set_option linter.unusedSimpArgs false
set_option linter.unusedVariables false

def isTm (t : Int) : Bool := btw 0 t 1000000000
def isSz (z : Int) : Bool := btw 1 z 100000

theorem isTime_any (v : Int) (w : World) :
    Calls Try.prog 36 #[.int .i64 v] w fun e w' => e = .returned (.bool (isTm v)) ∧ w' = w := by
  by_cases h1 : 0 ≤ v
  · by_cases h2 : v ≤ 1000000000
    · have h : isTm v = true := by simp [isTm, btw, h1, h2]
      go_enter Try.func36, Try.ntmps36
      go_wp2
      go_ret
      exact ⟨by simp_all, rfl⟩
    · have h : isTm v = false := by simp [isTm, btw, h2]
      go_enter Try.func36, Try.ntmps36
      go_wp2
      go_ret
      exact ⟨by simp_all, rfl⟩
  · have h : isTm v = false := by simp [isTm, btw, h1]
    have h3 : decide (0 ≤ v) = false := by simpa using h1
    go_enter Try.func36, Try.ntmps36
    go_wp2
    go_ret
    exact ⟨by simp_all, rfl⟩

theorem isSize_any (v : Int) (w : World) :
    Calls Try.prog 37 #[.int .i64 v] w fun e w' => e = .returned (.bool (isSz v)) ∧ w' = w := by
  by_cases h1 : 1 ≤ v
  · by_cases h2 : v ≤ 100000
    · have h : isSz v = true := by simp [isSz, btw, h1, h2]
      go_enter Try.func37, Try.ntmps37
      go_wp2
      go_ret
      exact ⟨by simp_all, rfl⟩
    · have h : isSz v = false := by simp [isSz, btw, h2]
      go_enter Try.func37, Try.ntmps37
      go_wp2
      go_ret
      exact ⟨by simp_all, rfl⟩
  · have h : isSz v = false := by simp [isSz, btw, h1]
    have h3 : decide (1 ≤ v) = false := by simpa using h1
    go_enter Try.func37, Try.ntmps37
    go_wp2
    go_ret
    exact ⟨by simp_all, rfl⟩

theorem l11Time_any (v : Int) (w : World) :
    Calls Try.prog 32 #[.int .i64 v] w fun e w' => e = .returned (.bool (isTm v)) ∧ w' = w := by
  go_enter Try.func32, Try.ntmps32
  go_wp2_with fail
  refine (l1In_any v 0 1000000000 _).mono ?_
  rintro e w1 ⟨rfl, rfl⟩
  go_wp2
  go_ret
  exact ⟨rfl, rfl⟩

theorem modOf_any (a b : Int) (ha : 0 ≤ a) (hb : 0 < b) (hb2 : b ≤ 100000) (w : World) :
    Calls Try.prog 38 #[.int .i64 a, .int .i64 b] w fun e w' => e = .returned (.int .i64 ((a % b))) ∧ w' = w := by
  have h1 := Int.emod_lt_of_pos a hb
  have h2 := Int.emod_nonneg a (show b ≠ 0 by omega)
  have hb0 : ¬ b = 0 := by omega
  have hw : IntKind.i64.wrap ((a % b)) = (a % b) := by rw [IntKind.wrap_i64] <;> omega
  have h : ¬ (a % b) < 0 := by omega
  go_enter Try.func38, Try.ntmps38
  go_wp2
  exact bodyPost_ret (v := .int .i64 ((a % b))) (by simp [results, Try.results38, go_sem, hw]) rfl ⟨rfl, rfl⟩

/-- What StartOf answers. -/
def SoA (t z : Int) : Ending := if isTm t = true ∧ isSz z = true then .returned (.tuple #[.int .i64 (t - t % z), .bool true]) else .returned (.tuple #[.int .i64 0, .bool false])

theorem l1In_is (n lo hi : Int) (B : Bool) (h : Hid (btw lo n hi = B)) (w : World) :
    Calls Try.prog 48 #[.int .i64 n, .int .i64 lo, .int .i64 hi] w fun e w' => e = .returned (.bool B) ∧ w' = w := by
  have := l1In_any n lo hi w
  rw [h.out] at this
  exact this

theorem startOf_impl (t z : Int) (w : World) :
    Calls Try.prog 12 #[.int .i64 t, .int .i64 z] w fun e w' => e = SoA t z ∧ w' = w := by
  generalize hS : SoA t z = S
  have HS : Hid (SoA t z = S) := hS
  clear hS
  generalize h1 : isTm t = b1
  have H1 : Hid (isTm t = b1) := h1
  clear h1
  go_enter Try.func12, Try.ntmps12
  go_wp2_with fail
  refine (isTime_any t _).mono ?_
  rintro e w1 ⟨rfl, rfl⟩
  rw [H1.out]
  cases b1
  · have E : Hid (S = .returned (.tuple #[.int .i64 0, .bool false])) := by unfold Hid; rw [← HS.out]; unfold SoA; rw [if_neg (by rw [H1.out]; simp)]
    go_wp2
    exact bodyPost_ret (v := .tuple #[.int .i64 0, .bool false]) (by simp [results, Try.results12, go_sem]) rfl ⟨E.out.symm, rfl⟩
  · generalize h2 : isSz z = b2
    have H2 : Hid (isSz z = b2) := h2
    clear h2
    go_wp2_with fail
    refine (isSize_any z _).mono ?_
    rintro e w2 ⟨rfl, rfl⟩
    rw [H2.out]
    cases b2
    · have E : Hid (S = .returned (.tuple #[.int .i64 0, .bool false])) := by unfold Hid; rw [← HS.out]; unfold SoA; rw [if_neg (by rw [H2.out]; simp)]
      go_wp2
      exact bodyPost_ret (v := .tuple #[.int .i64 0, .bool false]) (by simp [results, Try.results12, go_sem]) rfl ⟨E.out.symm, rfl⟩
    · have E : Hid (S = .returned (.tuple #[.int .i64 (t - t % z), .bool true])) := by unfold Hid; rw [← HS.out]; unfold SoA; rw [if_pos ⟨H1.out, H2.out⟩]
      have a1 := H1.out
      have a2 := H2.out
      simp [isTm, isSz, btw] at a1 a2
      have m1 := Int.emod_lt_of_pos t (show 0 < z by omega)
      have m2 := Int.emod_nonneg t (show z ≠ 0 by omega)
      have hw : IntKind.i64.wrap (t - t % z) = t - t % z := by rw [IntKind.wrap_i64] <;> omega
      go_wp2_with fail
      refine (modOf_any t z (by omega) (by omega) (by omega) _).mono ?_
      rintro e w3 ⟨rfl, rfl⟩
      go_wp2
      exact bodyPost_ret (v := .tuple #[.int .i64 (t - t % z), .bool true]) (by simp [results, Try.results12, go_sem]) rfl ⟨E.out.symm, rfl⟩

end Go.Proofs.Ytpggmgmdcccmeaa
