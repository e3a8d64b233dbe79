/- Bytes that the call itself gathers by append. / Arrays of bytes: a slice cut out of one by a third index; a new one's cells. / The cyclic check: both texts step by step one function of numbers. / Numbers of fixed length: what PutFixed lays. / Bytes as lists: where they lie, rows of the call's own, append. / Marks laid into an answer's memory, and looked for, from 1 on. / Bytes of an answer: nil, or in memory of their own; their marks. -/
import Derived.Test.YtohjjigkfdhklaaGreatBase
import Derived.OpenShut
import Derived.Test.YtohjjigkfdhklaaGreatIL
import Derived.Laws.OwnMore
import Derived.Maps.AppendAt
import Derived.Lib.AppendZeros
namespace Go.Proofs.YtohjjigkfdhklaaGreat
set_option maxRecDepth 100000
open Go.RowKit

/-- The bytes f 0 .. f (n - 1) as cells. -/
def bcells (f : Nat → Int) (n : Nat) : List Value := (List.range n).map fun i => Value.int .u8 (f i)
theorem bcells_zero (f : Nat → Int) : bcells f 0 = [] := rfl
theorem bcells_succ (f : Nat → Int) (n : Nat) : bcells f n ++ [Value.int .u8 (f n)] = bcells f (n + 1) := by
  simp [bcells, List.range_succ]
theorem bcells_congr {f g : Nat → Int} {n : Nat} (h : ∀ i, i < n → f i = g i) : bcells f n = bcells g n := by
  unfold bcells
  refine List.map_congr_left fun i hi => ?_
  rw [h i (List.mem_range.1 hi)]

theorem own_of_row {w : World} {base n : Nat} {v : Value} {f : Nat → Int} (h : w.ownsRow base 5 1 v n (bcells f n)) (hn : 0 < n) (hb : ∀ i, 0 ≤ f i ∧ f i ≤ 255) :
    ∃ g cap, v = .slice (some ⟨g, 0, none⟩) n cap ∧ base ≤ g ∧ n ≤ cap ∧ Own w g 0 n f := by
  rcases h.2 with ⟨_, h0⟩ | ⟨g, cap, cur, rfl, hbg, hg, hnc, _⟩
  · omega
  · refine ⟨g, cap, rfl, hbg, hnc, hb, (Array.getElem?_eq_some_iff.1 hg).1, fun i hi => ?_, fun i _ => by simpa using h.frozenAt i⟩
    rw [Nat.zero_add, h.cellAt i (by omega)]
    simp [bcells, hi]

theorem below_append {B : Nat} {w wr w' : World} {base n : Nat} {v : Value} {xs : List Value} (hb : Below B w wr) (ho : wr.ownsRow base 5 1 v n xs) (hg : wr.grownBy w' v.ownBlock) (hB : B ≤ base) (hs : B ≤ wr.heap.size) : Below B w w' := by
  refine hb.grown hg hs fun k hk => ?_
  rcases ho.2 with ⟨rfl, _⟩ | ⟨g, cap, cur, rfl, hbg, _⟩
  · simp [Value.ownBlock] at hk
  · simp [Value.ownBlock] at hk; omega

end Go.Proofs.YtohjjigkfdhklaaGreat
namespace Go.Proofs.YtohjjigkfdhklaaGreat
set_option maxRecDepth 100000
open Go.RowKit
set_option linter.unusedSimpArgs false
set_option linter.unusedVariables false

theorem slice_arr_hm (t len : Nat) (ht : Tryz.prog.underlying t = some (.array len 5)) (a : Addr) (H : Int) (h : Nat) (eh : H = (h : Int)) (hl : h ≤ len) (w : World) :
    (Instr.sliceAt t (.pointer (some a)) none (some (.int .i64 H)) (some (.int .i64 H))).run Tryz.prog w = .ok (.slice (some a) h h) w := by
  obtain ⟨i0, hi, hz0, hz1, hz2⟩ := info_parts Tryz.info5
  subst eh
  have e1 : (0 : Int) ≤ (h : Int) := by omega
  have e2 : ¬ (len : Int) < (h : Int) := by omega
  simp [Instr.sliceAt, Instr.sureAddr, run_underlying ht, Instr.sliceBounds, run_sliceBound, sizeOf, typeInfo, hi, hz1, hl, e1, e2, Addr.add]
theorem slice_arr_lhm (t len : Nat) (ht : Tryz.prog.underlying t = some (.array len 5)) (a : Addr) (L H : Int) (l h : Nat) (el : L = (l : Int)) (eh : H = (h : Int)) (hlh : l < h) (hl : h ≤ len) (w : World) :
    (Instr.sliceAt t (.pointer (some a)) (some (.int .i64 L)) (some (.int .i64 H)) (some (.int .i64 H))).run Tryz.prog w = .ok (.slice (some (a.add l)) (h - l) (h - l)) w := by
  obtain ⟨i0, hi, hz0, hz1, hz2⟩ := info_parts Tryz.info5
  subst eh
  subst el
  have e0 : (0 : Int) ≤ (l : Int) := by omega
  have e1 : (0 : Int) ≤ (h : Int) := by omega
  have e2 : ¬ (len : Int) < (h : Int) := by omega
  have e3 : ¬ (h : Int) < (l : Int) := by omega
  have e4 : ¬ h = l := by omega
  simp [Instr.sliceAt, Instr.sureAddr, run_underlying ht, Instr.sliceBounds, run_sliceBound, sizeOf, typeInfo, hi, hz1, hl, e0, e1, e2, e3, e4, Nat.le_of_lt hlh]

theorem own_new (w : World) (n : Nat) (cs : Array Value) (T : Nat) (hs : cs.toList = List.replicate n (Value.int .u8 0)) : Own (w.alloc (.cells cs T)) w.heap.size 0 n (fun _ => 0) := by
  have hsz : cs.size = n := by rw [← Array.length_toList, hs]; simp
  have hh : (w.alloc (.cells cs T)).heap[w.heap.size]? = some (.cells cs T (0, 0)) := heap_alloc_new w _
  refine ⟨fun _ => by omega, by simp, fun i hi => ?_, fun i _ => frozen_of_row _ _ _ _ _ hh⟩
  rw [cell_of_row _ _ _ _ _ _ hh, Nat.zero_add, ← Array.getElem?_toList, hs]
  simp [hi]

end Go.Proofs.YtohjjigkfdhklaaGreat
namespace Go.Proofs.YtohjjigkfdhklaaGreat
set_option maxRecDepth 100000
open Go.RowKit

def cbit (c : Int) : Int := if (bits .and .u32 c 1 == 1) = true then bits .xor .u32 (c / 2) 2197175160 else c / 2
def cbits : Nat → Int → Int
  | 0, c => c
  | j + 1, c => cbit (cbits j c)
def crcTo (f : Nat → Int) : Nat → Int
  | 0 => 4294967295
  | k + 1 => cbits 8 (bits .xor .u32 (crcTo f k) (f k))
def crcOf (f : Nat → Int) (n : Nat) : Int := bits .xor .u32 (crcTo f n) 4294967295

theorem xor_bd (x y : Int) : 0 ≤ bits .xor .u32 x y ∧ bits .xor .u32 x y ≤ 4294967295 := bounds_u32 (wf_bits _ _ _ _)
theorem xor_comm32 (x y : Int) : bits .xor .u32 x y = bits .xor .u32 y x := by
  show IntKind.u32.wrap ((BitVec.ofInt 32 x ^^^ BitVec.ofInt 32 y).toNat : Int) = IntKind.u32.wrap ((BitVec.ofInt 32 y ^^^ BitVec.ofInt 32 x).toNat : Int)
  rw [BitVec.xor_comm]
theorem cbit_bd (c : Int) (h : 0 ≤ c ∧ c ≤ 4294967295) : 0 ≤ cbit c ∧ cbit c ≤ 4294967295 := by
  unfold cbit
  split
  · exact xor_bd _ _
  · omega
theorem cbits_bd (j : Nat) (c : Int) (h : 0 ≤ c ∧ c ≤ 4294967295) : 0 ≤ cbits j c ∧ cbits j c ≤ 4294967295 := by
  induction j with
  | zero => exact h
  | succ j ih => exact cbit_bd _ ih
theorem crcTo_bd (f : Nat → Int) (k : Nat) : 0 ≤ crcTo f k ∧ crcTo f k ≤ 4294967295 := by
  cases k with
  | zero => simp [crcTo]
  | succ k => exact cbits_bd _ _ (xor_bd _ _)
theorem cbit_yes (c : Int) (h : (bits .and .u32 c 1 == 1) = true) : bits .xor .u32 (c / 2) 2197175160 = cbit c := by unfold cbit; rw [if_pos h]
theorem cbit_no (c : Int) (h : (bits .and .u32 c 1 == 1) = false) : c / 2 = cbit c := by unfold cbit; rw [if_neg (by simp [h])]

set_option maxHeartbeats 400000 in
theorem crc_spec (ao : Option Addr) (n cap : Nat) (f : Nat → Int) (w : World) (hr : Row w ao n f) (hn : n ≤ 1048576) :
    Calls Tryz.prog 61 #[.slice ao n cap] w fun e w' => e = .returned (.int .u32 (crcOf f n)) ∧ Below w.heap.size w w' := by
  obtain ⟨hbd, hl⟩ := hr
  go_enter Tryz.func61, Tryz.ntmps61
  go_wp2
  go_loopw [3, 9] (fun s i wr => ∃ k : Nat, k ≤ n ∧ i = .int .i64 k ∧ s = .int .u32 (crcTo f k) ∧ Below w.heap.size w wr) (fun _ i _ => n - (intOf i).toNat)
  case atStart => exact ⟨0, Nat.zero_le _, rfl, rfl, Below.refl _ _⟩
  case round =>
    obtain ⟨k, hk, rfl, rfl, hbk⟩ := hrel
    by_cases hlt : k < n
    · obtain ⟨b, off, rfl, hblt, hc⟩ := hl.resolve_left (by omega)
      have h1 : wr.cell? ⟨b, off + k, none⟩ = some (.int .u8 (f k)) := (hbk.cell (p := ⟨b, off + k, none⟩) hblt).trans (hc k hlt)
      have hb := hbd k
      clear hc hl
      go_wp2
      go_loopw [3, 6] (fun s i ws => ∃ j : Nat, j ≤ 8 ∧ i = .int .i64 j ∧ s = .int .u32 (cbits j (bits .xor .u32 (crcTo f k) (f k))) ∧ ws = wr) (fun _ i _ => 8 - (intOf i).toNat)
      case atStart => exact ⟨0, by omega, rfl, rfl, rfl⟩
      case round =>
        obtain ⟨j, hj, rfl, rfl, rfl⟩ := hrel
        have hx := cbits_bd j _ (xor_bd (crcTo f k) (f k))
        have hsu : Hid (cbits (j + 1) (bits .xor .u32 (crcTo f k) (f k)) = cbit (cbits j (bits .xor .u32 (crcTo f k) (f k)))) := rfl
        have hs8 : Hid (j = 8 → cbits j (bits .xor .u32 (crcTo f k) (f k)) = crcTo f (k + 1)) := fun h => by subst h; rfl
        generalize bits .xor .u32 (crcTo f k) (f k) = y at *
        generalize cbits j y = c1 at *
        by_cases hlt8 : j < 8
        · go_wp2
          all_goals go_roundw
          all_goals first
            | (case rel => exact ⟨j + 1, by omega, by go_num, by rw [hsu.out]; first | rw [cbit_yes _ ‹_›] | rw [cbit_no _ ‹_›], by trivial⟩)
            | skip
          all_goals (case measure => simp [intOf]; omega)
        · go_wp2
          go_roundw
          case rel => exact ⟨k + 1, by omega, by go_num, by rw [hs8.out (by omega)], hbk⟩
          case measure => simp [intOf]; omega
    · go_wp2
      go_ret
      have : k = n := by omega
      subst this
      exact ⟨rfl, hbk⟩

set_option maxHeartbeats 400000 in
theorem crc_impl (ao : Option Addr) (n cap : Nat) (f : Nat → Int) (w : World) (hr : Row w ao n f) (hn : n ≤ 1048576) :
    Calls Tryz.prog 87 #[.slice ao n cap] w fun e w' => e = .returned (.int .u32 (crcOf f n)) ∧ Below w.heap.size w w' := by
  obtain ⟨hbd, hl⟩ := hr
  go_enter Tryz.func87, Tryz.ntmps87
  go_wp2
  go_loopw [3, 9] (fun s i wr => ∃ k : Nat, k ≤ n ∧ i = .int .i64 k ∧ s = .int .u32 (crcTo f k) ∧ Below w.heap.size w wr) (fun _ i _ => n - (intOf i).toNat)
  case atStart => exact ⟨0, Nat.zero_le _, rfl, rfl, Below.refl _ _⟩
  case round =>
    obtain ⟨k, hk, rfl, rfl, hbk⟩ := hrel
    by_cases hlt : k < n
    · obtain ⟨b, off, rfl, hblt, hc⟩ := hl.resolve_left (by omega)
      have h1 : wr.cell? ⟨b, off + k, none⟩ = some (.int .u8 (f k)) := (hbk.cell (p := ⟨b, off + k, none⟩) hblt).trans (hc k hlt)
      have hb := hbd k
      clear hc hl
      go_wp2
      go_loopw [3, 17] (fun s i ws => ∃ j : Nat, j ≤ 8 ∧ i = .int .i64 j ∧ s = .int .u32 (cbits j (bits .xor .u32 (crcTo f k) (f k))) ∧ ws = wr) (fun _ i _ => 8 - (intOf i).toNat)
      case atStart => exact ⟨0, by omega, rfl, rfl, rfl⟩
      case round =>
        obtain ⟨j, hj, rfl, rfl, rfl⟩ := hrel
        have hx := cbits_bd j _ (xor_bd (crcTo f k) (f k))
        have hsu : Hid (cbits (j + 1) (bits .xor .u32 (crcTo f k) (f k)) = cbit (cbits j (bits .xor .u32 (crcTo f k) (f k)))) := rfl
        have hs8 : Hid (j = 8 → cbits j (bits .xor .u32 (crcTo f k) (f k)) = crcTo f (k + 1)) := fun h => by subst h; rfl
        generalize bits .xor .u32 (crcTo f k) (f k) = y at *
        generalize cbits j y = c1 at *
        by_cases hlt8 : j < 8
        · go_wp2
          all_goals go_roundw
          all_goals first
            | (case rel => exact ⟨j + 1, by omega, by go_num, by rw [hsu.out]; first | rw [cbit_yes _ ‹_›] | rw [cbit_no _ ‹_›], by trivial⟩)
            | skip
          all_goals (case measure => simp [intOf]; omega)
        · go_wp2
          go_roundw
          case rel => exact ⟨k + 1, by omega, by go_num, by rw [hs8.out (by omega)], hbk⟩
          case measure => simp [intOf]; omega
    · go_wp2
      go_ret
      have : k = n := by omega
      subst this
      exact ⟨by rw [xor_comm32]; rfl, hbk⟩

end Go.Proofs.YtohjjigkfdhklaaGreat

namespace Go.Proofs.YtohjjigkfdhklaaGreat
set_option maxRecDepth 100000
open Go.RowKit
set_option linter.unusedSimpArgs false
set_option linter.unusedVariables false

/-- The byte at place i of m bytes of n. -/
def pf (n : Int) (m i : Nat) : Int := n / 2 ^ (8 * (m - 1 - i)) % 256
theorem pf_bd (n : Int) (m i : Nat) : 0 ≤ pf n m i ∧ pf n m i ≤ 255 := by unfold pf; omega
theorem pf_tail (n : Int) (m i : Nat) (hm : m ≤ 8) (hi : i < m) : pf n 8 (8 - m + i) = pf n m i := by
  unfold pf; rw [show 8 - 1 - (8 - m + i) = m - 1 - i from by omega]

set_option maxHeartbeats 400000 in
theorem l1Fixed_any (n : Int) (m : Nat) (w : World) (hn : 0 ≤ n ∧ n ≤ 9223372036854775807) (hm : m ≤ 8) (hm1 : 1 ≤ m) :
    Calls Tryz.prog 60 #[.int .i64 n, .int .i64 m] w fun e w' => ∃ g cap, e = .returned (.slice (some ⟨g, 0, none⟩) m cap) ∧ w.heap.size ≤ g ∧ Own w' g 0 m (pf n m) ∧ Below w.heap.size w w' := by
  obtain ⟨i0, hi, hz0, hz1, hz2⟩ := info_parts Tryz.info5
  go_enter Tryz.func60, Tryz.ntmps60
  go_wp2
  go_loopw [5, 6] (fun v i wr => ∃ k : Nat, k ≤ m ∧ i = .int .i64 ((m : Int) - 1 - k) ∧ wr.ownsRow w.heap.size 5 1 v k (bcells (pf n m) k) ∧ Below w.heap.size w wr) (fun _ i _ => (intOf i + 1).toNat)
  case atStart => exact ⟨0, by omega, by go_num, World.ownsRow_nil _ _ _ _, Below.refl _ _⟩
  case round =>
    obtain ⟨k, hk, rfl, hown, hbk⟩ := hrel
    have hsz := hbk.size
    by_cases hlt : k < m
    · go_wp2_with (at_builtin; refine wpList_append_own _ rfl (.tmp 13) (.tmp 20) 22 rfl w.heap.size 5 i0 (.int .u8 0) 1 1 Tryz.underlying22 hi hz0 hz1 hz2 rfl (by decide) _ _ _ rfl (hown.alloc _) ⟨wr.heap.size, 0, none⟩ 1 1 [.int .u8 (pf n m k)] rfl rfl (cell_one_new _ _ _) (by simp [Value.oneCell']) (by unfold maxLen; omega) (by omega) (by simp; omega) ?_; intro v' w1 hown' hgrow _)
      have hbw := below_append (hbk.alloc hsz _) (hown.alloc _) hgrow (Nat.le_refl _) (by simp; omega)
      rw [bcells_succ] at hown'
      go_roundw
      case rel => exact ⟨k + 1, by omega, by go_num, hown', hbw⟩
      case measure => simp [intOf]; omega
    · have e : k = m := by omega
      subst e
      obtain ⟨g, cap, hv, hg, _, hO⟩ := own_of_row hown (by omega) (pf_bd n k)
      rw [hv]
      go_wp2
      go_ret
      exact ⟨g, cap, rfl, hg, hO, hbk⟩

/-- What PutFixed takes. -/
def PFGood (n a : Int) : Prop := 0 ≤ n ∧ 1 ≤ a ∧ a ≤ 8 ∧ n / 2 ^ (8 * a.toNat) = 0

def FixOut (n : Int) (m : Nat) (w : World) (e : Ending) (w' : World) : Prop :=
  ∃ g off cap, e = .returned (.tuple #[.slice (some ⟨g, off, none⟩) m cap, .bool true]) ∧ w.heap.size ≤ g ∧ Own w' g off m (pf n m) ∧ Below w.heap.size w w'

theorem slice_arr_tail (t len : Nat) (ht : Tryz.prog.underlying t = some (.array len 5)) (b : Nat) (L H : Int) (l h : Nat) (el : L = (l : Int)) (eh : H = (h : Int)) (hlh : l < h) (hl : h ≤ len) (w : World) :
    (Instr.sliceAt t (.pointer (some ⟨b, 0, none⟩)) (some (.int .i64 L)) (some (.int .i64 H)) (some (.int .i64 H))).run Tryz.prog w = .ok (.slice (some ⟨b, l, none⟩) (h - l) (h - l)) w := by
  rw [slice_arr_lhm t len ht ⟨b, 0, none⟩ L H l h el eh hlh hl w]
  by_cases h0 : l = 0
  · subst h0; simp [Addr.add]
  · simp [Addr.add, h0]

set_option maxHeartbeats 1000000 in
theorem putFixed_impl_yes (n : Int) (m : Nat) (w : World) (hn : 0 ≤ n ∧ n ≤ 9223372036854775807) (hm1 : 1 ≤ m) (hm : m ≤ 8) (h : n / 2 ^ (8 * m) = 0) :
    Calls Tryz.prog 191 #[.int .i64 n, .int .i64 m] w fun e w' => FixOut n m w e w' := by
  have hz : (n / 2 ^ (8 * m) != 0) = false := by simp [h]
  clear h
  have hd : decide (n < 0) = false := by simp; omega
  have hd1 : decide ((m : Int) < 1) = false := by simp; omega
  have hd8 : decide ((8 : Int) < (m : Int)) = false := by simp; omega
  have h0 : Own (w.alloc (.cells #[.int .u8 0, .int .u8 0, .int .u8 0, .int .u8 0, .int .u8 0, .int .u8 0, .int .u8 0, .int .u8 0] 212)) w.heap.size 0 8 (fun _ => 0) := own_new _ _ _ _ rfl
  go_enter Tryz.func191, Tryz.ntmps191
  go_wp2
  go_loopw [25] (fun i wr => ∃ k : Nat, k ≤ 8 ∧ i = .int .i64 k ∧ Own wr w.heap.size 0 8 (fun i => if i < k then pf n 8 i else 0) ∧ Below w.heap.size w wr) (fun i _ => 8 - (intOf i).toNat)
  case atStart => exact ⟨0, by omega, rfl, by simpa using h0, (Below.refl _ _).alloc (Nat.le_refl _) _⟩
  case round =>
    obtain ⟨k, hk, rfl, hown, hbk⟩ := hrel
    clear h0
    by_cases hlt : k < 8
    · have hc := hown.cell k (by omega)
      have hf := hown.free k (by omega)
      have hst := hown.store k hlt (pf n 8 k) (pf_bd n 8 k)
      simp only [Nat.zero_add] at hc hf hst
      go_wp2
      go_roundw
      case rel =>
        refine ⟨k + 1, by omega, by go_num, hst.congr (fun i => ?_) (fun i _ => ?_), hbk.setCell (Nat.le_refl _) _⟩
        · have := pf_bd n 8 i
          split <;> omega
        · by_cases h1 : i = k
          · subst h1; simp
          · by_cases h2 : i < k
            · rw [if_neg h1, if_pos h2, if_pos (by omega)]
            · rw [if_neg h1, if_neg h2, if_neg (by omega)]
      case measure => simp [intOf]; omega
    · have hsl := slice_arr_tail 212 8 Tryz.underlying212 w.heap.size (8 - (m : Int)) 8 (8 - m) 8 (by omega) rfl (by omega) (by omega)
      rw [show 8 - (8 - m) = m from by omega] at hsl
      go_wp2
      go_ret2
      refine ⟨w.heap.size, 8 - m, m, rfl, Nat.le_refl _, ⟨pf_bd n m, hown.lt, fun i hi => ?_, fun i hi => ?_⟩, hbk⟩
      · have := hown.cell (8 - m + i) (by omega)
        rw [Nat.zero_add, if_pos (by omega), pf_tail n m i hm hi] at this
        exact this
      · have := hown.free (8 - m + i) (by omega)
        rw [Nat.zero_add] at this
        exact this
end Go.Proofs.YtohjjigkfdhklaaGreat

namespace Go.Proofs.YtohjjigkfdhklaaGreat
set_option maxRecDepth 100000
open Go.RowKit
set_option linter.unusedSimpArgs false
set_option linter.unusedVariables false

def fl (L : List Int) : Nat → Int := fun i => L.getD i 0
def Byt (L : List Int) : Prop := ∀ x ∈ L, 0 ≤ x ∧ x ≤ 255
def vb (L : List Int) : List Value := L.map fun x => Value.int .u8 x

theorem vb_length (L : List Int) : (vb L).length = L.length := by simp [vb]
theorem vb_append (L M : List Int) : vb L ++ vb M = vb (L ++ M) := by simp [vb]
theorem vb_get {L : List Int} {i : Nat} (h : i < L.length) : (vb L)[i]? = some (.int .u8 (fl L i)) := by
  simp [vb, fl, h]
theorem Byt.fl {L : List Int} (h : Byt L) (i : Nat) : 0 ≤ fl L i ∧ fl L i ≤ 255 := by
  unfold Go.Proofs.YtohjjigkfdhklaaGreat.fl
  rw [List.getD_eq_getElem?_getD]
  by_cases hi : i < L.length
  · rw [List.getElem?_eq_getElem hi]
    exact h _ (List.getElem_mem hi)
  · rw [List.getElem?_eq_none (by omega)]
    simp
theorem Byt.append {L M : List Int} (h : Byt L) (k : Byt M) : Byt (L ++ M) := fun x hx => by
  rcases List.mem_append.1 hx with hx | hx
  · exact h x hx
  · exact k x hx
theorem Byt.take {L : List Int} (h : Byt L) (n : Nat) : Byt (L.take n) := fun x hx => h x (List.mem_of_mem_take hx)
theorem Byt.drop {L : List Int} (h : Byt L) (n : Nat) : Byt (L.drop n) := fun x hx => h x (List.mem_of_mem_drop hx)
theorem byt_nil : Byt [] := fun x hx => by cases hx
theorem byt_one {x : Int} (h : 0 ≤ x ∧ x ≤ 255) : Byt [x] := fun y hy => by rw [List.mem_singleton.1 hy]; exact h
theorem byt_cons {x : Int} {L : List Int} (h : 0 ≤ x ∧ x ≤ 255) (k : Byt L) : Byt (x :: L) := (byt_one h).append k

/-- The bytes L lie in block b from off on. -/
structure At (w : World) (b off : Nat) (L : List Int) : Prop where
  bd : Byt L
  lt : b < w.heap.size
  cell : ∀ i, i < L.length → w.cell? ⟨b, off + i, none⟩ = some (.int .u8 (fl L i))

theorem At.keep {w w' : World} {b off : Nat} {L : List Int} (h : At w b off L) (hb : Below w.heap.size w w') : At w' b off L :=
  ⟨h.bd, Nat.lt_of_lt_of_le h.lt hb.size, fun i hi => (hb.cell (p := ⟨b, off + i, none⟩) h.lt).trans (h.cell i hi)⟩
theorem At.grown {w w' : World} {b off : Nat} {L : List Int} {row : Option Nat} (h : At w b off L) (hg : w.grownBy w' row) (hne : row ≠ some b) : At w' b off L :=
  ⟨h.bd, Nat.lt_of_lt_of_le h.lt hg.size, fun i hi => hg.cell (h.cell i hi) (fun e => hne e.symm)⟩
theorem At.row {w : World} {b off : Nat} {L : List Int} (h : At w b off L) : Row w (some ⟨b, off, none⟩) L.length (fl L) :=
  ⟨h.bd.fl, .inr ⟨b, off, rfl, h.lt, h.cell⟩⟩
theorem At.take {w : World} {b off : Nat} {L : List Int} (h : At w b off L) (n : Nat) : At w b off (L.take n) :=
  ⟨h.bd.take n, h.lt, fun i hi => by
    rw [List.length_take] at hi
    rw [h.cell i (by omega)]
    simp only [fl, List.getD_eq_getElem?_getD]
    rw [List.getElem?_take_of_lt (by omega)]⟩
theorem At.drop {w : World} {b off : Nat} {L : List Int} (h : At w b off L) (n : Nat) : At w b (off + n) (L.drop n) :=
  ⟨h.bd.drop n, h.lt, fun i hi => by
    rw [List.length_drop] at hi
    rw [Nat.add_assoc, h.cell (n + i) (by omega)]
    simp only [fl, List.getD_eq_getElem?_getD]
    rw [List.getElem?_drop]⟩
theorem At.news {w : World} {b off : Nat} {L : List Int} (h : At w b off L) : ∀ j u, (vb L)[j]? = some u → w.cell? ((⟨b, off, none⟩ : Addr).add j) = some u := by
  intro j u hu
  have hj : j < L.length := by
    rcases Nat.lt_or_ge j L.length with hj | hj
    · exact hj
    · rw [List.getElem?_eq_none (by rw [vb_length]; exact hj)] at hu
      cases hu
  rw [vb_get hj] at hu
  have := h.cell j hj
  by_cases h0 : j = 0
  · subst h0
    simpa [Addr.add] using this.trans hu
  · simpa [Addr.add, h0] using this.trans hu
theorem vb_one (L : List Int) : ∀ u ∈ vb L, u.oneCell' = true := by
  intro u hu
  obtain ⟨x, _, rfl⟩ := List.mem_map.1 hu
  rfl

/-- v is a slice of the call's own (all of it lies in a block from base on) that holds L. -/
structure OwnL (w : World) (base : Nat) (v : Value) (L : List Int) : Prop where
  bd : Byt L
  own : w.ownsRow base 5 1 v L.length (vb L)

theorem ownL_nil (w : World) (base : Nat) : OwnL w base (.slice none 0 0) [] := ⟨byt_nil, World.ownsRow_nil _ _ _ _⟩
theorem OwnL.form {w : World} {base : Nat} {v : Value} {L : List Int} (h : OwnL w base v L) : ∃ ao cap, v = .slice ao L.length cap := by
  rcases h.own.2 with ⟨rfl, h0⟩ | ⟨g, cap, cur, rfl, _⟩
  · exact ⟨none, 0, by rw [h0]⟩
  · exact ⟨_, _, rfl⟩
theorem OwnL.keep {w w' : World} {base : Nat} {v : Value} {L : List Int} (h : OwnL w base v L) (hb : Below w.heap.size w w') : OwnL w' base v L := by
  refine ⟨h.bd, h.own.1, ?_⟩
  rcases h.own.2 with ⟨rfl, h0⟩ | ⟨g, cap, cur, rfl, h1, h2, h3⟩
  · exact .inl ⟨rfl, h0⟩
  · exact .inr ⟨g, cap, cur, rfl, h1, (hb.block g (Array.getElem?_eq_some_iff.1 h2).1).trans h2, h3⟩
theorem OwnL.kept {w w' : World} {base : Nat} {v : Value} {L : List Int} {row : Option Nat} (h : OwnL w base v L) (hg : w.grownBy w' row) (hne : ∀ k, row = some k → v.ownBlock ≠ some k) : OwnL w' base v L := by
  refine ⟨h.bd, h.own.kept hg ?_⟩
  cases hr : v.ownBlock with
  | none => exact .inl rfl
  | some k => exact .inr fun e => hne k e.symm hr
theorem OwnL.lt {w : World} {base : Nat} {v : Value} {L : List Int} (h : OwnL w base v L) : ∀ k, v.ownBlock = some k → base ≤ k ∧ k < w.heap.size := h.own.lt
theorem OwnL.mono {w : World} {base base' : Nat} {v : Value} {L : List Int} (h : OwnL w base v L) (hb : base' ≤ base) : OwnL w base' v L := by
  refine ⟨h.bd, h.own.1, ?_⟩
  rcases h.own.2 with ⟨rfl, h0⟩ | ⟨g, cap, cur, rfl, h1, h2⟩
  · exact .inl ⟨rfl, h0⟩
  · exact .inr ⟨g, cap, cur, rfl, Nat.le_trans hb h1, h2⟩
theorem OwnL.at {w : World} {base : Nat} {v : Value} {L : List Int} (h : OwnL w base v L) (hn : 0 < L.length) :
    ∃ g cap, v = .slice (some ⟨g, 0, none⟩) L.length cap ∧ base ≤ g ∧ L.length ≤ cap ∧ At w g 0 L := by
  have ho := h.own
  rcases ho.2 with ⟨_, h0⟩ | ⟨g, cap, cur, rfl, hbg, hg, hnc, _⟩
  · omega
  · refine ⟨g, cap, rfl, hbg, hnc, h.bd, (Array.getElem?_eq_some_iff.1 hg).1, fun i hi => ?_⟩
    rw [Nat.zero_add, ho.cellAt i (by omega), vb_get hi]
theorem OwnL.own' {w : World} {base : Nat} {v : Value} {L : List Int} (h : OwnL w base v L) (hn : 0 < L.length) :
    ∃ g cap, v = .slice (some ⟨g, 0, none⟩) L.length cap ∧ base ≤ g ∧ L.length ≤ cap ∧ Own w g 0 L.length (fl L) := by
  have ho := h.own
  rcases ho.2 with ⟨_, h0⟩ | ⟨g, cap, cur, rfl, hbg, hg, hnc, _⟩
  · omega
  · refine ⟨g, cap, rfl, hbg, hnc, h.bd.fl, (Array.getElem?_eq_some_iff.1 hg).1, fun i hi => ?_, fun i _ => by simpa using ho.frozenAt i⟩
    rw [Nat.zero_add, ho.cellAt i (by omega), vb_get hi]
theorem ownL_lit (w : World) (base : Nat) (L : List Int) (hL : Byt L) (hb : base ≤ w.heap.size) (hm : L.length ≤ maxLen) :
    OwnL (w.alloc (.cells (vb L).toArray 5)) base (.slice (some ⟨w.heap.size, 0, none⟩) L.length L.length) L := by
  refine ⟨hL, ?_⟩
  have := World.ownsRow_lit (base := base) (e := 5) (size := 1) w (vb L).toArray L.length hb hm (by simp [vb_length])
  simpa using this

theorem at_new (w : World) (L : List Int) (hL : Byt L) (T : Nat) : At (w.alloc (.cells (vb L).toArray T)) w.heap.size 0 L := by
  have hh : (w.alloc (.cells (vb L).toArray T)).heap[w.heap.size]? = some (.cells (vb L).toArray T (0, 0)) := heap_alloc_new w _
  refine ⟨hL, by simp, fun i hi => ?_⟩
  rw [cell_of_row _ _ _ _ _ _ hh, Nat.zero_add, ← Array.getElem?_toList]
  exact vb_get hi

theorem OwnL.below {B : Nat} {w wr w' : World} {base : Nat} {v : Value} {L : List Int} (ho : OwnL wr base v L) (hb : Below B w wr) (hg : wr.grownBy w' v.ownBlock) (hB : B ≤ base) (hs : B ≤ wr.heap.size) : Below B w w' :=
  hb.grown hg hs fun k hk => Nat.le_trans hB (ho.lt k hk).1

theorem block_ne {w : World} {v v' : Value} {G : Nat} (h : v'.ownBlock = v.ownBlock ∨ v'.ownBlock = some w.heap.size) (hne : v.ownBlock ≠ some G) (hG : G < w.heap.size) : v'.ownBlock ≠ some G := by
  rcases h with h | h
  · rw [h]; exact hne
  · rw [h]; intro e; injection e with e; omega

/-- v' lies where v lay, or in memory that is new. -/
def NB (w : World) (v v' : Value) : Prop := v'.ownBlock = v.ownBlock ∨ ∃ G, v'.ownBlock = some G ∧ w.heap.size ≤ G
theorem nb_of {w : World} {v v' : Value} (h : v'.ownBlock = v.ownBlock ∨ v'.ownBlock = some w.heap.size) : NB w v v' := by
  rcases h with h | h
  · exact .inl h
  · exact .inr ⟨_, h, Nat.le_refl _⟩
theorem NB.trans {w w1 : World} {v v1 v2 : Value} (h : NB w v v1) (k : NB w1 v1 v2) (hs : w.heap.size ≤ w1.heap.size) : NB w v v2 := by
  rcases k with k | ⟨G, k, hG⟩
  · rcases h with h | ⟨G, h, hG⟩
    · exact .inl (k.trans h)
    · exact .inr ⟨G, k.trans h, hG⟩
  · exact .inr ⟨G, k, Nat.le_trans hs hG⟩
theorem NB.ne {w : World} {v v' : Value} {G : Nat} (h : NB w v v') (hne : v.ownBlock ≠ some G) (hG : G < w.heap.size) : v'.ownBlock ≠ some G := by
  rcases h with h | ⟨K, h, hK⟩
  · rw [h]; exact hne
  · rw [h]; intro e; injection e with e; omega
theorem grown_of_below {w w' : World} (h : Below w.heap.size w w') (row : Option Nat) : w.grownBy w' row := ⟨h.os, h.tape, h.output, h.size, fun k hk _ => h.block k hk⟩
theorem grown_next {w w1 w2 : World} {v v1 : Value} (h : w.grownBy w1 v.ownBlock) (hn : NB w v v1) (k : w1.grownBy w2 v1.ownBlock) : w.grownBy w2 v.ownBlock := by
  refine ⟨k.os.trans h.os, k.tape.trans h.tape, k.output.trans h.output, Nat.le_trans h.size k.size, fun i hi hne => ?_⟩
  refine (k.block i (Nat.lt_of_lt_of_le hi h.size) ?_).trans (h.block i hi hne)
  rcases hn with hn | ⟨G, hn, hG⟩
  · rw [hn]; exact hne
  · rw [hn]; intro e; injection e with e; omega
theorem nb_self (w : World) (v : Value) : NB w v v := .inl rfl

/-- Bytes put behind a row of the call's own. -/
theorem wpList_app {w : World} {ops : Array Oper} {rest : List Oper} {o : Oper} {a : Act} {Q : Exit → Act → World → Prop} (hgd : o.guard = none) (s x : Operand)
    (ho : o.op = .call { callee := .builtin .append, args := #[s, x], argTypes := #[22, 22] })
    (base : Nat) (v : Value) (L : List Int) (hs : a.eval s = v) (hown : OwnL w base v L)
    (b off m c : Nat) (M : List Int) (hx : a.eval x = .slice (some ⟨b, off, none⟩) m c) (hm : m = M.length) (hM : At w b off M)
    (hsz : L.length + M.length ≤ 4194304) (hbase : base ≤ w.heap.size)
    (h : ∀ v' w', OwnL w' base v' (L ++ M) → w.grownBy w' v.ownBlock → (v'.ownBlock = v.ownBlock ∨ v'.ownBlock = some w.heap.size) → wpList Tryz.prog ops Q rest (a.put o.dst v') w') :
    wpList Tryz.prog ops Q (o :: rest) a w := by
  obtain ⟨i0, hi, hz0, hz1, hz2⟩ := info_parts Tryz.info5
  refine wpList_append_own_at (w := w) hgd s x 22 ho base 5 i0 (.int .u8 0) 1 1 Tryz.underlying22 hi hz0 hz1 hz2 rfl (by decide) v L.length (vb L) hs hown.own ⟨b, off, none⟩ m c (vb M) hx (by rw [vb_length, hm, Nat.mul_one]) hM.news (vb_one M) (by unfold maxLen; omega) (by omega) hbase ?_
  intro v' w' h1 h2 h3 h4
  refine h v' w' ⟨hown.bd.append hM.bd, ?_⟩ h2 h4
  rw [List.length_append, ← vb_append, ← hm]
  exact h1

def pfL (n : Int) (m : Nat) : List Int := (List.range m).map (pf n m)
theorem pfL_length (n : Int) (m : Nat) : (pfL n m).length = m := by simp [pfL]
theorem pfL_bd (n : Int) (m : Nat) : Byt (pfL n m) := fun x hx => by
  obtain ⟨i, _, rfl⟩ := List.mem_map.1 hx
  exact pf_bd n m i
theorem pfL_at {w : World} {g off m : Nat} {n : Int} (h : Own w g off m (pf n m)) : At w g off (pfL n m) :=
  ⟨pfL_bd n m, h.lt, fun i hi => by
    rw [pfL_length] at hi
    rw [h.cell i hi]
    simp [fl, pfL, hi]⟩

def crcL (L : List Int) : Int := crcOf (fl L) L.length
theorem crcL_bd (L : List Int) : 0 ≤ crcL L ∧ crcL L ≤ 4294967295 := xor_bd _ _
end Go.Proofs.YtohjjigkfdhklaaGreat
namespace Go.Proofs.YtohjjigkfdhklaaGreat
set_option maxRecDepth 100000
open Go.RowKit
set_option linter.unusedSimpArgs false
set_option linter.unusedVariables false

def marks (i : Nat) : Int := ((1 + i : Nat) : Int) % 256

theorem mark_one (g off n cap : Nat) (f : Nat → Int) (w : World) (ho : Own w g off n f) (hn : n ≤ 1048576) :
    Calls Tryz.prog 18 #[.slice (some ⟨g, off, none⟩) n cap, .int .i64 1] w fun e w' => e = .returned (.int .i64 ((n : Int) + 1)) ∧ Own w' g off n marks ∧ Others g w w' := by
  refine (markByteS_any g off n cap f 1 w ho hn (by omega)).mono fun e w' h => ?_
  obtain ⟨rfl, h1, h2⟩ := h
  exact ⟨by rw [show ((1 + n : Nat) : Int) = (n : Int) + 1 from by omega], h1, h2⟩

set_option maxHeartbeats 400000 in
theorem mark_none (ao : Option Addr) (cap : Nat) (w : World) :
    Calls Tryz.prog 18 #[.slice ao 0 cap, .int .i64 1] w fun e w' => e = .returned (.int .i64 1) ∧ w' = w := by
  go_enter Tryz.func18, Tryz.ntmps18
  go_wp2
  go_loopw [1, 5] (fun q i wr => i = .int .i64 0 ∧ q = .int .i64 1 ∧ wr = w) (fun _ _ _ => 0)
  case atStart => exact ⟨rfl, rfl, rfl⟩
  case round =>
    obtain ⟨rfl, rfl, rfl⟩ := hrel
    go_wp2
    go_ret
    exact ⟨rfl, rfl⟩
theorem eq_none (ao bo : Option Addr) (ca cb : Nat) (w : World) :
    Calls Tryz.prog 17 #[.slice ao 0 ca, .slice bo 0 cb] w fun e w' => e = .returned (.bool true) ∧ Below w.heap.size w w' :=
  eqByteS_same ao bo 0 ca cb (fun _ => 0) w ⟨fun _ => by omega, .inl rfl⟩ ⟨fun _ => by omega, .inl rfl⟩ (by omega)

end Go.Proofs.YtohjjigkfdhklaaGreat
namespace Go.Proofs.YtohjjigkfdhklaaGreat
set_option maxRecDepth 100000
open Go.RowKit
set_option linter.unusedSimpArgs false
set_option linter.unusedVariables false

/-- All blocks but those from B up to U are as they were. -/
structure Mid (B U : Nat) (w w' : World) : Prop where
  os : w'.os = w.os
  tape : w'.tape = w.tape
  output : w'.output = w.output
  size : w.heap.size ≤ w'.heap.size
  block : ∀ k, k < w.heap.size → (k < B ∨ U ≤ k) → w'.heap[k]? = w.heap[k]?
section
variable {B U : Nat} {w w' : World}
theorem Mid.of_below (h : Below w.heap.size w w') : Mid B U w w' := ⟨h.os, h.tape, h.output, h.size, fun k hk _ => h.block k hk⟩
theorem Mid.of_others {g : Nat} (h : Others g w w') (h1 : B ≤ g) (h2 : g < U) : Mid B U w w' := ⟨h.os, h.tape, h.output, by rw [h.size]; exact Nat.le_refl _, fun k hk hne => h.block k (by omega)⟩
theorem Mid.refl (B U : Nat) (w : World) : Mid B U w w := ⟨rfl, rfl, rfl, Nat.le_refl _, fun _ _ _ => rfl⟩
theorem Mid.trans {u : World} (h : Mid B U w w') (k : Mid B U w' u) : Mid B U w u := ⟨k.os.trans h.os, k.tape.trans h.tape, k.output.trans h.output, Nat.le_trans h.size k.size, fun j hj hne => (k.block j (Nat.lt_of_lt_of_le hj h.size) hne).trans (h.block j hj hne)⟩
theorem Mid.cell (h : Mid B U w w') {b o : Nat} (hb : b < w.heap.size) (hne : b < B ∨ U ≤ b) : w'.cell? ⟨b, o, none⟩ = w.cell? ⟨b, o, none⟩ := World.cell?_of_block (w := w) (a := ⟨b, o, none⟩) (h.block b hb hne)
theorem Mid.frozen (h : Mid B U w w') {b o : Nat} (hb : b < w.heap.size) (hne : b < B ∨ U ≤ b) : w'.frozen? ⟨b, o, none⟩ = w.frozen? ⟨b, o, none⟩ := World.frozen?_of_block (w := w) (a := ⟨b, o, none⟩) (h.block b hb hne)
theorem Mid.own (h : Mid B U w w') {c off n : Nat} {f : Nat → Int} (ho : Own w c off n f) (hne : c < B ∨ U ≤ c) : Own w' c off n f :=
  ⟨ho.bd, Nat.lt_of_lt_of_le ho.lt h.size, fun i hi => (h.cell ho.lt hne).trans (ho.cell i hi), fun i hi => (h.frozen ho.lt hne).trans (ho.free i hi)⟩
theorem Mid.below (h : Mid B U w w') {C : Nat} (hC : C ≤ B) (hs : C ≤ w.heap.size) : Below C w w' := ⟨h.os, h.tape, h.output, h.size, fun k hk => h.block k (by omega) (by omega)⟩
end
/-- A row of bytes elsewhere stays. -/
theorem Mid.row {B U : Nat} {w w' : World} (h : Mid B U w w') {ao : Option Addr} {n : Nat} {f : Nat → Int} (hr : Row w ao n f) (hne : ∀ b off, ao = some ⟨b, off, none⟩ → 0 < n → b < B ∨ U ≤ b) : Row w' ao n f := by
  refine ⟨hr.bd, ?_⟩
  by_cases h0 : n = 0
  · exact .inl h0
  · obtain ⟨b, off, e, hlt, hc⟩ := hr.lies.resolve_left h0
    exact .inr ⟨b, off, e, Nat.lt_of_lt_of_le hlt h.size, fun i hi => (h.cell hlt (hne b off e (by omega))).trans (hc i hi)⟩

structure BV (w : World) (lo hi : Nat) (ao : Option Addr) (L : List Int) : Prop where
  bd : Byt L
  top : hi ≤ w.heap.size
  is : (ao = none ∧ L = []) ∨ ∃ g off, ao = some ⟨g, off, none⟩ ∧ lo ≤ g ∧ g < hi ∧ Own w g off L.length (fl L)
theorem BV.row {w : World} {lo hi : Nat} {ao : Option Addr} {L : List Int} (h : BV w lo hi ao L) : Row w ao L.length (fl L) := by
  rcases h.is with ⟨_, rfl⟩ | ⟨g, off, rfl, _, _, ho⟩
  · exact ⟨h.bd.fl, .inl rfl⟩
  · exact ho.row
theorem BV.keep {w w' : World} {lo hi : Nat} {ao : Option Addr} {L : List Int} (h : BV w lo hi ao L) (hb : Below w.heap.size w w') : BV w' lo hi ao L := by
  refine ⟨h.bd, Nat.le_trans h.top hb.size, ?_⟩
  rcases h.is with h0 | ⟨g, off, e, h1, h2, ho⟩
  · exact .inl h0
  · exact .inr ⟨g, off, e, h1, h2, ho.keep hb⟩
theorem BV.mid {w w' : World} {lo hi lo' hi' : Nat} {ao : Option Addr} {L : List Int} (h : BV w lo hi ao L) (hw : Mid lo' hi' w w') (hd : hi ≤ lo' ∨ hi' ≤ lo) : BV w' lo hi ao L := by
  refine ⟨h.bd, Nat.le_trans h.top hw.size, ?_⟩
  rcases h.is with h0 | ⟨g, off, e, h1, h2, ho⟩
  · exact .inl h0
  · exact .inr ⟨g, off, e, h1, h2, hw.own ho (by omega)⟩
theorem bv_of {w : World} {base : Nat} {v : Value} {L : List Int} (h : OwnL w base v L) : ∃ ao c, v = .slice ao L.length c ∧ BV w base w.heap.size ao L := by
  by_cases h0 : L.length = 0
  · rcases h.own.2 with ⟨rfl, _⟩ | ⟨g, cap, cur, rfl, hbg, hg, hnc, _⟩
    · exact ⟨none, 0, by rw [h0], h.bd, Nat.le_refl _, .inl ⟨rfl, List.eq_nil_of_length_eq_zero h0⟩⟩
    · have hlt := (Array.getElem?_eq_some_iff.1 hg).1
      exact ⟨_, cap, rfl, h.bd, Nat.le_refl _, .inr ⟨g, 0, rfl, hbg, hlt, h.bd.fl, hlt, fun i hi => by omega, fun i hi => by omega⟩⟩
  · obtain ⟨g, cap, rfl, hg, _, ho⟩ := h.own' (by omega)
    exact ⟨_, cap, rfl, h.bd, Nat.le_refl _, .inr ⟨g, 0, rfl, hg, ho.lt, ho⟩⟩
theorem bv_nil (w : World) (lo hi : Nat) (h : hi ≤ w.heap.size) : BV w lo hi none [] := ⟨byt_nil, h, .inl ⟨rfl, rfl⟩⟩

theorem eqBV (ao bo : Option Addr) (ca cb lo hi lo' hi' : Nat) (L : List Int) (w : World) (h : BV w lo hi ao L) (k : BV w lo' hi' bo L) (hl : L.length ≤ 1048576) :
    Calls Tryz.prog 17 #[.slice ao L.length ca, .slice bo L.length cb] w fun e w' => e = .returned (.bool true) ∧ Below w.heap.size w w' :=
  eqByteS_same ao bo L.length ca cb (fl L) w h.row k.row hl

theorem markBV (ao : Option Addr) (c lo hi : Nat) (L : List Int) (w : World) (h : BV w lo hi ao L) (hl : L.length ≤ 1048576) :
    Calls Tryz.prog 18 #[.slice ao L.length c, .int .i64 1] w fun e w' => e = .returned (.int .i64 ((L.length : Int) + 1)) ∧ Row w' ao L.length marks ∧ Mid lo hi w w' := by
  rcases h.is with ⟨rfl, rfl⟩ | ⟨g, off, rfl, h1, h2, ho⟩
  · refine (mark_none none c w).mono fun e w' hh => ?_
    obtain ⟨rfl, rfl⟩ := hh
    exact ⟨rfl, ⟨fun i => by unfold marks; omega, .inl rfl⟩, Mid.refl _ _ _⟩
  · refine (mark_one g off L.length c (fl L) w ho hl).mono fun e w' hh => ?_
    obtain ⟨rfl, hm, hX⟩ := hh
    exact ⟨rfl, hm.row, Mid.of_others hX h1 h2⟩

theorem Mid.iown {B U : Nat} {w w' : World} (h : Mid B U w w') {c off n : Nat} {f : Nat → Int} (ho : IOwn w c off n f) (hne : c < B ∨ U ≤ c) : IOwn w' c off n f :=
  ⟨ho.bd, Nat.lt_of_lt_of_le ho.lt h.size, fun i hi => (h.cell ho.lt hne).trans (ho.cell i hi), fun i hi => (h.frozen ho.lt hne).trans (ho.free i hi)⟩
end Go.Proofs.YtohjjigkfdhklaaGreat
