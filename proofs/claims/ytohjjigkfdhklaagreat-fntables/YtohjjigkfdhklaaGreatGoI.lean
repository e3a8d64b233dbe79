/- Whether numbers are all unlike: slices.Sorted of slices.Values, slices.Compact. / All unlike. / No Seq twice. / Good entries, in the program. -/
import Derived.RangeFuncBox
import Derived.RangeFuncLeaves
import Derived.Shelf.Abstract
import Derived.WalkKit
import Derived.OwnWalkIn
import Derived.TacticsInMore
import Derived.LoopNIn
import Derived.LoopIn
import Derived.Maps.AppendAt
import Derived.Sort.Grow
import Derived.Test.YtohjjigkfdhklaaGreatLayP
import Derived.Test.YtohjjigkfdhklaaGreatIL
import Derived.Test.YtohjjigkfdhklaaGreatGe
import Derived.Test.YtohjjigkfdhklaaGreatBef
namespace Go.Proofs.YtohjjigkfdhklaaGreat
set_option maxRecDepth 100000
open Go.RowKit Go.Shelf
open Go.Sort (Holds putRow holds_putRow)
set_option linter.unusedSimpArgs false
set_option linter.unusedVariables false
attribute [local go_sem] Oper.semAt_some

/-- The first n numbers. -/
def iL (f : Nat → Int) (n : Nat) : List Int := (List.range n).map f
theorem iL_succ (f : Nat → Int) (k : Nat) : iL f (k + 1) = iL f k ++ [f k] := by simp [iL, List.range_succ]
theorem iL_len (f : Nat → Int) (k : Nat) : (iL f k).length = k := by simp [iL]

set_option maxRecDepth 100000 in
set_option maxHeartbeats 2000000 in
theorem values1_in (n : Nat) (hn : 1 ≤ n) (l Bs n₀ len cap : Nat) (ao : Option Addr) (f : Nat → Int) (hreach : len ≤ 1048576) (J Jx : List Int → World → Prop)
    (hY : ∀ pre x W, J pre W → pre.length < len → YieldAt Fence.wide (n - 1) Tryz.prog l #[.int .i64 x] W fun e W' =>
      (e = .returned (.bool true) ∧ J (pre ++ [x]) W' ∧ Below n₀ W W') ∨ (e = .returned (.bool false) ∧ Jx (pre ++ [x]) W'))
    (W : World) (hBs : W.cell? ⟨Bs, 0, none⟩ = some (.slice ao len cap)) (hc : len = 0 ∨ ∃ b off, ao = some ⟨b, off, none⟩ ∧ b < n₀ ∧ ∀ j, j < len → W.cell? ⟨b, off + j, none⟩ = some (.int .i64 (f j))) (h0 : J [] W) :
    CallsIn Fence.wide n Tryz.prog 142 #[.func (.yield l) #[] #[], .pointer (some ⟨Bs, 0, none⟩)] W fun e W' => (∃ v, e = .returned v) ∧
      ((∃ ys, ys = iL f len ∧ J ys W') ∨ (∃ pre, (∃ k, k ≤ len ∧ pre = iL f k) ∧ Jx pre W')) := by
  refine callsIn_of_wp Tryz.func142 rfl trivial ?_ rfl
  simp only [Tryz.ntmps142, List.size_toArray, List.length_cons, List.length_nil, Nat.reduceAdd, Nat.reduceSub, Array.replicate_succ, Array.replicate_zero, List.push_toArray, List.append_toArray, List.nil_append, List.cons_append]
  gi_wp2
  gi_loopw [7] (fun i wr => ∃ k : Nat, k ≤ len ∧ i = .int .i64 k ∧ J (iL f k) wr ∧ Below n₀ W wr)
    (fun i _ => len - (intOf i).toNat)
  case atStart => exact ⟨0, Nat.zero_le _, rfl, h0, Below.refl _ _⟩
  case round =>
    obtain ⟨k, hk, rfl, hJs, hnx⟩ := hrel
    by_cases hlt : k < len
    · obtain ⟨b, off, rfl, hb, hcs⟩ := hc.resolve_left (by omega)
      obtain ⟨fn, tmps, assign, body, hy, hR⟩ := hY _ (f k) wr hJs (by rw [iL_len]; exact hlt)
      have hcx : wr.cell? ⟨b, off + k, none⟩ = some (.int .i64 (f k)) := (hnx.cell (p := ⟨b, off + k, none⟩) hb).trans (hcs k hlt)
      clear hcs hc
      gi_wp2
      refine hR.mono ?_
      rintro e W3 (⟨rfl, hJ3, hk3⟩ | ⟨rfl, hJx3⟩)
      · gi_wp2
        go_roundw
        case rel => exact ⟨k + 1, by omega, by go_num, by rw [iL_succ]; exact hJ3, hnx.trans hk3⟩
        case measure => simp [intOf]; omega
      · gi_wp2
        refine bodyPost_ret (results_none rfl _ _ _) rfl ?_
        exact ⟨⟨_, rfl⟩, .inr ⟨_, ⟨k + 1, by omega, (iL_succ _ _).symm⟩, hJx3⟩⟩
    · obtain rfl : k = len := by omega
      gi_wp2
      go_end0
      exact ⟨⟨_, rfl⟩, .inl ⟨_, rfl, hJs⟩⟩

theorem values_any (ao : Option Addr) (len cap : Nat) (w : World) :
    Calls Tryz.prog 125 #[.slice ao len cap] w fun e w' => e = .returned (.func (.func 142) #[] #[.pointer (some ⟨w.heap.size, 0, none⟩)]) ∧ w' = w.alloc (.cells #[.slice ao len cap] 31) := by
  go_enter Tryz.func125, Tryz.ntmps125
  go_wp2
  go_ret
  exact ⟨rfl, rfl⟩

theorem values_stops (n : Nat) (hn : 1 ≤ n) (Bs n₀ len cap : Nat) (ao : Option Addr) (f : Nat → Int) (hreach : len ≤ 1048576) (w : World) (hBs : Bs < w.heap.size) (hn₀ : n₀ ≤ w.heap.size)
    (hc : w.cell? ⟨Bs, 0, none⟩ = some (.slice ao len cap)) (hI : len = 0 ∨ ∃ b off, ao = some ⟨b, off, none⟩ ∧ b < n₀ ∧ ∀ j, j < len → w.cell? ⟨b, off + j, none⟩ = some (.int .i64 (f j))) :
    SeqStopsK Fence.wide n Tryz.prog 142 #[.pointer (some ⟨Bs, 0, none⟩)] (fun x : Int => #[Value.int .i64 x]) (Below n₀) (fun ys => ys = iL f len) (fun pre => ∃ k, k ≤ len ∧ pre = iL f k) len w := fun l J Jx W hW _ _ hY h0 => by
  have hc' := (hW.cell (p := ⟨Bs, 0, none⟩) hBs).trans hc
  have hI' : len = 0 ∨ ∃ b off, ao = some ⟨b, off, none⟩ ∧ b < n₀ ∧ ∀ j, j < len → W.cell? ⟨b, off + j, none⟩ = some (.int .i64 (f j)) := by
    rcases hI with h | ⟨b, off, e, hb, hcs⟩
    · exact .inl h
    · exact .inr ⟨b, off, e, hb, fun j hj => (hW.cell (p := ⟨b, off + j, none⟩) (by show b < _; omega)).trans (hcs j hj)⟩
  exact values1_in n hn l Bs n₀ len cap ao f hreach J Jx hY W hc' hI' h0

set_option maxRecDepth 100000 in
set_option maxHeartbeats 2000000 in
theorem appendSeq_any (Bs n₀ len cap : Nat) (ao : Option Addr) (f : Nat → Int) (hreach : len ≤ 1048576) (w : World) (hBs : Bs < w.heap.size) (hn₀ : n₀ ≤ w.heap.size)
    (hc : w.cell? ⟨Bs, 0, none⟩ = some (.slice ao len cap)) (hI : len = 0 ∨ ∃ b off, ao = some ⟨b, off, none⟩ ∧ b < n₀ ∧ ∀ j, j < len → w.cell? ⟨b, off + j, none⟩ = some (.int .i64 (f j))) :
    Calls Tryz.prog 147 #[.slice none 0 0, .func (.func 142) #[] #[.pointer (some ⟨Bs, 0, none⟩)]] w fun e w' => ∃ v, e = .returned v ∧ w'.ownsRow w.heap.size 3 1 v len ((iL f len).map (Value.int .i64)) ∧ Below w.heap.size w w' := by
  obtain ⟨i0, hi, hz0, hz1, hz2⟩ := info_parts Tryz.infoInt
  refine (callsIn_wide (n := 4)).1 ?_
  refine callsIn_of_wp_marks Tryz.func147 rfl trivial ?_ rfl
  simp only [Tryz.ntmps147, List.size_toArray, List.length_cons, List.length_nil, Nat.reduceAdd, Nat.reduceSub, Array.replicate_succ, Array.replicate_zero, List.push_toArray, List.append_toArray, List.nil_append, List.cons_append]
  gi_wp2
  have bO := Boxed.new w 31 (.slice none 0 0)
  have hB0 : Below w.heap.size w (w.alloc (.cells #[.slice none 0 0] 31)) := below_new w _
  have hst := values_stops 3 (by omega) Bs n₀ len cap ao f hreach (w.alloc (.cells #[.slice none 0 0] 31)) (by simp; omega) (by simp; omega) ((hB0.cell (p := ⟨Bs, 0, none⟩) hBs).trans hc) (by
    rcases hI with h | ⟨b, off, e, hb, hcs⟩
    · exact .inl h
    · exact .inr ⟨b, off, e, hb, fun j hj => (hB0.cell (p := ⟨b, off + j, none⟩) (by show b < _; omega)).trans (hcs j hj)⟩)
  refine wpIn_rangeFunc_ownG rfl (by omega) (gf := 142) (lb := #[.pointer (some ⟨Bs, 0, none⟩)]) rfl trivial (enters_of Tryz.func142 (by kernel_rfl) rfl)
    hst belowK_t (belowK_b (by simp; omega)) (Below.refl _ _) (fun _ => rfl)
    (fun pre W => (∃ v, Boxed W w.heap.size 31 v ∧ W.ownsRow w.heap.size 3 1 v pre.length (pre.map (Value.int .i64)) ∧ True) ∧ Below w.heap.size w W)
    (fun _ _ _ => False)
    (OwnFrom.and (Own.from (holdsRow_own w.heap.size w.heap.size 31 3 1 (fun pre : List Int => pre.length) (fun pre => pre.map (Value.int .i64)) (fun pre v => True)) _) (ownFrom_below (Nat.le_refl _) (by simp)))
    (fun _ _ _ _ _ hs _ _ => hs)
    ⟨⟨_, bO, World.ownsRow_nil _ _ _ _, trivial⟩, hB0⟩
    (fun x => { tmps := #[.slice none 0 0, .func (.func 142) #[] #[.pointer (some ⟨Bs, 0, none⟩)], .pointer (some ⟨w.heap.size, 0, none⟩), undef, .slice none 0 0, .int .i64 x, .func (.func 142) #[] #[.pointer (some ⟨Bs, 0, none⟩)], .int .i64 x, undef, undef, undef, undef, undef], defers := [] }) ?assign ?body ?done ?stop
  case assign =>
    intro l x W K hK
    gi_wp2
    exact hK
  case body =>
    rintro l pre x W ⟨⟨v, hv, hrow, _⟩, hB⟩ hlt
    have hc := hv.cell
    gi_wp2_with (gi_at_builtin; refine wpListIn_append_own _ rfl _ _ 31 rfl w.heap.size 3 i0 (.int .i64 0) 1 8 Tryz.underlying31 hi hz0 hz1 hz2 rfl (by decide) _ _ _ rfl (hrow.alloc _) ⟨W.heap.size, 0, none⟩ 1 1 [.int .i64 x] rfl rfl (cell_one_new _ _ _) (by simp [Value.oneCell']) (by unfold maxLen; omega) (by omega) (by have := hB.size; simp; omega) ?_; intro v' w1 hown' hgrow _; obtain ⟨g', cap', rfl⟩ := ownsRow_succ hown'; obtain ⟨hv1, hv2, hr2, hk2, hb2⟩ := hv.appended (by decide) hrow hB.size (Nat.le_refl _) hown' hgrow; have hc1 := hv1.cell; have hf1 := hv1.frozen)
    exact ⟨hk2.from _, hb2.mono hn₀, ⟨_, hv2, by simpa using hr2, trivial⟩, hB.trans hb2⟩
  case done =>
    rintro D ys W hD rfl ⟨⟨v, hv, hrow, _⟩, hB⟩ hK
    have hc := hv.cell
    rw [iL_len] at hrow
    gi_wp2
    refine ⟨by simp, .inl ⟨_, _, rfl, run_takeDeferred hK, ?_⟩⟩
    exact ⟨_, results_tmp rfl _ _ _, v, rfl, ownsRow_putObj hrow _ hK rfl, hB.trans (belowK_b (w := w) (Nat.le_refl _) W D _ _ (by simp at hD; omega) hK rfl rfl)⟩
  case stop =>
    rintro D c pre W _ _ h _
    exact h.elim
end Go.Proofs.YtohjjigkfdhklaaGreat

namespace Go.Proofs.YtohjjigkfdhklaaGreat
set_option maxRecDepth 100000
open Go.RowKit Go.Shelf
open Go.Sort (Holds putRow holds_putRow)
set_option linter.unusedSimpArgs false
set_option linter.unusedVariables false

theorem collect_any (Bs n₀ len cap : Nat) (ao : Option Addr) (f : Nat → Int) (hreach : len ≤ 1048576) (w : World) (hBs : Bs < w.heap.size) (hn₀ : n₀ ≤ w.heap.size)
    (hc : w.cell? ⟨Bs, 0, none⟩ = some (.slice ao len cap)) (hI : len = 0 ∨ ∃ b off, ao = some ⟨b, off, none⟩ ∧ b < n₀ ∧ ∀ j, j < len → w.cell? ⟨b, off + j, none⟩ = some (.int .i64 (f j))) :
    Calls Tryz.prog 140 #[.func (.func 142) #[] #[.pointer (some ⟨Bs, 0, none⟩)]] w fun e w' => ∃ v, e = .returned v ∧ w'.ownsRow w.heap.size 3 1 v len ((iL f len).map (Value.int .i64)) ∧ Below w.heap.size w w' := by
  have hA := appendSeq_any Bs n₀ len cap ao f hreach w hBs hn₀ hc hI
  go_enter Tryz.func140, Tryz.ntmps140
  go_wp2_with fail
  refine hA.mono ?_
  rintro e w1 ⟨v, rfl, h1, h2⟩
  go_wp2
  go_ret
  exact ⟨v, rfl, h1, h2⟩

theorem sorted_of (zs : List Int) : (zs.mergeSort fun x y => decide (x ≤ y)).Pairwise (fun a b => a ≤ b) := by
  have h := List.pairwise_mergeSort (le := fun x y : Int => decide (x ≤ y)) (fun a b c h1 h2 => by simp at *; omega) (fun a b => by simp; omega) zs
  exact h.imp (fun h => by simpa using h)
theorem comp_iff (zs : List Int) : (Lib.compact (zs.mergeSort fun x y => decide (x ≤ y))).length = zs.length ↔ zs.Nodup := by
  have hp : (zs.mergeSort fun x y => decide (x ≤ y)).Perm zs := List.mergeSort_perm _ _
  have hs := sorted_of zs
  have hl : (zs.mergeSort fun x y => decide (x ≤ y)).length = zs.length := hp.length_eq
  rw [← hp.nodup_iff, ← hl]
  generalize (zs.mergeSort fun x y => decide (x ≤ y)) = ms at hs
  unfold Lib.compact Lib.compactUpTo
  rw [List.length_map]
  have e : ((List.range ms.length).filter (Lib.keeps ms.toArray)).length = ms.length ↔ ∀ j, j < ms.length → Lib.keeps ms.toArray j = true := by
    have := List.length_filter_eq_length_iff (p := Lib.keeps ms.toArray) (l := List.range ms.length)
    rw [List.length_range] at this
    rw [this]
    simp
  rw [e]
  unfold List.Nodup
  rw [List.pairwise_iff_getElem] at hs ⊢
  constructor
  · intro h i j hi hj hij
    have hk := h j hj
    simp only [Lib.keeps, decide_eq_true_eq] at hk
    have hne := hk.resolve_left (by omega)
    rw [getElem!_pos _ j (by simpa using hj), getElem!_pos _ (j - 1) (by simp; omega)] at hne
    simp only [List.getElem_toArray] at hne
    have h1 := hs (j - 1) j (by omega) hj (by omega)
    have h2 : ms[i] ≤ ms[j - 1] := by
      by_cases e : i = j - 1
      · subst e; exact Int.le_refl _
      · exact hs i (j - 1) hi (by omega) (by omega)
    omega
  · intro h j hj
    simp only [Lib.keeps, decide_eq_true_eq]
    by_cases h0 : j = 0
    · exact .inl h0
    · right
      rw [getElem!_pos _ j (by simpa using hj), getElem!_pos _ (j - 1) (by simp; omega)]
      simp only [List.getElem_toArray]
      exact Ne.symm (h (j - 1) j (by omega) hj (by omega))


/-- A row sorted by the library. -/
theorem sortI_any (w : World) (g cap B : Nat) (zs : List Int) (hz : Holds (Value.int .i64) w g 0 zs.toArray) (hg : g < w.heap.size) (hn : zs.length ≤ 1048576) (hB : B ≤ g) :
    Calls Tryz.prog 141 #[.slice (some ⟨g, 0, none⟩) zs.length cap] w fun e w' => e = .returned (.tuple #[]) ∧ Holds (Value.int .i64) w' g 0 (zs.mergeSort fun x y => decide (x ≤ y)).toArray ∧ Below B w w' := by
  have hc := Any.slices_Sort_int sortInts g 0 cap zs w hz hg (by omega)
  refine Calls.mono hc ?_
  rintro e w' ⟨rfl, m, os, rfl⟩
  refine ⟨rfl, ?_, ?_⟩
  · have h1 := holds_putRow (Value.int .i64) (Sort.ahead w m) g 0 zs.toArray (zs.mergeSort fun x y => decide (x ≤ y)).toArray hz (by simp)
    have hlt : g < (putRow (Value.int .i64) (Sort.ahead w m) g 0 (zs.mergeSort fun x y => decide (x ≤ y)).toArray).heap.size := by
      simpa [putRow, Sort.mapBlock, Sort.ahead] using hg
    intro j hj
    have h2 := h1 j hj
    have hb : (Sort.grow (putRow (Value.int .i64) (Sort.ahead w m) g 0 (zs.mergeSort fun x y => decide (x ≤ y)).toArray) os).heap[g]? = (putRow (Value.int .i64) (Sort.ahead w m) g 0 (zs.mergeSort fun x y => decide (x ≤ y)).toArray).heap[g]? := by
      unfold Sort.grow
      exact Array.getElem?_append_left hlt
    exact ⟨(World.cell?_of_block (a := ⟨g, 0 + j, none⟩) hb).trans h2.1, (World.frozen?_of_block (a := ⟨g, 0 + j, none⟩) hb).trans h2.2⟩
  · refine ⟨rfl, rfl, rfl, ?_, fun k hk => ?_⟩
    · simp [Sort.grow, putRow, Sort.mapBlock, Sort.ahead]
    · unfold Sort.grow putRow Sort.mapBlock Sort.ahead
      rw [Array.getElem?_append_left (by simp; omega), Array.getElem?_modify, if_neg (by omega)]

theorem compInts_any (w : World) (g n cap B : Nat) (ms : List Int) (hH : Holds (Value.int .i64) w g 0 ms.toArray) (hn : ms.length = n) (hnb : n ≤ 1048576) (hcap : n ≤ cap) (hB : B ≤ g) :
    Calls Tryz.prog 126 #[.slice (some ⟨g, 0, none⟩) n cap] w fun e w' => e = .returned (.slice (some ⟨g, 0, none⟩) (Lib.compact ms).length cap) ∧ Below B w w' := by
  subst hn
  refine Calls.mono (Any.slices_Compact_int compInts g 0 cap ms w hH (by omega) hcap) ?_
  rintro e w' ⟨rfl, q, rfl⟩
  refine ⟨rfl, rfl, rfl, rfl, ?_, fun k hk => ?_⟩
  · simp [putRow, Sort.mapBlock, Sort.ahead]
  · unfold putRow Sort.mapBlock Sort.ahead
    rw [Array.getElem?_modify, if_neg (by omega)]

theorem compact_none (p : Option Addr) (cap : Nat) (w : World) : Calls Tryz.prog 126 #[.slice p 0 cap] w fun e w' => e = .returned (.slice p 0 cap) ∧ w' = w := by
  go_enter Tryz.func126, Tryz.ntmps126
  go_wp2
  go_ret
  exact ⟨rfl, rfl⟩

theorem holds_of_row {w : World} {g n : Nat} {f : Nat → Int} (h : ∀ i, i < n → w.cell? ⟨g, i, none⟩ = some (.int .i64 (f i))) (hf : ∀ i, w.frozen? ⟨g, i, none⟩ = false) : Holds (Value.int .i64) w g 0 (iL f n).toArray := by
  intro j hj
  have hj' : j < n := by simpa [iL] using hj
  refine ⟨?_, by rw [Nat.zero_add]; exact hf j⟩
  rw [Nat.zero_add, h j hj', getElem!_pos _ j hj]
  simp [iL]

/-- What slices.Sorted leaves. -/
def SoO (f : Nat → Int) (n : Nat) (w : World) (e : Ending) (w' : World) : Prop :=
  (n = 0 ∧ e = .returned (.slice none 0 0) ∧ Below w.heap.size w w') ∨ ∃ g cap, e = .returned (.slice (some ⟨g, 0, none⟩) n cap) ∧ n ≤ cap ∧ w.heap.size ≤ g ∧ Holds (Value.int .i64) w' g 0 ((iL f n).mergeSort fun x y => decide (x ≤ y)).toArray ∧ Below w.heap.size w w'

set_option maxHeartbeats 800000 in
theorem sorted_any (Bs n₀ len cap : Nat) (ao : Option Addr) (f : Nat → Int) (hreach : len ≤ 1048576) (w : World) (hBs : Bs < w.heap.size) (hn₀ : n₀ ≤ w.heap.size)
    (hc : w.cell? ⟨Bs, 0, none⟩ = some (.slice ao len cap)) (hI : len = 0 ∨ ∃ b off, ao = some ⟨b, off, none⟩ ∧ b < n₀ ∧ ∀ j, j < len → w.cell? ⟨b, off + j, none⟩ = some (.int .i64 (f j))) :
    Calls Tryz.prog 124 #[.func (.func 142) #[] #[.pointer (some ⟨Bs, 0, none⟩)]] w fun e w' => SoO f len w e w' := by
  have hA := collect_any Bs n₀ len cap ao f hreach w hBs hn₀ hc hI
  go_enter Tryz.func124, Tryz.ntmps124
  go_wp2_with fail
  refine hA.mono ?_
  rintro e w1 ⟨v, rfl, ho, hb⟩
  clear hA hI hc
  rcases id ho.2 with ⟨rfl, h0⟩ | ⟨g, c, cur, rfl, hbg, hg, hnc, hcm⟩
  · have hS := Any.slices_Sort_int_none sortInts none 0 w1
    go_wp2_with fail
    refine Calls.mono hS ?_
    rintro e w2 ⟨rfl, rfl⟩
    go_wp2
    go_ret
    exact .inl ⟨h0, rfl, hb⟩
  · have hlt : g < w1.heap.size := (Array.getElem?_eq_some_iff.1 hg).1
    have hH : Holds (Value.int .i64) w1 g 0 (iL f len).toArray := holds_of_row (fun i hi => by
      rw [ho.cellAt i (by omega)]; simp [iL, hi]) (fun i => by simpa using ho.frozenAt i)
    have hS := sortI_any w1 g c w.heap.size (iL f len) hH hlt (by rw [iL_len]; exact hreach) hbg
    rw [iL_len] at hS
    clear hH ho hg hcm
    go_wp2_with fail
    refine Calls.mono hS ?_
    rintro e w2 ⟨rfl, h2, b2⟩
    have bw2 := hb.trans b2
    go_wp2
    refine bodyPost_ret (v := .slice (some ⟨g, 0, none⟩) len c) (by simp [results, Tryz.results124, go_sem]) rfl (.inr ⟨g, c, rfl, hnc, hbg, h2, bw2⟩)

/-- All unlike. -/
def Unl (f : Nat → Int) (n : Nat) : Prop := ∀ i j, i < j → j < n → f i ≠ f j
theorem iL_nodup (f : Nat → Int) (n : Nat) : (iL f n).Nodup ↔ Unl f n := by
  unfold List.Nodup
  rw [List.pairwise_iff_getElem]
  constructor
  · intro h i j hij hj
    have := h i j (by rw [iL_len]; omega) (by rw [iL_len]; omega) hij
    simpa [iL] using this
  · intro h i j hi hj hij
    rw [iL_len] at hi hj
    have := h i j hij hj
    simpa [iL] using this

set_option maxHeartbeats 800000 in
theorem allUnlike_any (ao : Option Addr) (n cap : Nat) (f : Nat → Int) (w : World) (hr : IRow w ao n f) (hn : n ≤ 1048576) :
    Calls Tryz.prog 109 #[.slice ao n cap] w fun e w' => Ans (Unl f n) w e w' := by
  have hB0 := below_new w (.cells #[.slice ao n cap] 31)
  have hS := sorted_any w.heap.size w.heap.size n cap ao f hn (w.alloc (.cells #[.slice ao n cap] 31)) (by simp) (by simp) (by simp [go_sem]) (by
    rcases hr.lies with h | ⟨b, off, e, hb, hcs⟩
    · exact .inl h
    · exact .inr ⟨b, off, e, hb, fun j hj => (hB0.cell (p := ⟨b, off + j, none⟩) hb).trans (hcs j hj)⟩)
  go_enter Tryz.func109, Tryz.ntmps109
  go_wp2_with fail
  refine (values_any ao n cap _).mono ?_
  rintro e w1 ⟨rfl, rfl⟩
  go_wp2_with fail
  refine hS.mono ?_
  rintro e w2 h2
  clear hS
  rcases h2 with ⟨rfl, rfl, b2⟩ | ⟨g, c, rfl, hnc, hg, hH, b2⟩
  · have bw2 := hB0.trans (b2.mono (by simp))
    go_wp2_with fail
    refine (compact_none none 0 _).mono ?_
    rintro e w3 ⟨rfl, rfl⟩
    go_wp2
    refine bodyPost_ret (v := .bool true) (by simp [results, Tryz.results109, go_sem]) rfl (Ans.mk _ (by simp [Unl]) bw2)
  · have bw2 := hB0.trans (b2.mono (by simp))
    simp only [World.size_alloc] at hg
    have hml : ((iL f n).mergeSort fun x y => decide (x ≤ y)).length = n := by rw [List.length_mergeSort, iL_len]
    have hci := comp_iff (iL f n)
    rw [iL_len, iL_nodup] at hci
    clear b2 hB0
    generalize ((iL f n).mergeSort fun x y => decide (x ≤ y)) = ms at hH hml hci
    have hC := compInts_any w2 g n c w.heap.size ms hH hml hn hnc (by omega)
    have HC : Hid ((Lib.compact ms).length = n ↔ Unl f n) := hci
    clear hci hH hml
    generalize (Lib.compact ms).length = m at hC HC
    go_wp2_with fail
    refine hC.mono ?_
    rintro e w3 ⟨rfl, hb3⟩
    have bw3 := bw2.trans hb3
    clear hb3 hC
    go_wp2
    refine bodyPost_ret (v := .bool ((m : Int) == (n : Int))) (by simp [results, Tryz.results109, go_sem]) rfl (Ans.mk _ ?_ bw3)
    rw [← HC.out]
    simp only [beq_iff_eq]
    omega
end Go.Proofs.YtohjjigkfdhklaaGreat

namespace Go.Proofs.YtohjjigkfdhklaaGreat
set_option maxRecDepth 100000
open Go.RowKit
set_option linter.unusedSimpArgs false
set_option linter.unusedVariables false

/-- No Seq twice among the first n. -/
def NoTwo (X : Nat → Ent) (n : Nat) : Prop := ∀ i j, i < j → j < n → (X i).seq ≠ (X j).seq
/-- The Seqs of the first n. -/
def seqL (X : Nat → Ent) (n : Nat) : List Int := (List.range n).map fun i => (X i).seq
theorem seqL_len (X : Nat → Ent) (n : Nat) : (seqL X n).length = n := by simp [seqL]
theorem seqL_nodup (X : Nat → Ent) (n : Nat) : (seqL X n).Nodup ↔ NoTwo X n := by
  unfold List.Nodup
  rw [List.pairwise_iff_getElem]
  constructor
  · intro h i j hij hj
    have := h i j (by rw [seqL_len]; omega) (by rw [seqL_len]; omega) hij
    simpa [seqL] using this
  · intro h i j hi hj hij
    rw [seqL_len] at hi hj
    have := h i j hij hj
    simpa [seqL] using this

set_option maxHeartbeats 1600000 in
theorem noSeqTwice_any (ao : Option Addr) (n cap : Nat) (X : Nat → Ent) (w : World) (hr : ERow w ao n X) (hn : n ≤ 1048576) :
    Calls Tryz.prog 81 #[.slice ao n cap] w fun e w' => Ans (NoTwo X n) w e w' := by
  obtain ⟨i0, hi, hz0, hz1, hz2⟩ := info_parts Tryz.infoInt
  obtain ⟨hbd, hlies⟩ := hr
  go_enter Tryz.func81, Tryz.ntmps81
  go_wp2_with (at_make; refine wpList_make_full _ rfl (.tmp 7) (.tmp 7) 31 rfl w.heap.size 3 i0 (.int .i64 0) 1 Tryz.underlying31 hi hz0 hz1 .i64 .i64 _ _ n rfl rfl rfl rfl (by rw [hz2]; omega) (by unfold maxLen; omega) (Nat.le_refl _) ?_; intro w1 hown hgrow)
  have hb1 : Below w.heap.size w w1 := (Below.refl _ _).grown hgrow (Nat.le_refl _) (fun k h => by simp at h)
  have hlt1 : w.heap.size < w1.heap.size := by
    rcases hown.2 with ⟨h, _⟩ | ⟨g', cap', cur, h, _, hg, _⟩
    · simp at h
    · simp at h; obtain ⟨rfl, _⟩ := h
      exact (Array.getElem?_eq_some_iff.1 hg).1
  have ho := iown_of_made hown hlt1
  clear hown hgrow
  go_loopw [11] (fun i wr => ∃ k : Nat, k ≤ n ∧ i = .int .i64 k ∧ IOwn wr w.heap.size 0 n (fun j => if j < k then (X j).seq else 0) ∧ Below w.heap.size w wr) (fun i _ => n - (intOf i).toNat)
  case atStart => exact ⟨0, Nat.zero_le _, rfl, by simpa using ho, hb1⟩
  case round =>
    obtain ⟨k, hk, rfl, hok, hbk⟩ := hrel
    have hltr := hok.lt
    by_cases hlt : k < n
    · obtain ⟨b, off, rfl, hblt, hc⟩ := hlies.resolve_left (by omega)
      obtain ⟨da, dc, ea, _⟩ := hc k hlt
      obtain ⟨_, a0, a1, a2, a3, a4, a5, a6, a7, a8⟩ := ea.keep hbk
      have hd := hok.cell k hlt
      have hfz := hok.free k hlt
      simp only [Nat.zero_add] at hd hfz
      clear hc hlies ho ea
      have hst := hok.store k hlt (X k).seq (hbd k hlt).seq
      simp only [Nat.zero_add] at hst
      go_wp2
      go_roundw
      case rel =>
        refine ⟨k + 1, by omega, by go_num, ?_, (hbk.setCell (Nat.le_refl _) _).alloc (by simp; omega) _⟩
        refine IOwn.keep (w := wr.setCell ⟨w.heap.size, k, none⟩ (.int .i64 (X k).seq)) (hst.congr (fun j => ?_) (fun j hj => ?_)) (below_new _ _)
        · by_cases h : j < k + 1
          · simp only [h, if_true]; exact (hbd j (by omega)).seq
          · simp only [h, if_false]; omega
        · by_cases h1 : j = k <;> by_cases h2 : j < k <;> simp [h1, h2] <;> omega
      case measure => simp [intOf]; omega
    · have e : k = n := by omega
      subst e
      have hrow : IRow wr (some ⟨w.heap.size, 0, none⟩) k (fun i => if i < k then (X i).seq else 0) := hok.row
      have HU : Hid (Unl (fun i => if i < k then (X i).seq else 0) k ↔ NoTwo X k) := by
        constructor
        · intro h i j hij hj
          have := h i j hij hj
          simp only [hj, if_true, show i < k from by omega] at this
          exact this
        · intro h i j hij hj
          have := h i j hij hj
          simp only [hj, if_true, show i < k from by omega]
          exact this
      clear hok ho hlies hlt
      go_wp2_with fail
      refine (allUnlike_any _ k k _ _ hrow hn).mono ?_
      rintro e w2 ⟨b2, rfl, h2, q2⟩
      have bw2 := hbk.trans (q2.mono hbk.size)
      have H2 : Hid (b2 = true ↔ NoTwo X k) := h2.trans HU.out
      clear q2 h2 HU hrow
      go_wp2
      exact bodyPost_ret (v := .bool b2) (by simp [results, Tryz.results81, go_sem]) rfl (Ans.mk _ H2.out bw2)
end Go.Proofs.YtohjjigkfdhklaaGreat
namespace Go.Proofs.YtohjjigkfdhklaaGreat
set_option maxRecDepth 100000
open Go.RowKit
set_option linter.unusedSimpArgs false
set_option linter.unusedVariables false

/-- Good entries, in the document's words. -/
def GoodL (X : Nat → Ent) (n : Nat) : Prop := (∀ i, i < n → GoodE (X i)) ∧ RiseE X n ∧ NoTwo X n
set_option maxHeartbeats 2000000 in
theorem goodEntries_impl (ao : Option Addr) (n cap : Nat) (X : Nat → Ent) (w : World) (hr : ERow w ao n X) (hn : n ≤ 1048576) (hz : ESize n X) :
    Calls Tryz.prog 47 #[.slice ao n cap] w fun e w' => Ans (GoodL X n) w e w' := by
  have hr0 := hr
  obtain ⟨hbd, hlies⟩ := hr
  go_enter Tryz.func47, Tryz.ntmps47
  go_wp2
  go_loopw [7] (fun i wr => ∃ k : Nat, k ≤ n ∧ i = .int .i64 k ∧ Hid (∀ i, i < k → GoodE (X i)) ∧ Below w.heap.size w wr) (fun i _ => n - (intOf i).toNat)
  case atStart => exact ⟨0, Nat.zero_le _, rfl, fun i h => by omega, Below.refl _ _⟩
  case round =>
    obtain ⟨k, hk, rfl, hG, hbk⟩ := hrel
    by_cases hlt : k < n
    · obtain ⟨b, off, rfl, hblt, hc⟩ := hlies.resolve_left (by omega)
      obtain ⟨da, dc, ea, ir⟩ := hc k hlt
      obtain ⟨_, a0, a1, a2, a3, a4, a5, a6, a7, a8⟩ := ea.keep hbk
      have irk := (ir.keep hbk).keep (below_new wr (.cells #[.string (X k).key, .int .i64 (X k).seq, .int .i64 (X k).kind, .int .i64 (X k).c, .int .i64 (X k).s, .int .i64 (X k).lo, .int .i64 (X k).hi, .slice da (X k).n dc, .bool (X k).fu] 35))
      have bwk := hbk.alloc hbk.size (.cells #[.string (X k).key, .int .i64 (X k).seq, .int .i64 (X k).kind, .int .i64 (X k).c, .int .i64 (X k).s, .int .i64 (X k).lo, .int .i64 (X k).hi, .slice da (X k).n dc, .bool (X k).fu] 35)
      have hcall := fun W h => goodEntry_impl (X k) da dc W h (hz k hlt).2 (hbd k hlt).s
      clear hc hlies ea ir
      go_wp2_with fail
      refine (hcall _ irk).mono ?_
      rintro e w1 ⟨b1, rfl, h1, q1⟩
      have bw1 : Below w.heap.size w w1 := bwk.trans (q1.mono bwk.size)
      clear q1 hcall bwk irk
      cases b1
      · have H : Hid (¬ GoodL X n) := fun h => by
          have := h1.2 (h.1 k hlt)
          cases this
        clear h1
        go_wp2
        go_ret
        exact Ans.mk false (by have := H.out; simp [this]) bw1
      · have H : Hid (∀ i, i < k + 1 → GoodE (X i)) := fun i hi => by
          rcases Nat.lt_succ_iff_lt_or_eq.1 hi with h | h
          · exact hG.out i h
          · subst h; exact h1.1 rfl
        clear h1
        go_wp2
        go_roundw
        case rel => exact ⟨k + 1, by omega, by go_num, H, bw1⟩
        case measure => simp [intOf]; omega
    · have e : k = n := by omega
      subst e
      clear hlies hlt
      go_wp2_with fail
      refine (waysOf_any ao k cap _ hn).mono ?_
      rintro e w1 ⟨g, rfl, hg, ho, hb1⟩
      have bw1 := hbk.trans (hb1.mono hbk.size)
      clear hb1 ho hg
      go_wp2_with fail
      refine (rising_any ao k cap X _ _ (hr0.keep bw1) hn).mono ?_
      rintro e w2 ⟨b2, rfl, h2, q2⟩
      have bw2 := bw1.trans (q2.mono bw1.size)
      clear q2 bw1
      cases b2
      · have H : Hid (¬ GoodL X k) := fun h => by
          have := h2.2 h.2.1
          cases this
        clear h2
        go_wp2
        refine bodyPost_ret (v := .bool false) (by simp [results, Tryz.results47, go_sem]) rfl (Ans.mk _ (by have := H.out; simp [this]) bw2)
      · have hri : Hid (RiseE X k) := h2.1 rfl
        clear h2
        go_wp2_with fail
        refine (noSeqTwice_any ao k cap X _ (hr0.keep bw2) hn).mono ?_
        rintro e w3 ⟨b3, rfl, h3, q3⟩
        have bw3 := bw2.trans (q3.mono bw2.size)
        have H : Hid (b3 = true ↔ GoodL X k) := ⟨fun h => ⟨hG.out, hri.out, h3.1 h⟩, fun h => h3.2 h.2.2⟩
        clear q3 bw2 h3
        go_wp2
        exact bodyPost_ret (v := .bool b3) (by simp [results, Tryz.results47, go_sem]) rfl (Ans.mk _ H.out bw3)
end Go.Proofs.YtohjjigkfdhklaaGreat
