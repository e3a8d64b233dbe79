/- Entries that rise, in the program. / slices.Sort and slices.Compact over ints, found again at this program (numbers of the seat YtmeckcaekkangaaGreat). / Whether numbers are all unlike: slices.Sorted of slices.Values, slices.Compact. -/
import Derived.Test.YtmeckcaekkangaaGreatRep
import Derived.Test.YtmeckcaekkangaaGreatGdI
import Derived.Test.YtmeckcaekkangaaGreatGe
import Derived.Shelf.Sort.Plain
import Derived.Shelf.Slices.CompactI
import Derived.Shelf.Slices.In.SortNone
import Derived.Test.YtmeckcaekkangaaGreatProg
import Derived.RangeFuncBox
import Derived.RangeFuncLeaves
import Derived.Shelf.Abstract
import Derived.WalkKit
import Derived.OwnWalkIn
import Derived.TacticsInMore
import Derived.LoopNIn
import Derived.LoopIn
import Derived.Maps.AppendAt
import Derived.Sort.Grow
import Derived.Test.YtmeckcaekkangaaGreatTot
namespace Go.Proofs.YtmeckcaekkangaaGreat
set_option maxRecDepth 100000
open Go.RowKit
set_option linter.unusedSimpArgs false
set_option linter.unusedVariables false

/-- Each stands ahead of the next one, up to k. -/
def RiseE (X : Nat → Ent) (k : Nat) : Prop := ∀ i, i + 1 < k → Bef (X i) (X (i + 1))

set_option maxHeartbeats 2000000 in
theorem rising_any (ko : Option Addr) (n kc : Nat) (X : Nat → Ent) (tv : Value) (w : World) (hr : ERow w ko n X) (hn : n ≤ 1048576) :
    Calls Tryz.prog 21 #[.agg #[.slice ko n kc, tv, .func (.func 42) #[] #[]]] w fun e w' => Ans (RiseE X n) w e w' := by
  obtain ⟨_, hlies⟩ := hr
  have hB := below_new w (.cells #[.slice ko n kc, tv, .func (.func 42) #[] #[]] 53)
  have z0 : (w.alloc (.cells #[.slice ko n kc, tv, .func (.func 42) #[] #[]] 53)).cell? ⟨w.heap.size, 0, none⟩ = some (.slice ko n kc) := by simp [go_sem]
  have z2 : (w.alloc (.cells #[.slice ko n kc, tv, .func (.func 42) #[] #[]] 53)).cell? ⟨w.heap.size, 2, none⟩ = some (.func (.func 42) #[] #[]) := by simp [go_sem]
  have zl : w.heap.size < (w.alloc (.cells #[.slice ko n kc, tv, .func (.func 42) #[] #[]] 53)).heap.size := by simp
  go_enter Tryz.func21, Tryz.ntmps21
  go_wp2
  generalize (w.alloc (.cells #[.slice ko n kc, tv, .func (.func 42) #[] #[]] 53)) = w1 at hB z0 z2 zl ⊢
  go_loopw [3] (fun i wr => ∃ k : Nat, 1 ≤ k ∧ (n = 0 ∨ k ≤ n) ∧ (n = 0 → k = 1) ∧ i = .int .i64 k ∧ Hid (RiseE X k) ∧ Below w1.heap.size w1 wr) (fun i _ => n - (intOf i).toNat)
  case atStart => exact ⟨1, by omega, by omega, by omega, rfl, fun i hi => by omega, Below.refl _ _⟩
  case round =>
    obtain ⟨k, hk1, hk2, hk3, rfl, hR, hbk⟩ := hrel
    have y0 := (hbk.cell (p := ⟨w.heap.size, 0, none⟩) zl).trans z0
    have y2 := (hbk.cell (p := ⟨w.heap.size, 2, none⟩) zl).trans z2
    have bw : Below w.heap.size w wr := hB.trans (hbk.mono (Nat.le_of_lt zl))
    by_cases hlt : k < n
    · obtain ⟨b, off, rfl, hblt, hc⟩ := hlies.resolve_left (by omega)
      obtain ⟨j, hjk⟩ : ∃ j, k = j + 1 := ⟨k - 1, by omega⟩
      obtain ⟨da, dc, ea, _⟩ := hc j (by omega)
      obtain ⟨db, ec, eb, _⟩ := hc k hlt
      have ea1 := ea.keep bw
      obtain ⟨_, a0, a1, a2, a3, a4, a5, a6, a7, a8⟩ := id ea1
      have eb1 := eb.keep bw
      obtain ⟨_, b0, b1, b2, b3, b4, b5, b6, b7, b8⟩ := id eb1
      have zlr : w.heap.size < wr.heap.size := Nat.lt_of_lt_of_le zl hbk.size
      clear hc hlies ea eb z0 z2 hB
      have hj : IntKind.i64.wrap ((k : Int) - 1) = (j : Int) := by rw [IntKind.wrap_i64] <;> omega
      have hj0 : (0 : Int) ≤ (j : Int) := by omega
      have hj1 : (j : Int) < (n : Int) := by omega
      have hk0 : (0 : Int) ≤ (k : Int) := by omega
      have hk1' : (k : Int) < (n : Int) := by omega
      have HJ : Hid (k = j + 1) := hjk
      clear hjk
      have hcc := fun W => compareEntries_any (X j) (X k) da db dc ec W
      have hc2 := cE_lt (X j) (X k)
      go_wp2
      go_region_held3 (fun w' => w'.cell? ⟨w.heap.size, 0, none⟩ = some (.slice (some ⟨b, off, none⟩) n kc) ∧ w'.cell? ⟨w.heap.size, 2, none⟩ = some (.func (.func 42) #[] #[]) ∧ w'.cell? ⟨b, off + j * 9, none⟩ = some (.string (X j).key) ∧ w'.cell? ⟨b, off + j * 9 + 1, none⟩ = some (.int .i64 (X j).seq) ∧ w'.cell? ⟨b, off + j * 9 + 2, none⟩ = some (.int .i64 (X j).kind) ∧ w'.cell? ⟨b, off + j * 9 + 3, none⟩ = some (.int .i64 (X j).c) ∧ w'.cell? ⟨b, off + j * 9 + 4, none⟩ = some (.int .i64 (X j).s) ∧ w'.cell? ⟨b, off + j * 9 + 5, none⟩ = some (.int .i64 (X j).lo) ∧ w'.cell? ⟨b, off + j * 9 + 6, none⟩ = some (.int .i64 (X j).hi) ∧ w'.cell? ⟨b, off + j * 9 + 7, none⟩ = some (.slice da (X j).n dc) ∧ w'.cell? ⟨b, off + j * 9 + 8, none⟩ = some (.bool (X j).fu) ∧ w'.cell? ⟨b, off + k * 9, none⟩ = some (.string (X k).key) ∧ w'.cell? ⟨b, off + k * 9 + 1, none⟩ = some (.int .i64 (X k).seq) ∧ w'.cell? ⟨b, off + k * 9 + 2, none⟩ = some (.int .i64 (X k).kind) ∧ w'.cell? ⟨b, off + k * 9 + 3, none⟩ = some (.int .i64 (X k).c) ∧ w'.cell? ⟨b, off + k * 9 + 4, none⟩ = some (.int .i64 (X k).s) ∧ w'.cell? ⟨b, off + k * 9 + 5, none⟩ = some (.int .i64 (X k).lo) ∧ w'.cell? ⟨b, off + k * 9 + 6, none⟩ = some (.int .i64 (X k).hi) ∧ w'.cell? ⟨b, off + k * 9 + 7, none⟩ = some (.slice db (X k).n ec) ∧ w'.cell? ⟨b, off + k * 9 + 8, none⟩ = some (.bool (X k).fu)) (go_keep) (first | (go_at_call 42; refine (hcc _).mono ?_; rintro e w6 ⟨rfl, hb6⟩; have hb6' := (Below.refl _ wr).drew.trans hb6; obtain ⟨_, p0, p1, p2, p3, p4, p5, p6, p7, p8⟩ := ea1.keep hb6'; obtain ⟨_, q0, q1, q2, q3, q4, q5, q6, q7, q8⟩ := eb1.keep hb6'; have y06 := (hb6'.cell (p := ⟨w.heap.size, 0, none⟩) zlr).trans y0; have y26 := (hb6'.cell (p := ⟨w.heap.size, 2, none⟩) zlr).trans y2; have bw6 := bw.trans (hb6'.mono (Nat.le_of_lt zlr)); have bk6 := hbk.trans (hb6'.mono hbk.size); clear hb6 hb6'))
      clear hcc
      by_cases hx : 0 ≤ cE (X j) (X k)
      · have H : Hid (¬ RiseE X n) := fun h => by
          have hj' := HJ.out
          have := h j (by omega)
          rw [← hj', ← hc2] at this
          omega
        clear hc2
        go_wp2
        go_ret
        exact Ans.mk false (by have := H.out; simp [this]) bw6
      · have H : Hid (RiseE X (k + 1)) := fun i hi => by
          have hj' := HJ.out
          by_cases e : i = j
          · subst e
            rw [← hj']
            exact hc2.1 (by omega)
          · exact hR.out i (by omega)
        clear hc2
        have hx' : decide (0 ≤ cE (X j) (X k)) = false := by simpa using hx
        go_wp2
        go_roundw
        case rel => exact ⟨k + 1, by omega, by omega, by omega, by go_num, H, bk6⟩
        case measure => simp [intOf]; omega
    · have H : Hid (RiseE X n) := fun i hi => hR.out i (by omega)
      clear hR
      go_wp2
      go_ret
      exact Ans.mk true (by have := H.out; simp [this]) bw
end Go.Proofs.YtmeckcaekkangaaGreat
namespace Go.Proofs.YtmeckcaekkangaaGreat
set_option maxRecDepth 100000
open Go.Shelf
def sortInts_ren : Go.Shelf.Ren := ⟨fun | 189 => 86 | 125 => 94 | 257 => 93 | 128 => 104 | 129 => 105 | 294 => 95 | 295 => 96 | 296 => 97 | 297 => 98 | 298 => 99 | 299 => 100 | 216 => 101 | 300 => 102 | 301 => 103 | 328 => 106 | 329 => 107 | 330 => 108 | 331 => 109 | 332 => 110 | 215 => 84 | 343 => 111 | n => n, fun | 28 => 44 | 3 => 3 | 46 => 88 | 0 => 0 | 51 => 104 | 53 => 35 | 4 => 4 | 183 => 118 | 182 => 117 | 131 => 111 | 5 => 5 | 9 => 9 | 218 => 126 | 222 => 130 | 228 => 132 | 229 => 133 | n => n, fun | n => n⟩
theorem sortInts : Go.Proofs.Lays.n189 Tryz.prog sortInts_ren := {
  mixed := by kernel_rfl
  f125 := Tryz.func94.trans (congrArg some (by kernel_rfl))
  f128 := Tryz.func104.trans (congrArg some (by kernel_rfl))
  f129 := Tryz.func105.trans (congrArg some (by kernel_rfl))
  f189 := Tryz.func86.trans (congrArg some (by kernel_rfl))
  f215 := Tryz.func84.trans (congrArg some (by kernel_rfl))
  f216 := Tryz.func101.trans (congrArg some (by kernel_rfl))
  f257 := Tryz.func93.trans (congrArg some (by kernel_rfl))
  f294 := Tryz.func95.trans (congrArg some (by kernel_rfl))
  f295 := Tryz.func96.trans (congrArg some (by kernel_rfl))
  f296 := Tryz.func97.trans (congrArg some (by kernel_rfl))
  f297 := Tryz.func98.trans (congrArg some (by kernel_rfl))
  f298 := Tryz.func99.trans (congrArg some (by kernel_rfl))
  f299 := Tryz.func100.trans (congrArg some (by kernel_rfl))
  f300 := Tryz.func102.trans (congrArg some (by kernel_rfl))
  f301 := Tryz.func103.trans (congrArg some (by kernel_rfl))
  f328 := Tryz.func106.trans (congrArg some (by kernel_rfl))
  f329 := Tryz.func107.trans (congrArg some (by kernel_rfl))
  f330 := Tryz.func108.trans (congrArg some (by kernel_rfl))
  f331 := Tryz.func109.trans (congrArg some (by kernel_rfl))
  f332 := Tryz.func110.trans (congrArg some (by kernel_rfl))
  f343 := Tryz.func111.trans (congrArg some (by kernel_rfl))
  t0 := Tryz.underlying0
  a0 := Tryz.isAgg0
  z0 := Tryz.sizeOf0
  v0 := Tryz.zeroValue0
  t3 := Tryz.underlying3
  a3 := Tryz.isAgg3
  z3 := Tryz.sizeOf3
  v3 := Tryz.zeroValue3
  t4 := Tryz.underlying4
  a4 := Tryz.isAgg4
  z4 := Tryz.sizeOf4
  v4 := Tryz.zeroValue4
  t5 := Tryz.underlying5
  a5 := Tryz.isAgg5
  z5 := Tryz.sizeOf5
  v5 := Tryz.zeroValue5
  t9 := Tryz.underlying9
  a9 := Tryz.isAgg9
  z9 := Tryz.sizeOf9
  v9 := Tryz.zeroValue9
  t28 := Tryz.underlying44
  a28 := Tryz.isAgg44
  z28 := Tryz.sizeOf44
  v28 := Tryz.zeroValue44
  t46 := Tryz.underlying88
  a46 := Tryz.isAgg88
  z46 := Tryz.sizeOf88
  v46 := Tryz.zeroValue88
  t51 := Tryz.underlying104
  a51 := Tryz.isAgg104
  z51 := Tryz.sizeOf104
  v51 := Tryz.zeroValue104
  t53 := Tryz.underlying35
  a53 := Tryz.isAgg35
  z53 := Tryz.sizeOf35
  v53 := Tryz.zeroValue35
  t131 := Tryz.underlying111
  a131 := Tryz.isAgg111
  z131 := Tryz.sizeOf111
  v131 := Tryz.zeroValue111
  t182 := Tryz.underlying117
  a182 := Tryz.isAgg117
  z182 := Tryz.sizeOf117
  v182 := Tryz.zeroValue117
  t183 := Tryz.underlying118
  a183 := Tryz.isAgg118
  z183 := Tryz.sizeOf118
  v183 := Tryz.zeroValue118
  t218 := Tryz.underlying126
  a218 := Tryz.isAgg126
  z218 := Tryz.sizeOf126
  v218 := Tryz.zeroValue126
  t222 := Tryz.underlying130
  a222 := Tryz.isAgg130
  z222 := Tryz.sizeOf130
  v222 := Tryz.zeroValue130
  t228 := Tryz.underlying132
  a228 := Tryz.isAgg132
  z228 := Tryz.sizeOf132
  v228 := Tryz.zeroValue132
  t229 := Tryz.underlying133
  a229 := Tryz.isAgg133
  z229 := Tryz.sizeOf133
  v229 := Tryz.zeroValue133 }
def compInts_ren : Go.Shelf.Ren := ⟨fun | 20 => 67 | n => n, fun | 22 => 44 | 3 => 3 | 4 => 4 | 0 => 0 | n => n, fun | n => n⟩
theorem compInts : Go.Proofs.Lays2.n20 Tryz.prog compInts_ren := {
  mixed := by kernel_rfl
  f20 := Tryz.func67.trans (congrArg some (by kernel_rfl))
  t0 := Tryz.underlying0
  a0 := Tryz.isAgg0
  z0 := Tryz.sizeOf0
  v0 := Tryz.zeroValue0
  t3 := Tryz.underlying3
  a3 := Tryz.isAgg3
  z3 := Tryz.sizeOf3
  v3 := Tryz.zeroValue3
  t4 := Tryz.underlying4
  a4 := Tryz.isAgg4
  z4 := Tryz.sizeOf4
  v4 := Tryz.zeroValue4
  t22 := Tryz.underlying44
  a22 := Tryz.isAgg44
  z22 := Tryz.sizeOf44
  v22 := Tryz.zeroValue44
  i3 := by kernel_rfl }
end Go.Proofs.YtmeckcaekkangaaGreat
namespace Go.Proofs.YtmeckcaekkangaaGreat
set_option maxRecDepth 100000
open Go.RowKit Go.Shelf
open Go.Sort (Holds putRow holds_putRow)
set_option linter.unusedSimpArgs false
set_option linter.unusedVariables false
attribute [local go_sem] Oper.semAt_some

/-- The first n numbers. -/
def iL (f : Nat → Int) (n : Nat) : List Int := (List.range n).map f
theorem iL_succ (f : Nat → Int) (k : Nat) : iL f (k + 1) = iL f k ++ [f k] := by simp [iL, List.range_succ]
theorem iL_len (f : Nat → Int) (k : Nat) : (iL f k).length = k := by simp [iL]

set_option maxRecDepth 100000 in
set_option maxHeartbeats 2000000 in
theorem values1_in (n : Nat) (hn : 1 ≤ n) (l Bs n₀ len cap : Nat) (ao : Option Addr) (f : Nat → Int) (hreach : len ≤ 1048576) (J Jx : List Int → World → Prop)
    (hY : ∀ pre x W, J pre W → pre.length < len → YieldAt Fence.wide (n - 1) Tryz.prog l #[.int .i64 x] W fun e W' =>
      (e = .returned (.bool true) ∧ J (pre ++ [x]) W' ∧ Below n₀ W W') ∨ (e = .returned (.bool false) ∧ Jx (pre ++ [x]) W'))
    (W : World) (hBs : W.cell? ⟨Bs, 0, none⟩ = some (.slice ao len cap)) (hc : len = 0 ∨ ∃ b off, ao = some ⟨b, off, none⟩ ∧ b < n₀ ∧ ∀ j, j < len → W.cell? ⟨b, off + j, none⟩ = some (.int .i64 (f j))) (h0 : J [] W) :
    CallsIn Fence.wide n Tryz.prog 87 #[.func (.yield l) #[] #[], .pointer (some ⟨Bs, 0, none⟩)] W fun e W' => (∃ v, e = .returned v) ∧
      ((∃ ys, ys = iL f len ∧ J ys W') ∨ (∃ pre, (∃ k, k ≤ len ∧ pre = iL f k) ∧ Jx pre W')) := by
  refine callsIn_of_wp Tryz.func87 rfl trivial ?_ rfl
  simp only [Tryz.ntmps87, List.size_toArray, List.length_cons, List.length_nil, Nat.reduceAdd, Nat.reduceSub, Array.replicate_succ, Array.replicate_zero, List.push_toArray, List.append_toArray, List.nil_append, List.cons_append]
  gi_wp2
  gi_loopw [7] (fun i wr => ∃ k : Nat, k ≤ len ∧ i = .int .i64 k ∧ J (iL f k) wr ∧ Below n₀ W wr)
    (fun i _ => len - (intOf i).toNat)
  case atStart => exact ⟨0, Nat.zero_le _, rfl, h0, Below.refl _ _⟩
  case round =>
    obtain ⟨k, hk, rfl, hJs, hnx⟩ := hrel
    by_cases hlt : k < len
    · obtain ⟨b, off, rfl, hb, hcs⟩ := hc.resolve_left (by omega)
      obtain ⟨fn, tmps, assign, body, hy, hR⟩ := hY _ (f k) wr hJs (by rw [iL_len]; exact hlt)
      have hcx : wr.cell? ⟨b, off + k, none⟩ = some (.int .i64 (f k)) := (hnx.cell (p := ⟨b, off + k, none⟩) hb).trans (hcs k hlt)
      clear hcs hc
      gi_wp2
      refine hR.mono ?_
      rintro e W3 (⟨rfl, hJ3, hk3⟩ | ⟨rfl, hJx3⟩)
      · gi_wp2
        go_roundw
        case rel => exact ⟨k + 1, by omega, by go_num, by rw [iL_succ]; exact hJ3, hnx.trans hk3⟩
        case measure => simp [intOf]; omega
      · gi_wp2
        refine bodyPost_ret (results_none rfl _ _ _) rfl ?_
        exact ⟨⟨_, rfl⟩, .inr ⟨_, ⟨k + 1, by omega, (iL_succ _ _).symm⟩, hJx3⟩⟩
    · obtain rfl : k = len := by omega
      gi_wp2
      go_end0
      exact ⟨⟨_, rfl⟩, .inl ⟨_, rfl, hJs⟩⟩

theorem values_any (ao : Option Addr) (len cap : Nat) (w : World) :
    Calls Tryz.prog 66 #[.slice ao len cap] w fun e w' => e = .returned (.func (.func 87) #[] #[.pointer (some ⟨w.heap.size, 0, none⟩)]) ∧ w' = w.alloc (.cells #[.slice ao len cap] 44) := by
  go_enter Tryz.func66, Tryz.ntmps66
  go_wp2
  go_ret
  exact ⟨rfl, rfl⟩

theorem values_stops (n : Nat) (hn : 1 ≤ n) (Bs n₀ len cap : Nat) (ao : Option Addr) (f : Nat → Int) (hreach : len ≤ 1048576) (w : World) (hBs : Bs < w.heap.size) (hn₀ : n₀ ≤ w.heap.size)
    (hc : w.cell? ⟨Bs, 0, none⟩ = some (.slice ao len cap)) (hI : len = 0 ∨ ∃ b off, ao = some ⟨b, off, none⟩ ∧ b < n₀ ∧ ∀ j, j < len → w.cell? ⟨b, off + j, none⟩ = some (.int .i64 (f j))) :
    SeqStopsK Fence.wide n Tryz.prog 87 #[.pointer (some ⟨Bs, 0, none⟩)] (fun x : Int => #[Value.int .i64 x]) (Below n₀) (fun ys => ys = iL f len) (fun pre => ∃ k, k ≤ len ∧ pre = iL f k) len w := fun l J Jx W hW _ _ hY h0 => by
  have hc' := (hW.cell (p := ⟨Bs, 0, none⟩) hBs).trans hc
  have hI' : len = 0 ∨ ∃ b off, ao = some ⟨b, off, none⟩ ∧ b < n₀ ∧ ∀ j, j < len → W.cell? ⟨b, off + j, none⟩ = some (.int .i64 (f j)) := by
    rcases hI with h | ⟨b, off, e, hb, hcs⟩
    · exact .inl h
    · exact .inr ⟨b, off, e, hb, fun j hj => (hW.cell (p := ⟨b, off + j, none⟩) (by show b < _; omega)).trans (hcs j hj)⟩
  exact values1_in n hn l Bs n₀ len cap ao f hreach J Jx hY W hc' hI' h0

set_option maxRecDepth 100000 in
set_option maxHeartbeats 2000000 in
theorem appendSeq_any (Bs n₀ len cap : Nat) (ao : Option Addr) (f : Nat → Int) (hreach : len ≤ 1048576) (w : World) (hBs : Bs < w.heap.size) (hn₀ : n₀ ≤ w.heap.size)
    (hc : w.cell? ⟨Bs, 0, none⟩ = some (.slice ao len cap)) (hI : len = 0 ∨ ∃ b off, ao = some ⟨b, off, none⟩ ∧ b < n₀ ∧ ∀ j, j < len → w.cell? ⟨b, off + j, none⟩ = some (.int .i64 (f j))) :
    Calls Tryz.prog 92 #[.slice none 0 0, .func (.func 87) #[] #[.pointer (some ⟨Bs, 0, none⟩)]] w fun e w' => ∃ v, e = .returned v ∧ w'.ownsRow w.heap.size 3 1 v len ((iL f len).map (Value.int .i64)) ∧ Below w.heap.size w w' := by
  obtain ⟨i0, hi, hz0, hz1, hz2⟩ := info_parts Tryz.infoInt
  refine (callsIn_wide (n := 4)).1 ?_
  refine callsIn_of_wp_marks Tryz.func92 rfl trivial ?_ rfl
  simp only [Tryz.ntmps92, List.size_toArray, List.length_cons, List.length_nil, Nat.reduceAdd, Nat.reduceSub, Array.replicate_succ, Array.replicate_zero, List.push_toArray, List.append_toArray, List.nil_append, List.cons_append]
  gi_wp2
  have bO := Boxed.new w 44 (.slice none 0 0)
  have hB0 : Below w.heap.size w (w.alloc (.cells #[.slice none 0 0] 44)) := below_new w _
  have hst := values_stops 3 (by omega) Bs n₀ len cap ao f hreach (w.alloc (.cells #[.slice none 0 0] 44)) (by simp; omega) (by simp; omega) ((hB0.cell (p := ⟨Bs, 0, none⟩) hBs).trans hc) (by
    rcases hI with h | ⟨b, off, e, hb, hcs⟩
    · exact .inl h
    · exact .inr ⟨b, off, e, hb, fun j hj => (hB0.cell (p := ⟨b, off + j, none⟩) (by show b < _; omega)).trans (hcs j hj)⟩)
  refine wpIn_rangeFunc_ownG rfl (by omega) (gf := 87) (lb := #[.pointer (some ⟨Bs, 0, none⟩)]) rfl trivial (enters_of Tryz.func87 (by kernel_rfl) rfl)
    hst belowK_t (belowK_b (by simp; omega)) (Below.refl _ _) (fun _ => rfl)
    (fun pre W => (∃ v, Boxed W w.heap.size 44 v ∧ W.ownsRow w.heap.size 3 1 v pre.length (pre.map (Value.int .i64)) ∧ True) ∧ Below w.heap.size w W)
    (fun _ _ _ => False)
    (OwnFrom.and (Own.from (holdsRow_own w.heap.size w.heap.size 44 3 1 (fun pre : List Int => pre.length) (fun pre => pre.map (Value.int .i64)) (fun pre v => True)) _) (ownFrom_below (Nat.le_refl _) (by simp)))
    (fun _ _ _ _ _ hs _ _ => hs)
    ⟨⟨_, bO, World.ownsRow_nil _ _ _ _, trivial⟩, hB0⟩
    (fun x => { tmps := #[.slice none 0 0, .func (.func 87) #[] #[.pointer (some ⟨Bs, 0, none⟩)], .pointer (some ⟨w.heap.size, 0, none⟩), undef, .slice none 0 0, .int .i64 x, .func (.func 87) #[] #[.pointer (some ⟨Bs, 0, none⟩)], .int .i64 x, undef, undef, undef, undef, undef], defers := [] }) ?assign ?body ?done ?stop
  case assign =>
    intro l x W K hK
    gi_wp2
    exact hK
  case body =>
    rintro l pre x W ⟨⟨v, hv, hrow, _⟩, hB⟩ hlt
    have hc := hv.cell
    gi_wp2_with (gi_at_builtin; refine wpListIn_append_own _ rfl _ _ 44 rfl w.heap.size 3 i0 (.int .i64 0) 1 8 Tryz.underlying44 hi hz0 hz1 hz2 rfl (by decide) _ _ _ rfl (hrow.alloc _) ⟨W.heap.size, 0, none⟩ 1 1 [.int .i64 x] rfl rfl (cell_one_new _ _ _) (by simp [Value.oneCell']) (by unfold maxLen; omega) (by omega) (by have := hB.size; simp; omega) ?_; intro v' w1 hown' hgrow _; obtain ⟨g', cap', rfl⟩ := ownsRow_succ hown'; obtain ⟨hv1, hv2, hr2, hk2, hb2⟩ := hv.appended (by decide) hrow hB.size (Nat.le_refl _) hown' hgrow; have hc1 := hv1.cell; have hf1 := hv1.frozen)
    exact ⟨hk2.from _, hb2.mono hn₀, ⟨_, hv2, by simpa using hr2, trivial⟩, hB.trans hb2⟩
  case done =>
    rintro D ys W hD rfl ⟨⟨v, hv, hrow, _⟩, hB⟩ hK
    have hc := hv.cell
    rw [iL_len] at hrow
    gi_wp2
    refine ⟨by simp, .inl ⟨_, _, rfl, run_takeDeferred hK, ?_⟩⟩
    exact ⟨_, results_tmp rfl _ _ _, v, rfl, ownsRow_putObj hrow _ hK rfl, hB.trans (belowK_b (w := w) (Nat.le_refl _) W D _ _ (by simp at hD; omega) hK rfl rfl)⟩
  case stop =>
    rintro D c pre W _ _ h _
    exact h.elim
end Go.Proofs.YtmeckcaekkangaaGreat
