/- The places of a key in the program: an iterator. -/
import Derived.RangeFuncNested
import Derived.RangeFuncBound
import Derived.RangeFuncCalls
import Derived.RangeFuncLeaves
import Derived.Shelf.Abstract
import Derived.Shelf.RegionOpen
import Derived.WalkKit
import Derived.OwnWalkIn
import Derived.TacticsInMore
import Derived.LoopNIn
import Derived.LoopIn
import Derived.Test.YtoccfmkciacomaaPl
import Derived.Test.YtoccfmkciacomaaGf
namespace Go.Proofs.Ytoccfmkciacomaa
open Go.RowKit Go.Shelf
set_option linter.unusedSimpArgs false
set_option linter.unusedVariables false
attribute [local go_sem] Oper.semAt_some

/-- What an iterator over places holds: a filter, two hashes and how many bits. -/
structure PAt (w : World) (b : Nat) (y : Int) (v : Value) (h d M : Int) : Prop where
  f : FAt w b y v
  lt : b + 1 + 1 + 1 < w.heap.size
  c1 : w.cell? ⟨b + 1, 0, none⟩ = some (.int .u32 h)
  c2 : w.cell? ⟨b + 1 + 1, 0, none⟩ = some (.int .u32 d)
  c3 : w.cell? ⟨b + 1 + 1 + 1, 0, none⟩ = some (.int .u32 M)

set_option maxHeartbeats 1600000 in
theorem places_any (s : ByteArray) (y : Int) (ao : Option Addr) (m cap : Nat) (w : World) (hs : s.size ≤ 1048576) (hm : 1 ≤ m ∧ m ≤ 200) :
    Calls Try.prog 24 #[.agg #[.int .i64 y, .slice ao m cap], .string s] w fun e w' => e = .returned (.func (.func 28) #[] #[.pointer (some ⟨w.heap.size, 0, none⟩), .pointer (some ⟨w.heap.size + 1, 0, none⟩), .pointer (some ⟨w.heap.size + 1 + 1, 0, none⟩), .pointer (some ⟨w.heap.size + 1 + 1 + 1, 0, none⟩)]) ∧
      PAt w' w.heap.size y (.slice ao m cap) (hOf s 0) (hOf s 1) (8 * m) ∧ w'.heap.size = w.heap.size + 1 + 1 + 1 + 1 ∧ Below w.heap.size w w' := by
  have c0 := fun W => hash_impl s 0 W (by omega) hs
  have c1 := fun W => hash_impl s 1 W (by omega) hs
  generalize hOf s 0 = h at *
  generalize hOf s 1 = d at *
  have hM1 : 8 * (m : Int) ≤ 1600 := by omega
  go_enter Try.func24, Try.ntmps24
  go_wp2_with fail
  refine (c0 _).mono ?_
  rintro e w1 ⟨rfl, rfl⟩
  go_wp2_with fail
  refine (c1 _).mono ?_
  rintro e w1 ⟨rfl, rfl⟩
  go_wp2
  refine bodyPost_ret (v := .func (.func 28) #[] #[.pointer (some ⟨w.heap.size, 0, none⟩), .pointer (some ⟨w.heap.size + 1, 0, none⟩), .pointer (some ⟨w.heap.size + 1 + 1, 0, none⟩), .pointer (some ⟨w.heap.size + 1 + 1 + 1, 0, none⟩)]) (by simp [results, Try.results24, go_sem]) rfl ⟨rfl, ⟨⟨?_, ?_, ?_⟩, ?_, ?_, ?_, ?_⟩, ?_, ?_⟩
  all_goals first
    | (simp [go_sem]; done)
    | (simp; omega)
    | exact ((((Below.refl _ _).alloc (Nat.le_refl _) _).alloc (by simp) _).alloc (by simp; omega) _).alloc (by simp; omega) _

/-- A place below M. -/
abbrev Plc (M : Int) := { x : Int // 0 ≤ x ∧ x < M }
def plX (h d : Int) {M : Int} (hM : 0 < M) (k : Nat) : Plc M := ⟨pl h d M k, pl_bd h d hM k⟩
def plU (h d : Int) {M : Int} (hM : 0 < M) (k : Nat) : List (Plc M) := (List.range k).map (plX h d hM)
theorem plU_succ (h d : Int) {M : Int} (hM : 0 < M) (k : Nat) : plU h d hM (k + 1) = plU h d hM k ++ [plX h d hM k] := by simp [plU, List.range_succ]
theorem plU_len (h d : Int) {M : Int} (hM : 0 < M) (k : Nat) : (plU h d hM k).length = k := by simp [plU]
theorem plU_val (h d : Int) {M : Int} (hM : 0 < M) (k : Nat) : (plU h d hM k).map (·.1) = plL h d M k := by simp [plU, plL, plX]

/-- The blocks from b up to c lie as they lay. -/
structure KpC (b c : Nat) (W W' : World) : Prop where
  size : W.heap.size ≤ W'.heap.size
  blk : ∀ k, b ≤ k → k < c → W'.heap[k]? = W.heap[k]?
theorem KpC.refl (b c : Nat) (W : World) : KpC b c W W := ⟨Nat.le_refl _, fun _ _ _ => rfl⟩
theorem KpC.trans {b c : Nat} {A B C : World} (h : KpC b c A B) (k : KpC b c B C) : KpC b c A C := ⟨Nat.le_trans h.size k.size, fun i h1 h2 => (k.blk i h1 h2).trans (h.blk i h1 h2)⟩
theorem PAt.kp {W W' : World} {b : Nat} {y : Int} {v : Value} {h d M : Int} (hp : PAt W b y v h d M) (hk : KpC b (b + 1 + 1 + 1 + 1) W W') : PAt W' b y v h d M :=
  have c : ∀ q j, b ≤ q → q < b + 1 + 1 + 1 + 1 → W'.cell? ⟨q, j, none⟩ = W.cell? ⟨q, j, none⟩ := fun q j h1 h2 => World.cell?_of_block (w := W) (a := ⟨q, j, none⟩) (hk.blk q h1 h2)
  ⟨⟨Nat.lt_of_lt_of_le hp.f.lt hk.size, (c _ _ (by omega) (by omega)).trans hp.f.c0, (c _ _ (by omega) (by omega)).trans hp.f.c1⟩, Nat.lt_of_lt_of_le hp.lt hk.size, (c _ _ (by omega) (by omega)).trans hp.c1, (c _ _ (by omega) (by omega)).trans hp.c2, (c _ _ (by omega) (by omega)).trans hp.c3⟩

set_option maxRecDepth 100000 in
set_option maxHeartbeats 2000000 in
theorem places1_in (n : Nat) (hn : 1 ≤ n) (l b y : Nat) (v : Value) (h d M : Int) (hM : 0 < M) (hM2 : M ≤ 1600) (hy : y ≤ 8) (hh : 0 ≤ h ∧ h ≤ 4294967295) (hd : 0 ≤ d ∧ d ≤ 4294967295) (J Jx : List (Plc M) → World → Prop)
    (hY : ∀ pre x W, J pre W → pre.length < y → YieldAt Fence.wide (n - 1) Try.prog l #[.int .i64 x.1] W fun e W' =>
      (e = .returned (.bool true) ∧ J (pre ++ [x]) W' ∧ KpC b (b + 1 + 1 + 1 + 1) W W') ∨ (e = .returned (.bool false) ∧ Jx (pre ++ [x]) W'))
    (W : World) (hP : PAt W b y v h d M) (h0 : J [] W) :
    CallsIn Fence.wide n Try.prog 28 #[.func (.yield l) #[] #[], .pointer (some ⟨b, 0, none⟩), .pointer (some ⟨b + 1, 0, none⟩), .pointer (some ⟨b + 1 + 1, 0, none⟩), .pointer (some ⟨b + 1 + 1 + 1, 0, none⟩)] W fun e W' => (∃ v, e = .returned v) ∧
      ((∃ ys, ys = plU h d hM y ∧ J ys W') ∨ (∃ pre, (∃ k, k ≤ y ∧ pre = plU h d hM k) ∧ Jx pre W')) := by
  refine callsIn_of_wp Try.func28 rfl trivial ?_ rfl
  simp only [Try.ntmps28, List.size_toArray, List.length_cons, List.length_nil, Nat.reduceAdd, Nat.reduceSub, Array.replicate_succ, Array.replicate_zero, List.push_toArray, List.append_toArray, List.nil_append, List.cons_append]
  obtain ⟨⟨lf, f0, f1⟩, lp, p1, p2, p3⟩ := id hP
  gi_wp2
  gi_loopw [10] (fun i wr => ∃ k : Nat, k ≤ y ∧ i = .int .u32 k ∧ J (plU h d hM k) wr ∧ KpC b (b + 1 + 1 + 1 + 1) W wr)
    (fun i _ => y - (intOf i).toNat)
  case atStart => exact ⟨0, Nat.zero_le _, rfl, h0, KpC.refl _ _ _⟩
  case round =>
    obtain ⟨k, hk, rfl, hJs, hnx⟩ := hrel
    obtain ⟨⟨lf, f0, f1⟩, lp, p1, p2, p3⟩ := hP.kp hnx
    by_cases hlt : k < y
    · obtain ⟨fn, tmps, assign, body, hy', hR⟩ := hY _ (plX h d hM k) wr hJs (by rw [plU_len]; exact hlt)
      have e1 : (plX h d hM k).1 = (h + (k : Int) * d) % 4294967296 % M := rfl
      rw [e1] at hy'
      have hpb := pl_bd h d hM k
      have hpb2 : 0 ≤ (h + (k : Int) * d) % 4294967296 % M ∧ (h + (k : Int) * d) % 4294967296 % M < M := hpb
      have hMne : ¬ M = 0 := by omega
      gi_wp2
      refine hR.mono ?_
      rintro e W3 (⟨rfl, hJ3, hk3⟩ | ⟨rfl, hJx3⟩)
      · gi_wp2
        go_roundw
        case rel => exact ⟨k + 1, by omega, by go_num, by rw [plU_succ]; exact hJ3, hnx.trans hk3⟩
        case measure => simp [intOf]; omega
      · gi_wp2
        refine bodyPost_ret (results_none rfl _ _ _) rfl ?_
        exact ⟨⟨_, rfl⟩, .inr ⟨_, ⟨k + 1, by omega, (plU_succ _ _ _ _).symm⟩, hJx3⟩⟩
    · obtain rfl : k = y := by omega
      gi_wp2
      go_end0
      exact ⟨⟨_, rfl⟩, .inl ⟨_, rfl, hJs⟩⟩

/-- The places come in their order; or the first ones. -/
theorem places_stops (n : Nat) (hn : 1 ≤ n) (b y : Nat) (v : Value) (h d M : Int) (hM : 0 < M) (hM2 : M ≤ 1600) (hy : y ≤ 8) (hh : 0 ≤ h ∧ h ≤ 4294967295) (hd : 0 ≤ d ∧ d ≤ 4294967295) (w : World) (hP : PAt w b y v h d M) :
    SeqStopsK Fence.wide n Try.prog 28 #[.pointer (some ⟨b, 0, none⟩), .pointer (some ⟨b + 1, 0, none⟩), .pointer (some ⟨b + 1 + 1, 0, none⟩), .pointer (some ⟨b + 1 + 1 + 1, 0, none⟩)] (fun x : Plc M => #[Value.int .i64 x.1]) (KpC b (b + 1 + 1 + 1 + 1)) (fun ys => ys = plU h d hM y) (fun pre => ∃ k, k ≤ y ∧ pre = plU h d hM k) y w := fun l J Jx W hW _ _ hY h0 => by
  have hP' : PAt W b y v h d M := hP.kp ⟨hW.size, fun k h1 h2 => hW.block k (by have := hP.lt; omega)⟩
  exact places1_in n hn l b y v h d M hM hM2 hy hh hd J Jx hY W hP' h0
theorem kpC_b {b c : Nat} {w : World} (hn : c ≤ w.heap.size) (W : World) (l : Nat) (o o' : Obj) (hl : w.heap.size ≤ l) (h : W.heap[l]? = some o) (_ : o.isCells = false) (_ : o.isWalk = false) : KpC b c W (W.putObj l o') :=
  have hb : Below c W (W.putObj l o') := (Below.refl c W).grown (grownBy_putObj' W l o') (by have := (Array.getElem?_eq_some_iff.1 h).1; omega) (fun k e => by cases e; omega)
  ⟨hb.size, fun k _ hk => hb.block k hk⟩
end Go.Proofs.Ytoccfmkciacomaa
