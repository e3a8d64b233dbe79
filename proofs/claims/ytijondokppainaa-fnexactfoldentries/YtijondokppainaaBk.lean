/- slices.Backward over entries, in the program. -/
import Derived.RangeFuncBox
import Derived.RangeFuncLeaves
import Derived.Shelf.Abstract
import Derived.WalkKit
import Derived.OwnWalkIn
import Derived.TacticsInMore
import Derived.LoopNIn
import Derived.LoopIn
import Derived.Maps.AppendAt
import Derived.Sort.Grow
import Derived.Test.YtijondokppainaaPp
import Derived.Test.YtijondokppainaaNd
namespace Go.Proofs.Ytijondokppainaa
open Go.RowKit Go.Shelf
set_option linter.unusedSimpArgs false
set_option linter.unusedVariables false
attribute [local go_sem] Oper.semAt_some

/-- The last k of m, from the last one down. -/
def bL (m : Nat) : Nat → List Nat
  | 0 => []
  | k + 1 => bL m k ++ [m - 1 - k]
theorem bL_len (m : Nat) : ∀ k, (bL m k).length = k
  | 0 => rfl
  | k + 1 => by simp [bL, bL_len m k]
/-- An entry as a value. -/
def eV (X : Nat → Ent) (V : Nat → Value) (i : Nat) : Value := .agg #[.string (X i).key, .int .i64 (X i).seq, .int .i64 (X i).kind, .int .i64 (X i).c, .int .i64 (X i).s, .int .i64 (X i).lo, .int .i64 (X i).hi, V i, .bool (X i).fu]
/-- The cells of m entries. -/
def ECs (W : World) (b off m : Nat) (X : Nat → Ent) (V : Nat → Value) : Prop := ∀ i, i < m → ∀ j, j < 9 → W.cell? ⟨b, off + i * 9 + j, none⟩ = (ecells (X i) (V i))[j]?

/-- Two blocks are kept. -/
structure KpX (p q : Nat) (W W' : World) : Prop where
  size : W.heap.size ≤ W'.heap.size
  b1 : W'.heap[p]? = W.heap[p]?
  b2 : W'.heap[q]? = W.heap[q]?
theorem KpX.refl (p q : Nat) (W : World) : KpX p q W W := ⟨Nat.le_refl _, rfl, rfl⟩
theorem KpX.trans {p q : Nat} {A B C : World} (h : KpX p q A B) (k : KpX p q B C) : KpX p q A C := ⟨Nat.le_trans h.size k.size, k.b1.trans h.b1, k.b2.trans h.b2⟩
theorem kpX_b {p q : Nat} {w : World} (hp : p < w.heap.size) (hq : q < w.heap.size) (W : World) (l : Nat) (o o' : Obj) (hl : w.heap.size ≤ l) (h : W.heap[l]? = some o) (_ : o.isCells = false) (_ : o.isWalk = false) : KpX p q W (W.putObj l o') :=
  have hb : Below w.heap.size W (W.putObj l o') := (Below.refl _ W).grown (grownBy_putObj' W l o') (by have := (Array.getElem?_eq_some_iff.1 h).1; omega) (fun k e => by cases e; omega)
  ⟨hb.size, hb.block p hp, hb.block q hq⟩
theorem KpX.of_below {p q B : Nat} {W W' : World} (h : Below B W W') (hp : p < B) (hq : q < B) : KpX p q W W' := ⟨h.size, h.block p hp, h.block q hq⟩

set_option maxRecDepth 100000 in
set_option maxHeartbeats 2000000 in
theorem backward1_in (n : Nat) (hn : 1 ≤ n) (l Bs m cap b off : Nat) (X : Nat → Ent) (V : Nat → Value) (hone : ∀ i, i < m → ∃ lo a c, V i = .slice lo a c) (hreach : m ≤ 1048576) (J Jx : List Nat → World → Prop)
    (hY : ∀ pre x W, J pre W → pre.length < m → YieldAt Fence.wide (n - 1) Try.prog l #[.int .i64 (x : Nat), eV X V x] W fun e W' =>
      (e = .returned (.bool true) ∧ J (pre ++ [x]) W' ∧ KpX Bs b W W') ∨ (e = .returned (.bool false) ∧ Jx (pre ++ [x]) W'))
    (W : World) (hBs : W.cell? ⟨Bs, 0, none⟩ = some (.slice (some ⟨b, off, none⟩) m cap)) (hc : ECs W b off m X V) (h0 : J [] W) :
    CallsIn Fence.wide n Try.prog 66 #[.func (.yield l) #[] #[], .pointer (some ⟨Bs, 0, none⟩)] W fun e W' => (∃ v, e = .returned v) ∧
      ((∃ ys, ys = bL m m ∧ J ys W') ∨ (∃ pre, (∃ k, k ≤ m ∧ pre = bL m k) ∧ Jx pre W')) := by
  refine callsIn_of_wp Try.func66 rfl trivial ?_ rfl
  simp only [Try.ntmps66, List.size_toArray, List.length_cons, List.length_nil, Nat.reduceAdd, Nat.reduceSub, Array.replicate_succ, Array.replicate_zero, List.push_toArray, List.append_toArray, List.nil_append, List.cons_append]
  have hw0 : IntKind.i64.wrap ((m : Int) - 1) = (m : Int) - 1 := by rw [IntKind.wrap_i64]; omega
  gi_wp2
  gi_loopw [3] (fun i wr => ∃ k : Nat, k ≤ m ∧ i = .int .i64 ((m : Int) - 1 - k) ∧ J (bL m k) wr ∧ KpX Bs b W wr)
    (fun i _ => (intOf i + 1).toNat)
  case atStart => exact ⟨0, Nat.zero_le _, by first | rfl | simp, h0, KpX.refl _ _ _⟩
  case round =>
    obtain ⟨k, hk, rfl, hJs, hnx⟩ := hrel
    have hBk := (World.cell?_of_block (w := W) (a := ⟨Bs, 0, none⟩) hnx.b1).trans hBs
    by_cases hlt : k < m
    · obtain ⟨x, hx⟩ : ∃ x, x = m - 1 - k := ⟨_, rfl⟩
      have hxm : x < m := by omega
      have hxi : ((m : Int) - 1 - k) = (x : Int) := by omega
      obtain ⟨lo, va, vc, hV⟩ := hone x hxm
      have hcx : ∀ j, j < 9 → wr.cell? ⟨b, off + x * 9 + j, none⟩ = (ecells (X x) (V x))[j]? := fun j hj => (World.cell?_of_block (w := W) (a := ⟨b, off + x * 9 + j, none⟩) hnx.b2).trans (hc x hxm j hj)
      have HX : Hid (bL m (k + 1) = bL m k ++ [x]) := by unfold Hid; rw [bL, hx]
      have HX1 : Hid ((x : Int) - 1 = (m : Int) - 1 - (k + 1 : Nat)) := by unfold Hid; omega
      obtain ⟨fn, tmps, assign, body, hy, hR⟩ := hY _ x wr hJs (by rw [bL_len]; exact hlt)
      rw [hxi]
      unfold eV at hy
      rw [hV] at hcx hy
      have a0 : wr.cell? ⟨b, off + x * 9, none⟩ = some (.string (X x).key) := hcx 0 (by omega)
      have a1 : wr.cell? ⟨b, off + x * 9 + 1, none⟩ = some (.int .i64 (X x).seq) := hcx 1 (by omega)
      have a2 : wr.cell? ⟨b, off + x * 9 + 2, none⟩ = some (.int .i64 (X x).kind) := hcx 2 (by omega)
      have a3 : wr.cell? ⟨b, off + x * 9 + 3, none⟩ = some (.int .i64 (X x).c) := hcx 3 (by omega)
      have a4 : wr.cell? ⟨b, off + x * 9 + 4, none⟩ = some (.int .i64 (X x).s) := hcx 4 (by omega)
      have a5 : wr.cell? ⟨b, off + x * 9 + 5, none⟩ = some (.int .i64 (X x).lo) := hcx 5 (by omega)
      have a6 : wr.cell? ⟨b, off + x * 9 + 6, none⟩ = some (.int .i64 (X x).hi) := hcx 6 (by omega)
      have a7 : wr.cell? ⟨b, off + x * 9 + 7, none⟩ = some (.slice lo va vc) := hcx 7 (by omega)
      have a8 : wr.cell? ⟨b, off + x * 9 + 8, none⟩ = some (.bool (X x).fu) := hcx 8 (by omega)
      have hwx : IntKind.i64.wrap ((x : Int) - 1) = (x : Int) - 1 := by rw [IntKind.wrap_i64]; omega
      have hxp : (0 : Int) ≤ (x : Int) := by omega
      clear hcx hc hx hxi
      gi_wp2
      refine hR.mono ?_
      rintro e W3 (⟨rfl, hJ3, hk3⟩ | ⟨rfl, hJx3⟩)
      · gi_wp2
        go_roundw
        case rel => exact ⟨k + 1, by omega, by first | (rw [← HX1.out]; done) | (rw [← HX1.out]; rfl) | (rw [← HX1.out]; go_num), by rw [HX.out]; exact hJ3, hnx.trans hk3⟩
        case measure => simp [intOf]
      · gi_wp2
        refine bodyPost_ret (results_none rfl _ _ _) rfl ?_
        exact ⟨⟨_, rfl⟩, .inr ⟨_, ⟨k + 1, by omega, HX.out.symm⟩, hJx3⟩⟩
    · obtain rfl : k = m := by omega
      have hneg : ¬ (0 : Int) ≤ (k : Int) - 1 - k := by omega
      have hnegd : decide ((0 : Int) ≤ (k : Int) - 1 - k) = false := decide_eq_false hneg
      gi_wp2
      go_end0
      first | exact ⟨⟨_, rfl⟩, .inl ⟨_, rfl, hJs⟩⟩ | exact ⟨⟨_, rfl⟩, .inl hJs⟩
end Go.Proofs.Ytijondokppainaa
