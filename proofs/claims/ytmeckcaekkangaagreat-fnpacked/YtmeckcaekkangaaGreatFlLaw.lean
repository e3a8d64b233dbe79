/- slices.Backward over entries, in the program. / FoldEntries, in the program. / FoldEntries, in the program: wholly. / FoldEntries, in the model. / The law of FoldEntries, walked. / The law of FoldEntries, walked. -/
import Derived.RangeFuncBox
import Derived.RangeFuncLeaves
import Derived.Shelf.Abstract
import Derived.WalkKit
import Derived.OwnWalkIn
import Derived.TacticsInMore
import Derived.LoopNIn
import Derived.LoopIn
import Derived.Maps.AppendAt
import Derived.Sort.Grow
import Derived.Test.YtmeckcaekkangaaGreatPp
import Derived.Test.YtmeckcaekkangaaGreatNd
import Derived.RangeFuncNested
import Derived.Test.YtmeckcaekkangaaGreatJa
import Derived.Test.YtmeckcaekkangaaGreatLf
import Derived.Test.YtmeckcaekkangaaGreatBef
import Derived.Test.YtmeckcaekkangaaGreatGoS
import Derived.Test.YtmeckcaekkangaaGreatEoLaw
namespace Go.Proofs.YtmeckcaekkangaaGreat
set_option maxRecDepth 100000
open Go.RowKit Go.Shelf
set_option linter.unusedSimpArgs false
set_option linter.unusedVariables false
attribute [local go_sem] Oper.semAt_some

/-- The last k of m, from the last one down. -/
def bL (m : Nat) : Nat → List Nat
  | 0 => []
  | k + 1 => bL m k ++ [m - 1 - k]
theorem bL_len (m : Nat) : ∀ k, (bL m k).length = k
  | 0 => rfl
  | k + 1 => by simp [bL, bL_len m k]
/-- An entry as a value. -/
def eV (X : Nat → Ent) (V : Nat → Value) (i : Nat) : Value := .agg #[.string (X i).key, .int .i64 (X i).seq, .int .i64 (X i).kind, .int .i64 (X i).c, .int .i64 (X i).s, .int .i64 (X i).lo, .int .i64 (X i).hi, V i, .bool (X i).fu]
/-- The cells of m entries. -/
def ECs (W : World) (b off m : Nat) (X : Nat → Ent) (V : Nat → Value) : Prop := ∀ i, i < m → ∀ j, j < 9 → W.cell? ⟨b, off + i * 9 + j, none⟩ = (ecells (X i) (V i))[j]?

/-- Two blocks are kept. -/
structure KpX (p q : Nat) (W W' : World) : Prop where
  size : W.heap.size ≤ W'.heap.size
  b1 : W'.heap[p]? = W.heap[p]?
  b2 : W'.heap[q]? = W.heap[q]?
theorem KpX.refl (p q : Nat) (W : World) : KpX p q W W := ⟨Nat.le_refl _, rfl, rfl⟩
theorem KpX.trans {p q : Nat} {A B C : World} (h : KpX p q A B) (k : KpX p q B C) : KpX p q A C := ⟨Nat.le_trans h.size k.size, k.b1.trans h.b1, k.b2.trans h.b2⟩
theorem kpX_b {p q : Nat} {w : World} (hp : p < w.heap.size) (hq : q < w.heap.size) (W : World) (l : Nat) (o o' : Obj) (hl : w.heap.size ≤ l) (h : W.heap[l]? = some o) (_ : o.isCells = false) (_ : o.isWalk = false) : KpX p q W (W.putObj l o') :=
  have hb : Below w.heap.size W (W.putObj l o') := (Below.refl _ W).grown (grownBy_putObj' W l o') (by have := (Array.getElem?_eq_some_iff.1 h).1; omega) (fun k e => by cases e; omega)
  ⟨hb.size, hb.block p hp, hb.block q hq⟩
theorem KpX.of_below {p q B : Nat} {W W' : World} (h : Below B W W') (hp : p < B) (hq : q < B) : KpX p q W W' := ⟨h.size, h.block p hp, h.block q hq⟩

set_option maxRecDepth 100000 in
set_option maxHeartbeats 2000000 in
theorem backward1_in (n : Nat) (hn : 1 ≤ n) (l Bs m cap b off : Nat) (X : Nat → Ent) (V : Nat → Value) (hone : ∀ i, i < m → ∃ lo a c, V i = .slice lo a c) (hreach : m ≤ 1048576) (J Jx : List Nat → World → Prop)
    (hY : ∀ pre x W, J pre W → pre.length < m → YieldAt Fence.wide (n - 1) Tryz.prog l #[.int .i64 (x : Nat), eV X V x] W fun e W' =>
      (e = .returned (.bool true) ∧ J (pre ++ [x]) W' ∧ KpX Bs b W W') ∨ (e = .returned (.bool false) ∧ Jx (pre ++ [x]) W'))
    (W : World) (hBs : W.cell? ⟨Bs, 0, none⟩ = some (.slice (some ⟨b, off, none⟩) m cap)) (hc : ECs W b off m X V) (h0 : J [] W) :
    CallsIn Fence.wide n Tryz.prog 73 #[.func (.yield l) #[] #[], .pointer (some ⟨Bs, 0, none⟩)] W fun e W' => (∃ v, e = .returned v) ∧
      ((∃ ys, ys = bL m m ∧ J ys W') ∨ (∃ pre, (∃ k, k ≤ m ∧ pre = bL m k) ∧ Jx pre W')) := by
  refine callsIn_of_wp Tryz.func73 rfl trivial ?_ rfl
  simp only [Tryz.ntmps73, List.size_toArray, List.length_cons, List.length_nil, Nat.reduceAdd, Nat.reduceSub, Array.replicate_succ, Array.replicate_zero, List.push_toArray, List.append_toArray, List.nil_append, List.cons_append]
  have hw0 : IntKind.i64.wrap ((m : Int) - 1) = (m : Int) - 1 := by rw [IntKind.wrap_i64]; omega
  gi_wp2
  gi_loopw [3] (fun i wr => ∃ k : Nat, k ≤ m ∧ i = .int .i64 ((m : Int) - 1 - k) ∧ J (bL m k) wr ∧ KpX Bs b W wr)
    (fun i _ => (intOf i + 1).toNat)
  case atStart => exact ⟨0, Nat.zero_le _, by first | rfl | simp, h0, KpX.refl _ _ _⟩
  case round =>
    obtain ⟨k, hk, rfl, hJs, hnx⟩ := hrel
    have hBk := (World.cell?_of_block (w := W) (a := ⟨Bs, 0, none⟩) hnx.b1).trans hBs
    by_cases hlt : k < m
    · obtain ⟨x, hx⟩ : ∃ x, x = m - 1 - k := ⟨_, rfl⟩
      have hxm : x < m := by omega
      have hxi : ((m : Int) - 1 - k) = (x : Int) := by omega
      obtain ⟨lo, va, vc, hV⟩ := hone x hxm
      have hcx : ∀ j, j < 9 → wr.cell? ⟨b, off + x * 9 + j, none⟩ = (ecells (X x) (V x))[j]? := fun j hj => (World.cell?_of_block (w := W) (a := ⟨b, off + x * 9 + j, none⟩) hnx.b2).trans (hc x hxm j hj)
      have HX : Hid (bL m (k + 1) = bL m k ++ [x]) := by unfold Hid; rw [bL, hx]
      have HX1 : Hid ((x : Int) - 1 = (m : Int) - 1 - (k + 1 : Nat)) := by unfold Hid; omega
      obtain ⟨fn, tmps, assign, body, hy, hR⟩ := hY _ x wr hJs (by rw [bL_len]; exact hlt)
      rw [hxi]
      unfold eV at hy
      rw [hV] at hcx hy
      have a0 : wr.cell? ⟨b, off + x * 9, none⟩ = some (.string (X x).key) := hcx 0 (by omega)
      have a1 : wr.cell? ⟨b, off + x * 9 + 1, none⟩ = some (.int .i64 (X x).seq) := hcx 1 (by omega)
      have a2 : wr.cell? ⟨b, off + x * 9 + 2, none⟩ = some (.int .i64 (X x).kind) := hcx 2 (by omega)
      have a3 : wr.cell? ⟨b, off + x * 9 + 3, none⟩ = some (.int .i64 (X x).c) := hcx 3 (by omega)
      have a4 : wr.cell? ⟨b, off + x * 9 + 4, none⟩ = some (.int .i64 (X x).s) := hcx 4 (by omega)
      have a5 : wr.cell? ⟨b, off + x * 9 + 5, none⟩ = some (.int .i64 (X x).lo) := hcx 5 (by omega)
      have a6 : wr.cell? ⟨b, off + x * 9 + 6, none⟩ = some (.int .i64 (X x).hi) := hcx 6 (by omega)
      have a7 : wr.cell? ⟨b, off + x * 9 + 7, none⟩ = some (.slice lo va vc) := hcx 7 (by omega)
      have a8 : wr.cell? ⟨b, off + x * 9 + 8, none⟩ = some (.bool (X x).fu) := hcx 8 (by omega)
      have hwx : IntKind.i64.wrap ((x : Int) - 1) = (x : Int) - 1 := by rw [IntKind.wrap_i64]; omega
      have hxp : (0 : Int) ≤ (x : Int) := by omega
      clear hcx hc hx hxi
      gi_wp2
      refine hR.mono ?_
      rintro e W3 (⟨rfl, hJ3, hk3⟩ | ⟨rfl, hJx3⟩)
      · gi_wp2
        go_roundw
        case rel => exact ⟨k + 1, by omega, by first | (rw [← HX1.out]; done) | (rw [← HX1.out]; rfl) | (rw [← HX1.out]; go_num), by rw [HX.out]; exact hJ3, hnx.trans hk3⟩
        case measure => simp [intOf]
      · gi_wp2
        refine bodyPost_ret (results_none rfl _ _ _) rfl ?_
        exact ⟨⟨_, rfl⟩, .inr ⟨_, ⟨k + 1, by omega, HX.out.symm⟩, hJx3⟩⟩
    · obtain rfl : k = m := by omega
      have hneg : ¬ (0 : Int) ≤ (k : Int) - 1 - k := by omega
      have hnegd : decide ((0 : Int) ≤ (k : Int) - 1 - k) = false := decide_eq_false hneg
      gi_wp2
      go_end0
      first | exact ⟨⟨_, rfl⟩, .inl ⟨_, rfl, hJs⟩⟩ | exact ⟨⟨_, rfl⟩, .inl hJs⟩
end Go.Proofs.YtmeckcaekkangaaGreat

namespace Go.Proofs.YtmeckcaekkangaaGreat
set_option maxRecDepth 100000
open Go.RowKit Go.Shelf
set_option linter.unusedSimpArgs false
set_option linter.unusedVariables false
attribute [local go_sem] Oper.semAt_some

theorem backward_any (ao : Option Addr) (len cap : Nat) (w : World) :
    Calls Tryz.prog 54 #[.slice ao len cap] w fun e w' => e = .returned (.func (.func 73) #[] #[.pointer (some ⟨w.heap.size, 0, none⟩)]) ∧ w' = w.alloc (.cells #[.slice ao len cap] 26) := by
  go_enter Tryz.func54, Tryz.ntmps54
  go_wp2
  go_ret
  exact ⟨rfl, rfl⟩
theorem backward_stops (n : Nat) (hn : 1 ≤ n) (Bs m cap b off : Nat) (X : Nat → Ent) (V : Nat → Value) (hone : ∀ i, i < m → ∃ lo a c, V i = .slice lo a c) (hreach : m ≤ 1048576) (w : World) (hBs : Bs < w.heap.size) (hb : b < w.heap.size)
    (hc : w.cell? ⟨Bs, 0, none⟩ = some (.slice (some ⟨b, off, none⟩) m cap)) (hI : ECs w b off m X V) :
    SeqStopsK Fence.wide n Tryz.prog 73 #[.pointer (some ⟨Bs, 0, none⟩)] (fun x : Nat => #[Value.int .i64 x, eV X V x]) (KpX Bs b) (fun ys => ys = bL m m) (fun pre => ∃ k, k ≤ m ∧ pre = bL m k) m w := fun l J Jx W hW _ _ hY h0 => by
  have hc' := (hW.cell (p := ⟨Bs, 0, none⟩) hBs).trans hc
  have hI' : ECs W b off m X V := fun i hi j hj => (hW.cell (p := ⟨b, off + i * 9 + j, none⟩) hb).trans (hI i hi j hj)
  exact backward1_in n hn l Bs m cap b off X V hone hreach J Jx hY W hc' hI' h0

/-- The cells of an agg. -/
def acells (x : Ent) (hv : Value) : List Value := [.int .i64 x.c, .int .i64 x.s, .int .i64 x.lo, .int .i64 x.hi, hv, .bool x.fu]
/-- Those that are no drops. -/
def nd (X : Nat → Ent) (l : List Nat) : List Nat := l.filter fun i => (X i).kind != 2
/-- Nothing there. -/
def NoF' (X : Nat → Ent) (n : Nat) : Prop := n = 0 ∨ (X 0).kind = 2
/-- An agg in answer, and two words. -/
def FeA (y : Ent) (h g : Bool) (w : World) (e : Ending) (w' : World) : Prop :=
  ∃ lo lc, e = .returned (.tuple #[.agg #[.int .i64 y.c, .int .i64 y.s, .int .i64 y.lo, .int .i64 y.hi, .slice lo y.n lc, .bool y.fu], .bool h, .bool g]) ∧ (y.n = 0 ∨ ∃ q, lo = some ⟨q, 0, none⟩ ∧ w.heap.size ≤ q ∧ IOwn w' q 0 y.n y.f) ∧ Below w.heap.size w w'
theorem Tryz.infoAgg : (Tryz.prog.info? 46).map (fun i => (i.zero, i.size, i.bytes)) = some (some (.agg #[.int .i64 0, .int .i64 0, .int .i64 0, .int .i64 0, .slice none 0 0, .bool false]), 6, 64) := by kernel_rfl

/-- An entry in the box B. -/
def BE (W : World) (B : Nat) (x : Ent) (hv : Value) : Prop := W.heap[B]? = some (.cells #[.string x.key, .int .i64 x.seq, .int .i64 x.kind, .int .i64 x.c, .int .i64 x.s, .int .i64 x.lo, .int .i64 x.hi, hv, .bool x.fu] 48 (0, 0))
theorem ev_all {w : World} {b off n : Nat} {X : Nat → Ent} (h : ERow w (some ⟨b, off, none⟩) n X) : ∃ V, EV w b off n X V ∧ ∀ i, ∃ lo a c, V i = .slice lo a c := by
  obtain ⟨V, hV⟩ := ev_of h
  refine ⟨fun i => if i < n then V i else .slice none 0 0, ⟨fun i hi => ?_, fun w' hb i hi j hj => ?_⟩, fun i => ?_⟩
  · simp only [hi, if_true]; exact hV.row i hi
  · simp only [hi, if_true]; exact hV.cell w' hb i hi j hj
  · by_cases hi : i < n
    · simp only [hi, if_true]
      obtain ⟨lo, lc, e, _⟩ := hV.row i hi
      exact ⟨lo, _, lc, e⟩
    · simp only [hi, if_false]
      exact ⟨none, 0, 0, rfl⟩
theorem fl6_len (X : Nat → Ent) (V : Nat → Value) : ∀ L : List Nat, (L.flatMap fun i => acells (X i) (V i)).length = L.length * 6
  | [] => rfl
  | a :: L => by rw [List.flatMap_cons, List.length_append, fl6_len X V L]; simp [acells]; omega
theorem fl6_get (X : Nat → Ent) (V : Nat → Value) : ∀ (L : List Nat) (i j : Nat), i < L.length → j < 6 → (L.flatMap fun i => acells (X i) (V i))[i * 6 + j]? = (acells (X (L.getD i 0)) (V (L.getD i 0)))[j]?
  | [], i, j, hi, _ => by simp at hi
  | a :: L, 0, j, _, hj => by
    rw [List.flatMap_cons, List.getElem?_append_left (by simp [acells]; omega)]
    simp
  | a :: L, i + 1, j, hi, hj => by
    have e : (i + 1) * 6 + j = 6 + (i * 6 + j) := by omega
    have h6 : (acells (X a) (V a)).length = 6 := rfl
    rw [List.flatMap_cons, e, List.getElem?_append_right (by rw [h6]; omega), h6, Nat.add_sub_cancel_left, fl6_get X V L i j (by simpa using hi) hj]
    simp
theorem bL_mem {m : Nat} : ∀ {k x : Nat}, x ∈ bL m k → k ≤ m → x < m
  | 0, x, h, _ => by simp [bL] at h
  | k + 1, x, h, hk => by
    rw [bL] at h
    rcases List.mem_append.1 h with h | h
    · exact bL_mem h (by omega)
    · rw [List.mem_singleton.1 h]; omega
theorem nd_get {X : Nat → Ent} {L : List Nat} {i : Nat} (hi : i < (nd X L).length) : (nd X L).getD i 0 ∈ L ∧ (X ((nd X L).getD i 0)).kind ≠ 2 := by
  have h : (nd X L).getD i 0 ∈ nd X L := by
    rw [List.getD_eq_getElem?_getD, List.getElem?_eq_getElem hi]
    exact List.getElem_mem hi
  unfold nd at h ⊢
  rw [List.mem_filter] at h
  exact ⟨h.1, by simpa using h.2⟩
theorem arow_of {W : World} {base : Nat} {v : Value} {X : Nat → Ent} {V : Nat → Value} {L : List Nat} (h : W.ownsRow base 46 6 v L.length (L.flatMap fun i => acells (X i) (V i)))
    (hrow : ∀ i, i < L.length → ∃ lo lc, V (L.getD i 0) = .slice lo (X (L.getD i 0)).n lc ∧ IRow W lo (X (L.getD i 0)).n (X (L.getD i 0)).f) : ∃ ao cap, v = .slice ao L.length cap ∧ ARow W ao L.length (fun i => X (L.getD i 0)) := by
  rcases h.2 with ⟨rfl, h0⟩ | ⟨g, cap, cur, rfl, hbg, hg, hnc, _⟩
  · exact ⟨none, 0, by rw [h0], .inl h0⟩
  · have hlt := (Array.getElem?_eq_some_iff.1 hg).1
    refine ⟨some ⟨g, 0, none⟩, cap, rfl, .inr ⟨g, 0, rfl, hlt, fun i hi => ?_⟩⟩
    obtain ⟨lo, lc, hV, hr⟩ := hrow i hi
    have c : ∀ j, j < 6 → W.cell? ⟨g, i * 6 + j, none⟩ = (acells (X (L.getD i 0)) (V (L.getD i 0)))[j]? := fun j hj => by rw [h.cellAt (i * 6 + j) (by omega), fl6_get X V L i j hi hj]
    rw [hV] at c
    refine ⟨lo, lc, ?_, hr⟩
    rw [Nat.zero_add]
    exact ⟨hlt, c 0 (by omega), c 1 (by omega), c 2 (by omega), c 3 (by omega), c 4 (by omega), c 5 (by omega)⟩
theorem nd_yes {X : Nat → Ent} {pre : List Nat} {x : Nat} (h : (X x).kind ≠ 2) : nd X (pre ++ [x]) = nd X pre ++ [x] := by simp [nd, List.filter_append, h]
theorem nd_no {X : Nat → Ent} {pre : List Nat} {x : Nat} (h : (X x).kind = 2) : nd X (pre ++ [x]) = nd X pre := by simp [nd, List.filter_append, h]
theorem nd_len (X : Nat → Ent) (pre : List Nat) : (nd X pre).length ≤ pre.length := List.length_filter_le _ _
theorem six_new (W : World) (x : Ent) (hv : Value) (T : Nat) : ∀ j u, (acells x hv)[j]? = some u → (W.alloc (.cells #[.int .i64 x.c, .int .i64 x.s, .int .i64 x.lo, .int .i64 x.hi, hv, .bool x.fu] T)).cell? ((⟨W.heap.size, 0, none⟩ : Addr).add j) = some u := by
  intro j u hj
  have hlt : j < 6 := by
    have := (List.getElem?_eq_some_iff.1 hj).1
    simpa [acells] using this
  rw [show (⟨W.heap.size, 0, none⟩ : Addr).add j = ⟨W.heap.size, j, none⟩ from by unfold Addr.add; split <;> simp_all]
  rw [← hj]
  rcases j with _ | _ | _ | _ | _ | _ | j
  all_goals first | (simp [go_sem, acells]; done) | omega
/-- What is gathered when the indices pre are gone through. -/
def FI (X : Nat → Ent) (V : Nat → Value) (w w2 w4 : World) (pre : List Nat) (W : World) : Prop :=
  ∃ v, Boxed W w2.heap.size 80 v ∧ W.ownsRow w4.heap.size 46 6 v (nd X pre).length ((nd X pre).flatMap fun i => acells (X i) (V i)) ∧ Below w.heap.size w W ∧ w4.heap.size ≤ W.heap.size
theorem fi_own (X : Nat → Ent) (V : Nat → Value) (w w2 w4 : World) (hw : w.heap.size ≤ w4.heap.size) : OwnFrom w4.heap.size (FI X V w w2 w4) := by
  rintro pre A B row ⟨v, h1, h2, h3, h4⟩ hg hr
  refine ⟨v, (hg.block _ h1.lt (fun e => ?_)).trans h1, ?_, ?_, Nat.le_trans h4 hg.size⟩
  · obtain ⟨_, o, ho, hc⟩ := hr _ e.symm
    rw [show A.heap[w2.heap.size]? = _ from h1] at ho
    cases ho; cases hc
  · refine ownsRow_kept h2 hg (fun k hk e => ?_)
    obtain ⟨_, o, ho, hc⟩ := hr k hk
    rcases h2.2 with ⟨rfl, _⟩ | ⟨g, cap, cur, rfl, _, hgb, _⟩
    · simp [Value.ownBlock] at e
    · obtain rfl : g = k := by simpa [Value.ownBlock] using e
      rw [hgb] at ho; cases ho; cases hc
  · exact h3.grown hg (Nat.le_trans hw h4) (fun k hk => Nat.le_trans hw (hr k hk).1)

set_option maxRecDepth 100000 in
set_option maxHeartbeats 4000000 in
theorem fold_some (b off n cap : Nat) (X : Nat → Ent) (w : World) (hr : ERow w (some ⟨b, off, none⟩) n X) (hn : n ≤ 1048576) (hcap : n ≤ cap) (hz : ESize n X) (hG : GoodL X n) (hO : OneK X n) (hN : ¬ NoF' X n) (y : Ent) (hy : ∀ m, m = mN X n → jf (fun i => X ((nd X (bL m m)).getD i 0)) (nd X (bL m m)).length = y) :
    Calls Tryz.prog 31 #[.slice (some ⟨b, off, none⟩) n cap] w fun e w' => FeA y true true w e w' := by
  obtain ⟨i0, hi, hz0, hz1, hz2⟩ := info_parts Tryz.infoAgg
  have hB := below_new w (.cells #[.int .i64 0, .int .i64 0, .int .i64 0, .int .i64 0, .slice none 0 0, .bool false] 46)
  have h0 : ¬ n = 0 := fun h => hN (.inl h)
  have hk2 : ¬ (X 0).kind = 2 := fun h => hN (.inr h)
  have hnd : ((n : Int) == 0) = false := by simp; omega
  have hpi : (0 : Int) < (n : Int) := by omega
  have h0n : 0 < n := by omega
  have hkd : ((X 0).kind == 2) = false := by simp [hk2]
  obtain ⟨b', off', e, hblt, hc⟩ := hr.lies.resolve_left h0
  injection e with e
  injection e with e1 e2 _
  subst e1 e2
  obtain ⟨d0, e0, ea0, _⟩ := hc 0 h0n
  have c1 := goodEntries_impl (some ⟨b, off, none⟩) n cap X
  have c2 := haveOneKey_any (some ⟨b, off, none⟩) n cap X
  have c3 := neededOf_any (some ⟨b, off, none⟩) n cap X
  refine (callsIn_wide (n := 4)).1 ?_
  refine callsIn_of_wp_marks Tryz.func31 rfl trivial ?_ rfl
  simp only [Tryz.ntmps31, List.size_toArray, List.length_cons, List.length_nil, Nat.reduceAdd, Nat.reduceSub, Array.replicate_succ, Array.replicate_zero, List.push_toArray, List.append_toArray, List.nil_append, List.cons_append]
  gi_wp2_with (first | (refine ⟨trivial, ?_⟩; gi_at_call 9; refine (callsIn_wide.2 (c1 _ (hr.keep hB) hn hz)).mono ?_; rintro e w1 ⟨b1, rfl, h1, q1⟩; obtain rfl : b1 = true := h1.2 hG; have cw1 := q1; have bw1 := hB.trans (q1.mono hB.size); clear h1) | (refine ⟨trivial, ?_⟩; gi_at_call 53; refine (callsIn_wide.2 (c2 _ (hr.keep bw1) hn)).mono ?_; rintro e w2 ⟨b2, rfl, h2, q2⟩; obtain rfl : b2 = true := h2.2 hO; have bw2 := bw1.trans (q2.mono bw1.size); have cw2 := cw1.trans (q2.mono cw1.size); have q0 := (ea0.keep bw2).c2; rw [Nat.zero_mul, Nat.add_zero] at q0; clear h2) | (refine ⟨trivial, ?_⟩; gi_at_call 55; have bw2n := bw2.alloc bw2.size (.cells #[.slice none 0 0] 80); refine (callsIn_wide.2 (c3 _ (hr.keep bw2n) hn hcap)).mono ?_; rintro e w3 ⟨rfl, q3⟩; have bw3 := bw2n.trans (q3.mono bw2n.size); have cw3 := (cw2.alloc cw2.size (.cells #[.slice none 0 0] 80)).trans (q3.mono (cw2.alloc cw2.size (.cells #[.slice none 0 0] 80)).size)) | (refine ⟨trivial, ?_⟩; gi_at_call 54; refine (callsIn_wide.2 (backward_any _ _ _ _)).mono ?_; rintro e w4 ⟨rfl, hw4⟩))
  have hmn : mN X n ≤ n ∧ 0 < mN X n := by
    have := en_le (X := X) (n := n) (q := 0) (Nat.zero_le _)
    unfold mN
    split <;> omega
  have hya := hy _ rfl
  have R0 := AAt.new w 0 0 0 0 (.slice none 0 0) false 46
  have F0 : ∀ j, (w.alloc (.cells #[.int .i64 0, .int .i64 0, .int .i64 0, .int .i64 0, .slice none 0 0, .bool false] 46)).frozen? ⟨w.heap.size, j, none⟩ = false := fun j => by simp [go_sem]
  have hs0 : w.heap.size < (w.alloc (.cells #[.int .i64 0, .int .i64 0, .int .i64 0, .int .i64 0, .slice none 0 0, .bool false] 46)).heap.size := by simp
  generalize w.alloc (.cells #[.int .i64 0, .int .i64 0, .int .i64 0, .int .i64 0, .slice none 0 0, .bool false] 46) = w0 at *
  generalize mN X n = m at *
  have hw4' := hw4.symm
  clear hw4
  rw [hw4']
  obtain ⟨V, hV, hone'⟩ := ev_all hr
  have s2 := bw2.size
  have s02 := cw2.size
  have sn : w2.heap.size + 1 ≤ w3.heap.size := by have := q3.size; simpa using this
  have hB4 : Below w3.heap.size w3 w4 := by rw [← hw4']; exact below_new _ _
  have bw4 := bw3.trans (hB4.mono bw3.size)
  have cw4 := cw3.trans (hB4.mono cw3.size)
  have l4 : w3.heap.size < w4.heap.size := by rw [← hw4']; simp
  have hBs : w4.cell? ⟨w3.heap.size, 0, none⟩ = some (.slice (some ⟨b, off, none⟩) m cap) := by rw [← hw4']; simp [go_sem]
  have bO : Boxed w4 w2.heap.size 80 (.slice none 0 0) := by
    have h1 := Boxed.new w2 80 (.slice none 0 0)
    have h2 := q3.block w2.heap.size (by simp)
    have h3 := hB4.block w2.heap.size (by omega)
    exact h3.trans (h2.trans h1)
  have hI : ECs w4 b off m X V := fun i hi j hj => hV.cell w4 bw4 i (by omega) j hj
  have hone : ∀ i, i < m → ∃ lo a c, V i = .slice lo a c := fun i _ => hone' i
  have hst := backward_stops 3 (by omega) w3.heap.size m cap b off X V hone (by omega) w4 (by omega) (by omega) hBs hI
  clear hw4' hBs hI c1 c2 c3 q0 hB4 q3
  refine wpIn_rangeFunc_ownH rfl (by omega) (gf := 73) (lb := #[.pointer (some ⟨w3.heap.size, 0, none⟩)]) rfl trivial (enters_of Tryz.func73 (by kernel_rfl) rfl)
    hst KpX.trans (kpX_b (by omega) (by omega)) (Below.refl _ _) (fun _ => rfl)
    (fun pre W => FI X V w0 w2 w4 pre W)
    (fun _ _ _ => False)
    (fi_own X V w0 w2 w4 (by omega))
    (fun _ _ _ _ _ hs _ _ => hs)
    ⟨_, bO, World.ownsRow_nil _ _ _ _, cw4, by omega⟩
    (fun x a' W => ∃ B7, w4.heap.size ≤ B7 ∧ BE W B7 (X x) (V x) ∧ a' = { tmps := #[.slice (some ⟨b, off, none⟩) n cap, undef, .pointer (some ⟨w.heap.size, 0, none⟩), .bool false, .bool false, .pointer (some ⟨w2.heap.size, 0, none⟩), undef, .pointer (some ⟨B7, 0, none⟩), .slice (some ⟨b, off, none⟩) n cap, .bool true, .bool false, .bool false, .slice (some ⟨b, off, none⟩) n cap, .bool true, .bool false, .bool false, undef, .slice (some ⟨b, off, none⟩) n cap, .int .i64 n, .bool false, .bool false, .slice (some ⟨b, off, none⟩) n cap, .pointer (some ⟨b, off, none⟩), .pointer (some ⟨b, off + 2, none⟩), .int .i64 (X 0).kind, .bool false, .bool false, undef, .slice (some ⟨b, off, none⟩) n cap, .slice (some ⟨b, off, none⟩) m cap, .func (.func 73) #[] #[.pointer (some ⟨w3.heap.size, 0, none⟩)], .int .i64 (x : Nat), eV X V x, undef, undef, undef, undef, undef, undef, undef, undef, undef, undef], defers := [] })
    (fun x a' => fun _ A B row ⟨B7, h1, h2, h3⟩ hg hr => ⟨B7, h1, (hg.block _ (Array.getElem?_eq_some_iff.1 h2).1 (fun e => by obtain ⟨_, o, ho, hc⟩ := hr _ e.symm; rw [show A.heap[B7]? = _ from h2] at ho; cases ho; cases hc)).trans h2, h3⟩) ?assign ?body ?done ?stop
  case assign =>
    intro l pre x W K hI hK
    obtain ⟨lo, va, vc, hVx⟩ := hone' x
    obtain ⟨v, hv, hrow, hB', h4⟩ := hI
    have hbn := below_new W (.cells #[.string (X x).key, .int .i64 (X x).seq, .int .i64 (X x).kind, .int .i64 (X x).c, .int .i64 (X x).s, .int .i64 (X x).lo, .int .i64 (X x).hi, .slice lo va vc, .bool (X x).fu] 48)
    have HK := hK _ _ ((KeepsOthers.alloc W (.cells #[.string (X x).key, .int .i64 (X x).seq, .int .i64 (X x).kind, .int .i64 (X x).c, .int .i64 (X x).s, .int .i64 (X x).lo, .int .i64 (X x).hi, .slice lo va vc, .bool (X x).fu] 48)).from _) (KpX.of_below hbn (by omega) (by omega)) ⟨v, hv.alloc _, ownsRow_keep hrow hbn, hB'.trans (hbn.mono (by omega)), by simp; omega⟩ ⟨W.heap.size, by omega, by unfold BE; rw [hVx]; exact World.alloc_heap_new W _, rfl⟩
    simp only [eV, hVx] at HK ⊢
    clear hK
    gi_wp2
    exact HK
  case body =>
    rintro l pre x a' W hl hloop ⟨v, hv, hrow, hB', h4⟩ ⟨B7, hB7, hbe, rfl⟩ hlt
    obtain ⟨lo, va, vc, hVx⟩ := hone' x
    unfold BE at hbe
    rw [hVx] at hbe
    have k2 : W.cell? ⟨B7, 2, none⟩ = some (.int .i64 (X x).kind) := by simp [World.cell?, hbe]
    have k3 : W.cell? ⟨B7, 3, none⟩ = some (.int .i64 (X x).c) := by simp [World.cell?, hbe]
    have k4 : W.cell? ⟨B7, 4, none⟩ = some (.int .i64 (X x).s) := by simp [World.cell?, hbe]
    have k5 : W.cell? ⟨B7, 5, none⟩ = some (.int .i64 (X x).lo) := by simp [World.cell?, hbe]
    have k6 : W.cell? ⟨B7, 6, none⟩ = some (.int .i64 (X x).hi) := by simp [World.cell?, hbe]
    have k7 : W.cell? ⟨B7, 7, none⟩ = some (.slice lo va vc) := by simp [World.cell?, hbe]
    have k8 : W.cell? ⟨B7, 8, none⟩ = some (.bool (X x).fu) := by simp [World.cell?, hbe]
    have hvc := hv.cell
    have hln := nd_len X pre
    by_cases hk : (X x).kind = 2
    · have hkb : ((X x).kind != 2) = false := by simp [hk]
      have HR : Hid (FI X V w0 w2 w4 (pre ++ [x]) W) := ⟨v, hv, by rw [nd_no hk]; exact hrow, hB', h4⟩
      rw [hk] at k2
      clear hk hrow hbe hv
      gi_wp2
      exact ⟨KeepsFrom.refl _ _, KpX.refl _ _ _, HR.out⟩
    · have hkb : ((X x).kind != 2) = true := by simp [hk]
      obtain ⟨vo, vcap, rfl⟩ := ownsRow_form hrow
      have ltv := hrow.lt
      have hvl := hv.lt
      have HN : Hid (nd X (pre ++ [x]) = nd X pre ++ [x]) := nd_yes hk
      clear hbe hk
      gi_wp2_with (gi_at_builtin; refine wpListIn_append_own _ rfl _ _ 80 rfl w4.heap.size 46 i0 _ 6 64 Tryz.underlying80 hi hz0 hz1 hz2 rfl (by decide) _ _ _ rfl (hrow.alloc _) ⟨W.heap.size, 0, none⟩ 1 1 (acells (X x) (.slice lo va vc)) rfl rfl (six_new W (X x) _ 46) (fun u hu => by simp only [acells, List.mem_cons, List.not_mem_nil, or_false] at hu; rcases hu with rfl | rfl | rfl | rfl | rfl | rfl <;> rfl) (by unfold maxLen; omega) (by omega) (by simp; omega) ?_; intro v' w1 hown' hgrow _; have hv1 := (hv.alloc (.cells #[.int .i64 (X x).c, .int .i64 (X x).s, .int .i64 (X x).lo, .int .i64 (X x).hi, .slice lo va vc, .bool (X x).fu] 46)).kept hgrow (fun e => by have := (ltv _ e.symm).1; omega); have hc1 := hv1.cell; have hf1 := hv1.frozen; obtain ⟨vo', vc', rfl⟩ := ownsRow_form hown')
      have HX : Below w4.heap.size W w1 := ((Below.refl _ W).alloc h4 (.cells #[.int .i64 (X x).c, .int .i64 (X x).s, .int .i64 (X x).lo, .int .i64 (X x).hi, .slice lo va vc, .bool (X x).fu] 46)).grown hgrow (by simp; omega) (fun q hq => (ltv q hq).1)
      have hOt := Others.setCell w1 w2.heap.size 0 (.slice vo' ((nd X pre).length + 1) vc')
      have hgrow' : (W.alloc (.cells #[.int .i64 (X x).c, .int .i64 (X x).s, .int .i64 (X x).lo, .int .i64 (X x).hi, .slice lo va vc, .bool (X x).fu] 46)).grownBy w1 (Value.slice vo (nd X pre).length vcap).ownBlock := hgrow
      have KO : KeepsOthers W (w1.setCell ⟨w2.heap.size, 0, none⟩ (.slice vo' ((nd X pre).length + 1) vc')) := by
        refine ((KeepsOthers.alloc W (.cells #[.int .i64 (X x).c, .int .i64 (X x).s, .int .i64 (X x).lo, .int .i64 (X x).hi, .slice lo va vc, .bool (X x).fu] 46)).trans (KeepsOthers.of_grownBy hgrow' fun j o ej hj => ?_)).trans (KeepsOthers.setCell _ _ _)
        rcases (hrow.alloc (.cells #[.int .i64 (X x).c, .int .i64 (X x).s, .int .i64 (X x).lo, .int .i64 (X x).hi, .slice lo va vc, .bool (X x).fu] 46)).2 with ⟨e0, _⟩ | ⟨g, cap, cur, e0, _, hgb, _⟩
        · rw [e0] at ej; simp [Value.ownBlock] at ej
        · rw [e0] at ej
          obtain rfl : g = j := by simpa [Value.ownBlock] using ej
          rw [hgb] at hj; cases hj; rfl
      refine ⟨KO.from _, ⟨by rw [World.size_setCell]; exact HX.size, (hOt.block w3.heap.size (by omega)).trans (HX.block _ (by omega)), (hOt.block b (by omega)).trans (HX.block _ (by omega))⟩, ?_⟩
      refine ⟨_, hv1.set _, ?_, (hB'.trans (HX.mono (by omega))).trans (hOt.below (by omega)), by rw [World.size_setCell]; exact Nat.le_trans h4 HX.size⟩
      rw [HN.out, List.length_append, List.length_singleton, List.flatMap_append, List.flatMap_cons, List.flatMap_nil, List.append_nil, hVx]
      exact ownsRow_kept hown' (others_grown hOt) (fun k hk e => by injection hk with hk; have := (hown'.lt k e).1; omega)
  case done =>
    rintro D ys W hD rfl ⟨v, hv, hrow, hB', h4⟩ hK
    have bwW := hB.trans (hB'.mono hB.size)
    have hin : ∀ i, i < (nd X (bL m m)).length → (nd X (bL m m)).getD i 0 < n := fun i hi => by
      have := bL_mem (nd_get hi).1 (Nat.le_refl _)
      omega
    obtain ⟨vo, vcap, rfl, hAR⟩ := arow_of hrow (fun i hi => by
      obtain ⟨lo, lc, e, hI⟩ := hV.row _ (hin i hi)
      exact ⟨lo, lc, e, hI.keep bwW⟩)
    have hvc := hv.cell
    have hGA : ∀ i, i < (nd X (bL m m)).length → GA (X ((nd X (bL m m)).getD i 0)) := fun i hi => (hG.1 _ (hin i hi)).ga (nd_get hi).2
    have hy8 : y.n = 8 := by
      rw [← hya]
      have := congrArg Ent.n (jf_ai hGA).can
      exact this.symm
    have HY8 : Hid (y.n = 8) := hy8
    clear hy8
    have hlm : (nd X (bL m m)).length ≤ 1048576 := by have := nd_len X (bL m m); rw [bL_len] at this; omega
    have hJ := joinAll_any vo _ vcap _ W hAR hGA hlm
    rw [hya] at hJ
    have RW := R0.keep hB'
    clear hrow hAR hGA
    gi_wp2_with (refine ⟨trivial, ?_⟩; gi_at_call 56; refine (callsIn_wide.2 hJ).mono ?_; rintro e w6 ⟨g6, rfl, hg6, o6, hb6⟩; have R6 := RW.keep hb6; have Z6 : ∀ j, w6.frozen? ⟨w.heap.size, j, none⟩ = false := fun j => (hb6.frozen (p := ⟨w.heap.size, j, none⟩) RW.lt).trans ((hB'.frozen (p := ⟨w.heap.size, j, none⟩) hs0).trans (F0 j)); obtain ⟨_, r0, r1, r2, r3, r4, r5⟩ := R6)
    have hDl : D < W.heap.size := (Array.getElem?_eq_some_iff.1 hK).1
    have OB6 : OB w6 w6 w.heap.size 0 0 0 0 (.slice none 0 0) false := ⟨⟨by have := RW.lt; have := hb6.size; omega, r0, r1, r2, r3, r4, r5⟩, Z6, Below.refl _ _⟩
    have OB7 := (((((OB6.set0 y.c).set1 y.s).set2 y.lo).set3 y.hi).set4 (.slice (some ⟨g6, 0, none⟩) 8 8)).set5 y.fu
    have ot : Others w.heap.size w6 ((((((w6.setCell ⟨w.heap.size, 0, none⟩ (.int .i64 y.c)).setCell ⟨w.heap.size, 1, none⟩ (.int .i64 y.s)).setCell ⟨w.heap.size, 2, none⟩ (.int .i64 y.lo)).setCell ⟨w.heap.size, 3, none⟩ (.int .i64 y.hi)).setCell ⟨w.heap.size, 4, none⟩ (.slice (some ⟨g6, 0, none⟩) 8 8)).setCell ⟨w.heap.size, 5, none⟩ (.bool y.fu)) := (((((Others.setCell _ _ _ _).trans (Others.setCell _ _ _ _)).trans (Others.setCell _ _ _ _)).trans (Others.setCell _ _ _ _)).trans (Others.setCell _ _ _ _)).trans (Others.setCell _ _ _ _)
    have hK6 : (((((((w6.setCell ⟨w.heap.size, 0, none⟩ (.int .i64 y.c)).setCell ⟨w.heap.size, 1, none⟩ (.int .i64 y.s)).setCell ⟨w.heap.size, 2, none⟩ (.int .i64 y.lo)).setCell ⟨w.heap.size, 3, none⟩ (.int .i64 y.hi)).setCell ⟨w.heap.size, 4, none⟩ (.slice (some ⟨g6, 0, none⟩) 8 8)).setCell ⟨w.heap.size, 5, none⟩ (.bool y.fu))).heap[D]? = some (.deferred (some [])) := (ot.block D (by omega)).trans ((hb6.block D hDl).trans hK)
    refine ⟨by simp, .inl ⟨_, _, rfl, run_takeDeferred hK6, ?_⟩⟩
    have hbP : Below w4.heap.size ((((((w6.setCell ⟨w.heap.size, 0, none⟩ (.int .i64 y.c)).setCell ⟨w.heap.size, 1, none⟩ (.int .i64 y.s)).setCell ⟨w.heap.size, 2, none⟩ (.int .i64 y.lo)).setCell ⟨w.heap.size, 3, none⟩ (.int .i64 y.hi)).setCell ⟨w.heap.size, 4, none⟩ (.slice (some ⟨g6, 0, none⟩) 8 8)).setCell ⟨w.heap.size, 5, none⟩ (.bool y.fu)) (World.putObj ((((((w6.setCell ⟨w.heap.size, 0, none⟩ (.int .i64 y.c)).setCell ⟨w.heap.size, 1, none⟩ (.int .i64 y.s)).setCell ⟨w.heap.size, 2, none⟩ (.int .i64 y.lo)).setCell ⟨w.heap.size, 3, none⟩ (.int .i64 y.hi)).setCell ⟨w.heap.size, 4, none⟩ (.slice (some ⟨g6, 0, none⟩) 8 8)).setCell ⟨w.heap.size, 5, none⟩ (.bool y.fu)) D (.deferred none)) := belowK_b (w := w4) (Nat.le_refl _) _ D _ _ hD hK6 rfl rfl
    have o7 := iown_others o6 ot (by omega)
    have o8 : IOwn (World.putObj ((((((w6.setCell ⟨w.heap.size, 0, none⟩ (.int .i64 y.c)).setCell ⟨w.heap.size, 1, none⟩ (.int .i64 y.s)).setCell ⟨w.heap.size, 2, none⟩ (.int .i64 y.lo)).setCell ⟨w.heap.size, 3, none⟩ (.int .i64 y.hi)).setCell ⟨w.heap.size, 4, none⟩ (.slice (some ⟨g6, 0, none⟩) 8 8)).setCell ⟨w.heap.size, 5, none⟩ (.bool y.fu)) D (.deferred none)) g6 0 8 y.f := by
      have hg := grownBy_putObj' ((((((w6.setCell ⟨w.heap.size, 0, none⟩ (.int .i64 y.c)).setCell ⟨w.heap.size, 1, none⟩ (.int .i64 y.s)).setCell ⟨w.heap.size, 2, none⟩ (.int .i64 y.lo)).setCell ⟨w.heap.size, 3, none⟩ (.int .i64 y.hi)).setCell ⟨w.heap.size, 4, none⟩ (.slice (some ⟨g6, 0, none⟩) 8 8)).setCell ⟨w.heap.size, 5, none⟩ (.bool y.fu)) D (.deferred none)
      exact o7.grown hg (by omega)
    have A8 : AAt (World.putObj ((((((w6.setCell ⟨w.heap.size, 0, none⟩ (.int .i64 y.c)).setCell ⟨w.heap.size, 1, none⟩ (.int .i64 y.s)).setCell ⟨w.heap.size, 2, none⟩ (.int .i64 y.lo)).setCell ⟨w.heap.size, 3, none⟩ (.int .i64 y.hi)).setCell ⟨w.heap.size, 4, none⟩ (.slice (some ⟨g6, 0, none⟩) 8 8)).setCell ⟨w.heap.size, 5, none⟩ (.bool y.fu)) D (.deferred none)) w.heap.size y.c y.s y.lo y.hi (.slice (some ⟨g6, 0, none⟩) 8 8) y.fu := by
      have k : ∀ j, (World.putObj ((((((w6.setCell ⟨w.heap.size, 0, none⟩ (.int .i64 y.c)).setCell ⟨w.heap.size, 1, none⟩ (.int .i64 y.s)).setCell ⟨w.heap.size, 2, none⟩ (.int .i64 y.lo)).setCell ⟨w.heap.size, 3, none⟩ (.int .i64 y.hi)).setCell ⟨w.heap.size, 4, none⟩ (.slice (some ⟨g6, 0, none⟩) 8 8)).setCell ⟨w.heap.size, 5, none⟩ (.bool y.fu)) D (.deferred none)).cell? ⟨w.heap.size, j, none⟩ = (((((((w6.setCell ⟨w.heap.size, 0, none⟩ (.int .i64 y.c)).setCell ⟨w.heap.size, 1, none⟩ (.int .i64 y.s)).setCell ⟨w.heap.size, 2, none⟩ (.int .i64 y.lo)).setCell ⟨w.heap.size, 3, none⟩ (.int .i64 y.hi)).setCell ⟨w.heap.size, 4, none⟩ (.slice (some ⟨g6, 0, none⟩) 8 8)).setCell ⟨w.heap.size, 5, none⟩ (.bool y.fu))).cell? ⟨w.heap.size, j, none⟩ := fun j => hbP.cell (p := ⟨w.heap.size, j, none⟩) (by show w.heap.size < _; omega)
      exact ⟨Nat.lt_of_lt_of_le OB7.A.lt hbP.size, (k _).trans OB7.A.c0, (k _).trans OB7.A.c1, (k _).trans OB7.A.c2, (k _).trans OB7.A.c3, (k _).trans OB7.A.c4, (k _).trans OB7.A.c5⟩
    have bwF : Below w.heap.size w (World.putObj ((((((w6.setCell ⟨w.heap.size, 0, none⟩ (.int .i64 y.c)).setCell ⟨w.heap.size, 1, none⟩ (.int .i64 y.s)).setCell ⟨w.heap.size, 2, none⟩ (.int .i64 y.lo)).setCell ⟨w.heap.size, 3, none⟩ (.int .i64 y.hi)).setCell ⟨w.heap.size, 4, none⟩ (.slice (some ⟨g6, 0, none⟩) 8 8)).setCell ⟨w.heap.size, 5, none⟩ (.bool y.fu)) D (.deferred none)) := ((bwW.trans (hb6.mono bwW.size)).trans (ot.below (Nat.le_refl _))).trans (hbP.mono (by omega))
    generalize World.putObj ((((((w6.setCell ⟨w.heap.size, 0, none⟩ (.int .i64 y.c)).setCell ⟨w.heap.size, 1, none⟩ (.int .i64 y.s)).setCell ⟨w.heap.size, 2, none⟩ (.int .i64 y.lo)).setCell ⟨w.heap.size, 3, none⟩ (.int .i64 y.hi)).setCell ⟨w.heap.size, 4, none⟩ (.slice (some ⟨g6, 0, none⟩) 8 8)).setCell ⟨w.heap.size, 5, none⟩ (.bool y.fu)) D (.deferred none) = wF at *
    obtain ⟨_, t0, t1, t2, t3, t4, t5⟩ := A8
    refine ⟨.tuple #[.agg #[.int .i64 y.c, .int .i64 y.s, .int .i64 y.lo, .int .i64 y.hi, .slice (some ⟨g6, 0, none⟩) 8 8, .bool y.fu], .bool true, .bool true], ?_, some ⟨g6, 0, none⟩, 8, by rw [HY8.out], .inr ⟨g6, rfl, by have := bwW.size; omega, by rw [HY8.out]; exact o8⟩, bwF⟩
    simp [results, Tryz.results31, go_sem, t0, t1, t2, t3, t4, t5]
  case stop =>
    rintro D c pre W _ _ h _
    exact h.elim
end Go.Proofs.YtmeckcaekkangaaGreat

namespace Go.Proofs.YtmeckcaekkangaaGreat
set_option maxRecDepth 100000
open Go.RowKit Go.Shelf
set_option linter.unusedSimpArgs false
set_option linter.unusedVariables false
attribute [local go_sem] Oper.semAt_some

theorem jf_congr {Y Z : Nat → Ent} : ∀ {k : Nat}, (∀ i, i < k → Y i = Z i) → jf Y k = jf Z k
  | 0, _ => rfl
  | k + 1, h => by
    unfold jf
    rw [jf_congr (k := k) (fun i hi => h i (by omega)), h k (by omega)]
theorem jf_nd (X : Nat → Ent) (m : Nat) : ∀ k, jf (fun i => X ((nd X (bL m k)).getD i 0)) (nd X (bL m k)).length = fdn X m k
  | 0 => rfl
  | k + 1 => by
    have ih := jf_nd X m k
    rw [bL]
    by_cases h : (X (m - 1 - k)).kind = 2
    · rw [nd_no h, ih, fdn, if_pos h]
    · rw [nd_yes h, List.length_append, List.length_singleton, fdn, if_neg h, ← ih]
      show jn (jf _ _) _ = _
      congr 1
      · exact jf_congr fun i hi => by
          rw [List.getD_eq_getElem?_getD, List.getD_eq_getElem?_getD, List.getElem?_append_left hi]
      · show X ((nd X (bL m k) ++ [m - 1 - k]).getD (nd X (bL m k)).length 0) = _
        rw [List.getD_eq_getElem?_getD, List.getElem?_append_right (Nat.le_refl _)]
        simp
/-- What FoldEntries leaves. -/
def FeO (X : Nat → Ent) (n : Nat) (w : World) (e : Ending) (w' : World) : Prop :=
  (¬ (GoodL X n ∧ OneK X n) → FeA dE false false w e w') ∧ (GoodL X n ∧ OneK X n → NoF X n → FeA dE false true w e w') ∧ (GoodL X n ∧ OneK X n → ¬ NoF X n → FeA (fdA X n) true true w e w')
theorem fea_no {h g : Bool} {w w' : World} (hb : Below w.heap.size w w') : FeA dE h g w (.returned (.tuple #[.agg #[.int .i64 0, .int .i64 0, .int .i64 0, .int .i64 0, .slice none 0 0, .bool false], .bool h, .bool g])) w' := ⟨none, 0, rfl, .inl rfl, hb⟩

set_option maxRecDepth 100000 in
set_option maxHeartbeats 4000000 in
theorem foldEntries_impl (b off n cap : Nat) (X : Nat → Ent) (w : World) (hr : ERow w (some ⟨b, off, none⟩) n X) (hn : n ≤ 1048576) (hcap : n ≤ cap) (hz : ESize n X) :
    Calls Tryz.prog 31 #[.slice (some ⟨b, off, none⟩) n cap] w fun e w' => FeO X n w e w' := by
  have hB := below_new w (.cells #[.int .i64 0, .int .i64 0, .int .i64 0, .int .i64 0, .slice none 0 0, .bool false] 46)
  have R0 := AAt.new w 0 0 0 0 (.slice none 0 0) false 46
  have F0 : ∀ j, (w.alloc (.cells #[.int .i64 0, .int .i64 0, .int .i64 0, .int .i64 0, .slice none 0 0, .bool false] 46)).frozen? ⟨w.heap.size, j, none⟩ = false := fun j => by simp [go_sem]
  by_cases hG : GoodL X n
  rotate_left
  · have H : Hid (∀ W, Below w.heap.size w W → FeO X n w (.returned (.tuple #[.agg #[.int .i64 0, .int .i64 0, .int .i64 0, .int .i64 0, .slice none 0 0, .bool false], .bool false, .bool false])) W) := fun W hb => ⟨fun _ => fea_no hb, fun h => absurd h.1 hG, fun h => absurd h.1 hG⟩
    refine (callsIn_wide (n := 4)).1 ?_
    refine callsIn_of_wp_marks Tryz.func31 rfl trivial ?_ rfl
    simp only [Tryz.ntmps31, List.size_toArray, List.length_cons, List.length_nil, Nat.reduceAdd, Nat.reduceSub, Array.replicate_succ, Array.replicate_zero, List.push_toArray, List.append_toArray, List.nil_append, List.cons_append]
    gi_wp2_with (refine ⟨trivial, ?_⟩; gi_at_call 9; refine (callsIn_wide.2 (goodEntries_impl (some ⟨b, off, none⟩) n cap X _ (hr.keep hB) hn hz)).mono ?_; rintro e w1 ⟨b1, rfl, h1, q1⟩; obtain rfl : b1 = false := (by cases b1; rfl; exact absurd (h1.1 rfl) hG); have bw1 := hB.trans (q1.mono hB.size); have R1 := R0.keep q1; have Z1 : ∀ j, w1.frozen? ⟨w.heap.size, j, none⟩ = false := (fun j => (q1.frozen (p := ⟨w.heap.size, j, none⟩) R0.lt).trans (F0 j)); obtain ⟨_, r0, r1, r2, r3, r4, r5⟩ := (id R1); clear h1)
    refine ⟨trivial, ?_⟩
    gi_wp2
    refine ⟨.tuple #[.agg #[.int .i64 0, .int .i64 0, .int .i64 0, .int .i64 0, .slice none 0 0, .bool false], .bool false, .bool false], ?_, H.out _ ?_⟩
    · simp [results, Tryz.results31, go_sem, r0, r1, r2, r3, r4, r5]
    · repeat' refine Below.setCell ?_ (by first | (simp; done) | (simp; omega)) _
      exact bw1
  by_cases hO : OneK X n
  rotate_left
  · have H : Hid (∀ W, Below w.heap.size w W → FeO X n w (.returned (.tuple #[.agg #[.int .i64 0, .int .i64 0, .int .i64 0, .int .i64 0, .slice none 0 0, .bool false], .bool false, .bool false])) W) := fun W hb => ⟨fun _ => fea_no hb, fun h => absurd h.2 hO, fun h => absurd h.2 hO⟩
    refine (callsIn_wide (n := 4)).1 ?_
    refine callsIn_of_wp_marks Tryz.func31 rfl trivial ?_ rfl
    simp only [Tryz.ntmps31, List.size_toArray, List.length_cons, List.length_nil, Nat.reduceAdd, Nat.reduceSub, Array.replicate_succ, Array.replicate_zero, List.push_toArray, List.append_toArray, List.nil_append, List.cons_append]
    gi_wp2_with (first | (refine ⟨trivial, ?_⟩; gi_at_call 9; refine (callsIn_wide.2 (goodEntries_impl (some ⟨b, off, none⟩) n cap X _ (hr.keep hB) hn hz)).mono ?_; rintro e w1 ⟨b1, rfl, h1, q1⟩; obtain rfl : b1 = true := (h1.2 hG); have bw1 := hB.trans (q1.mono hB.size); have R1 := R0.keep q1; have Z1 : ∀ j, w1.frozen? ⟨w.heap.size, j, none⟩ = false := (fun j => (q1.frozen (p := ⟨w.heap.size, j, none⟩) R0.lt).trans (F0 j)); obtain ⟨_, r0, r1, r2, r3, r4, r5⟩ := (id R1); clear h1) | (refine ⟨trivial, ?_⟩; gi_at_call 53; refine (callsIn_wide.2 (haveOneKey_any (some ⟨b, off, none⟩) n cap X _ (hr.keep bw1) hn)).mono ?_; rintro e w2 ⟨b2, rfl, h2, q2⟩; obtain rfl : b2 = false := (by cases b2; rfl; exact absurd (h2.1 rfl) hO); have bw2 := bw1.trans (q2.mono bw1.size); have R2 := R1.keep q2; have Z2 : ∀ j, w2.frozen? ⟨w.heap.size, j, none⟩ = false := (fun j => (q2.frozen (p := ⟨w.heap.size, j, none⟩) R1.lt).trans (Z1 j)); clear r0 r1 r2 r3 r4 r5; obtain ⟨_, r0, r1, r2, r3, r4, r5⟩ := (id R2); clear h2))
    refine ⟨.tuple #[.agg #[.int .i64 0, .int .i64 0, .int .i64 0, .int .i64 0, .slice none 0 0, .bool false], .bool false, .bool false], ?_, H.out _ ?_⟩
    · simp [results, Tryz.results31, go_sem, r0, r1, r2, r3, r4, r5]
    · repeat' refine Below.setCell ?_ (by first | (simp; done) | (simp; omega)) _
      exact bw2
  by_cases hN : NoF X n
  · have H : Hid (∀ W, Below w.heap.size w W → FeO X n w (.returned (.tuple #[.agg #[.int .i64 0, .int .i64 0, .int .i64 0, .int .i64 0, .slice none 0 0, .bool false], .bool false, .bool true])) W) := fun W hb => ⟨fun h => absurd ⟨hG, hO⟩ h, fun _ _ => fea_no hb, fun _ h => absurd hN h⟩
    by_cases h0 : n = 0
    · subst h0
      refine (callsIn_wide (n := 4)).1 ?_
      refine callsIn_of_wp_marks Tryz.func31 rfl trivial ?_ rfl
      simp only [Tryz.ntmps31, List.size_toArray, List.length_cons, List.length_nil, Nat.reduceAdd, Nat.reduceSub, Array.replicate_succ, Array.replicate_zero, List.push_toArray, List.append_toArray, List.nil_append, List.cons_append]
      gi_wp2_with (first | (refine ⟨trivial, ?_⟩; gi_at_call 9; refine (callsIn_wide.2 (goodEntries_impl (some ⟨b, off, none⟩) 0 cap X _ (hr.keep hB) hn hz)).mono ?_; rintro e w1 ⟨b1, rfl, h1, q1⟩; obtain rfl : b1 = true := (h1.2 hG); have bw1 := hB.trans (q1.mono hB.size); have R1 := R0.keep q1; have Z1 : ∀ j, w1.frozen? ⟨w.heap.size, j, none⟩ = false := (fun j => (q1.frozen (p := ⟨w.heap.size, j, none⟩) R0.lt).trans (F0 j)); obtain ⟨_, r0, r1, r2, r3, r4, r5⟩ := (id R1); clear h1) | (refine ⟨trivial, ?_⟩; gi_at_call 53; refine (callsIn_wide.2 (haveOneKey_any (some ⟨b, off, none⟩) 0 cap X _ (hr.keep bw1) hn)).mono ?_; rintro e w2 ⟨b2, rfl, h2, q2⟩; obtain rfl : b2 = true := (h2.2 hO); have bw2 := bw1.trans (q2.mono bw1.size); have R2 := R1.keep q2; have Z2 : ∀ j, w2.frozen? ⟨w.heap.size, j, none⟩ = false := (fun j => (q2.frozen (p := ⟨w.heap.size, j, none⟩) R1.lt).trans (Z1 j)); clear r0 r1 r2 r3 r4 r5; obtain ⟨_, r0, r1, r2, r3, r4, r5⟩ := (id R2); clear h2))
      refine ⟨.tuple #[.agg #[.int .i64 0, .int .i64 0, .int .i64 0, .int .i64 0, .slice none 0 0, .bool false], .bool false, .bool true], ?_, H.out _ ?_⟩
      · simp [results, Tryz.results31, go_sem, r0, r1, r2, r3, r4, r5]
      · repeat' refine Below.setCell ?_ (by first | (simp; done) | (simp; omega)) _
        exact bw2
    · have hk2 : (X 0).kind = 2 := hN.resolve_left h0
      have hnd : ((n : Int) == 0) = false := by simp; omega
      have hpi : (0 : Int) < (n : Int) := by omega
      have h0n : 0 < n := by omega
      have hkd : ((X 0).kind == 2) = true := by simp [hk2]
      obtain ⟨b', off', e, hblt, hc⟩ := hr.lies.resolve_left h0
      injection e with e
      injection e with e1 e2 _
      subst e1 e2
      obtain ⟨d0, e0, ea0, _⟩ := hc 0 h0n
      refine (callsIn_wide (n := 4)).1 ?_
      refine callsIn_of_wp_marks Tryz.func31 rfl trivial ?_ rfl
      simp only [Tryz.ntmps31, List.size_toArray, List.length_cons, List.length_nil, Nat.reduceAdd, Nat.reduceSub, Array.replicate_succ, Array.replicate_zero, List.push_toArray, List.append_toArray, List.nil_append, List.cons_append]
      gi_wp2_with (first | (refine ⟨trivial, ?_⟩; gi_at_call 9; refine (callsIn_wide.2 (goodEntries_impl (some ⟨b, off, none⟩) n cap X _ (hr.keep hB) hn hz)).mono ?_; rintro e w1 ⟨b1, rfl, h1, q1⟩; obtain rfl : b1 = true := (h1.2 hG); have bw1 := hB.trans (q1.mono hB.size); have R1 := R0.keep q1; have Z1 : ∀ j, w1.frozen? ⟨w.heap.size, j, none⟩ = false := (fun j => (q1.frozen (p := ⟨w.heap.size, j, none⟩) R0.lt).trans (F0 j)); obtain ⟨_, r0, r1, r2, r3, r4, r5⟩ := (id R1); clear h1) | (refine ⟨trivial, ?_⟩; gi_at_call 53; refine (callsIn_wide.2 (haveOneKey_any (some ⟨b, off, none⟩) n cap X _ (hr.keep bw1) hn)).mono ?_; rintro e w2 ⟨b2, rfl, h2, q2⟩; obtain rfl : b2 = true := (h2.2 hO); have bw2 := bw1.trans (q2.mono bw1.size); have R2 := R1.keep q2; have Z2 : ∀ j, w2.frozen? ⟨w.heap.size, j, none⟩ = false := (fun j => (q2.frozen (p := ⟨w.heap.size, j, none⟩) R1.lt).trans (Z1 j)); clear r0 r1 r2 r3 r4 r5; obtain ⟨_, r0, r1, r2, r3, r4, r5⟩ := (id R2); have q0 := (ea0.keep bw2).c2; rw [Nat.zero_mul, Nat.add_zero, hk2] at q0; clear h2))
      refine ⟨.tuple #[.agg #[.int .i64 0, .int .i64 0, .int .i64 0, .int .i64 0, .slice none 0 0, .bool false], .bool false, .bool true], ?_, H.out _ ?_⟩
      · simp [results, Tryz.results31, go_sem, r0, r1, r2, r3, r4, r5]
      · repeat' refine Below.setCell ?_ (by first | (simp; done) | (simp; omega)) _
        exact bw2
  · refine (fold_some b off n cap X w hr hn hcap hz hG hO hN (fdA X n) (fun m hm => by subst hm; exact jf_nd X _ _)).mono ?_
    intro e w' h
    exact ⟨fun h' => absurd ⟨hG, hO⟩ h', fun _ h' => absurd h' hN, fun _ _ => h⟩
end Go.Proofs.YtmeckcaekkangaaGreat

namespace Go.Proofs.YtmeckcaekkangaaGreat
set_option maxRecDepth 100000
open Go.RowKit
set_option linter.unusedSimpArgs false
set_option linter.unusedVariables false

theorem bl_trans : ∀ a b c : List UInt8, Op.bytesLess a b = true → Op.bytesLess b c = true → Op.bytesLess a c = true
  | _, [], _, h, _ => by simp [Op.bytesLess] at h
  | _, _ :: _, [], _, h => by simp [Op.bytesLess] at h
  | [], _ :: _, _ :: _, _, _ => by simp [Op.bytesLess]
  | x :: a, y :: b, z :: c, h, g => by
    have ih := bl_trans a b c
    simp only [Op.bytesLess, Bool.or_eq_true, Bool.and_eq_true, decide_eq_true_eq, beq_iff_eq] at h g ⊢
    rcases h with h | ⟨rfl, h⟩ <;> rcases g with g | ⟨rfl, g⟩
    · exact .inl (UInt8.lt_trans h g)
    · exact .inl h
    · exact .inl g
    · exact .inr ⟨rfl, ih h g⟩
/-- All have the first one's key. -/
def AllK (X : Nat → Ent) (n : Nat) : Prop := ∀ i, i < n → (X i).key.toList = (X 0).key.toList
theorem rise_key {X : Nat → Ent} {n : Nat} (h : RiseE X n) (i : Nat) : ∀ d, i + d < n → Op.bytesLess (X i).key.toList (X (i + d)).key.toList = true ∨ (X i).key.toList = (X (i + d)).key.toList
  | 0, _ => .inr rfl
  | d + 1, hd => by
    have h1 := rise_key h i d (by omega)
    have h2 := h (i + d) (by omega)
    rcases h1 with h1 | h1
    · rcases h2 with h2 | ⟨h2, _⟩
      · exact .inl (bl_trans _ _ _ h1 h2)
      · exact .inl (by rw [show i + (d + 1) = i + d + 1 by omega, ← h2]; exact h1)
    · rcases h2 with h2 | ⟨h2, _⟩
      · exact .inl (by rw [h1]; exact h2)
      · exact .inr (h1.trans h2)
theorem allK_iff {X : Nat → Ent} {n : Nat} (h : GoodL X n) : OneK X n ↔ AllK X n := by
  constructor
  · rintro (rfl | h1) i hi
    · omega
    · have a := rise_key h.2.1 0 i (by omega)
      have b := rise_key h.2.1 i (n - 1 - i) (by omega)
      rw [Nat.zero_add] at a
      rw [show i + (n - 1 - i) = n - 1 by omega] at b
      rcases a with a | a
      · rw [← h1] at b
        rcases b with b | b
        · have := bl_trans _ _ _ a b
          rw [bl_self] at this; cases this
        · exact b
      · exact a.symm
  · intro h1
    by_cases h0 : n = 0
    · exact .inl h0
    · exact .inr (h1 (n - 1) (by omega)).symm

end Go.Proofs.YtmeckcaekkangaaGreat

namespace Go.Proofs.YtmeckcaekkangaaGreat
set_option maxRecDepth 100000
open Go.RowKit
set_option linter.unusedSimpArgs false
set_option linter.unusedVariables false

theorem fea_of {X : Nat → Ent} {n : Nat} : ∃ (y : Ent) (h g : Bool), y.n ≤ 8 ∧ (∀ i, -9223372036854775808 ≤ y.f i ∧ y.f i ≤ 9223372036854775807) ∧ ∀ w e w', FeO X n w e w' → FeA y h g w e w' := by
  by_cases h1 : GoodL X n ∧ OneK X n
  · by_cases h2 : NoF X n
    · exact ⟨dE, false, true, by simp [dE], fun i => by simp [dE], fun w e w' h => h.2.1 h1 h2⟩
    · have hm : mN X n ≤ n := by
        have := en_le (X := X) (n := n) (q := 0) (Nat.zero_le _)
        unfold mN
        split <;> omega
      have hAI : AI (fdA X n) := fdn_ai h1.1.1 hm _ (Nat.le_refl _)
      refine ⟨fdA X n, true, true, ?_, fun i => ?_, fun w e w' h => h.2.2 h1 h2⟩
      · have := congrArg Ent.n hAI.can
        rw [← this]
        exact Nat.le_refl 8
      · have := hAI.f i
        omega
  · exact ⟨dE, false, false, by simp [dE], fun i => by simp [dE], fun w e w' h => h.1 h1⟩
theorem irow_blocks {W W' : World} {ao : Option Addr} {n : Nat} {f : Nat → Int} (h : IRow W ao n f) (hs : W.heap.size ≤ W'.heap.size) (hb : ∀ g off p, ao = some ⟨g, off, p⟩ → n ≠ 0 → W'.heap[g]? = W.heap[g]?) : IRow W' ao n f := by
  obtain ⟨h1, h2⟩ := h
  by_cases h0 : n = 0
  · exact ⟨h1, .inl h0⟩
  · obtain ⟨g, off, rfl, hlt, hc⟩ := h2.resolve_left h0
    exact ⟨h1, .inr ⟨g, off, rfl, Nat.lt_of_lt_of_le hlt hs, fun i hi => (World.cell?_of_block (w := W) (a := ⟨g, off + i, none⟩) (hb _ _ _ rfl h0)).trans (hc i hi)⟩⟩
theorem AAt.same {W W' : World} {b : Nat} {c s lo hi : Int} {hv : Value} {fu : Bool} (h : AAt W b c s lo hi hv fu) (hs : W.heap.size ≤ W'.heap.size) (hb : W'.heap[b]? = W.heap[b]?) : AAt W' b c s lo hi hv fu :=
  have k : ∀ j, W'.cell? ⟨b, j, none⟩ = W.cell? ⟨b, j, none⟩ := fun j => World.cell?_of_block (w := W) (a := ⟨b, j, none⟩) hb
  ⟨Nat.lt_of_lt_of_le h.lt hs, (k _).trans h.c0, (k _).trans h.c1, (k _).trans h.c2, (k _).trans h.c3, (k _).trans h.c4, (k _).trans h.c5⟩

/-- What a mark leaves: the list's block alone is written. -/
def MkL (go : Option Addr) (n : Nat) (W w' : World) : Prop := w'.os = W.os ∧ w'.tape = W.tape ∧ w'.output = W.output ∧ W.heap.size ≤ w'.heap.size ∧ ∀ c, c < W.heap.size → (∀ q, go = some ⟨q, 0, none⟩ → n ≠ 0 → c ≠ q) → w'.heap[c]? = W.heap[c]?
end Go.Proofs.YtmeckcaekkangaaGreat

namespace Go.Proofs.YtmeckcaekkangaaGreat
set_option maxRecDepth 100000
open Go.RowKit
set_option linter.unusedSimpArgs false
set_option linter.unusedVariables false

end Go.Proofs.YtmeckcaekkangaaGreat
