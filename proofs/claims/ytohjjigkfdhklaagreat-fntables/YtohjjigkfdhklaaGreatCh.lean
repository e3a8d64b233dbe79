/- The writer of a table: the filter, the index and the end are put. / slices.Chunk: entries four by four. -/
import Derived.Test.YtohjjigkfdhklaaGreatPt7
import Derived.RangeFuncBox
import Derived.RangeFuncLeaves
import Derived.Shelf.Abstract
import Derived.WalkKit
import Derived.OwnWalkIn
import Derived.TacticsInMore
import Derived.LoopNIn
import Derived.LoopIn
import Derived.RangeFuncNested
import Derived.Test.YtohjjigkfdhklaaGreatBytI
namespace Go.Proofs.YtohjjigkfdhklaaGreat
set_option maxRecDepth 100000
open Go.RowKit
set_option linter.unusedSimpArgs false
set_option linter.unusedVariables false

set_option maxHeartbeats 4000000 in
theorem putFilter_any (base : Nat) (y : Int) (fo : Option Addr) (n fc : Nat) (f : Nat → Int) (w : World) (W : Nat) (a : Option Addr) (cp : Nat) (L : List Int) (iv : Value) (K : Nat → ByteArray) (A B : Nat → Int) (J : Nat) (fa ia en : Int)
    (hr : Row w fo n f) (hg : GoodF y n) (hn : n ≤ 1000) (hbs : base ≤ w.heap.size)
    (hT : TS base w W (.slice a L.length cp) L iv K A B J fa ia en) (hL : L.length ≤ 500000) :
    Calls Tryz.prog 53 #[.pointer (some ⟨W, 0, none⟩), .iface 96 (.agg #[.int .i64 y, .slice fo n fc])] w fun e w' =>
      ∃ v', (∃ u, e = .returned u) ∧ TS base w' W v' (L ++ fbL y f n) iv K A B J L.length ia en ∧ Md W w (.slice a L.length cp) iv w' v' iv := by
  obtain ⟨wlt, c0, c1, c2, c3, c4, fz⟩ := hT.at'
  have hcall := fun W' cpX h1 h2 h3 => appendFilter_any base a cpX L y fo n fc f W' h1 h2 hg hn (by omega) h3
  have nb7 := nil_filter y fo n fc
  have mb7 := mth_filter y fo n fc
  obtain ⟨M, HM⟩ : ∃ M, Hid (L ++ fbL y f n = M) := ⟨_, rfl⟩
  go_enter Tryz.func53, Tryz.ntmps53
  go_upto_region 1 with fail
  go_cut [4] from 13 to 24 (fun s4 wx => s4 = .int .i64 (L.length : Nat) ∧ Put1 base W w (.slice a L.length cp) iv fa ia en M wx)
  case first =>
    go_region_with (first | (go_at_call 196; refine (hcall _ _ (hT.own.keep (Below.refl _ _).drew) (hr.keep (Below.refl _ _).drew) hbs).mono ?_; rintro e w1 ⟨v1, rfl, o1, gr1, n1⟩; have W1 := hT.at'.drew.grown gr1 hT.nv; rw [HM.out] at o1; obtain ⟨a1, q1, rfl⟩ := o1.form; have W1' := W1; obtain ⟨_, d0, d1, d2, d3, d4, dz⟩ := W1'))
    all_goals
      go_wp2_with fail
      go_meet
      case rel => exact ⟨rfl, w1, a1, q1, rfl, o1, gr1, n1, W1⟩
  case rest =>
    obtain ⟨rfl, w1, a1, q1, rfl, o1, gr1, n1, W1⟩ := hcut
    have T2 := (hT.keep (Below.refl _ _).drew).put o1 gr1 n1
    have D2 := (((Md.refl W w (.slice a L.length cp) iv).keep (Below.refl _ _).drew).growV gr1 n1).set (j := 0) (.slice a1 M.length q1)
    clear o1 gr1 n1 W1 c0 c1 c2 c3 c4 fz hcall nb7 mb7 hT
    generalize w1.setCell ⟨W, 0, none⟩ (.slice a1 M.length q1) = w2 at *
    have hB := below_new w2 (.cells #[.int .i64 y, .slice fo n fc] 96)
    have T3 := T2.keep hB
    have D3 := D2.keep hB
    have T4 := T3.moved (T3.at'.set2 (L.length : Int))
    have D4 := D3.set (j := 2) (.int .i64 (L.length : Int))
    obtain ⟨_, c0, c1, c2, c3, c4, fz⟩ := T3.at'
    have as1 := as_filter1 y fo n fc
    have as2 := as_filter2 y fo n fc
    have HT4 : Hid (TS base ((w2.alloc (.cells #[.int .i64 y, .slice fo n fc] 96)).setCell ⟨W, 2, none⟩ (.int .i64 (L.length : Int))) W (.slice a1 M.length q1) M iv K A B J L.length ia en) := T4
    clear T2 T3 T4 D2 D3 hB
    go_wp2
    go_end0
    rw [HM.out]
    exact ⟨_, ⟨_, rfl⟩, HT4.out, D4⟩

set_option maxHeartbeats 4000000 in
theorem putIndex_any (base : Nat) (w : World) (W : Nat) (a : Option Addr) (cp : Nat) (L : List Int) (g gc : Nat) (K : Nat → ByteArray) (A B : Nat → Int) (J : Nat) (fa ia en : Int)
    (hbs : base ≤ w.heap.size) (hK : ∀ i, i < J → (K i).size ≤ 140) (hA : ∀ i, i < J → 0 ≤ A i ∧ A i ≤ 1000000) (hBd : ∀ i, i < J → 0 ≤ B i ∧ B i ≤ 1000000) (hJ : J ≤ 1000)
    (hT : TS base w W (.slice a L.length cp) L (.slice (some ⟨g, 0, none⟩) J gc) K A B J fa ia en) (hL : L.length ≤ 500000) :
    Calls Tryz.prog 53 #[.pointer (some ⟨W, 0, none⟩), .iface 85 (.slice (some ⟨g, 0, none⟩) J gc)] w fun e w' =>
      ∃ v', (∃ u, e = .returned u) ∧ TS base w' W v' (L ++ ixL K A B J) (.slice (some ⟨g, 0, none⟩) J gc) K A B J fa L.length en ∧ Md W w (.slice a L.length cp) (.slice (some ⟨g, 0, none⟩) J gc) w' v' (.slice (some ⟨g, 0, none⟩) J gc) := by
  obtain ⟨wlt, c0, c1, c2, c3, c4, fz⟩ := hT.at'
  have hne : (Value.slice a L.length cp).ownBlock ≠ some g := fun e => hT.dis g e rfl
  have hX : XAt w g J K A B := by
    have hlt := (hT.idx.lt g rfl).2
    exact ⟨hlt, fun i hi => by rw [show i * 3 = i * 3 + 0 from rfl, hT.idx.cellAt (i * 3 + 0) (by omega), xrows_get K A B J i 0 hi (by omega)]; rfl, fun i hi => by rw [hT.idx.cellAt (i * 3 + 1) (by omega), xrows_get K A B J i 1 hi (by omega)]; rfl, fun i hi => by rw [hT.idx.cellAt (i * 3 + 2) (by omega), xrows_get K A B J i 2 hi (by omega)]; rfl⟩
  have hXd : XAt w.drew g J K A B := hX.grown (grown_of_below (Below.refl _ _).drew none) (by simp)
  have hcall := fun W' cpX h1 h2 h3 h4 => appendIndex_any base a cpX L g J gc K A B W' h1 h2 h3 hK hA hBd hJ hL h4
  have nb7 := nil_index (some ⟨g, 0, none⟩) J gc
  have mb7 := mth_index (some ⟨g, 0, none⟩) J gc
  obtain ⟨M, HM⟩ : ∃ M, Hid (L ++ ixL K A B J = M) := ⟨_, rfl⟩
  go_enter Tryz.func53, Tryz.ntmps53
  go_upto_region 1 with fail
  go_cut [4] from 13 to 24 (fun s4 wx => s4 = .int .i64 (L.length : Nat) ∧ Put1 base W w (.slice a L.length cp) (.slice (some ⟨g, 0, none⟩) J gc) fa ia en M wx)
  case first =>
    go_region_with (first | (go_at_call 186; refine (hcall _ _ (hT.own.keep (Below.refl _ _).drew) hXd hne hbs).mono ?_; rintro e w1 ⟨v1, rfl, o1, gr1, n1⟩; have W1 := hT.at'.drew.grown gr1 hT.nv; rw [HM.out] at o1; obtain ⟨a1, q1, rfl⟩ := o1.form; have W1' := W1; obtain ⟨_, d0, d1, d2, d3, d4, dz⟩ := W1'))
    all_goals
      go_wp2_with fail
      go_meet
      case rel => exact ⟨rfl, w1, a1, q1, rfl, o1, gr1, n1, W1⟩
  case rest =>
    obtain ⟨rfl, w1, a1, q1, rfl, o1, gr1, n1, W1⟩ := hcut
    have T2 := (hT.keep (Below.refl _ _).drew).put o1 gr1 n1
    have D2 := (((Md.refl W w (.slice a L.length cp) (.slice (some ⟨g, 0, none⟩) J gc)).keep (Below.refl _ _).drew).growV gr1 n1).set (j := 0) (.slice a1 M.length q1)
    clear o1 gr1 n1 W1 c0 c1 c2 c3 c4 fz hcall nb7 mb7 hT hX hXd
    generalize w1.setCell ⟨W, 0, none⟩ (.slice a1 M.length q1) = w2 at *
    have T4 := T2.moved (T2.at'.set3 (L.length : Int))
    have D4 := D2.set (j := 3) (.int .i64 (L.length : Int))
    obtain ⟨_, c0, c1, c2, c3, c4, fz⟩ := T2.at'
    have as1 := as_index1 (some ⟨g, 0, none⟩) J gc
    have as2 := as_index2 (some ⟨g, 0, none⟩) J gc
    have as3 := as_index3 (some ⟨g, 0, none⟩) J gc
    have HT4 : Hid (TS base (w2.setCell ⟨W, 3, none⟩ (.int .i64 (L.length : Int))) W (.slice a1 M.length q1) M (.slice (some ⟨g, 0, none⟩) J gc) K A B J fa L.length en) := T4
    clear T2 T4 D2
    go_wp2
    go_end0
    rw [HM.out]
    exact ⟨_, ⟨_, rfl⟩, HT4.out, D4⟩

set_option maxHeartbeats 4000000 in
theorem putEnd_any (base : Nat) (p q r : Int) (Nl : List Int) (hNe : [p, q, r] = Nl) (w : World) (W : Nat) (a : Option Addr) (cp : Nat) (L : List Int) (iv : Value) (K : Nat → ByteArray) (A B : Nat → Int) (J : Nat) (fa ia en : Int)
    (hbs : base ≤ w.heap.size) (hp : 0 ≤ p ∧ p ≤ 4294967295) (hq : 0 ≤ q ∧ q ≤ 4294967295) (hr : 0 ≤ r ∧ r ≤ 4294967295)
    (hT : TS base w W (.slice a L.length cp) L iv K A B J fa ia en) (hL : L.length ≤ 500000) :
    Calls Tryz.prog 53 #[.pointer (some ⟨W, 0, none⟩), .iface 87 (.agg #[.int .i64 p, .int .i64 q, .int .i64 r])] w fun e w' =>
      ∃ v', (∃ u, e = .returned u) ∧ TS base w' W v' (L ++ (fsL Nl ++ pfL (crcL (L ++ fsL Nl)) 4 ++ [84, 66, 76, 49])) iv K A B J fa ia en ∧ Md W w (.slice a L.length cp) iv w' v' iv := by
  obtain ⟨wlt, c0, c1, c2, c3, c4, fz⟩ := hT.at'
  have hcall := fun W' cpX h1 h2 => appendEnd_any base a cpX L p q r Nl hNe W' h1 hp hq hr (by omega) h2
  have nb7 := nil_end p q r
  have mb7 := mth_end p q r
  obtain ⟨M, hM0⟩ : ∃ M, L ++ (fsL Nl ++ pfL (crcL (L ++ fsL Nl)) 4 ++ [84, 66, 76, 49]) = M := ⟨_, rfl⟩
  have HM : Hid (L ++ (fsL Nl ++ pfL (crcL (L ++ fsL Nl)) 4 ++ [84, 66, 76, 49]) = M) := hM0
  clear hM0
  go_enter Tryz.func53, Tryz.ntmps53
  go_upto_region 1 with fail
  go_cut [4] from 13 to 24 (fun s4 wx => s4 = .int .i64 (L.length : Nat) ∧ Put1 base W w (.slice a L.length cp) iv fa ia en M wx)
  case first =>
    go_region_with (first | (go_at_call 189; refine (hcall _ _ (hT.own.keep (Below.refl _ _).drew) hbs).mono ?_; rintro e w1 ⟨v1, rfl, o1, gr1, n1⟩; have W1 := hT.at'.drew.grown gr1 hT.nv; rw [HM.out] at o1; obtain ⟨a1, q1, rfl⟩ := o1.form; have W1' := W1; obtain ⟨_, d0, d1, d2, d3, d4, dz⟩ := W1'))
    all_goals
      go_wp2_with fail
      go_meet
      case rel => exact ⟨rfl, w1, a1, q1, rfl, o1, gr1, n1, W1⟩
  case rest =>
    obtain ⟨rfl, w1, a1, q1, rfl, o1, gr1, n1, W1⟩ := hcut
    have T2 := (hT.keep (Below.refl _ _).drew).put o1 gr1 n1
    have D2 := (((Md.refl W w (.slice a L.length cp) iv).keep (Below.refl _ _).drew).growV gr1 n1).set (j := 0) (.slice a1 M.length q1)
    clear o1 gr1 n1 W1 c0 c1 c2 c3 c4 fz hcall nb7 mb7 hT
    generalize w1.setCell ⟨W, 0, none⟩ (.slice a1 M.length q1) = w2 at *
    have as1 := as_end1 p q r
    have as2 := as_end2 p q r
    have as3 := as_end3 p q r
    have HT4 : Hid (TS base w2 W (.slice a1 M.length q1) M iv K A B J fa ia en) := T2
    clear T2
    go_wp2
    go_end0
    rw [HM.out]
    exact ⟨_, ⟨_, rfl⟩, HT4.out, D2⟩
end Go.Proofs.YtohjjigkfdhklaaGreat
namespace Go.Proofs.YtohjjigkfdhklaaGreat
set_option maxRecDepth 100000
open Go.RowKit Go.Shelf
set_option linter.unusedSimpArgs false
set_option linter.unusedVariables false
attribute [local go_sem] Oper.semAt_some

/-- Two blocks are kept. -/
structure KpX (p q : Nat) (W W' : World) : Prop where
  size : W.heap.size ≤ W'.heap.size
  b1 : W'.heap[p]? = W.heap[p]?
  b2 : W'.heap[q]? = W.heap[q]?
theorem KpX.refl (p q : Nat) (W : World) : KpX p q W W := ⟨Nat.le_refl _, rfl, rfl⟩
theorem KpX.trans {p q : Nat} {A B C : World} (h : KpX p q A B) (k : KpX p q B C) : KpX p q A C := ⟨Nat.le_trans h.size k.size, k.b1.trans h.b1, k.b2.trans h.b2⟩
theorem KpX.drew {p q : Nat} {A B : World} (h : KpX p q A B) : KpX p q A B.drew := ⟨h.size, h.b1, h.b2⟩
theorem kpX_b {p q : Nat} {w : World} (hp : p < w.heap.size) (hq : q < w.heap.size) (W : World) (l : Nat) (o o' : Obj) (hl : w.heap.size ≤ l) (h : W.heap[l]? = some o) (_ : o.isCells = false) (_ : o.isWalk = false) : KpX p q W (W.putObj l o') :=
  have hb : Below w.heap.size W (W.putObj l o') := (Below.refl _ W).grown (grownBy_putObj' W l o') (by have := (Array.getElem?_eq_some_iff.1 h).1; omega) (fun k e => by cases e; omega)
  ⟨hb.size, hb.block p hp, hb.block q hq⟩
theorem KpX.of_below {p q B : Nat} {W W' : World} (h : Below B W W') (hp : p < B) (hq : q < B) : KpX p q W W' := ⟨h.size, h.block p hp, h.block q hq⟩

/-- The first k of m. -/
def rU (m k : Nat) : List (Fin m) := (List.finRange m).take k
theorem rU_succ {m k : Nat} (h : k < m) : rU m (k + 1) = rU m k ++ [⟨k, h⟩] := by
  unfold rU
  rw [List.take_succ_eq_append_getElem (by simpa using h)]
  simp
theorem rU_val (m k : Nat) (h : k ≤ m) : (rU m k).map Fin.val = List.range k := by
  induction k with
  | zero => simp [rU]
  | succ k ih => rw [rU_succ h, List.map_append, ih (by omega), List.range_succ]; rfl
theorem rU_len (m k : Nat) (h : k ≤ m) : (rU m k).length = k := by simp [rU]; omega

set_option maxRecDepth 100000 in
set_option maxHeartbeats 2000000 in
theorem chunk1_in (n : Nat) (hn : 1 ≤ n) (l Bs Bn N cap b off B : Nat) (hN : N ≤ 1048576) (hcap : N ≤ cap) (J Jx : List (Fin (nbl N)) → World → Prop) (hJ : AbidesFrom B J)
    (hY : ∀ pre x W, J pre W → pre.length < nbl N → YieldAt Fence.wide (n - 1) Tryz.prog l #[.slice (some ⟨b, off + 4 * x.1 * 9, none⟩) (bsz N x.1) (bsz N x.1)] W fun e W' =>
      (e = .returned (.bool true) ∧ J (pre ++ [x]) W' ∧ KpX Bs Bn W W') ∨ (e = .returned (.bool false) ∧ Jx (pre ++ [x]) W'))
    (W : World) (hBs : W.cell? ⟨Bs, 0, none⟩ = some (.slice (some ⟨b, off, none⟩) N cap)) (hBn : W.cell? ⟨Bn, 0, none⟩ = some (.int .i64 4)) (h0 : J [] W) :
    CallsIn Fence.wide n Tryz.prog 82 #[.func (.yield l) #[] #[], .pointer (some ⟨Bs, 0, none⟩), .pointer (some ⟨Bn, 0, none⟩)] W fun e W' => (∃ v, e = .returned v) ∧
      ((∃ ys, ys = rU (nbl N) (nbl N) ∧ J ys W') ∨ (∃ pre, (∃ k, k ≤ nbl N ∧ pre = rU (nbl N) k) ∧ Jx pre W')) := by
  refine callsIn_of_wp Tryz.func82 rfl trivial ?_ rfl
  simp only [Tryz.ntmps82, List.size_toArray, List.length_cons, List.length_nil, Nat.reduceAdd, Nat.reduceSub, Array.replicate_succ, Array.replicate_zero, List.push_toArray, List.append_toArray, List.nil_append, List.cons_append]
  gi_wp2
  gi_loopw [4] (fun i wr => ∃ k : Nat, k ≤ nbl N ∧ i = .int .i64 ((4 * k : Nat) : Int) ∧ J (rU (nbl N) k) wr ∧ KpX Bs Bn W wr)
    (fun i _ => (4 * nbl N + 4 - (intOf i).toNat))
  case atStart => exact ⟨0, Nat.zero_le _, by first | rfl | simp, h0, KpX.refl _ _ _⟩
  case round =>
    obtain ⟨k, hk, rfl, hJs, hnx⟩ := hrel
    have hBk := (World.cell?_of_block (w := W) (a := ⟨Bs, 0, none⟩) hnx.b1).trans hBs
    have hBk2 := (World.cell?_of_block (w := W) (a := ⟨Bn, 0, none⟩) hnx.b2).trans hBn
    by_cases hlt : 4 * k < N
    · have hkl : k < nbl N := by unfold nbl; omega
      have HX : Hid (rU (nbl N) (k + 1) = rU (nbl N) k ++ [⟨k, hkl⟩]) := rU_succ hkl
      have hJd : J (rU (nbl N) k) wr.drew := hJ _ _ _ none hJs ⟨rfl, rfl, rfl, Nat.le_refl _, fun _ _ _ => rfl⟩ (fun r e => by cases e)
      have hcl : ¬ cap = 4 * k := by omega
      have hYk := hY _ ⟨k, hkl⟩ wr.drew hJd (by rw [rU_len _ _ hk]; exact hkl)
      dsimp only at hYk
      obtain ⟨i4, hi4⟩ : ∃ i4, 4 * k = i4 := ⟨_, rfl⟩
      have HI : Hid (4 * (k + 1) = i4 + 4) := by unfold Hid; omega
      have HI2 : Hid (4 * nbl N + 4 - i4 ≥ 4 ∧ i4 < 4 * nbl N) := by unfold Hid; omega
      by_cases h4 : N - i4 < 4
      · have eb : bsz N k = N - i4 := by unfold bsz; omega
        rw [eb] at hYk
        rw [hi4] at hYk hlt hcl ⊢
        obtain ⟨d, hd⟩ : ∃ d, N - i4 = d := ⟨_, rfl⟩
        rw [hd] at hYk h4
        have hNd : Hid (N = i4 + d) := by unfold Hid; omega
        obtain ⟨fn, tmps, assign, body, hy, hR⟩ := hYk
        clear hi4 eb hY
        have hle : i4 + d ≤ cap := by have := hNd.out; omega
        have hle2 : i4 + d - i4 = d := by omega
        gi_wp2
        gi_region
        gi_wp2
        refine hR.mono ?_
        rintro e W3 (⟨rfl, hJ3, hk3⟩ | ⟨rfl, hJx3⟩)
        · have hBk3 := (World.cell?_of_block (w := wr.drew) (a := ⟨Bn, 0, none⟩) hk3.b2).trans hBk2
          gi_wp2
          go_roundw
          case rel => exact ⟨k + 1, hkl, by rw [HI.out]; go_num, by rw [HX.out]; exact hJ3, hnx.drew.trans hk3⟩
          case measure => have := HI2.out; simp [intOf]; omega
        · gi_wp2
          refine bodyPost_ret (results_none rfl _ _ _) rfl ?_
          exact ⟨⟨_, rfl⟩, .inr ⟨_, ⟨k + 1, hkl, HX.out.symm⟩, hJx3⟩⟩
      · have eb : bsz N k = 4 := by unfold bsz; omega
        rw [eb] at hYk
        rw [hi4] at hYk hlt hcl ⊢
        obtain ⟨fn, tmps, assign, body, hy, hR⟩ := hYk
        have hle : i4 + 4 ≤ cap := by omega
        have hle2 : i4 + 4 - i4 = 4 := by omega
        clear hi4 eb hY
        gi_wp2
        gi_region
        gi_wp2
        refine hR.mono ?_
        rintro e W3 (⟨rfl, hJ3, hk3⟩ | ⟨rfl, hJx3⟩)
        · have hBk3 := (World.cell?_of_block (w := wr.drew) (a := ⟨Bn, 0, none⟩) hk3.b2).trans hBk2
          gi_wp2
          go_roundw
          case rel => exact ⟨k + 1, hkl, by rw [HI.out]; go_num, by rw [HX.out]; exact hJ3, hnx.drew.trans hk3⟩
          case measure => have := HI2.out; simp [intOf]; omega
        · gi_wp2
          refine bodyPost_ret (results_none rfl _ _ _) rfl ?_
          exact ⟨⟨_, rfl⟩, .inr ⟨_, ⟨k + 1, hkl, HX.out.symm⟩, hJx3⟩⟩
    · obtain rfl : k = nbl N := by unfold nbl at *; omega
      gi_wp2
      go_end0
      first | exact ⟨⟨_, rfl⟩, .inl ⟨_, rfl, hJs⟩⟩ | exact ⟨⟨_, rfl⟩, .inl hJs⟩

theorem chunk_any (ao : Option Addr) (len cap : Nat) (w : World) :
    Calls Tryz.prog 52 #[.slice ao len cap, .int .i64 4] w fun e w' => e = .returned (.func (.func 82) #[] #[.pointer (some ⟨w.heap.size, 0, none⟩), .pointer (some ⟨w.heap.size + 1, 0, none⟩)]) ∧ w' = (w.alloc (.cells #[.slice ao len cap] 23)).alloc (.cells #[.int .i64 4] 3) := by
  go_enter Tryz.func52, Tryz.ntmps52
  go_wp2
  go_ret
  exact ⟨rfl, rfl⟩
theorem chunk_stops (n : Nat) (hn : 1 ≤ n) (Bs Bn N cap b off : Nat) (hN : N ≤ 1048576) (hcap : N ≤ cap) (w : World) (hBs : Bs < w.heap.size) (hBn : Bn < w.heap.size)
    (hc : w.cell? ⟨Bs, 0, none⟩ = some (.slice (some ⟨b, off, none⟩) N cap)) (hc2 : w.cell? ⟨Bn, 0, none⟩ = some (.int .i64 4)) :
    SeqStopsK Fence.wide n Tryz.prog 82 #[.pointer (some ⟨Bs, 0, none⟩), .pointer (some ⟨Bn, 0, none⟩)] (fun x : Fin (nbl N) => #[Value.slice (some ⟨b, off + 4 * x.1 * 9, none⟩) (bsz N x.1) (bsz N x.1)]) (KpX Bs Bn) (fun ys => ys = rU (nbl N) (nbl N)) (fun pre => ∃ k, k ≤ nbl N ∧ pre = rU (nbl N) k) (nbl N) w := fun l J Jx W hW hA _ hY h0 => by
  have hc' := (hW.cell (p := ⟨Bs, 0, none⟩) hBs).trans hc
  have hc2' := (hW.cell (p := ⟨Bn, 0, none⟩) hBn).trans hc2
  exact chunk1_in n hn l Bs Bn N cap b off W.heap.size hN hcap J Jx hA hY W hc' hc2' h0
end Go.Proofs.YtohjjigkfdhklaaGreat
