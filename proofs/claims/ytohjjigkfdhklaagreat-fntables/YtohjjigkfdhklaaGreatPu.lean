/- The places of a key in the program: an iterator. / A key put into a filter, in the program. -/
import Derived.RangeFuncNested
import Derived.RangeFuncBound
import Derived.RangeFuncCalls
import Derived.RangeFuncLeaves
import Derived.Shelf.Abstract
import Derived.Shelf.RegionOpen
import Derived.WalkKit
import Derived.OwnWalkIn
import Derived.TacticsInMore
import Derived.LoopNIn
import Derived.LoopIn
import Derived.Test.YtohjjigkfdhklaaGreatPl
import Derived.Test.YtohjjigkfdhklaaGreatGf
namespace Go.Proofs.YtohjjigkfdhklaaGreat
set_option maxRecDepth 100000
open Go.RowKit Go.Shelf
set_option linter.unusedSimpArgs false
set_option linter.unusedVariables false
attribute [local go_sem] Oper.semAt_some

/-- What an iterator over places holds: a filter, two hashes and how many bits. -/
structure PAt (w : World) (b : Nat) (y : Int) (v : Value) (h d M : Int) : Prop where
  f : FAt w b y v
  lt : b + 1 + 1 + 1 < w.heap.size
  c1 : w.cell? ⟨b + 1, 0, none⟩ = some (.int .u32 h)
  c2 : w.cell? ⟨b + 1 + 1, 0, none⟩ = some (.int .u32 d)
  c3 : w.cell? ⟨b + 1 + 1 + 1, 0, none⟩ = some (.int .u32 M)

set_option maxHeartbeats 1600000 in
theorem places_any (s : ByteArray) (y : Int) (ao : Option Addr) (m cap : Nat) (w : World) (hs : s.size ≤ 1048576) (hm : 1 ≤ m ∧ m ≤ 200) :
    Calls Tryz.prog 65 #[.agg #[.int .i64 y, .slice ao m cap], .string s] w fun e w' => e = .returned (.func (.func 94) #[] #[.pointer (some ⟨w.heap.size, 0, none⟩), .pointer (some ⟨w.heap.size + 1, 0, none⟩), .pointer (some ⟨w.heap.size + 1 + 1, 0, none⟩), .pointer (some ⟨w.heap.size + 1 + 1 + 1, 0, none⟩)]) ∧
      PAt w' w.heap.size y (.slice ao m cap) (hOf s 0) (hOf s 1) (8 * m) ∧ w'.heap.size = w.heap.size + 1 + 1 + 1 + 1 ∧ Below w.heap.size w w' := by
  have c0 := fun W => hash_impl s 0 W (by omega) hs
  have c1 := fun W => hash_impl s 1 W (by omega) hs
  generalize hOf s 0 = h at *
  generalize hOf s 1 = d at *
  have hM1 : 8 * (m : Int) ≤ 1600 := by omega
  go_enter Tryz.func65, Tryz.ntmps65
  go_wp2_with fail
  refine (c0 _).mono ?_
  rintro e w1 ⟨rfl, rfl⟩
  go_wp2_with fail
  refine (c1 _).mono ?_
  rintro e w1 ⟨rfl, rfl⟩
  go_wp2
  refine bodyPost_ret (v := .func (.func 94) #[] #[.pointer (some ⟨w.heap.size, 0, none⟩), .pointer (some ⟨w.heap.size + 1, 0, none⟩), .pointer (some ⟨w.heap.size + 1 + 1, 0, none⟩), .pointer (some ⟨w.heap.size + 1 + 1 + 1, 0, none⟩)]) (by simp [results, Tryz.results65, go_sem]) rfl ⟨rfl, ⟨⟨?_, ?_, ?_⟩, ?_, ?_, ?_, ?_⟩, ?_, ?_⟩
  all_goals first
    | (simp [go_sem]; done)
    | (simp; omega)
    | exact ((((Below.refl _ _).alloc (Nat.le_refl _) _).alloc (by simp) _).alloc (by simp; omega) _).alloc (by simp; omega) _

/-- A place below M. -/
abbrev Plc (M : Int) := { x : Int // 0 ≤ x ∧ x < M }
def plX (h d : Int) {M : Int} (hM : 0 < M) (k : Nat) : Plc M := ⟨pl h d M k, pl_bd h d hM k⟩
def plU (h d : Int) {M : Int} (hM : 0 < M) (k : Nat) : List (Plc M) := (List.range k).map (plX h d hM)
theorem plU_succ (h d : Int) {M : Int} (hM : 0 < M) (k : Nat) : plU h d hM (k + 1) = plU h d hM k ++ [plX h d hM k] := by simp [plU, List.range_succ]
theorem plU_len (h d : Int) {M : Int} (hM : 0 < M) (k : Nat) : (plU h d hM k).length = k := by simp [plU]
theorem plU_val (h d : Int) {M : Int} (hM : 0 < M) (k : Nat) : (plU h d hM k).map (·.1) = plL h d M k := by simp [plU, plL, plX]

/-- The blocks from b up to c lie as they lay. -/
structure KpC (b c : Nat) (W W' : World) : Prop where
  size : W.heap.size ≤ W'.heap.size
  blk : ∀ k, b ≤ k → k < c → W'.heap[k]? = W.heap[k]?
theorem KpC.refl (b c : Nat) (W : World) : KpC b c W W := ⟨Nat.le_refl _, fun _ _ _ => rfl⟩
theorem KpC.trans {b c : Nat} {A B C : World} (h : KpC b c A B) (k : KpC b c B C) : KpC b c A C := ⟨Nat.le_trans h.size k.size, fun i h1 h2 => (k.blk i h1 h2).trans (h.blk i h1 h2)⟩
theorem PAt.kp {W W' : World} {b : Nat} {y : Int} {v : Value} {h d M : Int} (hp : PAt W b y v h d M) (hk : KpC b (b + 1 + 1 + 1 + 1) W W') : PAt W' b y v h d M :=
  have c : ∀ q j, b ≤ q → q < b + 1 + 1 + 1 + 1 → W'.cell? ⟨q, j, none⟩ = W.cell? ⟨q, j, none⟩ := fun q j h1 h2 => World.cell?_of_block (w := W) (a := ⟨q, j, none⟩) (hk.blk q h1 h2)
  ⟨⟨Nat.lt_of_lt_of_le hp.f.lt hk.size, (c _ _ (by omega) (by omega)).trans hp.f.c0, (c _ _ (by omega) (by omega)).trans hp.f.c1⟩, Nat.lt_of_lt_of_le hp.lt hk.size, (c _ _ (by omega) (by omega)).trans hp.c1, (c _ _ (by omega) (by omega)).trans hp.c2, (c _ _ (by omega) (by omega)).trans hp.c3⟩

set_option maxRecDepth 100000 in
set_option maxHeartbeats 2000000 in
theorem places1_in (n : Nat) (hn : 1 ≤ n) (l b y : Nat) (v : Value) (h d M : Int) (hM : 0 < M) (hM2 : M ≤ 1600) (hy : y ≤ 8) (hh : 0 ≤ h ∧ h ≤ 4294967295) (hd : 0 ≤ d ∧ d ≤ 4294967295) (J Jx : List (Plc M) → World → Prop)
    (hY : ∀ pre x W, J pre W → pre.length < y → YieldAt Fence.wide (n - 1) Tryz.prog l #[.int .i64 x.1] W fun e W' =>
      (e = .returned (.bool true) ∧ J (pre ++ [x]) W' ∧ KpC b (b + 1 + 1 + 1 + 1) W W') ∨ (e = .returned (.bool false) ∧ Jx (pre ++ [x]) W'))
    (W : World) (hP : PAt W b y v h d M) (h0 : J [] W) :
    CallsIn Fence.wide n Tryz.prog 94 #[.func (.yield l) #[] #[], .pointer (some ⟨b, 0, none⟩), .pointer (some ⟨b + 1, 0, none⟩), .pointer (some ⟨b + 1 + 1, 0, none⟩), .pointer (some ⟨b + 1 + 1 + 1, 0, none⟩)] W fun e W' => (∃ v, e = .returned v) ∧
      ((∃ ys, ys = plU h d hM y ∧ J ys W') ∨ (∃ pre, (∃ k, k ≤ y ∧ pre = plU h d hM k) ∧ Jx pre W')) := by
  refine callsIn_of_wp Tryz.func94 rfl trivial ?_ rfl
  simp only [Tryz.ntmps94, List.size_toArray, List.length_cons, List.length_nil, Nat.reduceAdd, Nat.reduceSub, Array.replicate_succ, Array.replicate_zero, List.push_toArray, List.append_toArray, List.nil_append, List.cons_append]
  obtain ⟨⟨lf, f0, f1⟩, lp, p1, p2, p3⟩ := id hP
  gi_wp2
  gi_loopw [10] (fun i wr => ∃ k : Nat, k ≤ y ∧ i = .int .u32 k ∧ J (plU h d hM k) wr ∧ KpC b (b + 1 + 1 + 1 + 1) W wr)
    (fun i _ => y - (intOf i).toNat)
  case atStart => exact ⟨0, Nat.zero_le _, rfl, h0, KpC.refl _ _ _⟩
  case round =>
    obtain ⟨k, hk, rfl, hJs, hnx⟩ := hrel
    obtain ⟨⟨lf, f0, f1⟩, lp, p1, p2, p3⟩ := hP.kp hnx
    by_cases hlt : k < y
    · obtain ⟨fn, tmps, assign, body, hy', hR⟩ := hY _ (plX h d hM k) wr hJs (by rw [plU_len]; exact hlt)
      have e1 : (plX h d hM k).1 = (h + (k : Int) * d) % 4294967296 % M := rfl
      rw [e1] at hy'
      have hpb := pl_bd h d hM k
      have hpb2 : 0 ≤ (h + (k : Int) * d) % 4294967296 % M ∧ (h + (k : Int) * d) % 4294967296 % M < M := hpb
      have hMne : ¬ M = 0 := by omega
      gi_wp2
      refine hR.mono ?_
      rintro e W3 (⟨rfl, hJ3, hk3⟩ | ⟨rfl, hJx3⟩)
      · gi_wp2
        go_roundw
        case rel => exact ⟨k + 1, by omega, by go_num, by rw [plU_succ]; exact hJ3, hnx.trans hk3⟩
        case measure => simp [intOf]; omega
      · gi_wp2
        refine bodyPost_ret (results_none rfl _ _ _) rfl ?_
        exact ⟨⟨_, rfl⟩, .inr ⟨_, ⟨k + 1, by omega, (plU_succ _ _ _ _).symm⟩, hJx3⟩⟩
    · obtain rfl : k = y := by omega
      gi_wp2
      go_end0
      exact ⟨⟨_, rfl⟩, .inl ⟨_, rfl, hJs⟩⟩

/-- The places come in their order; or the first ones. -/
theorem places_stops (n : Nat) (hn : 1 ≤ n) (b y : Nat) (v : Value) (h d M : Int) (hM : 0 < M) (hM2 : M ≤ 1600) (hy : y ≤ 8) (hh : 0 ≤ h ∧ h ≤ 4294967295) (hd : 0 ≤ d ∧ d ≤ 4294967295) (w : World) (hP : PAt w b y v h d M) :
    SeqStopsK Fence.wide n Tryz.prog 94 #[.pointer (some ⟨b, 0, none⟩), .pointer (some ⟨b + 1, 0, none⟩), .pointer (some ⟨b + 1 + 1, 0, none⟩), .pointer (some ⟨b + 1 + 1 + 1, 0, none⟩)] (fun x : Plc M => #[Value.int .i64 x.1]) (KpC b (b + 1 + 1 + 1 + 1)) (fun ys => ys = plU h d hM y) (fun pre => ∃ k, k ≤ y ∧ pre = plU h d hM k) y w := fun l J Jx W hW _ _ hY h0 => by
  have hP' : PAt W b y v h d M := hP.kp ⟨hW.size, fun k h1 h2 => hW.block k (by have := hP.lt; omega)⟩
  exact places1_in n hn l b y v h d M hM hM2 hy hh hd J Jx hY W hP' h0
theorem kpC_b {b c : Nat} {w : World} (hn : c ≤ w.heap.size) (W : World) (l : Nat) (o o' : Obj) (hl : w.heap.size ≤ l) (h : W.heap[l]? = some o) (_ : o.isCells = false) (_ : o.isWalk = false) : KpC b c W (W.putObj l o') :=
  have hb : Below c W (W.putObj l o') := (Below.refl c W).grown (grownBy_putObj' W l o') (by have := (Array.getElem?_eq_some_iff.1 h).1; omega) (fun k e => by cases e; omega)
  ⟨hb.size, fun k _ hk => hb.block k hk⟩
end Go.Proofs.YtohjjigkfdhklaaGreat

namespace Go.Proofs.YtohjjigkfdhklaaGreat
set_option maxRecDepth 100000
open Go.RowKit Go.Shelf
set_option linter.unusedSimpArgs false
set_option linter.unusedVariables false
attribute [local go_sem] Oper.semAt_some

/-- The place x set. -/
def setB (f : Nat → Int) (x : Int) : Nat → Int := fun i => if i = (x / 8).toNat then bits .or .u8 (f (x / 8).toNat) (bt (x % 8)) else f i
/-- Places set one after the other. -/
def putL (f : Nat → Int) (L : List Int) : Nat → Int := L.foldl setB f
theorem putL_snoc (f : Nat → Int) (L : List Int) (x : Int) : putL f (L ++ [x]) = setB (putL f L) x := by simp [putL]
theorem or_bd (x y : Int) : 0 ≤ bits .or .u8 x y ∧ bits .or .u8 x y ≤ 255 := bounds_u8 (wf_bits _ _ _ _)

theorem Own.set {w : World} {g m : Nat} {F : Nat → Int} {x : Int} (h : Own w g 0 m F) (hx : (x / 8).toNat < m) : Own (w.setCell ⟨g, (x / 8).toNat, none⟩ (.int .u8 (bits .or .u8 (F (x / 8).toNat) (bt (x % 8))))) g 0 m (setB F x) := by
  have := h.store (x / 8).toNat hx _ (or_bd (F (x / 8).toNat) (bt (x % 8)))
  rw [Nat.zero_add] at this
  exact this

/-- Places as numbers. -/
def pvs {M : Int} (pre : List (Plc M)) : List Int := pre.map (·.1)
theorem pvs_snoc {M : Int} (pre : List (Plc M)) (x : Plc M) : pvs (pre ++ [x]) = pvs pre ++ [x.1] := by simp [pvs]
theorem pvs_nil (M : Int) : pvs ([] : List (Plc M)) = [] := rfl

structure PutI (w : World) (g m : Nat) (f : Nat → Int) (L : List Int) (W : World) : Prop where
  own : Own W g 0 m (putL f L)
  box : W.cell? ⟨w.heap.size, 1, none⟩ = some (.slice (some ⟨g, 0, none⟩) m m)
  gr : w.grownBy W (some g)

theorem PutI.step {w : World} {g m : Nat} {f : Nat → Int} {L : List Int} {A B : World} {row : Option Nat} (h : PutI w g m f L A) (hg : A.grownBy B row) (hr : ∀ r, row = some r → w.heap.size ≤ r ∧ ∃ o : Obj, A.heap[r]? = some o ∧ o.isCells = false) : PutI w g m f L B := by
  have hr' : ∀ r, row = some r → ∃ o : Obj, A.heap[r]? = some o ∧ o.isCells = false := fun r e => (hr r e).2
  refine ⟨⟨h.own.bd, Nat.lt_of_lt_of_le h.own.lt hg.size, fun i hi => cell_kept (h.own.cell i hi) hg hr', fun i hi => (frozen_kept (h.own.cell i hi) hg hr').trans (h.own.free i hi)⟩, cell_kept h.box hg hr', ?_⟩
  refine ⟨hg.os.trans h.gr.os, hg.tape.trans h.gr.tape, hg.output.trans h.gr.output, Nat.le_trans h.gr.size hg.size, fun k hk hne => ?_⟩
  refine (hg.block k (Nat.lt_of_lt_of_le hk h.gr.size) (fun e => ?_)).trans (h.gr.block k hk hne)
  have := (hr k e.symm).1
  omega

set_option maxRecDepth 100000 in
set_option maxHeartbeats 4000000 in
theorem put_any (s : ByteArray) (y g m : Nat) (f : Nat → Int) (w : World) (ho : Own w g 0 m f) (hs : s.size ≤ 1048576) (hy : y ≤ 8) (hm : 1 ≤ m ∧ m ≤ 200) :
    Calls Tryz.prog 50 #[.agg #[.int .i64 y, .slice (some ⟨g, 0, none⟩) m m], .string s] w fun e w' => e = .returned (.tuple #[]) ∧ Own w' g 0 m (putL f (plL (hOf s 0) (hOf s 1) (8 * m) y)) ∧ w.grownBy w' (some g) := by
  have hh := hOf_bd s 0
  have hd := hOf_bd s 1
  have cP := fun W => places_any s y (some ⟨g, 0, none⟩) m m W hs hm
  generalize hOf s 0 = h at *
  generalize hOf s 1 = d at *
  obtain ⟨M, hMe⟩ : ∃ M : Int, 8 * (m : Int) = M := ⟨_, rfl⟩
  have hM : 0 < M := by omega
  have hM2 : M ≤ 1600 := by omega
  rw [hMe] at cP ⊢
  have hglt := ho.lt
  refine (callsIn_wide (n := 4)).1 ?_
  refine callsIn_of_wp_marks Tryz.func50 rfl trivial ?_ rfl
  simp only [Tryz.ntmps50, List.size_toArray, List.length_cons, List.length_nil, Nat.reduceAdd, Nat.reduceSub, Array.replicate_succ, Array.replicate_zero, List.push_toArray, List.append_toArray, List.nil_append, List.cons_append]
  gi_wp2_with (refine ⟨trivial, ?_⟩; gi_at_call 65; refine (callsIn_wide.2 (cP _)).mono ?_; rintro e w1 ⟨rfl, hP, hsz, hb⟩)
  simp only [World.size_alloc] at hP hsz hb
  have c0 : w1.cell? ⟨w.heap.size, 1, none⟩ = some (.slice (some ⟨g, 0, none⟩) m m) := (hb.cell (p := ⟨w.heap.size, 1, none⟩) (by simp)).trans (by simp [go_sem])
  have hB0 : Below w.heap.size w w1 := (below_new w _).trans (hb.mono (by omega))
  have hI0 : PutI w g m f [] w1 := ⟨ho.keep hB0, c0, ⟨hB0.os, hB0.tape, hB0.output, hB0.size, fun k hk _ => hB0.block k hk⟩⟩
  have hstop := places_stops 3 (by omega) (w.heap.size + 1) y _ h d M hM hM2 hy hh hd w1 hP
  clear cP hP hb ho hB0 c0
  refine wpIn_rangeFunc_ownF rfl (by omega) (gf := 94) (lb := #[.pointer (some ⟨w.heap.size + 1, 0, none⟩), .pointer (some ⟨w.heap.size + 1 + 1, 0, none⟩), .pointer (some ⟨w.heap.size + 1 + 1 + 1, 0, none⟩), .pointer (some ⟨w.heap.size + 1 + 1 + 1 + 1, 0, none⟩)]) rfl trivial (enters_of Tryz.func94 (by kernel_rfl) rfl)
    hstop KpC.trans (kpC_b (by omega)) (Below.refl _ _) (fun _ => rfl)
    (fun (pre : List (Plc M)) W => PutI w g m f (pvs pre) W)
    (fun _ _ _ => False)
    (fun pre A B row hs hg hr => hs.step hg (fun r e => ⟨by have := (hr r e).1; omega, (hr r e).2⟩))
    (fun _ _ _ _ _ hs _ _ => hs)
    hI0
    (fun x => { tmps := #[.agg #[.int .i64 y, .slice (some ⟨g, 0, none⟩) m m], .string s, .pointer (some ⟨w.heap.size, 0, none⟩), undef, .int .i64 x.1, .agg #[.int .i64 y, .slice (some ⟨g, 0, none⟩) m m], .string s, .func (.func 94) #[] #[.pointer (some ⟨w.heap.size + 1, 0, none⟩), .pointer (some ⟨w.heap.size + 1 + 1, 0, none⟩), .pointer (some ⟨w.heap.size + 1 + 1 + 1, 0, none⟩), .pointer (some ⟨w.heap.size + 1 + 1 + 1 + 1, 0, none⟩)], .int .i64 x.1, undef, undef, undef, undef, undef, undef, undef, undef, undef, undef], defers := [] }) ?assign ?body ?done ?stop
  case assign =>
    intro l x W K hK
    gi_wp2
    exact hK
  case body =>
    rintro l pre ⟨x, hx0, hx1⟩ W hPI _
    dsimp only
    have hqa : 0 ≤ x / 8 := by omega
    have hqb : x / 8 < (m : Int) := by omega
    have hqc : (x / 8).toNat < m := by omega
    have htd : x.tdiv 8 = x / 8 := Int.tdiv_eq_ediv_of_nonneg hx0
    have hwq : IntKind.i64.wrap (x / 8) = x / 8 := by rw [IntKind.wrap_i64] <;> omega
    have hcf := hPI.box
    have hcq := hPI.own.cell (x / 8).toNat hqc
    have hcz := hPI.own.free (x / 8).toNat hqc
    rw [Nat.zero_add] at hcq hcz
    have HF : Hid (PutI w g m f (pvs (pre ++ [(⟨x, hx0, hx1⟩ : Plc M)])) (W.drew.setCell ⟨g, (x / 8).toNat, none⟩ (.int .u8 (bits .or .u8 (putL f (pvs pre) (x / 8).toNat) (bt (x % 8)))))) := by
      have o2 := (hPI.own.keep (Below.refl _ W).drew).set hqc
      refine ⟨by rw [pvs_snoc, putL_snoc]; exact o2, ?_, ?_⟩
      · rw [World.cell?_setCell_other _ _ _ _ (by intro hh; injection hh with h1 _ _; omega)]
        exact hcf
      · have hO := Others.setCell W.drew g (x / 8).toNat (.int .u8 (bits .or .u8 (putL f (pvs pre) (x / 8).toNat) (bt (x % 8))))
        exact ⟨hPI.gr.os, hPI.gr.tape, hPI.gr.output, by rw [hO.size]; exact hPI.gr.size, fun k hk hne => (hO.block k (fun e => hne (by rw [e]))).trans (hPI.gr.block k hk hne)⟩
    generalize putL f (pvs pre) (x / 8).toNat = z at hcq HF
    have hmx : Tryz.prog.follows .mixedOrders = true := by kernel_rfl
    have hbo := fun W' => bitOf_any x W' ⟨hx0, by omega⟩
    clear hstop hI0 hPI
    gi_wp2
    refine wpIn_mono (Q := fun e a' W' => e = .normal ∧ W' = W.drew.setCell ⟨g, (x / 8).toNat, none⟩ (.int .u8 (bits .or .u8 z (bt (x % 8))))) ?_ ?_
    · clear HF hh hd hM2 hMe hs hm hy hglt
      gi_region_with_o (refine ⟨trivial, ?_⟩; gi_at_call 66; refine (CallsIn.inRound l (callsIn_wide.2 (hbo _))).mono ?_; rintro e w' ⟨rfl, rfl⟩)
      all_goals exact ⟨rfl, rfl⟩
    · rintro e a' W' ⟨rfl, rfl⟩
      gi_wp2
      exact ⟨(KeepsOthers.drew _).trans (KeepsOthers.setCell _ _ _), ⟨by simp, fun k h1 h2 => Below.heap_setCell _ _ _ _ (by show k ≠ g; omega)⟩, HF.out⟩
  case done =>
    rintro D ys W hD rfl hPI hK
    gi_wp2
    refine ⟨by simp, .inl ⟨_, _, rfl, run_takeDeferred hK, ?_⟩⟩
    have hI2 := hPI.step (grownBy_putObj' W D (.deferred none)) (fun r e => by cases e; exact ⟨by omega, _, hK, rfl⟩)
    have ev : pvs (plU h d hM y) = plL h d M y := plU_val h d hM y
    rw [ev] at hI2
    refine ⟨.tuple #[], ?_, rfl, hI2.own, hI2.gr⟩
    simp [results, Tryz.results50, go_sem]
  case stop =>
    rintro D c pre W _ _ h _
    exact h.elim
end Go.Proofs.YtohjjigkfdhklaaGreat
