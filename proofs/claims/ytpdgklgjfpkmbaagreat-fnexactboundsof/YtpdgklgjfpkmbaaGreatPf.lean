/- The writer of a table: the filter, the index and the end are put. -/
import Derived.Test.YtpdgklgjfpkmbaaGreatPt7
namespace Go.Proofs.YtpdgklgjfpkmbaaGreat
set_option maxRecDepth 100000
open Go.RowKit
set_option linter.unusedSimpArgs false
set_option linter.unusedVariables false

set_option maxHeartbeats 4000000 in
theorem putFilter_any (base : Nat) (y : Int) (fo : Option Addr) (n fc : Nat) (f : Nat → Int) (w : World) (W : Nat) (a : Option Addr) (cp : Nat) (L : List Int) (iv : Value) (K : Nat → ByteArray) (A B : Nat → Int) (J : Nat) (fa ia en : Int)
    (hr : Row w fo n f) (hg : GoodF y n) (hn : n ≤ 1000) (hbs : base ≤ w.heap.size)
    (hT : TS base w W (.slice a L.length cp) L iv K A B J fa ia en) (hL : L.length ≤ 500000) :
    Calls Tryz.prog 61 #[.pointer (some ⟨W, 0, none⟩), .iface 100 (.agg #[.int .i64 y, .slice fo n fc])] w fun e w' =>
      ∃ v', (∃ u, e = .returned u) ∧ TS base w' W v' (L ++ fbL y f n) iv K A B J L.length ia en ∧ Md W w (.slice a L.length cp) iv w' v' iv := by
  obtain ⟨wlt, c0, c1, c2, c3, c4, fz⟩ := hT.at'
  have hcall := fun W' cpX h1 h2 h3 => appendFilter_any base a cpX L y fo n fc f W' h1 h2 hg hn (by omega) h3
  have nb7 := nil_filter y fo n fc
  have mb7 := mth_filter y fo n fc
  obtain ⟨M, HM⟩ : ∃ M, Hid (L ++ fbL y f n = M) := ⟨_, rfl⟩
  go_enter Tryz.func61, Tryz.ntmps61
  go_upto_region 1 with fail
  go_cut [4] from 13 to 24 (fun s4 wx => s4 = .int .i64 (L.length : Nat) ∧ Put1 base W w (.slice a L.length cp) iv fa ia en M wx)
  case first =>
    go_region_with (first | (go_at_call 203; refine (hcall _ _ (hT.own.keep (Below.refl _ _).drew) (hr.keep (Below.refl _ _).drew) hbs).mono ?_; rintro e w1 ⟨v1, rfl, o1, gr1, n1⟩; have W1 := hT.at'.drew.grown gr1 hT.nv; rw [HM.out] at o1; obtain ⟨a1, q1, rfl⟩ := o1.form; have W1' := W1; obtain ⟨_, d0, d1, d2, d3, d4, dz⟩ := W1'))
    all_goals
      go_wp2_with fail
      go_meet
      case rel => exact ⟨rfl, w1, a1, q1, rfl, o1, gr1, n1, W1⟩
  case rest =>
    obtain ⟨rfl, w1, a1, q1, rfl, o1, gr1, n1, W1⟩ := hcut
    have T2 := (hT.keep (Below.refl _ _).drew).put o1 gr1 n1
    have D2 := (((Md.refl W w (.slice a L.length cp) iv).keep (Below.refl _ _).drew).growV gr1 n1).set (j := 0) (.slice a1 M.length q1)
    clear o1 gr1 n1 W1 c0 c1 c2 c3 c4 fz hcall nb7 mb7 hT
    generalize w1.setCell ⟨W, 0, none⟩ (.slice a1 M.length q1) = w2 at *
    have hB := below_new w2 (.cells #[.int .i64 y, .slice fo n fc] 100)
    have T3 := T2.keep hB
    have D3 := D2.keep hB
    have T4 := T3.moved (T3.at'.set2 (L.length : Int))
    have D4 := D3.set (j := 2) (.int .i64 (L.length : Int))
    obtain ⟨_, c0, c1, c2, c3, c4, fz⟩ := T3.at'
    have as1 := as_filter1 y fo n fc
    have as2 := as_filter2 y fo n fc
    have HT4 : Hid (TS base ((w2.alloc (.cells #[.int .i64 y, .slice fo n fc] 100)).setCell ⟨W, 2, none⟩ (.int .i64 (L.length : Int))) W (.slice a1 M.length q1) M iv K A B J L.length ia en) := T4
    clear T2 T3 T4 D2 D3 hB
    go_wp2
    go_end0
    rw [HM.out]
    exact ⟨_, ⟨_, rfl⟩, HT4.out, D4⟩

set_option maxHeartbeats 4000000 in
theorem putIndex_any (base : Nat) (w : World) (W : Nat) (a : Option Addr) (cp : Nat) (L : List Int) (g gc : Nat) (K : Nat → ByteArray) (A B : Nat → Int) (J : Nat) (fa ia en : Int)
    (hbs : base ≤ w.heap.size) (hK : ∀ i, i < J → (K i).size ≤ 140) (hA : ∀ i, i < J → 0 ≤ A i ∧ A i ≤ 1000000) (hBd : ∀ i, i < J → 0 ≤ B i ∧ B i ≤ 1000000) (hJ : J ≤ 1000)
    (hT : TS base w W (.slice a L.length cp) L (.slice (some ⟨g, 0, none⟩) J gc) K A B J fa ia en) (hL : L.length ≤ 500000) :
    Calls Tryz.prog 61 #[.pointer (some ⟨W, 0, none⟩), .iface 90 (.slice (some ⟨g, 0, none⟩) J gc)] w fun e w' =>
      ∃ v', (∃ u, e = .returned u) ∧ TS base w' W v' (L ++ ixL K A B J) (.slice (some ⟨g, 0, none⟩) J gc) K A B J fa L.length en ∧ Md W w (.slice a L.length cp) (.slice (some ⟨g, 0, none⟩) J gc) w' v' (.slice (some ⟨g, 0, none⟩) J gc) := by
  obtain ⟨wlt, c0, c1, c2, c3, c4, fz⟩ := hT.at'
  have hne : (Value.slice a L.length cp).ownBlock ≠ some g := fun e => hT.dis g e rfl
  have hX : XAt w g J K A B := by
    have hlt := (hT.idx.lt g rfl).2
    exact ⟨hlt, fun i hi => by rw [show i * 3 = i * 3 + 0 from rfl, hT.idx.cellAt (i * 3 + 0) (by omega), xrows_get K A B J i 0 hi (by omega)]; rfl, fun i hi => by rw [hT.idx.cellAt (i * 3 + 1) (by omega), xrows_get K A B J i 1 hi (by omega)]; rfl, fun i hi => by rw [hT.idx.cellAt (i * 3 + 2) (by omega), xrows_get K A B J i 2 hi (by omega)]; rfl⟩
  have hXd : XAt w.drew g J K A B := hX.grown (grown_of_below (Below.refl _ _).drew none) (by simp)
  have hcall := fun W' cpX h1 h2 h3 h4 => appendIndex_any base a cpX L g J gc K A B W' h1 h2 h3 hK hA hBd hJ hL h4
  have nb7 := nil_index (some ⟨g, 0, none⟩) J gc
  have mb7 := mth_index (some ⟨g, 0, none⟩) J gc
  obtain ⟨M, HM⟩ : ∃ M, Hid (L ++ ixL K A B J = M) := ⟨_, rfl⟩
  go_enter Tryz.func61, Tryz.ntmps61
  go_upto_region 1 with fail
  go_cut [4] from 13 to 24 (fun s4 wx => s4 = .int .i64 (L.length : Nat) ∧ Put1 base W w (.slice a L.length cp) (.slice (some ⟨g, 0, none⟩) J gc) fa ia en M wx)
  case first =>
    go_region_with (first | (go_at_call 199; refine (hcall _ _ (hT.own.keep (Below.refl _ _).drew) hXd hne hbs).mono ?_; rintro e w1 ⟨v1, rfl, o1, gr1, n1⟩; have W1 := hT.at'.drew.grown gr1 hT.nv; rw [HM.out] at o1; obtain ⟨a1, q1, rfl⟩ := o1.form; have W1' := W1; obtain ⟨_, d0, d1, d2, d3, d4, dz⟩ := W1'))
    all_goals
      go_wp2_with fail
      go_meet
      case rel => exact ⟨rfl, w1, a1, q1, rfl, o1, gr1, n1, W1⟩
  case rest =>
    obtain ⟨rfl, w1, a1, q1, rfl, o1, gr1, n1, W1⟩ := hcut
    have T2 := (hT.keep (Below.refl _ _).drew).put o1 gr1 n1
    have D2 := (((Md.refl W w (.slice a L.length cp) (.slice (some ⟨g, 0, none⟩) J gc)).keep (Below.refl _ _).drew).growV gr1 n1).set (j := 0) (.slice a1 M.length q1)
    clear o1 gr1 n1 W1 c0 c1 c2 c3 c4 fz hcall nb7 mb7 hT hX hXd
    generalize w1.setCell ⟨W, 0, none⟩ (.slice a1 M.length q1) = w2 at *
    have T4 := T2.moved (T2.at'.set3 (L.length : Int))
    have D4 := D2.set (j := 3) (.int .i64 (L.length : Int))
    obtain ⟨_, c0, c1, c2, c3, c4, fz⟩ := T2.at'
    have as1 := as_index1 (some ⟨g, 0, none⟩) J gc
    have as2 := as_index2 (some ⟨g, 0, none⟩) J gc
    have as3 := as_index3 (some ⟨g, 0, none⟩) J gc
    have HT4 : Hid (TS base (w2.setCell ⟨W, 3, none⟩ (.int .i64 (L.length : Int))) W (.slice a1 M.length q1) M (.slice (some ⟨g, 0, none⟩) J gc) K A B J fa L.length en) := T4
    clear T2 T4 D2
    go_wp2
    go_end0
    rw [HM.out]
    exact ⟨_, ⟨_, rfl⟩, HT4.out, D4⟩

set_option maxHeartbeats 4000000 in
theorem putEnd_any (base : Nat) (p q r : Int) (Nl : List Int) (hNe : [p, q, r] = Nl) (w : World) (W : Nat) (a : Option Addr) (cp : Nat) (L : List Int) (iv : Value) (K : Nat → ByteArray) (A B : Nat → Int) (J : Nat) (fa ia en : Int)
    (hbs : base ≤ w.heap.size) (hp : 0 ≤ p ∧ p ≤ 4294967295) (hq : 0 ≤ q ∧ q ≤ 4294967295) (hr : 0 ≤ r ∧ r ≤ 4294967295)
    (hT : TS base w W (.slice a L.length cp) L iv K A B J fa ia en) (hL : L.length ≤ 500000) :
    Calls Tryz.prog 61 #[.pointer (some ⟨W, 0, none⟩), .iface 92 (.agg #[.int .i64 p, .int .i64 q, .int .i64 r])] w fun e w' =>
      ∃ v', (∃ u, e = .returned u) ∧ TS base w' W v' (L ++ (fsL Nl ++ pfL (crcL (L ++ fsL Nl)) 4 ++ [84, 66, 76, 49])) iv K A B J fa ia en ∧ Md W w (.slice a L.length cp) iv w' v' iv := by
  obtain ⟨wlt, c0, c1, c2, c3, c4, fz⟩ := hT.at'
  have hcall := fun W' cpX h1 h2 => appendEnd_any base a cpX L p q r Nl hNe W' h1 hp hq hr (by omega) h2
  have nb7 := nil_end p q r
  have mb7 := mth_end p q r
  obtain ⟨M, hM0⟩ : ∃ M, L ++ (fsL Nl ++ pfL (crcL (L ++ fsL Nl)) 4 ++ [84, 66, 76, 49]) = M := ⟨_, rfl⟩
  have HM : Hid (L ++ (fsL Nl ++ pfL (crcL (L ++ fsL Nl)) 4 ++ [84, 66, 76, 49]) = M) := hM0
  clear hM0
  go_enter Tryz.func61, Tryz.ntmps61
  go_upto_region 1 with fail
  go_cut [4] from 13 to 24 (fun s4 wx => s4 = .int .i64 (L.length : Nat) ∧ Put1 base W w (.slice a L.length cp) iv fa ia en M wx)
  case first =>
    go_region_with (first | (go_at_call 200; refine (hcall _ _ (hT.own.keep (Below.refl _ _).drew) hbs).mono ?_; rintro e w1 ⟨v1, rfl, o1, gr1, n1⟩; have W1 := hT.at'.drew.grown gr1 hT.nv; rw [HM.out] at o1; obtain ⟨a1, q1, rfl⟩ := o1.form; have W1' := W1; obtain ⟨_, d0, d1, d2, d3, d4, dz⟩ := W1'))
    all_goals
      go_wp2_with fail
      go_meet
      case rel => exact ⟨rfl, w1, a1, q1, rfl, o1, gr1, n1, W1⟩
  case rest =>
    obtain ⟨rfl, w1, a1, q1, rfl, o1, gr1, n1, W1⟩ := hcut
    have T2 := (hT.keep (Below.refl _ _).drew).put o1 gr1 n1
    have D2 := (((Md.refl W w (.slice a L.length cp) iv).keep (Below.refl _ _).drew).growV gr1 n1).set (j := 0) (.slice a1 M.length q1)
    clear o1 gr1 n1 W1 c0 c1 c2 c3 c4 fz hcall nb7 mb7 hT
    generalize w1.setCell ⟨W, 0, none⟩ (.slice a1 M.length q1) = w2 at *
    have as1 := as_end1 p q r
    have as2 := as_end2 p q r
    have as3 := as_end3 p q r
    have HT4 : Hid (TS base w2 W (.slice a1 M.length q1) M iv K A B J fa ia en) := T2
    clear T2
    go_wp2
    go_end0
    rw [HM.out]
    exact ⟨_, ⟨_, rfl⟩, HT4.out, D2⟩
end Go.Proofs.YtpdgklgjfpkmbaaGreat
