/- AddEvent of what is no board, in both texts. / AddEvent of a board, where the windows stay as they are, in the program. / AddEvent in the model: a good board, and what is no event (made by mkaq.py). / AddEvent in the model: a good board, and a late event (made by mkaq.py). / A window put in among windows, in another list. / Told windows: where they lie, measured, copied, compared. (What one holds is told by a window's record, whose last field is not looked at.) / Rows of told windows: measured, copied, compared. -/
import Derived.Test.YtpggmgmdcccmeaaAeG
import Derived.Test.YtpggmgmdcccmeaaIo
import Derived.Test.YtpggmgmdcccmeaaWr
import Derived.Laws.IdiomCopy
import Derived.Deep.RegionHeld3
namespace Go.Proofs.Ytpggmgmdcccmeaa
open Go.RowKit
set_option linter.unusedSimpArgs false
set_option linter.unusedVariables false

set_option maxRecDepth 100000 in
set_option maxHeartbeats 3200000 in
theorem addEvent_spec_bad (z h mk t v : Int) (ao : Option Addr) (n cap : Nat) (X : Nat → Wn) (x : Wn) (a0 : Option Addr) (c0 : Nat) (w : World) (hr : WiRow w ao n X) (hn : n ≤ 1048576) (hz : WiSize n X) (hG : Hid (¬ GBd z h mk n X)) :
    Calls Try.prog 11 #[.agg #[.int .i64 z, .int .i64 h, .int .i64 mk, .slice ao n cap], .agg #[.string x.m, .slice a0 x.tn c0, .int .i64 x.st], .int .i64 t, .int .i64 v] w fun e w' => BAns 0 0 0 0 X 1 w e w' := by
  have hB : ∀ o o' o'', Below w.heap.size w (((w.alloc o).alloc o').alloc o'') := fun o o' o'' => ((below_new w o).alloc (by simp) _).alloc (by simp; omega) _
  go_enter Try.func11, Try.ntmps11
  go_wp2_with fail
  refine (goodBoard_spec z h mk ao n cap X _ (hr.keep (hB _ _ _)) hn hz).mono ?_
  rintro e w1 ⟨b1, rfl, h1, q1⟩
  have bw : Below w.heap.size w w1 := (hB _ _ _).trans (q1.mono (by simp; omega))
  have d0 := q1.cell (p := ⟨w.heap.size + 1 + 1, 0, none⟩) (by simp)
  have d1 := q1.cell (p := ⟨w.heap.size + 1 + 1, 1, none⟩) (by simp)
  have d2 := q1.cell (p := ⟨w.heap.size + 1 + 1, 2, none⟩) (by simp)
  have d3 := q1.cell (p := ⟨w.heap.size + 1 + 1, 3, none⟩) (by simp)
  have df : ∀ j, w1.frozen? ⟨w.heap.size + 1 + 1, j, none⟩ = false := fun j => (q1.frozen (p := ⟨w.heap.size + 1 + 1, j, none⟩) (by simp)).trans (by simp [go_sem])
  simp [go_sem] at d0 d1 d2 d3
  have e1 : b1 = false := by
    cases b1 with
    | false => rfl
    | true => exact absurd (h1.1 rfl) hG.out
  subst e1
  clear h1 q1 hB
  go_wp2
  refine bodyPost_ret (v := .tuple #[.agg #[.int .i64 0, .int .i64 0, .int .i64 0, .slice none 0 0], .int .i64 1]) (by simp [results, Try.results11, go_sem, d0, d1, d2, d3]) rfl ⟨.slice none 0 0, rfl, ⟨Nat.le_refl _, .inl ⟨rfl, _, _, rfl⟩⟩, ?_⟩
  repeat' refine Below.setCell ?_ (by first | (simp; done) | (simp; omega)) _
  exact bw

set_option maxRecDepth 100000 in
set_option maxHeartbeats 3200000 in
theorem addEvent_impl_bad (z h mk t v : Int) (ao : Option Addr) (n cap : Nat) (X : Nat → Wn) (x : Wn) (a0 : Option Addr) (c0 : Nat) (w : World) (hr : WiRow w ao n X) (hn : n ≤ 1048576) (hz : WiSize n X) (hG : Hid (¬ GBd z h mk n X)) :
    Calls Try.prog 10 #[.agg #[.int .i64 z, .int .i64 h, .int .i64 mk, .slice ao n cap], .agg #[.string x.m, .slice a0 x.tn c0, .int .i64 x.st], .int .i64 t, .int .i64 v] w fun e w' => BAns 0 0 0 0 X 1 w e w' := by
  have hB : ∀ o o' o'', Below w.heap.size w (((w.alloc o).alloc o').alloc o'') := fun o o' o'' => ((below_new w o).alloc (by simp) _).alloc (by simp; omega) _
  go_enter Try.func10, Try.ntmps10
  go_wp2_with fail
  refine (openBoard_bad z h mk ao n cap X _ (hr.keep (hB _ _ _)) hn hz hG).mono ?_
  rintro e w1 ⟨rfl, q1⟩
  have bw : Below w.heap.size w w1 := (hB _ _ _).trans (q1.mono (by simp; omega))
  have d0 := q1.cell (p := ⟨w.heap.size + 1 + 1, 0, none⟩) (by simp)
  have d1 := q1.cell (p := ⟨w.heap.size + 1 + 1, 1, none⟩) (by simp)
  have d2 := q1.cell (p := ⟨w.heap.size + 1 + 1, 2, none⟩) (by simp)
  have d3 := q1.cell (p := ⟨w.heap.size + 1 + 1, 3, none⟩) (by simp)
  have df : ∀ j, w1.frozen? ⟨w.heap.size + 1 + 1, j, none⟩ = false := fun j => (q1.frozen (p := ⟨w.heap.size + 1 + 1, j, none⟩) (by simp)).trans (by simp [go_sem])
  simp [go_sem] at d0 d1 d2 d3
  clear q1 hB
  go_wp2
  refine bodyPost_ret (v := .tuple #[.agg #[.int .i64 0, .int .i64 0, .int .i64 0, .slice none 0 0], .int .i64 1]) (by simp [results, Try.results10, go_sem, d0, d1, d2, d3]) rfl ⟨.slice none 0 0, rfl, ⟨Nat.le_refl _, .inl ⟨rfl, _, _, rfl⟩⟩, ?_⟩
  repeat' refine Below.setCell ?_ (by first | (simp; done) | (simp; omega)) _
  exact bw
end Go.Proofs.Ytpggmgmdcccmeaa
namespace Go.Proofs.Ytpggmgmdcccmeaa
open Go.RowKit
set_option linter.unusedSimpArgs false
set_option linter.unusedVariables false

set_option maxRecDepth 100000 in
set_option maxHeartbeats 8000000 in
theorem addEvent_impl_same (z h mk t v c : Int) (ao : Option Addr) (n cap : Nat) (X : Nat → Wn) (x : Wn) (a0 : Option Addr) (c0 : Nat) (w : World) (hr : WiRow w ao n X) (hn : n ≤ 1048576) (hz : WiSize n X) (hG : Hid (GBd z h mk n X)) (rt : TRow w a0 x.tn x.nm x.vl)
    (hcall : ∀ (base p r : Nat) (sv : Value) (V : Nat → Value) (W : World), WSt W base p r z h mk sv n (cln X) V (dS X n) → TRow W a0 x.tn x.nm x.vl → Calls Try.prog 31 #[.pointer (some ⟨p, 0, none⟩), .agg #[.string x.m, .slice a0 x.tn c0, .int .i64 x.st], .int .i64 t, .int .i64 v] W fun e w' => CodO c W e w') :
    Calls Try.prog 10 #[.agg #[.int .i64 z, .int .i64 h, .int .i64 mk, .slice ao n cap], .agg #[.string x.m, .slice a0 x.tn c0, .int .i64 x.st], .int .i64 t, .int .i64 v] w fun e w' => BAns z h mk n X c w e w' := by
  have hB : ∀ o o' o'', Below w.heap.size w (((w.alloc o).alloc o').alloc o'') := fun o o' o'' => ((below_new w o).alloc (by simp) _).alloc (by simp; omega) _
  have hfX : FBw n (cln X) := hr.fb
  have hgX : Hid (∀ i, i < n → gK (cln X i) = true) := fun i hi => (hG.out.wins.each i hi).key
  go_enter Try.func10, Try.ntmps10
  go_wp2_with fail
  refine (openBoard_good z h mk ao n cap X _ (hr.keep (hB _ _ _)) hn hz hG).mono ?_
  rintro e w1 ⟨base, p, r, v1, V, rfl, hp, hrr, rfl, HW, q1⟩
  have bw : Below w.heap.size w w1 := (hB _ _ _).trans (q1.mono (by simp; omega))
  have d0 := q1.cell (p := ⟨w.heap.size + 1 + 1, 0, none⟩) (by simp)
  have d1 := q1.cell (p := ⟨w.heap.size + 1 + 1, 1, none⟩) (by simp)
  have d2 := q1.cell (p := ⟨w.heap.size + 1 + 1, 2, none⟩) (by simp)
  have d3 := q1.cell (p := ⟨w.heap.size + 1 + 1, 3, none⟩) (by simp)
  have g0 := q1.cell (p := ⟨w.heap.size + 1, 0, none⟩) (by simp)
  have g1 := q1.cell (p := ⟨w.heap.size + 1, 1, none⟩) (by simp)
  have g2 := q1.cell (p := ⟨w.heap.size + 1, 2, none⟩) (by simp)
  have df : ∀ j, w1.frozen? ⟨w.heap.size + 1 + 1, j, none⟩ = false := fun j => (q1.frozen (p := ⟨w.heap.size + 1 + 1, j, none⟩) (by simp)).trans (by simp [go_sem])
  simp [go_sem] at d0 d1 d2 d3 g0 g1 g2 hp hrr
  have hpl := HW.box.lt
  clear q1 hB
  have hc1 := hcall (p + 1) p r v1 V w1 HW (rt.keep bw)
  clear hcall
  go_wp2_with fail
  refine hc1.mono ?_
  rintro e w2 ⟨rfl, q2⟩
  have HW2 := HW.keep q2
  have bw2 := bw.trans (q2.mono bw.size)
  have tl := tell_any (p + 1) p r z h mk v1 n (cln X) V (dS X n) _ HW2 hfX hgX hn (by have := HW2.box.lt; omega)
  clear hc1
  go_wp2_with fail
  refine tl.mono ?_
  clear tl
  rintro e w3 ⟨v', b, rfl, hb, hA, q3⟩
  obtain ⟨va, vc, rfl⟩ := hA.form
  have hA' := hA.congr (told_back hG.out.wins hb)
  have s3 := q3.size
  have s2 := q2.size
  have y0 := (q2.cell (p := ⟨w.heap.size + 1 + 1, 0, none⟩) (by show w.heap.size + 1 + 1 < _; omega)).trans d0
  have y1 := (q2.cell (p := ⟨w.heap.size + 1 + 1, 1, none⟩) (by show w.heap.size + 1 + 1 < _; omega)).trans d1
  have y2 := (q2.cell (p := ⟨w.heap.size + 1 + 1, 2, none⟩) (by show w.heap.size + 1 + 1 < _; omega)).trans d2
  have y3 := (q2.cell (p := ⟨w.heap.size + 1 + 1, 3, none⟩) (by show w.heap.size + 1 + 1 < _; omega)).trans d3
  have x0 := (q3.cell (p := ⟨w.heap.size + 1 + 1, 0, none⟩) (by show w.heap.size + 1 + 1 < p + 1; omega)).trans y0
  have x1 := (q3.cell (p := ⟨w.heap.size + 1 + 1, 1, none⟩) (by show w.heap.size + 1 + 1 < p + 1; omega)).trans y1
  have x2 := (q3.cell (p := ⟨w.heap.size + 1 + 1, 2, none⟩) (by show w.heap.size + 1 + 1 < p + 1; omega)).trans y2
  have x3 := (q3.cell (p := ⟨w.heap.size + 1 + 1, 3, none⟩) (by show w.heap.size + 1 + 1 < p + 1; omega)).trans y3
  have xf : ∀ j, w3.frozen? ⟨w.heap.size + 1 + 1, j, none⟩ = false := fun j => (q3.frozen (p := ⟨w.heap.size + 1 + 1, j, none⟩) (by show w.heap.size + 1 + 1 < p + 1; omega)).trans ((q2.frozen (p := ⟨w.heap.size + 1 + 1, j, none⟩) (by show w.heap.size + 1 + 1 < _; omega)).trans (df j))
  have bw3 : Below w.heap.size w w3 := bw2.trans (q3.mono (by omega))
  clear q3 q2 hA hb d0 d1 d2 d3 y0 y1 y2 y3 g0 g1 g2 df
  go_wp2
  refine bodyPost_ret (v := .tuple #[.agg #[.int .i64 z, .int .i64 h, .int .i64 mk, .slice va n vc], .int .i64 c]) (by simp [results, Try.results10, go_sem, x0, x1, x2, x3]) rfl ⟨.slice va n vc, rfl, ?_, ?_⟩
  · refine BA.mono (hA'.same (by simp) (fun c h1 h2 => ?_)) (by omega) (by simp; omega) (Nat.le_refl _)
    repeat rw [set_blk _ _ _ _ _ (by omega)]
  · repeat' refine Below.setCell ?_ (by first | (simp; done) | (simp; omega)) _
    exact bw3
end Go.Proofs.Ytpggmgmdcccmeaa
namespace Go.Proofs.Ytpggmgmdcccmeaa
open Go.RowKit
set_option linter.unusedSimpArgs false
set_option linter.unusedVariables false

set_option maxRecDepth 100000 in
set_option maxHeartbeats 8000000 in
theorem addEvent_spec_no (z h mk t v : Int) (ao : Option Addr) (n cap : Nat) (X : Nat → Wn) (x : Wn) (a0 : Option Addr) (c00 : Nat) (w : World) (hr : WiRow w ao n X) (hn : n ≤ 1048576) (hz : WiSize n X) (hG : Hid (GBd z h mk n X)) (rt : TRow w a0 x.tn x.nm x.vl) (hk : KSz x) (hE : Hid (¬ evK x t v)) :
    Calls Try.prog 11 #[.agg #[.int .i64 z, .int .i64 h, .int .i64 mk, .slice ao n cap], .agg #[.string x.m, .slice a0 x.tn c00, .int .i64 x.st], .int .i64 t, .int .i64 v] w fun e w' => BAns z h mk n X 1 w e w' := by
  have hB : ∀ o o' o'', Below w.heap.size w (((w.alloc o).alloc o').alloc o'') := fun o o' o'' => ((below_new w o).alloc (by simp) _).alloc (by simp; omega) _
  have hfX := hr.fb
  go_enter Try.func11, Try.ntmps11
  go_wp2_with fail
  refine (goodBoard_spec z h mk ao n cap X _ (hr.keep (hB _ _ _)) hn hz).mono ?_
  rintro e w1 ⟨b1, rfl, h1, q1⟩
  have bw : Below w.heap.size w w1 := (hB _ _ _).trans (q1.mono (by simp; omega))
  have c0 := q1.cell (p := ⟨w.heap.size, 0, none⟩) (by simp; omega)
  have c1 := q1.cell (p := ⟨w.heap.size, 1, none⟩) (by simp; omega)
  have c2 := q1.cell (p := ⟨w.heap.size, 2, none⟩) (by simp; omega)
  have c3 := q1.cell (p := ⟨w.heap.size, 3, none⟩) (by simp; omega)
  have g0 := q1.cell (p := ⟨w.heap.size + 1, 0, none⟩) (by simp)
  have g1 := q1.cell (p := ⟨w.heap.size + 1, 1, none⟩) (by simp)
  have g2 := q1.cell (p := ⟨w.heap.size + 1, 2, none⟩) (by simp)
  have d0 := q1.cell (p := ⟨w.heap.size + 1 + 1, 0, none⟩) (by simp)
  have d1 := q1.cell (p := ⟨w.heap.size + 1 + 1, 1, none⟩) (by simp)
  have d2 := q1.cell (p := ⟨w.heap.size + 1 + 1, 2, none⟩) (by simp)
  have d3 := q1.cell (p := ⟨w.heap.size + 1 + 1, 3, none⟩) (by simp)
  have cf : ∀ j, w1.frozen? ⟨w.heap.size, j, none⟩ = false := fun j => (q1.frozen (p := ⟨w.heap.size, j, none⟩) (by simp; omega)).trans (by simp [go_sem])
  have df : ∀ j, w1.frozen? ⟨w.heap.size + 1 + 1, j, none⟩ = false := fun j => (q1.frozen (p := ⟨w.heap.size + 1 + 1, j, none⟩) (by simp)).trans (by simp [go_sem])
  simp [go_sem] at c0 c1 c2 c3 g0 g1 g2 d0 d1 d2 d3
  have sz1 : w.heap.size + 3 ≤ w1.heap.size := by have := q1.size; simp at this; omega
  have e1 : b1 = true := h1.2 hG.out
  subst e1
  clear h1 q1 hB
  go_wp2_with fail
  refine (l11Own_any z h mk ao n cap X _ (hr.keep bw) hn hz).mono ?_
  rintro e w2 ⟨v', V, rfl, hO, q2⟩
  have hA := ba_of hO hfX
  obtain ⟨va, vc, rfl⟩ := ownsRow_form hO.own
  have c0 := (q2.cell (p := ⟨w.heap.size, 0, none⟩) (by show w.heap.size < w1.heap.size; omega)).trans c0
  have c1 := (q2.cell (p := ⟨w.heap.size, 1, none⟩) (by show w.heap.size < w1.heap.size; omega)).trans c1
  have c2 := (q2.cell (p := ⟨w.heap.size, 2, none⟩) (by show w.heap.size < w1.heap.size; omega)).trans c2
  have c3 := (q2.cell (p := ⟨w.heap.size, 3, none⟩) (by show w.heap.size < w1.heap.size; omega)).trans c3
  have g0 := (q2.cell (p := ⟨w.heap.size + 1, 0, none⟩) (by show w.heap.size + 1 < w1.heap.size; omega)).trans g0
  have g1 := (q2.cell (p := ⟨w.heap.size + 1, 1, none⟩) (by show w.heap.size + 1 < w1.heap.size; omega)).trans g1
  have g2 := (q2.cell (p := ⟨w.heap.size + 1, 2, none⟩) (by show w.heap.size + 1 < w1.heap.size; omega)).trans g2
  have d0 := (q2.cell (p := ⟨w.heap.size + 1 + 1, 0, none⟩) (by show w.heap.size + 1 + 1 < w1.heap.size; omega)).trans d0
  have d1 := (q2.cell (p := ⟨w.heap.size + 1 + 1, 1, none⟩) (by show w.heap.size + 1 + 1 < w1.heap.size; omega)).trans d1
  have d2 := (q2.cell (p := ⟨w.heap.size + 1 + 1, 2, none⟩) (by show w.heap.size + 1 + 1 < w1.heap.size; omega)).trans d2
  have d3 := (q2.cell (p := ⟨w.heap.size + 1 + 1, 3, none⟩) (by show w.heap.size + 1 + 1 < w1.heap.size; omega)).trans d3
  have cf : ∀ j, w2.frozen? ⟨w.heap.size, j, none⟩ = false := fun j => (q2.frozen (p := ⟨w.heap.size, j, none⟩) (by show w.heap.size < w1.heap.size; omega)).trans (cf j)
  have df : ∀ j, w2.frozen? ⟨w.heap.size + 1 + 1, j, none⟩ = false := fun j => (q2.frozen (p := ⟨w.heap.size + 1 + 1, j, none⟩) (by show w.heap.size + 1 + 1 < w1.heap.size; omega)).trans (df j)
  have bw2 : Below w.heap.size w w2 := bw.trans (q2.mono (by omega))
  have s2 := q2.size
  clear q2 hO
  obtain ⟨w4, hw4⟩ : ∃ u, u = (((w2.setCell ⟨w.heap.size, 0, none⟩ (.int .i64 z)).setCell ⟨w.heap.size, 1, none⟩ (.int .i64 h)).setCell ⟨w.heap.size, 2, none⟩ (.int .i64 mk)).setCell ⟨w.heap.size, 3, none⟩ (.slice va n vc) := ⟨_, rfl⟩
  have oth : Others w.heap.size w2 w4 := by rw [hw4]; exact (((Others.setCell _ _ _ _).trans (Others.setCell _ _ _ _)).trans (Others.setCell _ _ _ _)).trans (Others.setCell _ _ _ _)
  have b0 : w4.cell? ⟨w.heap.size, 0, none⟩ = some (.int .i64 z) := by rw [hw4]; simp [go_sem, c0, c1, c2, c3]
  have b1 : w4.cell? ⟨w.heap.size, 1, none⟩ = some (.int .i64 h) := by rw [hw4]; simp [go_sem, c0, c1, c2, c3]
  have b2 : w4.cell? ⟨w.heap.size, 2, none⟩ = some (.int .i64 mk) := by rw [hw4]; simp [go_sem, c0, c1, c2, c3]
  have b3 : w4.cell? ⟨w.heap.size, 3, none⟩ = some (.slice va n vc) := by rw [hw4]; simp [go_sem, c0, c1, c2, c3]
  have bf : ∀ j, w4.frozen? ⟨w.heap.size, j, none⟩ = false := fun j => by rw [hw4]; simp [go_sem, cf]
  have ol : ∀ j, w4.cell? ⟨w.heap.size + 1 + 1, j, none⟩ = w2.cell? ⟨w.heap.size + 1 + 1, j, none⟩ := fun j => World.cell?_of_block (w := w2) (a := ⟨w.heap.size + 1 + 1, j, none⟩) (oth.block (w.heap.size + 1 + 1) (by omega))
  have om : ∀ j, w4.cell? ⟨w.heap.size + 1, j, none⟩ = w2.cell? ⟨w.heap.size + 1, j, none⟩ := fun j => World.cell?_of_block (w := w2) (a := ⟨w.heap.size + 1, j, none⟩) (oth.block (w.heap.size + 1) (by omega))
  have d0 := (ol 0).trans d0
  have d1 := (ol 1).trans d1
  have d2 := (ol 2).trans d2
  have d3 := (ol 3).trans d3
  have g0 := (om 0).trans g0
  have g1 := (om 1).trans g1
  have g2 := (om 2).trans g2
  have df : ∀ j, w4.frozen? ⟨w.heap.size + 1 + 1, j, none⟩ = false := fun j => (World.frozen?_of_block (w := w2) (a := ⟨w.heap.size + 1 + 1, j, none⟩) (oth.block (w.heap.size + 1 + 1) (by omega))).trans (df j)
  have hA := hA.same (w' := w4) (by rw [oth.size]; exact Nat.le_refl _) (fun c h1 h2 => oth.block c (by omega))
  have bw4 : Below w.heap.size w w4 := bw2.trans (oth.below (Nat.le_refl _))
  have s4 := oth.size
  go_wp2_with fail
  rw [← hw4]
  clear hw4 oth ol om c0 c1 c2 c3 cf bw2
  refine (goodKey_spec x.m x.st a0 x.tn c00 x.nm x.vl _ (rt.keep bw4) hk.m hk.tn hk.ts).mono ?_
  rintro e w5 ⟨rfl, q5⟩
  have s5 := q5.size
  have b0 := (q5.cell (p := ⟨w.heap.size, 0, none⟩) (by show w.heap.size < w4.heap.size; omega)).trans b0
  have b1 := (q5.cell (p := ⟨w.heap.size, 1, none⟩) (by show w.heap.size < w4.heap.size; omega)).trans b1
  have b2 := (q5.cell (p := ⟨w.heap.size, 2, none⟩) (by show w.heap.size < w4.heap.size; omega)).trans b2
  have b3 := (q5.cell (p := ⟨w.heap.size, 3, none⟩) (by show w.heap.size < w4.heap.size; omega)).trans b3
  have g0 := (q5.cell (p := ⟨w.heap.size + 1, 0, none⟩) (by show w.heap.size + 1 < w4.heap.size; omega)).trans g0
  have g1 := (q5.cell (p := ⟨w.heap.size + 1, 1, none⟩) (by show w.heap.size + 1 < w4.heap.size; omega)).trans g1
  have g2 := (q5.cell (p := ⟨w.heap.size + 1, 2, none⟩) (by show w.heap.size + 1 < w4.heap.size; omega)).trans g2
  have d0 := (q5.cell (p := ⟨w.heap.size + 1 + 1, 0, none⟩) (by show w.heap.size + 1 + 1 < w4.heap.size; omega)).trans d0
  have d1 := (q5.cell (p := ⟨w.heap.size + 1 + 1, 1, none⟩) (by show w.heap.size + 1 + 1 < w4.heap.size; omega)).trans d1
  have d2 := (q5.cell (p := ⟨w.heap.size + 1 + 1, 2, none⟩) (by show w.heap.size + 1 + 1 < w4.heap.size; omega)).trans d2
  have d3 := (q5.cell (p := ⟨w.heap.size + 1 + 1, 3, none⟩) (by show w.heap.size + 1 + 1 < w4.heap.size; omega)).trans d3
  have bf : ∀ j, w5.frozen? ⟨w.heap.size, j, none⟩ = false := fun j => (q5.frozen (p := ⟨w.heap.size, j, none⟩) (by show w.heap.size < w4.heap.size; omega)).trans (bf j)
  have df : ∀ j, w5.frozen? ⟨w.heap.size + 1 + 1, j, none⟩ = false := fun j => (q5.frozen (p := ⟨w.heap.size + 1 + 1, j, none⟩) (by show w.heap.size + 1 + 1 < w4.heap.size; omega)).trans (df j)
  have hA := hA.keep q5
  have bw5 := bw4.trans (q5.mono bw4.size)
  clear q5 bw4
  by_cases hgx : goodB x.m x.tn x.nm x.vl x.st = true
  · rw [hgx]
    by_cases hst : x.st = 0
    · rw [hst] at g2
      have HST : Hid (x.st = 0) := hst
      clear hst
      go_wp2_with fail
      refine (l11Time_any t _).mono ?_
      rintro e w6 ⟨rfl, rfl⟩
      by_cases ht : isTm t = true
      · rw [ht]
        go_wp2_with fail
        refine (l4Value_any v _).mono ?_
        rintro e w7 ⟨rfl, rfl⟩
        have hv : isV v = false := by
          cases hh : isV v
          · rfl
          · exact absurd ⟨hh, ht, hgx, HST.out⟩ hE.out
        rw [hv]
        go_wp2
        refine bodyPost_ret (v := .tuple #[.agg #[.int .i64 z, .int .i64 h, .int .i64 mk, .slice va n vc], .int .i64 1]) (by simp [results, Try.results11, go_sem, b0, b1, b2, b3, d0, d1, d2, d3]) rfl ⟨.slice va n vc, rfl, ?_, ?_⟩
        · refine BA.mono (hA.same (by simp) (fun c h1 h2 => ?_)) (by omega) (by simp; try omega) (Nat.le_refl _)
          repeat rw [set_blk _ _ _ _ _ (by omega)]
        · repeat' refine Below.setCell ?_ (by first | (simp; done) | (simp; omega)) _
          exact bw5
      · rw [Bool.not_eq_true] at ht
        rw [ht]
        go_wp2
        refine bodyPost_ret (v := .tuple #[.agg #[.int .i64 z, .int .i64 h, .int .i64 mk, .slice va n vc], .int .i64 1]) (by simp [results, Try.results11, go_sem, b0, b1, b2, b3, d0, d1, d2, d3]) rfl ⟨.slice va n vc, rfl, ?_, ?_⟩
        · refine BA.mono (hA.same (by simp) (fun c h1 h2 => ?_)) (by omega) (by simp; try omega) (Nat.le_refl _)
          repeat rw [set_blk _ _ _ _ _ (by omega)]
        · repeat' refine Below.setCell ?_ (by first | (simp; done) | (simp; omega)) _
          exact bw5
    · 
      go_wp2
      refine bodyPost_ret (v := .tuple #[.agg #[.int .i64 z, .int .i64 h, .int .i64 mk, .slice va n vc], .int .i64 1]) (by simp [results, Try.results11, go_sem, b0, b1, b2, b3, d0, d1, d2, d3]) rfl ⟨.slice va n vc, rfl, ?_, ?_⟩
      · refine BA.mono (hA.same (by simp) (fun c h1 h2 => ?_)) (by omega) (by simp; try omega) (Nat.le_refl _)
        repeat rw [set_blk _ _ _ _ _ (by omega)]
      · repeat' refine Below.setCell ?_ (by first | (simp; done) | (simp; omega)) _
        exact bw5
  · rw [Bool.not_eq_true] at hgx
    rw [hgx]
    go_wp2
    refine bodyPost_ret (v := .tuple #[.agg #[.int .i64 z, .int .i64 h, .int .i64 mk, .slice va n vc], .int .i64 1]) (by simp [results, Try.results11, go_sem, b0, b1, b2, b3, d0, d1, d2, d3]) rfl ⟨.slice va n vc, rfl, ?_, ?_⟩
    · refine BA.mono (hA.same (by simp) (fun c h1 h2 => ?_)) (by omega) (by simp; try omega) (Nat.le_refl _)
      repeat rw [set_blk _ _ _ _ _ (by omega)]
    · repeat' refine Below.setCell ?_ (by first | (simp; done) | (simp; omega)) _
      exact bw5
end Go.Proofs.Ytpggmgmdcccmeaa
namespace Go.Proofs.Ytpggmgmdcccmeaa
open Go.RowKit
set_option linter.unusedSimpArgs false
set_option linter.unusedVariables false

set_option maxRecDepth 100000 in
set_option maxHeartbeats 8000000 in
theorem addEvent_spec_late (z h mk t v : Int) (ao : Option Addr) (n cap : Nat) (X : Nat → Wn) (x : Wn) (a0 : Option Addr) (c00 : Nat) (w : World) (hr : WiRow w ao n X) (hn : n ≤ 1048576) (hz : WiSize n X) (hG : Hid (GBd z h mk n X)) (rt : TRow w a0 x.tn x.nm x.vl) (hk : KSz x) (hE : Hid (evK x t v)) (hmh : -9223372036854775808 ≤ mk - h ∧ mk - h ≤ 9223372036854775807) (hl : t < mk - h) :
    Calls Try.prog 11 #[.agg #[.int .i64 z, .int .i64 h, .int .i64 mk, .slice ao n cap], .agg #[.string x.m, .slice a0 x.tn c00, .int .i64 x.st], .int .i64 t, .int .i64 v] w fun e w' => BAns z h mk n X 2 w e w' := by
  have hw : IntKind.i64.wrap (mk - h) = mk - h := by rw [IntKind.wrap_i64] <;> omega
  have hB : ∀ o o' o'', Below w.heap.size w (((w.alloc o).alloc o').alloc o'') := fun o o' o'' => ((below_new w o).alloc (by simp) _).alloc (by simp; omega) _
  have hfX := hr.fb
  go_enter Try.func11, Try.ntmps11
  go_wp2_with fail
  refine (goodBoard_spec z h mk ao n cap X _ (hr.keep (hB _ _ _)) hn hz).mono ?_
  rintro e w1 ⟨b1, rfl, h1, q1⟩
  have bw : Below w.heap.size w w1 := (hB _ _ _).trans (q1.mono (by simp; omega))
  have c0 := q1.cell (p := ⟨w.heap.size, 0, none⟩) (by simp; omega)
  have c1 := q1.cell (p := ⟨w.heap.size, 1, none⟩) (by simp; omega)
  have c2 := q1.cell (p := ⟨w.heap.size, 2, none⟩) (by simp; omega)
  have c3 := q1.cell (p := ⟨w.heap.size, 3, none⟩) (by simp; omega)
  have g0 := q1.cell (p := ⟨w.heap.size + 1, 0, none⟩) (by simp)
  have g1 := q1.cell (p := ⟨w.heap.size + 1, 1, none⟩) (by simp)
  have g2 := q1.cell (p := ⟨w.heap.size + 1, 2, none⟩) (by simp)
  have d0 := q1.cell (p := ⟨w.heap.size + 1 + 1, 0, none⟩) (by simp)
  have d1 := q1.cell (p := ⟨w.heap.size + 1 + 1, 1, none⟩) (by simp)
  have d2 := q1.cell (p := ⟨w.heap.size + 1 + 1, 2, none⟩) (by simp)
  have d3 := q1.cell (p := ⟨w.heap.size + 1 + 1, 3, none⟩) (by simp)
  have cf : ∀ j, w1.frozen? ⟨w.heap.size, j, none⟩ = false := fun j => (q1.frozen (p := ⟨w.heap.size, j, none⟩) (by simp; omega)).trans (by simp [go_sem])
  have df : ∀ j, w1.frozen? ⟨w.heap.size + 1 + 1, j, none⟩ = false := fun j => (q1.frozen (p := ⟨w.heap.size + 1 + 1, j, none⟩) (by simp)).trans (by simp [go_sem])
  simp [go_sem] at c0 c1 c2 c3 g0 g1 g2 d0 d1 d2 d3
  have sz1 : w.heap.size + 3 ≤ w1.heap.size := by have := q1.size; simp at this; omega
  have e1 : b1 = true := h1.2 hG.out
  subst e1
  clear h1 q1 hB
  go_wp2_with fail
  refine (l11Own_any z h mk ao n cap X _ (hr.keep bw) hn hz).mono ?_
  rintro e w2 ⟨v', V, rfl, hO, q2⟩
  have hA := ba_of hO hfX
  obtain ⟨va, vc, rfl⟩ := ownsRow_form hO.own
  have c0 := (q2.cell (p := ⟨w.heap.size, 0, none⟩) (by show w.heap.size < w1.heap.size; omega)).trans c0
  have c1 := (q2.cell (p := ⟨w.heap.size, 1, none⟩) (by show w.heap.size < w1.heap.size; omega)).trans c1
  have c2 := (q2.cell (p := ⟨w.heap.size, 2, none⟩) (by show w.heap.size < w1.heap.size; omega)).trans c2
  have c3 := (q2.cell (p := ⟨w.heap.size, 3, none⟩) (by show w.heap.size < w1.heap.size; omega)).trans c3
  have g0 := (q2.cell (p := ⟨w.heap.size + 1, 0, none⟩) (by show w.heap.size + 1 < w1.heap.size; omega)).trans g0
  have g1 := (q2.cell (p := ⟨w.heap.size + 1, 1, none⟩) (by show w.heap.size + 1 < w1.heap.size; omega)).trans g1
  have g2 := (q2.cell (p := ⟨w.heap.size + 1, 2, none⟩) (by show w.heap.size + 1 < w1.heap.size; omega)).trans g2
  have d0 := (q2.cell (p := ⟨w.heap.size + 1 + 1, 0, none⟩) (by show w.heap.size + 1 + 1 < w1.heap.size; omega)).trans d0
  have d1 := (q2.cell (p := ⟨w.heap.size + 1 + 1, 1, none⟩) (by show w.heap.size + 1 + 1 < w1.heap.size; omega)).trans d1
  have d2 := (q2.cell (p := ⟨w.heap.size + 1 + 1, 2, none⟩) (by show w.heap.size + 1 + 1 < w1.heap.size; omega)).trans d2
  have d3 := (q2.cell (p := ⟨w.heap.size + 1 + 1, 3, none⟩) (by show w.heap.size + 1 + 1 < w1.heap.size; omega)).trans d3
  have cf : ∀ j, w2.frozen? ⟨w.heap.size, j, none⟩ = false := fun j => (q2.frozen (p := ⟨w.heap.size, j, none⟩) (by show w.heap.size < w1.heap.size; omega)).trans (cf j)
  have df : ∀ j, w2.frozen? ⟨w.heap.size + 1 + 1, j, none⟩ = false := fun j => (q2.frozen (p := ⟨w.heap.size + 1 + 1, j, none⟩) (by show w.heap.size + 1 + 1 < w1.heap.size; omega)).trans (df j)
  have bw2 : Below w.heap.size w w2 := bw.trans (q2.mono (by omega))
  have s2 := q2.size
  clear q2 hO
  obtain ⟨w4, hw4⟩ : ∃ u, u = (((w2.setCell ⟨w.heap.size, 0, none⟩ (.int .i64 z)).setCell ⟨w.heap.size, 1, none⟩ (.int .i64 h)).setCell ⟨w.heap.size, 2, none⟩ (.int .i64 mk)).setCell ⟨w.heap.size, 3, none⟩ (.slice va n vc) := ⟨_, rfl⟩
  have oth : Others w.heap.size w2 w4 := by rw [hw4]; exact (((Others.setCell _ _ _ _).trans (Others.setCell _ _ _ _)).trans (Others.setCell _ _ _ _)).trans (Others.setCell _ _ _ _)
  have b0 : w4.cell? ⟨w.heap.size, 0, none⟩ = some (.int .i64 z) := by rw [hw4]; simp [go_sem, c0, c1, c2, c3]
  have b1 : w4.cell? ⟨w.heap.size, 1, none⟩ = some (.int .i64 h) := by rw [hw4]; simp [go_sem, c0, c1, c2, c3]
  have b2 : w4.cell? ⟨w.heap.size, 2, none⟩ = some (.int .i64 mk) := by rw [hw4]; simp [go_sem, c0, c1, c2, c3]
  have b3 : w4.cell? ⟨w.heap.size, 3, none⟩ = some (.slice va n vc) := by rw [hw4]; simp [go_sem, c0, c1, c2, c3]
  have bf : ∀ j, w4.frozen? ⟨w.heap.size, j, none⟩ = false := fun j => by rw [hw4]; simp [go_sem, cf]
  have ol : ∀ j, w4.cell? ⟨w.heap.size + 1 + 1, j, none⟩ = w2.cell? ⟨w.heap.size + 1 + 1, j, none⟩ := fun j => World.cell?_of_block (w := w2) (a := ⟨w.heap.size + 1 + 1, j, none⟩) (oth.block (w.heap.size + 1 + 1) (by omega))
  have om : ∀ j, w4.cell? ⟨w.heap.size + 1, j, none⟩ = w2.cell? ⟨w.heap.size + 1, j, none⟩ := fun j => World.cell?_of_block (w := w2) (a := ⟨w.heap.size + 1, j, none⟩) (oth.block (w.heap.size + 1) (by omega))
  have d0 := (ol 0).trans d0
  have d1 := (ol 1).trans d1
  have d2 := (ol 2).trans d2
  have d3 := (ol 3).trans d3
  have g0 := (om 0).trans g0
  have g1 := (om 1).trans g1
  have g2 := (om 2).trans g2
  have df : ∀ j, w4.frozen? ⟨w.heap.size + 1 + 1, j, none⟩ = false := fun j => (World.frozen?_of_block (w := w2) (a := ⟨w.heap.size + 1 + 1, j, none⟩) (oth.block (w.heap.size + 1 + 1) (by omega))).trans (df j)
  have hA := hA.same (w' := w4) (by rw [oth.size]; exact Nat.le_refl _) (fun c h1 h2 => oth.block c (by omega))
  have bw4 : Below w.heap.size w w4 := bw2.trans (oth.below (Nat.le_refl _))
  have s4 := oth.size
  go_wp2_with fail
  rw [← hw4]
  clear hw4 oth ol om c0 c1 c2 c3 cf bw2
  refine (goodKey_spec x.m x.st a0 x.tn c00 x.nm x.vl _ (rt.keep bw4) hk.m hk.tn hk.ts).mono ?_
  rintro e w5 ⟨rfl, q5⟩
  have s5 := q5.size
  have b0 := (q5.cell (p := ⟨w.heap.size, 0, none⟩) (by show w.heap.size < w4.heap.size; omega)).trans b0
  have b1 := (q5.cell (p := ⟨w.heap.size, 1, none⟩) (by show w.heap.size < w4.heap.size; omega)).trans b1
  have b2 := (q5.cell (p := ⟨w.heap.size, 2, none⟩) (by show w.heap.size < w4.heap.size; omega)).trans b2
  have b3 := (q5.cell (p := ⟨w.heap.size, 3, none⟩) (by show w.heap.size < w4.heap.size; omega)).trans b3
  have g0 := (q5.cell (p := ⟨w.heap.size + 1, 0, none⟩) (by show w.heap.size + 1 < w4.heap.size; omega)).trans g0
  have g1 := (q5.cell (p := ⟨w.heap.size + 1, 1, none⟩) (by show w.heap.size + 1 < w4.heap.size; omega)).trans g1
  have g2 := (q5.cell (p := ⟨w.heap.size + 1, 2, none⟩) (by show w.heap.size + 1 < w4.heap.size; omega)).trans g2
  have d0 := (q5.cell (p := ⟨w.heap.size + 1 + 1, 0, none⟩) (by show w.heap.size + 1 + 1 < w4.heap.size; omega)).trans d0
  have d1 := (q5.cell (p := ⟨w.heap.size + 1 + 1, 1, none⟩) (by show w.heap.size + 1 + 1 < w4.heap.size; omega)).trans d1
  have d2 := (q5.cell (p := ⟨w.heap.size + 1 + 1, 2, none⟩) (by show w.heap.size + 1 + 1 < w4.heap.size; omega)).trans d2
  have d3 := (q5.cell (p := ⟨w.heap.size + 1 + 1, 3, none⟩) (by show w.heap.size + 1 + 1 < w4.heap.size; omega)).trans d3
  have bf : ∀ j, w5.frozen? ⟨w.heap.size, j, none⟩ = false := fun j => (q5.frozen (p := ⟨w.heap.size, j, none⟩) (by show w.heap.size < w4.heap.size; omega)).trans (bf j)
  have df : ∀ j, w5.frozen? ⟨w.heap.size + 1 + 1, j, none⟩ = false := fun j => (q5.frozen (p := ⟨w.heap.size + 1 + 1, j, none⟩) (by show w.heap.size + 1 + 1 < w4.heap.size; omega)).trans (df j)
  have hA := hA.keep q5
  have bw5 := bw4.trans (q5.mono bw4.size)
  clear q5 bw4
  obtain ⟨hv, ht, hgx, hst⟩ := hE.out
  have hgx' : goodB x.m x.tn x.nm x.vl x.st = true := hgx
  rw [hgx']
  rw [hst] at g2
  have HST : Hid (x.st = 0) := hst
  clear hst hgx hgx'
  go_wp2_with fail
  refine (l11Time_any t _).mono ?_
  rintro e w6 ⟨rfl, rfl⟩
  rw [ht]
  go_wp2_with fail
  refine (l4Value_any v _).mono ?_
  rintro e w7 ⟨rfl, rfl⟩
  rw [hv]
  go_wp2
  refine bodyPost_ret (v := .tuple #[.agg #[.int .i64 z, .int .i64 h, .int .i64 mk, .slice va n vc], .int .i64 2]) (by simp [results, Try.results11, go_sem, b0, b1, b2, b3, d0, d1, d2, d3]) rfl ⟨.slice va n vc, rfl, ?_, ?_⟩
  · refine BA.mono (hA.same (by simp) (fun c h1 h2 => ?_)) (by omega) (by simp; try omega) (Nat.le_refl _)
    repeat rw [set_blk _ _ _ _ _ (by omega)]
  · repeat' refine Below.setCell ?_ (by first | (simp; done) | (simp; omega)) _
    exact bw5
end Go.Proofs.Ytpggmgmdcccmeaa
namespace Go.Proofs.Ytpggmgmdcccmeaa
open Go.RowKit
set_option linter.unusedSimpArgs false
set_option linter.unusedVariables false

set_option maxHeartbeats 1600000 in
/-- Windows with one put in, in another list. -/
theorem OutW.ins2 {w : World} {base : Nat} {so : Option Addr} {sc n i : Nat} {v' h0 h1 : Value} {X : Nat → Wn} {V : Nat → Value} {x : Wn} (h : OutW w base (.slice so n sc) n X V) (hx0 : TV w base h0 x) (hx1 : HV w base h1 x)
    (hd0 : ∀ k, h0.ownBlock = some k → (Value.slice so n sc).ownBlock ≠ some k ∧ ∀ p, p < n * 2 → (V p).ownBlock ≠ some k) (hd1 : ∀ k, h1.ownBlock = some k → (Value.slice so n sc).ownBlock ≠ some k ∧ (∀ p, p < n * 2 → (V p).ownBlock ≠ some k) ∧ h0.ownBlock ≠ some k) (hi : i ≤ n)
    (hown : w.ownsRow base 39 11 v' (n + 1) (((List.range n).flatMap fun j => wcells (X j) (V (j * 2 + 0)) (V (j * 2 + 1))).take (i * 11) ++ (wcells x h0 h1 ++ ((List.range n).flatMap fun j => wcells (X j) (V (j * 2 + 0)) (V (j * 2 + 1))).drop (i * 11))))
    (hap : ∀ k, v'.ownBlock = some k → (∀ p, p < n * 2 → (V p).ownBlock ≠ some k) ∧ h0.ownBlock ≠ some k ∧ h1.ownBlock ≠ some k) : OutW w base v' (n + 1) (inX X i x) (inV V i h0 h1) := by
  have far : ∀ (u : Value) (e' s' m' : Nat) (ys : List Value), w.ownsRow base e' s' u m' ys → (∀ k, u.ownBlock = some k → (Value.slice so n sc).ownBlock ≠ some k) → w.ownsRow base e' s' u m' ys ∧ True := fun u e' s' m' ys hu _ => ⟨hu, trivial⟩
  have k0 : ∀ j, j < n → ∀ k, (V (j * 2 + 0)).ownBlock = some k → (Value.slice so n sc).ownBlock ≠ some k := fun j hj k hk => h.apart _ (by omega) k hk
  have k1 : ∀ j, j < n → ∀ k, (V (j * 2 + 1)).ownBlock = some k → (Value.slice so n sc).ownBlock ≠ some k := fun j hj k hk => h.apart _ (by omega) k hk
  refine ⟨?_, fun j hj => ?_, fun j hj => ?_, fun p p' hp hp' hne k hk => ?_, fun p hp k hk => ?_⟩
  · have e := flat_in 11 (fun j => wcells (X j) (V (j * 2 + 0)) (V (j * 2 + 1))) (wcells x h0 h1) (fun j => rfl) i n hi
    rw [← e] at hown
    have e2 : ((List.range (n + 1)).flatMap fun j => wcells (inX X i x j) (inV V i h0 h1 (j * 2 + 0)) (inV V i h0 h1 (j * 2 + 1))) = ((List.range (n + 1)).flatMap fun j => if j < i then wcells (X j) (V (j * 2 + 0)) (V (j * 2 + 1)) else if j = i then wcells x h0 h1 else wcells (X (j - 1)) (V ((j - 1) * 2 + 0)) (V ((j - 1) * 2 + 1))) := by
      unfold List.flatMap
      congr 1
      refine List.map_congr_left fun j hj => ?_
      rw [inV0, inV1]
      unfold inX
      by_cases h1 : j < i
      · simp only [h1, if_true]
      · by_cases h2 : j = i
        · simp only [h1, h2, if_true, if_false]
          simp
        · simp only [h1, h2, if_false]
    rw [e2]
    exact hown
  · rw [inV0]
    unfold inX
    by_cases h1' : j < i
    · rw [if_pos h1', if_pos h1']; exact (far _ _ _ _ _ (h.r0 j (by omega)) (k0 j (by omega))).1
    · by_cases h2' : j = i
      · rw [if_neg h1', if_pos h2', if_neg h1', if_pos h2']; exact (far _ _ _ _ _ hx0 (fun k hk => (hd0 k hk).1)).1
      · rw [if_neg h1', if_neg h2', if_neg h1', if_neg h2']; exact (far _ _ _ _ _ (h.r0 (j - 1) (by omega)) (k0 (j - 1) (by omega))).1
  · rw [inV1]
    unfold inX
    by_cases h1' : j < i
    · rw [if_pos h1', if_pos h1']; exact (far _ _ _ _ _ (h.r1 j (by omega)) (k1 j (by omega))).1
    · by_cases h2' : j = i
      · rw [if_neg h1', if_pos h2', if_neg h1', if_pos h2']; exact (far _ _ _ _ _ hx1 (fun k hk => (hd1 k hk).1)).1
      · rw [if_neg h1', if_neg h2', if_neg h1', if_neg h2']; exact (far _ _ _ _ _ (h.r1 (j - 1) (by omega)) (k1 (j - 1) (by omega))).1
  · have key : ∀ p, p < (n + 1) * 2 → (∃ q, q < n * 2 ∧ inV V i h0 h1 p = V q ∧ (p < i * 2 ∧ q = p ∨ i * 2 + 2 ≤ p ∧ q + 2 = p)) ∨ (p = i * 2 ∧ inV V i h0 h1 p = h0) ∨ (p = i * 2 + 1 ∧ inV V i h0 h1 p = h1) := fun p hp => by
      unfold inV
      by_cases q1 : p < i * 2
      · exact .inl ⟨p, by omega, by rw [if_pos q1], .inl ⟨q1, rfl⟩⟩
      · by_cases q2 : p = i * 2
        · exact .inr (.inl ⟨q2, by rw [if_neg q1, if_pos q2]⟩)
        · by_cases q3 : p = i * 2 + 1
          · exact .inr (.inr ⟨q3, by rw [if_neg q1, if_neg q2, if_pos q3]⟩)
          · exact .inl ⟨p - 2, by omega, by rw [if_neg q1, if_neg q2, if_neg q3], .inr ⟨by omega, by omega⟩⟩
    rcases key p hp with ⟨q, hq, e2, hq2⟩ | ⟨e3, e2⟩ | ⟨e3, e2⟩ <;> rcases key p' hp' with ⟨q', hq', e2', hq2'⟩ | ⟨e3', e2'⟩ | ⟨e3', e2'⟩ <;> rw [e2] at hk <;> rw [e2']
    · exact h.dis q q' hq hq' (by omega) k hk
    · intro hh; exact (hd0 k hh).2 q hq hk
    · intro hh; exact (hd1 k hh).2.1 q hq hk
    · exact (hd0 k hk).2 q' hq'
    · omega
    · intro hh; exact (hd1 k hh).2.2 hk
    · exact (hd1 k hk).2.1 q' hq'
    · exact (hd1 k hk).2.2
    · omega
  · intro hv
    obtain ⟨a1, a2, a3⟩ := hap k hv
    unfold inV at hk
    split at hk
    · exact a1 p (by omega) hk
    · split at hk
      · exact a2 hk
      · split at hk
        · exact a3 hk
        · exact a1 (p - 2) (by omega) hk
end Go.Proofs.Ytpggmgmdcccmeaa
namespace Go.Proofs.Ytpggmgmdcccmeaa
open Go.RowKit
set_option linter.unusedSimpArgs false
set_option linter.unusedVariables false

/-- A told one in the ten cells from off on. -/
structure ToAt (w : World) (b off : Nat) (x : Wn) (a0 a1 : Option Addr) (k0 k1 : Nat) : Prop where
  lt : b < w.heap.size
  c0 : w.cell? ⟨b, off, none⟩ = some (.string x.m)
  c1 : w.cell? ⟨b, off + 1, none⟩ = some (.slice a0 x.tn k0)
  c2 : w.cell? ⟨b, off + 2, none⟩ = some (.int .i64 x.st)
  c3 : w.cell? ⟨b, off + 3, none⟩ = some (.int .i64 x.ver)
  c4 : w.cell? ⟨b, off + 4, none⟩ = some (.int .i64 x.c)
  c5 : w.cell? ⟨b, off + 5, none⟩ = some (.int .i64 x.s)
  c6 : w.cell? ⟨b, off + 6, none⟩ = some (.int .i64 x.lo)
  c7 : w.cell? ⟨b, off + 7, none⟩ = some (.int .i64 x.hi)
  c8 : w.cell? ⟨b, off + 8, none⟩ = some (.slice a1 x.n k1)
  c9 : w.cell? ⟨b, off + 9, none⟩ = some (.bool x.fu)
section
variable {w w' : World} {b off k0 k1 : Nat} {x : Wn} {a0 a1 : Option Addr}
theorem ToAt.move (h : ToAt w b off x a0 a1 k0 k1) (lt : b < w'.heap.size) (k : ∀ j, w'.cell? ⟨b, j, none⟩ = w.cell? ⟨b, j, none⟩) : ToAt w' b off x a0 a1 k0 k1 :=
  ⟨lt, (k _).trans h.c0, (k _).trans h.c1, (k _).trans h.c2, (k _).trans h.c3, (k _).trans h.c4, (k _).trans h.c5, (k _).trans h.c6, (k _).trans h.c7, (k _).trans h.c8, (k _).trans h.c9⟩
theorem ToAt.keep (h : ToAt w b off x a0 a1 k0 k1) (hb : Below w.heap.size w w') : ToAt w' b off x a0 a1 k0 k1 :=
  h.move (Nat.lt_of_lt_of_le h.lt hb.size) fun j => hb.cell (p := ⟨b, j, none⟩) h.lt
theorem ToAt.others {d : Nat} (h : ToAt w b off x a0 a1 k0 k1) (ho : Others d w w') (hne : b ≠ d) : ToAt w' b off x a0 a1 k0 k1 :=
  h.move (by rw [ho.size]; exact h.lt) fun j => World.cell?_of_block (w := w) (a := ⟨b, j, none⟩) (ho.block b hne)
end
theorem ToAt.new (w : World) (x : Wn) (a0 a1 : Option Addr) (k0 k1 : Nat) (T : Nat) : ToAt (w.alloc (.cells #[.string x.m, .slice a0 x.tn k0, .int .i64 x.st, .int .i64 x.ver, .int .i64 x.c, .int .i64 x.s, .int .i64 x.lo, .int .i64 x.hi, .slice a1 x.n k1, .bool x.fu] T)) w.heap.size 0 x a0 a1 k0 k1 := by
  refine ⟨by simp, ?_, ?_, ?_, ?_, ?_, ?_, ?_, ?_, ?_, ?_⟩ <;> simp [go_sem]

/-- What its type says of a told window. -/
def TlB (x : Wn) : Prop := WiB x
/-- One that is no greater than what is measured. -/
def ToS (x : Wn) : Prop := WiS x

end Go.Proofs.Ytpggmgmdcccmeaa
namespace Go.Proofs.Ytpggmgmdcccmeaa
open Go.RowKit
set_option linter.unusedSimpArgs false
set_option linter.unusedVariables false

theorem Try.infoTo : (Try.prog.info? 37).map (fun i => (i.zero, i.size, i.bytes)) = some (some (.agg #[.string ByteArray.empty, .slice none 0 0, .int .i64 0, .int .i64 0, .int .i64 0, .int .i64 0, .int .i64 0, .int .i64 0, .slice none 0 0, .bool false]), 10, 120) := by kernel_rfl

/-- n of them lie at ao. -/
structure ToRow (w : World) (ao : Option Addr) (n : Nat) (X : Nat → Wn) : Prop where
  bd : ∀ i, i < n → TlB (X i)
  lies : n = 0 ∨ ∃ b off, ao = some ⟨b, off, none⟩ ∧ b < w.heap.size ∧ ∀ i, i < n → ∃ a0 a1 c0 c1, ToAt w b (off + i * 10) (X i) a0 a1 c0 c1 ∧ TRow w a0 (X i).tn (X i).nm (X i).vl ∧ IRow w a1 (X i).n (X i).f
theorem ToRow.keep {w w' : World} {ao : Option Addr} {n : Nat} {X : Nat → Wn} (h : ToRow w ao n X) (hb : Below w.heap.size w w') : ToRow w' ao n X :=
  ⟨h.bd, h.lies.elim .inl fun ⟨b, off, e, hlt, hc⟩ => .inr ⟨b, off, e, Nat.lt_of_lt_of_le hlt hb.size, fun i hi => by obtain ⟨a0, a1, c0, c1, h1, r0, r1⟩ := hc i hi; exact ⟨a0, a1, c0, c1, h1.keep hb, r0.keep hb, r1.keep hb⟩⟩⟩

/-- Each is no greater than what is measured. -/
def ToSize (n : Nat) (X : Nat → Wn) : Prop := ∀ i, i < n → ToS (X i)

/-- n of the call's own in block b, the first k of them laid, their lists in blocks of their own. -/
structure ToOwn (w : World) (b n k : Nat) (X : Nat → Wn) (G0 G1 : Nat → Nat) : Prop where
  lt : b < w.heap.size
  ent : ∀ i, i < k → ToAt w b (i * 10) (X i) (some ⟨G0 i, 0, none⟩) (some ⟨G1 i, 0, none⟩) (X i).tn (X i).n
  data : ∀ i, i < k → b < G0 i ∧ TOwn w (G0 i) (X i).tn (X i).tn (X i).nm (X i).vl ∧ IOwn w (G1 i) 0 (X i).n (X i).f ∧ G0 i < G1 i
  mono : ∀ i j, i < j → j < k → G1 i < G0 j
  there : ∀ j, j < n * 10 → (w.cell? ⟨b, j, none⟩).isSome = true
  free : ∀ j, j < n * 10 → w.frozen? ⟨b, j, none⟩ = false
section
variable {w w' : World} {b n k : Nat} {X : Nat → Wn} {G0 G1 : Nat → Nat}
theorem ToOwn.row (h : ToOwn w b n n X G0 G1) (hbd : ∀ i, i < n → TlB (X i)) : ToRow w (some ⟨b, 0, none⟩) n X :=
  ⟨hbd, .inr ⟨b, 0, rfl, h.lt, fun i hi => ⟨_, _, _, _, by rw [Nat.zero_add]; exact h.ent i hi, (h.data i hi).2.1.row, (h.data i hi).2.2.1.row⟩⟩⟩
theorem ToOwn.keep (h : ToOwn w b n k X G0 G1) (hb : Below w.heap.size w w') : ToOwn w' b n k X G0 G1 :=
  ⟨Nat.lt_of_lt_of_le h.lt hb.size, fun i hi => (h.ent i hi).keep hb, fun i hi => by
      obtain ⟨h0, o0, o1, m0⟩ := h.data i hi
      exact ⟨h0, o0.keep hb, o1.keep hb, m0⟩, h.mono,
    fun j hj => by rw [hb.cell (p := ⟨b, j, none⟩) h.lt]; exact h.there j hj, fun j hj => (hb.frozen (p := ⟨b, j, none⟩) h.lt).trans (h.free j hj)⟩
end

set_option maxRecDepth 10000 in
set_option maxHeartbeats 800000 in
theorem ToOwn.store {w : World} {b n k : Nat} {X : Nat → Wn} {G0 G1 : Nat → Nat} (h : ToOwn w b n k X G0 G1) (hk : k < n) {g0 g1 : Nat} (ho0 : TOwn w g0 (X k).tn (X k).tn (X k).nm (X k).vl) (ho1 : IOwn w g1 0 (X k).n (X k).f) (hg : b < g0) (hg0 : g0 < g1) (hm : ∀ i, i < k → G1 i < g0) :
    ToOwn (w.setCells b (k * 10) [.string (X k).m, .slice (some ⟨g0, 0, none⟩) (X k).tn (X k).tn, .int .i64 (X k).st, .int .i64 (X k).ver, .int .i64 (X k).c, .int .i64 (X k).s, .int .i64 (X k).lo, .int .i64 (X k).hi, .slice (some ⟨g1, 0, none⟩) (X k).n (X k).n, .bool (X k).fu]) b n (k + 1) X (fun i => if i = k then g0 else G0 i) (fun i => if i = k then g1 else G1 i) := by
  generalize hL : ([.string (X k).m, .slice (some ⟨g0, 0, none⟩) (X k).tn (X k).tn, .int .i64 (X k).st, .int .i64 (X k).ver, .int .i64 (X k).c, .int .i64 (X k).s, .int .i64 (X k).lo, .int .i64 (X k).hi, .slice (some ⟨g1, 0, none⟩) (X k).n (X k).n, .bool (X k).fu] : List Value) = L
  have hlen : L.length = 10 := by rw [← hL]; rfl
  have hoth := setCells_others b L (k * 10) w
  have hin := World.cell?_setCells_in b L (k * 10) w (fun j hj => h.there _ (by omega))
  have hout : ∀ j, j < k * 10 ∨ k * 10 + 10 ≤ j → (w.setCells b (k * 10) L).cell? ⟨b, j, none⟩ = w.cell? ⟨b, j, none⟩ := fun j hj => World.cell?_setCells_out b L (k * 10) w ⟨b, j, none⟩ (fun _ _ => by simp only [hlen]; exact hj)
  have hlt : b < (w.setCells b (k * 10) L).heap.size := by rw [hoth.size]; exact h.lt
  refine ⟨hlt, fun i hi => ?_, fun i hi => ?_, fun i j hij hj => ?_, fun j hj => ?_, fun j hj => by rw [World.frozen?_setCells]; exact h.free j hj⟩
  · by_cases e : i = k
    · subst e
      simp only [if_true]
      subst hL
      exact ⟨hlt, hin 0 (by simp), hin 1 (by simp), hin 2 (by simp), hin 3 (by simp), hin 4 (by simp), hin 5 (by simp), hin 6 (by simp), hin 7 (by simp), hin 8 (by simp), hin 9 (by simp)⟩
    · simp only [e, if_false]
      have h0 := h.ent i (by omega)
      have c : ∀ q, q < 10 → (w.setCells b (k * 10) L).cell? ⟨b, i * 10 + q, none⟩ = w.cell? ⟨b, i * 10 + q, none⟩ := fun q hq => hout _ (by omega)
      exact ⟨hlt, (c 0 (by omega)).trans h0.c0, (c 1 (by omega)).trans h0.c1, (c 2 (by omega)).trans h0.c2, (c 3 (by omega)).trans h0.c3, (c 4 (by omega)).trans h0.c4, (c 5 (by omega)).trans h0.c5, (c 6 (by omega)).trans h0.c6, (c 7 (by omega)).trans h0.c7, (c 8 (by omega)).trans h0.c8, (c 9 (by omega)).trans h0.c9⟩
  · by_cases e : i = k
    · subst e
      simp only [if_true]
      exact ⟨hg, ho0.others hoth (by omega), hoth.irow ho1 (by omega), hg0⟩
    · simp only [e, if_false]
      obtain ⟨h0, o0, o1, m0⟩ := h.data i (by omega)
      exact ⟨h0, o0.others hoth (by omega), hoth.irow o1 (by omega), m0⟩
  · by_cases e : j = k
    · subst e
      simp only [if_true, show ¬ i = j by omega, if_false]
      exact hm i hij
    · simp only [e, show ¬ i = k by omega, if_false]
      exact h.mono i j hij (by omega)
  · by_cases hj2 : j < k * 10 ∨ k * 10 + 10 ≤ j
    · rw [hout j hj2]; exact h.there j hj
    · obtain ⟨q, rfl⟩ : ∃ q, j = k * 10 + q := ⟨j - k * 10, by omega⟩
      rw [hin q (by omega)]
      rfl

end Go.Proofs.Ytpggmgmdcccmeaa
