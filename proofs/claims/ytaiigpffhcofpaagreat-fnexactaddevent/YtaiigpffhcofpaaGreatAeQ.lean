/- AddEvent of what is no board, in both texts. / AddEvent of a board, where the windows stay as they are, in the program. / AddEvent in the model: a good board, and what is no event (made by mkaq.py). -/
import Derived.Test.YtaiigpffhcofpaaGreatAeG
namespace Go.Proofs.YtaiigpffhcofpaaGreat
set_option maxRecDepth 100000
open Go.RowKit
set_option linter.unusedSimpArgs false
set_option linter.unusedVariables false

set_option maxRecDepth 100000 in
set_option maxHeartbeats 3200000 in
theorem addEvent_spec_bad (z h mk t v : Int) (ao : Option Addr) (n cap : Nat) (X : Nat → Wn) (x : Wn) (a0 : Option Addr) (c0 : Nat) (w : World) (hr : WiRow w ao n X) (hn : n ≤ 1048576) (hz : WiSize n X) (hG : Hid (¬ GBd z h mk n X)) :
    Calls Tryz.prog 6 #[.agg #[.int .i64 z, .int .i64 h, .int .i64 mk, .slice ao n cap], .agg #[.string x.m, .slice a0 x.tn c0, .int .i64 x.st], .int .i64 t, .int .i64 v] w fun e w' => BAns 0 0 0 0 X 1 w e w' := by
  have hB : ∀ o o' o'', Below w.heap.size w (((w.alloc o).alloc o').alloc o'') := fun o o' o'' => ((below_new w o).alloc (by simp) _).alloc (by simp; omega) _
  go_enter Tryz.func6, Tryz.ntmps6
  go_wp2_with fail
  refine (goodBoard_spec z h mk ao n cap X _ (hr.keep (hB _ _ _)) hn hz).mono ?_
  rintro e w1 ⟨b1, rfl, h1, q1⟩
  have bw : Below w.heap.size w w1 := (hB _ _ _).trans (q1.mono (by simp; omega))
  have d0 := q1.cell (p := ⟨w.heap.size + 1 + 1, 0, none⟩) (by simp)
  have d1 := q1.cell (p := ⟨w.heap.size + 1 + 1, 1, none⟩) (by simp)
  have d2 := q1.cell (p := ⟨w.heap.size + 1 + 1, 2, none⟩) (by simp)
  have d3 := q1.cell (p := ⟨w.heap.size + 1 + 1, 3, none⟩) (by simp)
  have df : ∀ j, w1.frozen? ⟨w.heap.size + 1 + 1, j, none⟩ = false := fun j => (q1.frozen (p := ⟨w.heap.size + 1 + 1, j, none⟩) (by simp)).trans (by simp [go_sem])
  simp [go_sem] at d0 d1 d2 d3
  have e1 : b1 = false := by
    cases b1 with
    | false => rfl
    | true => exact absurd (h1.1 rfl) hG.out
  subst e1
  clear h1 q1 hB
  go_wp2
  refine bodyPost_ret (v := .tuple #[.agg #[.int .i64 0, .int .i64 0, .int .i64 0, .slice none 0 0], .int .i64 1]) (by simp [results, Tryz.results6, go_sem, d0, d1, d2, d3]) rfl ⟨.slice none 0 0, rfl, ⟨Nat.le_refl _, .inl ⟨rfl, _, _, rfl⟩⟩, ?_⟩
  repeat' refine Below.setCell ?_ (by first | (simp; done) | (simp; omega)) _
  exact bw

set_option maxRecDepth 100000 in
set_option maxHeartbeats 3200000 in
theorem addEvent_impl_bad (z h mk t v : Int) (ao : Option Addr) (n cap : Nat) (X : Nat → Wn) (x : Wn) (a0 : Option Addr) (c0 : Nat) (w : World) (hr : WiRow w ao n X) (hn : n ≤ 1048576) (hz : WiSize n X) (hG : Hid (¬ GBd z h mk n X)) :
    Calls Tryz.prog 9 #[.agg #[.int .i64 z, .int .i64 h, .int .i64 mk, .slice ao n cap], .agg #[.string x.m, .slice a0 x.tn c0, .int .i64 x.st], .int .i64 t, .int .i64 v] w fun e w' => BAns 0 0 0 0 X 1 w e w' := by
  have hB : ∀ o o' o'', Below w.heap.size w (((w.alloc o).alloc o').alloc o'') := fun o o' o'' => ((below_new w o).alloc (by simp) _).alloc (by simp; omega) _
  go_enter Tryz.func9, Tryz.ntmps9
  go_wp2_with fail
  refine (openBoard_bad z h mk ao n cap X _ (hr.keep (hB _ _ _)) hn hz hG).mono ?_
  rintro e w1 ⟨rfl, q1⟩
  have bw : Below w.heap.size w w1 := (hB _ _ _).trans (q1.mono (by simp; omega))
  have d0 := q1.cell (p := ⟨w.heap.size + 1 + 1, 0, none⟩) (by simp)
  have d1 := q1.cell (p := ⟨w.heap.size + 1 + 1, 1, none⟩) (by simp)
  have d2 := q1.cell (p := ⟨w.heap.size + 1 + 1, 2, none⟩) (by simp)
  have d3 := q1.cell (p := ⟨w.heap.size + 1 + 1, 3, none⟩) (by simp)
  have df : ∀ j, w1.frozen? ⟨w.heap.size + 1 + 1, j, none⟩ = false := fun j => (q1.frozen (p := ⟨w.heap.size + 1 + 1, j, none⟩) (by simp)).trans (by simp [go_sem])
  simp [go_sem] at d0 d1 d2 d3
  clear q1 hB
  go_wp2
  refine bodyPost_ret (v := .tuple #[.agg #[.int .i64 0, .int .i64 0, .int .i64 0, .slice none 0 0], .int .i64 1]) (by simp [results, Tryz.results9, go_sem, d0, d1, d2, d3]) rfl ⟨.slice none 0 0, rfl, ⟨Nat.le_refl _, .inl ⟨rfl, _, _, rfl⟩⟩, ?_⟩
  repeat' refine Below.setCell ?_ (by first | (simp; done) | (simp; omega)) _
  exact bw
end Go.Proofs.YtaiigpffhcofpaaGreat
namespace Go.Proofs.YtaiigpffhcofpaaGreat
set_option maxRecDepth 100000
open Go.RowKit
set_option linter.unusedSimpArgs false
set_option linter.unusedVariables false

set_option maxRecDepth 100000 in
set_option maxHeartbeats 8000000 in
theorem addEvent_impl_same (z h mk t v c : Int) (ao : Option Addr) (n cap : Nat) (X : Nat → Wn) (x : Wn) (a0 : Option Addr) (c0 : Nat) (w : World) (hr : WiRow w ao n X) (hn : n ≤ 1048576) (hz : WiSize n X) (hG : Hid (GBd z h mk n X)) (rt : TRow w a0 x.tn x.nm x.vl)
    (hcall : ∀ (base p r : Nat) (sv : Value) (V : Nat → Value) (W : World), WSt W base p r z h mk sv n (cln X) V (dS X n) → TRow W a0 x.tn x.nm x.vl → Calls Tryz.prog 29 #[.pointer (some ⟨p, 0, none⟩), .agg #[.string x.m, .slice a0 x.tn c0, .int .i64 x.st], .int .i64 t, .int .i64 v] W fun e w' => CodO c W e w') :
    Calls Tryz.prog 9 #[.agg #[.int .i64 z, .int .i64 h, .int .i64 mk, .slice ao n cap], .agg #[.string x.m, .slice a0 x.tn c0, .int .i64 x.st], .int .i64 t, .int .i64 v] w fun e w' => BAns z h mk n X c w e w' := by
  have hB : ∀ o o' o'', Below w.heap.size w (((w.alloc o).alloc o').alloc o'') := fun o o' o'' => ((below_new w o).alloc (by simp) _).alloc (by simp; omega) _
  have hfX : FBw n (cln X) := hr.fb
  have hgX : Hid (∀ i, i < n → gK (cln X i) = true) := fun i hi => (hG.out.wins.each i hi).key
  go_enter Tryz.func9, Tryz.ntmps9
  go_wp2_with fail
  refine (openBoard_good z h mk ao n cap X _ (hr.keep (hB _ _ _)) hn hz hG).mono ?_
  rintro e w1 ⟨base, p, r, v1, V, rfl, hp, hrr, rfl, HW, q1⟩
  have bw : Below w.heap.size w w1 := (hB _ _ _).trans (q1.mono (by simp; omega))
  have d0 := q1.cell (p := ⟨w.heap.size + 1 + 1, 0, none⟩) (by simp)
  have d1 := q1.cell (p := ⟨w.heap.size + 1 + 1, 1, none⟩) (by simp)
  have d2 := q1.cell (p := ⟨w.heap.size + 1 + 1, 2, none⟩) (by simp)
  have d3 := q1.cell (p := ⟨w.heap.size + 1 + 1, 3, none⟩) (by simp)
  have g0 := q1.cell (p := ⟨w.heap.size + 1, 0, none⟩) (by simp)
  have g1 := q1.cell (p := ⟨w.heap.size + 1, 1, none⟩) (by simp)
  have g2 := q1.cell (p := ⟨w.heap.size + 1, 2, none⟩) (by simp)
  have df : ∀ j, w1.frozen? ⟨w.heap.size + 1 + 1, j, none⟩ = false := fun j => (q1.frozen (p := ⟨w.heap.size + 1 + 1, j, none⟩) (by simp)).trans (by simp [go_sem])
  simp [go_sem] at d0 d1 d2 d3 g0 g1 g2 hp hrr
  have hpl := HW.box.lt
  clear q1 hB
  have hc1 := hcall (p + 1) p r v1 V w1 HW (rt.keep bw)
  clear hcall
  go_wp2_with fail
  refine hc1.mono ?_
  rintro e w2 ⟨rfl, q2⟩
  have HW2 := HW.keep q2
  have bw2 := bw.trans (q2.mono bw.size)
  have tl := tell_any (p + 1) p r z h mk v1 n (cln X) V (dS X n) _ HW2 hfX hgX hn (by have := HW2.box.lt; omega)
  clear hc1
  go_wp2_with fail
  refine tl.mono ?_
  clear tl
  rintro e w3 ⟨v', b, rfl, hb, hA, q3⟩
  obtain ⟨va, vc, rfl⟩ := hA.form
  have hA' := hA.congr (told_back hG.out.wins hb)
  have s3 := q3.size
  have s2 := q2.size
  have y0 := (q2.cell (p := ⟨w.heap.size + 1 + 1, 0, none⟩) (by show w.heap.size + 1 + 1 < _; omega)).trans d0
  have y1 := (q2.cell (p := ⟨w.heap.size + 1 + 1, 1, none⟩) (by show w.heap.size + 1 + 1 < _; omega)).trans d1
  have y2 := (q2.cell (p := ⟨w.heap.size + 1 + 1, 2, none⟩) (by show w.heap.size + 1 + 1 < _; omega)).trans d2
  have y3 := (q2.cell (p := ⟨w.heap.size + 1 + 1, 3, none⟩) (by show w.heap.size + 1 + 1 < _; omega)).trans d3
  have x0 := (q3.cell (p := ⟨w.heap.size + 1 + 1, 0, none⟩) (by show w.heap.size + 1 + 1 < p + 1; omega)).trans y0
  have x1 := (q3.cell (p := ⟨w.heap.size + 1 + 1, 1, none⟩) (by show w.heap.size + 1 + 1 < p + 1; omega)).trans y1
  have x2 := (q3.cell (p := ⟨w.heap.size + 1 + 1, 2, none⟩) (by show w.heap.size + 1 + 1 < p + 1; omega)).trans y2
  have x3 := (q3.cell (p := ⟨w.heap.size + 1 + 1, 3, none⟩) (by show w.heap.size + 1 + 1 < p + 1; omega)).trans y3
  have xf : ∀ j, w3.frozen? ⟨w.heap.size + 1 + 1, j, none⟩ = false := fun j => (q3.frozen (p := ⟨w.heap.size + 1 + 1, j, none⟩) (by show w.heap.size + 1 + 1 < p + 1; omega)).trans ((q2.frozen (p := ⟨w.heap.size + 1 + 1, j, none⟩) (by show w.heap.size + 1 + 1 < _; omega)).trans (df j))
  have bw3 : Below w.heap.size w w3 := bw2.trans (q3.mono (by omega))
  clear q3 q2 hA hb d0 d1 d2 d3 y0 y1 y2 y3 g0 g1 g2 df
  go_wp2
  refine bodyPost_ret (v := .tuple #[.agg #[.int .i64 z, .int .i64 h, .int .i64 mk, .slice va n vc], .int .i64 c]) (by simp [results, Tryz.results9, go_sem, x0, x1, x2, x3]) rfl ⟨.slice va n vc, rfl, ?_, ?_⟩
  · refine BA.mono (hA'.same (by simp) (fun c h1 h2 => ?_)) (by omega) (by simp; omega) (Nat.le_refl _)
    repeat rw [set_blk _ _ _ _ _ (by omega)]
  · repeat' refine Below.setCell ?_ (by first | (simp; done) | (simp; omega)) _
    exact bw3
end Go.Proofs.YtaiigpffhcofpaaGreat
namespace Go.Proofs.YtaiigpffhcofpaaGreat
set_option maxRecDepth 100000
open Go.RowKit
set_option linter.unusedSimpArgs false
set_option linter.unusedVariables false

set_option maxRecDepth 100000 in
set_option maxHeartbeats 8000000 in
theorem addEvent_spec_no (z h mk t v : Int) (ao : Option Addr) (n cap : Nat) (X : Nat → Wn) (x : Wn) (a0 : Option Addr) (c00 : Nat) (w : World) (hr : WiRow w ao n X) (hn : n ≤ 1048576) (hz : WiSize n X) (hG : Hid (GBd z h mk n X)) (rt : TRow w a0 x.tn x.nm x.vl) (hk : KSz x) (hE : Hid (¬ evK x t v)) :
    Calls Tryz.prog 6 #[.agg #[.int .i64 z, .int .i64 h, .int .i64 mk, .slice ao n cap], .agg #[.string x.m, .slice a0 x.tn c00, .int .i64 x.st], .int .i64 t, .int .i64 v] w fun e w' => BAns z h mk n X 1 w e w' := by
  have hB : ∀ o o' o'', Below w.heap.size w (((w.alloc o).alloc o').alloc o'') := fun o o' o'' => ((below_new w o).alloc (by simp) _).alloc (by simp; omega) _
  have hfX := hr.fb
  go_enter Tryz.func6, Tryz.ntmps6
  go_wp2_with fail
  refine (goodBoard_spec z h mk ao n cap X _ (hr.keep (hB _ _ _)) hn hz).mono ?_
  rintro e w1 ⟨b1, rfl, h1, q1⟩
  have bw : Below w.heap.size w w1 := (hB _ _ _).trans (q1.mono (by simp; omega))
  have c0 := q1.cell (p := ⟨w.heap.size, 0, none⟩) (by simp; omega)
  have c1 := q1.cell (p := ⟨w.heap.size, 1, none⟩) (by simp; omega)
  have c2 := q1.cell (p := ⟨w.heap.size, 2, none⟩) (by simp; omega)
  have c3 := q1.cell (p := ⟨w.heap.size, 3, none⟩) (by simp; omega)
  have g0 := q1.cell (p := ⟨w.heap.size + 1, 0, none⟩) (by simp)
  have g1 := q1.cell (p := ⟨w.heap.size + 1, 1, none⟩) (by simp)
  have g2 := q1.cell (p := ⟨w.heap.size + 1, 2, none⟩) (by simp)
  have d0 := q1.cell (p := ⟨w.heap.size + 1 + 1, 0, none⟩) (by simp)
  have d1 := q1.cell (p := ⟨w.heap.size + 1 + 1, 1, none⟩) (by simp)
  have d2 := q1.cell (p := ⟨w.heap.size + 1 + 1, 2, none⟩) (by simp)
  have d3 := q1.cell (p := ⟨w.heap.size + 1 + 1, 3, none⟩) (by simp)
  have cf : ∀ j, w1.frozen? ⟨w.heap.size, j, none⟩ = false := fun j => (q1.frozen (p := ⟨w.heap.size, j, none⟩) (by simp; omega)).trans (by simp [go_sem])
  have df : ∀ j, w1.frozen? ⟨w.heap.size + 1 + 1, j, none⟩ = false := fun j => (q1.frozen (p := ⟨w.heap.size + 1 + 1, j, none⟩) (by simp)).trans (by simp [go_sem])
  simp [go_sem] at c0 c1 c2 c3 g0 g1 g2 d0 d1 d2 d3
  have sz1 : w.heap.size + 3 ≤ w1.heap.size := by have := q1.size; simp at this; omega
  have e1 : b1 = true := h1.2 hG.out
  subst e1
  clear h1 q1 hB
  go_wp2_with fail
  refine (l11Own_any z h mk ao n cap X _ (hr.keep bw) hn hz).mono ?_
  rintro e w2 ⟨v', V, rfl, hO, q2⟩
  have hA := ba_of hO hfX
  obtain ⟨va, vc, rfl⟩ := ownsRow_form hO.own
  have c0 := (q2.cell (p := ⟨w.heap.size, 0, none⟩) (by show w.heap.size < w1.heap.size; omega)).trans c0
  have c1 := (q2.cell (p := ⟨w.heap.size, 1, none⟩) (by show w.heap.size < w1.heap.size; omega)).trans c1
  have c2 := (q2.cell (p := ⟨w.heap.size, 2, none⟩) (by show w.heap.size < w1.heap.size; omega)).trans c2
  have c3 := (q2.cell (p := ⟨w.heap.size, 3, none⟩) (by show w.heap.size < w1.heap.size; omega)).trans c3
  have g0 := (q2.cell (p := ⟨w.heap.size + 1, 0, none⟩) (by show w.heap.size + 1 < w1.heap.size; omega)).trans g0
  have g1 := (q2.cell (p := ⟨w.heap.size + 1, 1, none⟩) (by show w.heap.size + 1 < w1.heap.size; omega)).trans g1
  have g2 := (q2.cell (p := ⟨w.heap.size + 1, 2, none⟩) (by show w.heap.size + 1 < w1.heap.size; omega)).trans g2
  have d0 := (q2.cell (p := ⟨w.heap.size + 1 + 1, 0, none⟩) (by show w.heap.size + 1 + 1 < w1.heap.size; omega)).trans d0
  have d1 := (q2.cell (p := ⟨w.heap.size + 1 + 1, 1, none⟩) (by show w.heap.size + 1 + 1 < w1.heap.size; omega)).trans d1
  have d2 := (q2.cell (p := ⟨w.heap.size + 1 + 1, 2, none⟩) (by show w.heap.size + 1 + 1 < w1.heap.size; omega)).trans d2
  have d3 := (q2.cell (p := ⟨w.heap.size + 1 + 1, 3, none⟩) (by show w.heap.size + 1 + 1 < w1.heap.size; omega)).trans d3
  have cf : ∀ j, w2.frozen? ⟨w.heap.size, j, none⟩ = false := fun j => (q2.frozen (p := ⟨w.heap.size, j, none⟩) (by show w.heap.size < w1.heap.size; omega)).trans (cf j)
  have df : ∀ j, w2.frozen? ⟨w.heap.size + 1 + 1, j, none⟩ = false := fun j => (q2.frozen (p := ⟨w.heap.size + 1 + 1, j, none⟩) (by show w.heap.size + 1 + 1 < w1.heap.size; omega)).trans (df j)
  have bw2 : Below w.heap.size w w2 := bw.trans (q2.mono (by omega))
  have s2 := q2.size
  clear q2 hO
  obtain ⟨w4, hw4⟩ : ∃ u, u = (((w2.setCell ⟨w.heap.size, 0, none⟩ (.int .i64 z)).setCell ⟨w.heap.size, 1, none⟩ (.int .i64 h)).setCell ⟨w.heap.size, 2, none⟩ (.int .i64 mk)).setCell ⟨w.heap.size, 3, none⟩ (.slice va n vc) := ⟨_, rfl⟩
  have oth : Others w.heap.size w2 w4 := by rw [hw4]; exact (((Others.setCell _ _ _ _).trans (Others.setCell _ _ _ _)).trans (Others.setCell _ _ _ _)).trans (Others.setCell _ _ _ _)
  have b0 : w4.cell? ⟨w.heap.size, 0, none⟩ = some (.int .i64 z) := by rw [hw4]; simp [go_sem, c0, c1, c2, c3]
  have b1 : w4.cell? ⟨w.heap.size, 1, none⟩ = some (.int .i64 h) := by rw [hw4]; simp [go_sem, c0, c1, c2, c3]
  have b2 : w4.cell? ⟨w.heap.size, 2, none⟩ = some (.int .i64 mk) := by rw [hw4]; simp [go_sem, c0, c1, c2, c3]
  have b3 : w4.cell? ⟨w.heap.size, 3, none⟩ = some (.slice va n vc) := by rw [hw4]; simp [go_sem, c0, c1, c2, c3]
  have bf : ∀ j, w4.frozen? ⟨w.heap.size, j, none⟩ = false := fun j => by rw [hw4]; simp [go_sem, cf]
  have ol : ∀ j, w4.cell? ⟨w.heap.size + 1 + 1, j, none⟩ = w2.cell? ⟨w.heap.size + 1 + 1, j, none⟩ := fun j => World.cell?_of_block (w := w2) (a := ⟨w.heap.size + 1 + 1, j, none⟩) (oth.block (w.heap.size + 1 + 1) (by omega))
  have om : ∀ j, w4.cell? ⟨w.heap.size + 1, j, none⟩ = w2.cell? ⟨w.heap.size + 1, j, none⟩ := fun j => World.cell?_of_block (w := w2) (a := ⟨w.heap.size + 1, j, none⟩) (oth.block (w.heap.size + 1) (by omega))
  have d0 := (ol 0).trans d0
  have d1 := (ol 1).trans d1
  have d2 := (ol 2).trans d2
  have d3 := (ol 3).trans d3
  have g0 := (om 0).trans g0
  have g1 := (om 1).trans g1
  have g2 := (om 2).trans g2
  have df : ∀ j, w4.frozen? ⟨w.heap.size + 1 + 1, j, none⟩ = false := fun j => (World.frozen?_of_block (w := w2) (a := ⟨w.heap.size + 1 + 1, j, none⟩) (oth.block (w.heap.size + 1 + 1) (by omega))).trans (df j)
  have hA := hA.same (w' := w4) (by rw [oth.size]; exact Nat.le_refl _) (fun c h1 h2 => oth.block c (by omega))
  have bw4 : Below w.heap.size w w4 := bw2.trans (oth.below (Nat.le_refl _))
  have s4 := oth.size
  go_wp2_with fail
  rw [← hw4]
  clear hw4 oth ol om c0 c1 c2 c3 cf bw2
  refine (goodKey_spec x.m x.st a0 x.tn c00 x.nm x.vl _ (rt.keep bw4) hk.m hk.tn hk.ts).mono ?_
  rintro e w5 ⟨rfl, q5⟩
  have s5 := q5.size
  have b0 := (q5.cell (p := ⟨w.heap.size, 0, none⟩) (by show w.heap.size < w4.heap.size; omega)).trans b0
  have b1 := (q5.cell (p := ⟨w.heap.size, 1, none⟩) (by show w.heap.size < w4.heap.size; omega)).trans b1
  have b2 := (q5.cell (p := ⟨w.heap.size, 2, none⟩) (by show w.heap.size < w4.heap.size; omega)).trans b2
  have b3 := (q5.cell (p := ⟨w.heap.size, 3, none⟩) (by show w.heap.size < w4.heap.size; omega)).trans b3
  have g0 := (q5.cell (p := ⟨w.heap.size + 1, 0, none⟩) (by show w.heap.size + 1 < w4.heap.size; omega)).trans g0
  have g1 := (q5.cell (p := ⟨w.heap.size + 1, 1, none⟩) (by show w.heap.size + 1 < w4.heap.size; omega)).trans g1
  have g2 := (q5.cell (p := ⟨w.heap.size + 1, 2, none⟩) (by show w.heap.size + 1 < w4.heap.size; omega)).trans g2
  have d0 := (q5.cell (p := ⟨w.heap.size + 1 + 1, 0, none⟩) (by show w.heap.size + 1 + 1 < w4.heap.size; omega)).trans d0
  have d1 := (q5.cell (p := ⟨w.heap.size + 1 + 1, 1, none⟩) (by show w.heap.size + 1 + 1 < w4.heap.size; omega)).trans d1
  have d2 := (q5.cell (p := ⟨w.heap.size + 1 + 1, 2, none⟩) (by show w.heap.size + 1 + 1 < w4.heap.size; omega)).trans d2
  have d3 := (q5.cell (p := ⟨w.heap.size + 1 + 1, 3, none⟩) (by show w.heap.size + 1 + 1 < w4.heap.size; omega)).trans d3
  have bf : ∀ j, w5.frozen? ⟨w.heap.size, j, none⟩ = false := fun j => (q5.frozen (p := ⟨w.heap.size, j, none⟩) (by show w.heap.size < w4.heap.size; omega)).trans (bf j)
  have df : ∀ j, w5.frozen? ⟨w.heap.size + 1 + 1, j, none⟩ = false := fun j => (q5.frozen (p := ⟨w.heap.size + 1 + 1, j, none⟩) (by show w.heap.size + 1 + 1 < w4.heap.size; omega)).trans (df j)
  have hA := hA.keep q5
  have bw5 := bw4.trans (q5.mono bw4.size)
  clear q5 bw4
  by_cases hgx : goodB x.m x.tn x.nm x.vl x.st = true
  · rw [hgx]
    by_cases hst : x.st = 0
    · rw [hst] at g2
      have HST : Hid (x.st = 0) := hst
      clear hst
      go_wp2_with fail
      refine (l11Time_any t _).mono ?_
      rintro e w6 ⟨rfl, rfl⟩
      by_cases ht : isTm t = true
      · rw [ht]
        go_wp2_with fail
        refine (l4Value_any v _).mono ?_
        rintro e w7 ⟨rfl, rfl⟩
        have hv : isV v = false := by
          cases hh : isV v
          · rfl
          · exact absurd ⟨hh, ht, hgx, HST.out⟩ hE.out
        rw [hv]
        go_wp2
        refine bodyPost_ret (v := .tuple #[.agg #[.int .i64 z, .int .i64 h, .int .i64 mk, .slice va n vc], .int .i64 1]) (by simp [results, Tryz.results6, go_sem, b0, b1, b2, b3, d0, d1, d2, d3]) rfl ⟨.slice va n vc, rfl, ?_, ?_⟩
        · refine BA.mono (hA.same (by simp) (fun c h1 h2 => ?_)) (by omega) (by simp; try omega) (Nat.le_refl _)
          repeat rw [set_blk _ _ _ _ _ (by omega)]
        · repeat' refine Below.setCell ?_ (by first | (simp; done) | (simp; omega)) _
          exact bw5
      · rw [Bool.not_eq_true] at ht
        rw [ht]
        go_wp2
        refine bodyPost_ret (v := .tuple #[.agg #[.int .i64 z, .int .i64 h, .int .i64 mk, .slice va n vc], .int .i64 1]) (by simp [results, Tryz.results6, go_sem, b0, b1, b2, b3, d0, d1, d2, d3]) rfl ⟨.slice va n vc, rfl, ?_, ?_⟩
        · refine BA.mono (hA.same (by simp) (fun c h1 h2 => ?_)) (by omega) (by simp; try omega) (Nat.le_refl _)
          repeat rw [set_blk _ _ _ _ _ (by omega)]
        · repeat' refine Below.setCell ?_ (by first | (simp; done) | (simp; omega)) _
          exact bw5
    · 
      go_wp2
      refine bodyPost_ret (v := .tuple #[.agg #[.int .i64 z, .int .i64 h, .int .i64 mk, .slice va n vc], .int .i64 1]) (by simp [results, Tryz.results6, go_sem, b0, b1, b2, b3, d0, d1, d2, d3]) rfl ⟨.slice va n vc, rfl, ?_, ?_⟩
      · refine BA.mono (hA.same (by simp) (fun c h1 h2 => ?_)) (by omega) (by simp; try omega) (Nat.le_refl _)
        repeat rw [set_blk _ _ _ _ _ (by omega)]
      · repeat' refine Below.setCell ?_ (by first | (simp; done) | (simp; omega)) _
        exact bw5
  · rw [Bool.not_eq_true] at hgx
    rw [hgx]
    go_wp2
    refine bodyPost_ret (v := .tuple #[.agg #[.int .i64 z, .int .i64 h, .int .i64 mk, .slice va n vc], .int .i64 1]) (by simp [results, Tryz.results6, go_sem, b0, b1, b2, b3, d0, d1, d2, d3]) rfl ⟨.slice va n vc, rfl, ?_, ?_⟩
    · refine BA.mono (hA.same (by simp) (fun c h1 h2 => ?_)) (by omega) (by simp; try omega) (Nat.le_refl _)
      repeat rw [set_blk _ _ _ _ _ (by omega)]
    · repeat' refine Below.setCell ?_ (by first | (simp; done) | (simp; omega)) _
      exact bw5
end Go.Proofs.YtaiigpffhcofpaaGreat
