/- AddEvent of a board, where the windows change, in the program (made by mkai.py). -/
import Derived.Test.YtaiigpffhcofpaaGreatAeQ
import Derived.Test.YtaiigpffhcofpaaGreatAeO
import Derived.Test.YtaiigpffhcofpaaGreatAeN
namespace Go.Proofs.YtaiigpffhcofpaaGreat
set_option maxRecDepth 100000
open Go.RowKit
set_option linter.unusedSimpArgs false
set_option linter.unusedVariables false

set_option maxRecDepth 100000 in
set_option maxHeartbeats 8000000 in
theorem addEvent_impl_put (z h mk t v : Int) (ao : Option Addr) (n cap n' : Nat) (X Y' X' : Nat → Wn) (S' : ByteArray → Prop) (x : Wn) (a0 : Option Addr) (c0 : Nat) (w : World) (hr : WiRow w ao n X) (hn : n ≤ 1048576) (hz : WiSize n X) (hG : Hid (GBd z h mk n X)) (rt : TRow w a0 x.tn x.nm x.vl)
    (hcall : ∀ (base p r lo : Nat) (sv : Value) (V : Nat → Value) (W : World), WSt W base p r z h mk sv n (cln X) V (dS X n) → TRow W a0 x.tn x.nm x.vl → lo ≤ p ∧ lo ≤ r ∧ base ≤ W.heap.size → Calls Tryz.prog 29 #[.pointer (some ⟨p, 0, none⟩), .agg #[.string x.m, .slice a0 x.tn c0, .int .i64 x.st], .int .i64 t, .int .i64 v] W fun e w' => AdO base p r lo z h mk n' Y' S' W e w')
    (hg' : Hid (∀ i, i < n' → gK (Y' i) = true)) (hn' : n' ≤ 1048576) (hX : Hid (∀ b : Nat → Bool, (∀ i, i < n' → (b i = true ↔ S' (kS (Y' i)))) → ∀ i, i < n' → tldB Y' b n' i = X' i)) :
    Calls Tryz.prog 9 #[.agg #[.int .i64 z, .int .i64 h, .int .i64 mk, .slice ao n cap], .agg #[.string x.m, .slice a0 x.tn c0, .int .i64 x.st], .int .i64 t, .int .i64 v] w fun e w' => BAns z h mk n' X' 0 w e w' := by
  have hB : ∀ o o' o'', Below w.heap.size w (((w.alloc o).alloc o').alloc o'') := fun o o' o'' => ((below_new w o).alloc (by simp) _).alloc (by simp; omega) _
  go_enter Tryz.func9, Tryz.ntmps9
  go_wp2_with fail
  refine (openBoard_good z h mk ao n cap X _ (hr.keep (hB _ _ _)) hn hz hG).mono ?_
  rintro e w1 ⟨base, p, r, v1, V, rfl, hp, hrr, rfl, HW, q1⟩
  have bw : Below w.heap.size w w1 := (hB _ _ _).trans (q1.mono (by simp; omega))
  have d0 := q1.cell (p := ⟨w.heap.size + 1 + 1, 0, none⟩) (by simp)
  have d1 := q1.cell (p := ⟨w.heap.size + 1 + 1, 1, none⟩) (by simp)
  have d2 := q1.cell (p := ⟨w.heap.size + 1 + 1, 2, none⟩) (by simp)
  have d3 := q1.cell (p := ⟨w.heap.size + 1 + 1, 3, none⟩) (by simp)
  have g0 := q1.cell (p := ⟨w.heap.size + 1, 0, none⟩) (by simp)
  have g1 := q1.cell (p := ⟨w.heap.size + 1, 1, none⟩) (by simp)
  have g2 := q1.cell (p := ⟨w.heap.size + 1, 2, none⟩) (by simp)
  have df : ∀ j, w1.frozen? ⟨w.heap.size + 1 + 1, j, none⟩ = false := fun j => (q1.frozen (p := ⟨w.heap.size + 1 + 1, j, none⟩) (by simp)).trans (by simp [go_sem])
  simp [go_sem] at d0 d1 d2 d3 g0 g1 g2 hp hrr
  have hpl := HW.box.lt
  clear q1 hB
  have hc1 := hcall (p + 1) p r (w.heap.size + 1 + 1 + 1) v1 V w1 HW (rt.keep bw) ⟨by omega, by omega, by omega⟩
  clear hcall
  go_wp2_with fail
  refine hc1.mono ?_
  rintro e w2 ⟨top, v2, rfl, HW2, q2⟩
  have bw2 := bw.trans (q2.mono (by omega))
  have s2 := q2.size
  have tl := tellB_any (p + 1) top p r z h mk v2 n' Y' S' _ HW2 hg' hn' (by omega)
  clear hc1
  go_wp2_with fail
  refine tl.mono ?_
  clear tl
  rintro e w3 ⟨v', b, rfl, hb, hA, _, q3⟩
  obtain ⟨va, vc, rfl⟩ := hA.form
  have hA' := hA.congr (hX.out b hb)
  have htop := hA.1
  have s3 := q3.size
  have y0 := (q2.cell (p := ⟨w.heap.size + 1 + 1, 0, none⟩) (by show w.heap.size + 1 + 1 < w.heap.size + 1 + 1 + 1; omega)).trans d0
  have y1 := (q2.cell (p := ⟨w.heap.size + 1 + 1, 1, none⟩) (by show w.heap.size + 1 + 1 < w.heap.size + 1 + 1 + 1; omega)).trans d1
  have y2 := (q2.cell (p := ⟨w.heap.size + 1 + 1, 2, none⟩) (by show w.heap.size + 1 + 1 < w.heap.size + 1 + 1 + 1; omega)).trans d2
  have y3 := (q2.cell (p := ⟨w.heap.size + 1 + 1, 3, none⟩) (by show w.heap.size + 1 + 1 < w.heap.size + 1 + 1 + 1; omega)).trans d3
  have x0 := (q3.cell (p := ⟨w.heap.size + 1 + 1, 0, none⟩) (by show w.heap.size + 1 + 1 < p + 1; omega)).trans y0
  have x1 := (q3.cell (p := ⟨w.heap.size + 1 + 1, 1, none⟩) (by show w.heap.size + 1 + 1 < p + 1; omega)).trans y1
  have x2 := (q3.cell (p := ⟨w.heap.size + 1 + 1, 2, none⟩) (by show w.heap.size + 1 + 1 < p + 1; omega)).trans y2
  have x3 := (q3.cell (p := ⟨w.heap.size + 1 + 1, 3, none⟩) (by show w.heap.size + 1 + 1 < p + 1; omega)).trans y3
  have xf : ∀ j, w3.frozen? ⟨w.heap.size + 1 + 1, j, none⟩ = false := fun j => (q3.frozen (p := ⟨w.heap.size + 1 + 1, j, none⟩) (by show w.heap.size + 1 + 1 < p + 1; omega)).trans ((q2.frozen (p := ⟨w.heap.size + 1 + 1, j, none⟩) (by show w.heap.size + 1 + 1 < w.heap.size + 1 + 1 + 1; omega)).trans (df j))
  have bw3 : Below w.heap.size w w3 := bw2.trans (q3.mono (by omega))
  clear q3 q2 hA hb d0 d1 d2 d3 y0 y1 y2 y3 g0 g1 g2 df
  go_wp2
  refine bodyPost_ret (v := .tuple #[.agg #[.int .i64 z, .int .i64 h, .int .i64 mk, .slice va n' vc], .int .i64 0]) (by simp [results, Tryz.results9, go_sem, x0, x1, x2, x3]) rfl ⟨.slice va n' vc, rfl, ?_, ?_⟩
  · refine BA.mono (hA'.same (by simp) (fun c h1 h2 => ?_)) (by omega) (by simp; omega) (Nat.le_refl _)
    repeat rw [set_blk _ _ _ _ _ (by omega)]
  · repeat' refine Below.setCell ?_ (by first | (simp; done) | (simp; omega)) _
    exact bw3
end Go.Proofs.YtaiigpffhcofpaaGreat
