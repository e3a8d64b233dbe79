/- ApplyEdit in the model. -/
import Derived.Test.YtofdhgffnkhdfaaCo9
namespace Go.Proofs.Ytofdhgffnkhdfaa
open Go.RowKit
set_option linter.unusedSimpArgs false
set_option linter.unusedVariables false

set_option maxRecDepth 100000 in
set_option maxHeartbeats 12800000 in
theorem applyEdit_spec (vx vl vs : Int) (ao : Option Addr) (N cap : Nat) (LL : Nat → List Met) (nx lg sq : Int) (da : Option Addr) (cd : Nat) (D : List Int) (aa : Option Addr) (ca : Nat) (A : List Adm) (w : World)
    (hv : VRow w ao N (fun i => mL (LL i)) (fun i => (LL i).length)) (hr : IRow w da D.length (fi D)) (hy : DRow w aa A.length (dL A)) (hN : N ≤ 1048576) (hM : sumM (fun i => (LL i).length) N ≤ 1048576) (hd : D.length ≤ 1048576) (ha : A.length ≤ 1048576) (hvx : -9223372036854775808 ≤ vx ∧ vx ≤ 9223372036854775807) (hcd : D.length ≤ cd) :
    Calls Try.prog 27 #[.agg #[.int .i64 vx, .int .i64 vl, .int .i64 vs, .slice ao N cap], .agg #[.int .i64 nx, .int .i64 lg, .int .i64 sq, .slice da D.length cd, .slice aa A.length ca]] w fun e w' => ApO vx vl vs N LL nx lg sq D A w e w' := by
  have b1 := below_new w (.cells #[.int .i64 vx, .int .i64 vl, .int .i64 vs, .slice ao N cap] 26)
  have A1 := VX.new w vx vl vs ao N cap 26
  go_enter Try.func27, Try.ntmps27
  go_wp2_with fail
  have s1 : (w.alloc (.cells #[.int .i64 vx, .int .i64 vl, .int .i64 vs, .slice ao N cap] 26)).heap.size = w.heap.size + 1 := by simp
  generalize w.alloc (.cells #[.int .i64 vx, .int .i64 vl, .int .i64 vs, .slice ao N cap] 26) = wa at *
  have b2 := below_new wa (.cells #[.int .i64 nx, .int .i64 lg, .int .i64 sq, .slice da D.length cd, .slice aa A.length ca] 45)
  have E2 := EX.new wa nx lg sq (.slice da D.length cd) (.slice aa A.length ca) 45
  have A2 := A1.keep b2
  have bw2 := b1.trans (b2.mono b1.size)
  have s2 : (wa.alloc (.cells #[.int .i64 nx, .int .i64 lg, .int .i64 sq, .slice da D.length cd, .slice aa A.length ca] 45)).heap.size = w.heap.size + 2 := by simp [s1]
  rw [s1] at E2
  clear A1 b1 b2
  generalize wa.alloc (.cells #[.int .i64 nx, .int .i64 lg, .int .i64 sq, .slice da D.length cd, .slice aa A.length ca] 45) = wb at *
  have b3 := below_new wb (.cells #[.int .i64 0, .int .i64 0, .int .i64 0, .slice none 0 0] 26)
  have Z3 := VZ.new wb 0 0 0 none 0 0 26
  have A3 := A2.keep b3
  have E3 := E2.keep b3
  have bw3 := bw2.trans (b3.mono bw2.size)
  have s3 : (wb.alloc (.cells #[.int .i64 0, .int .i64 0, .int .i64 0, .slice none 0 0] 26)).heap.size = w.heap.size + 3 := by simp [s2]
  rw [s2] at Z3
  clear A2 E2 b3 bw2 s1
  generalize wb.alloc (.cells #[.int .i64 0, .int .i64 0, .int .i64 0, .slice none 0 0] 26) = w3 at *
  clear s2
  refine (goodVersion_spec vx vl vs ao N cap _ _ w3 (hv.keep bw3) hN hM hvx).mono ?_
  rintro e w4 ⟨g4, rfl, q4', h4⟩
  have q4 : Hid (g4 = true ↔ GoodVP vx vl vs N (fun i => mL (LL i)) (fun i => (LL i).length)) := q4'
  clear q4'
  have A4 := A3.keep h4
  have E4 := E3.keep h4
  have Z4 := Z3.keep h4
  have bw4 := bw3.trans (h4.mono bw3.size)
  have s4 := h4.size
  clear A3 E3 Z3 h4
  cases g4
  · have HN : Hid (¬ GoodAp vx vl vs N LL nx lg sq D A) := fun h => by have := q4.out.2 h.1; cases this
    obtain ⟨⟨lz, z0, z1, z2, z3⟩, zf⟩ := id Z4
    have f0 := zf 0
    have f1 := zf 1
    have f2 := zf 2
    have f3 := zf 3
    clear zf q4 A4 E4
    go_wp2
    refine bodyPost_ret (v := .tuple #[.agg #[.int .i64 0, .int .i64 0, .int .i64 0, .slice none 0 0], .bool false]) (by simp [results, Try.results27, go_sem, z0, z1, z2, z3]) rfl (.inr ⟨HN.out, rfl, ?_⟩)
    repeat' refine Below.setCell ?_ (by first | (simp; done) | (simp; omega)) _
    exact bw4
  have HG4 : Hid (GoodVP vx vl vs N (fun i => mL (LL i)) (fun i => (LL i).length)) := q4.out.1 rfl
  clear q4
  obtain ⟨lx, x0, x1, x2, x3, x4⟩ := id E4
  go_wp2_with fail
  refine (l9Edit_any nx lg sq da D.length cd (fi D) aa A.length ca (dL A) w4 (hr.keep bw4) (hy.keep bw4) hd ha).mono ?_
  rintro e w5 ⟨g5, rfl, q5', h5⟩
  have q5 : Hid (g5 = true ↔ GoodEd nx lg sq D.length (fi D) A.length (dL A)) := q5'
  clear q5'
  have A5 := A4.keep h5
  have E5 := E4.keep h5
  have Z5 := Z4.keep h5
  have bw5 := bw4.trans (h5.mono bw4.size)
  have s5 := h5.size
  clear A4 E4 Z4 h5 lx x0 x1 x2 x3 x4
  cases g5
  · have HN : Hid (¬ GoodAp vx vl vs N LL nx lg sq D A) := fun h => by have := q5.out.2 h.2.1; cases this
    obtain ⟨⟨lz, z0, z1, z2, z3⟩, zf⟩ := id Z5
    have f0 := zf 0
    have f1 := zf 1
    have f2 := zf 2
    have f3 := zf 3
    clear zf q5 A5 E5
    go_wp2
    refine bodyPost_ret (v := .tuple #[.agg #[.int .i64 0, .int .i64 0, .int .i64 0, .slice none 0 0], .bool false]) (by simp [results, Try.results27, go_sem, z0, z1, z2, z3]) rfl (.inr ⟨HN.out, rfl, ?_⟩)
    repeat' refine Below.setCell ?_ (by first | (simp; done) | (simp; omega)) _
    exact bw5
  have HG5 : Hid (GoodEd nx lg sq D.length (fi D) A.length (dL A)) := q5.out.1 rfl
  clear q5
  have hN3 : N = 3 := HG4.out.few.1
  subst hN3
  obtain ⟨la, a0, a1, a2, a3⟩ := id A5
  obtain ⟨lx, x0, x1, x2, x3, x4⟩ := id E5
  go_wp2_with fail
  refine (l9Apply_any vx vl vs ao cap LL nx lg sq da cd D aa ca A w5 (hv.keep bw5) (hr.keep bw5) (hy.keep bw5) HG4.out HG5.out hcd).mono ?_
  clear A5 E5 la a0 a1 a2 a3 lx x0 x1 x2 x3 x4
  rintro e w6 (⟨hG, go, gc, rfl, hVA, h6⟩ | ⟨hG, v1, v2, v3, vo, vn, vk, rfl, h6⟩)
  · have HY : Hid (GoodAp vx vl vs 3 LL nx lg sq D A) := ⟨HG4.out, HG5.out, hG.1, hG.2.1, hG.2.2.1, hG.2.2.2⟩
    have bn := below_new w6 (.cells #[.int .i64 nx, .int .i64 lg, .int .i64 sq, .slice go 3 gc] 26)
    have Z6 := (Z5.keep h6).keep bn
    have bw6 := (bw5.trans (h6.mono bw5.size)).trans (bn.mono (Nat.le_trans bw5.size h6.size))
    have VA6 := hVA.keep bn
    have s6 := h6.size
    have s7 : w6.heap.size ≤ (w6.alloc (.cells #[.int .i64 nx, .int .i64 lg, .int .i64 sq, .slice go 3 gc] 26)).heap.size := by simp
    obtain ⟨⟨lz, z0, z1, z2, z3⟩, zf⟩ := id Z6
    have f0 := zf 0
    have f1 := zf 1
    have f2 := zf 2
    have f3 := zf 3
    clear zf hG hVA h6 bn Z5
    go_wp2
    refine bodyPost_ret (v := .tuple #[.agg #[.int .i64 nx, .int .i64 lg, .int .i64 sq, .slice go 3 gc], .bool true]) (by simp [results, Try.results27, go_sem, z0, z1, z2, z3]) rfl (.inl ⟨HY.out, go, gc, rfl, ?_, ?_⟩)
    · have hV2 : ∀ W, (w6.alloc (.cells #[.int .i64 nx, .int .i64 lg, .int .i64 sq, .slice go 3 gc] 26)).heap.size = W.heap.size → (∀ c, w5.heap.size ≤ c → W.heap[c]? = (w6.alloc (.cells #[.int .i64 nx, .int .i64 lg, .int .i64 sq, .slice go 3 gc] 26)).heap[c]?) → VA W w.heap.size W.heap.size go 3 (fun i => mL (apL LL D A i)) (fun i => (apL LL D A i).length) := fun W hs hc =>
        (VA6.same (w' := W) (by omega) (fun c h1 _ => hc c h1)).mono (by have := bw5.size; omega) (by omega) (Nat.le_refl _)
      refine hV2 _ (by simp) fun c hc => ?_
      repeat' refine (Below.heap_setCell _ _ _ _ (by first | omega | (dsimp only; omega))).trans ?_
      rfl
    · repeat' refine Below.setCell ?_ (by first | (simp; done) | (simp; omega)) _
      exact bw6
  · have HN : Hid (¬ GoodAp vx vl vs 3 LL nx lg sq D A) := fun h => hG ⟨h.2.2.1, h.2.2.2.1, h.2.2.2.2.1, h.2.2.2.2.2⟩
    have bn := below_new w6 (.cells #[.int .i64 v1, .int .i64 v2, .int .i64 v3, .slice vo vn vk] 26)
    have Z6 := (Z5.keep h6).keep bn
    have bw6 := (bw5.trans (h6.mono bw5.size)).trans (bn.mono (Nat.le_trans bw5.size h6.size))
    obtain ⟨⟨lz, z0, z1, z2, z3⟩, zf⟩ := id Z6
    have f0 := zf 0
    have f1 := zf 1
    have f2 := zf 2
    have f3 := zf 3
    clear zf hG h6 bn Z5
    go_wp2
    refine bodyPost_ret (v := .tuple #[.agg #[.int .i64 0, .int .i64 0, .int .i64 0, .slice none 0 0], .bool false]) (by simp [results, Try.results27, go_sem, z0, z1, z2, z3]) rfl (.inr ⟨HN.out, rfl, ?_⟩)
    repeat' refine Below.setCell ?_ (by first | (simp; done) | (simp; omega)) _
    exact bw6
end Go.Proofs.Ytofdhgffnkhdfaa
