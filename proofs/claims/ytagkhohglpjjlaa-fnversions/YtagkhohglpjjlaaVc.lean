/- ApplyEdit in the model. / A version at work. -/
import Derived.Test.YtagkhohglpjjlaaCo9
import Derived.Test.YtagkhohglpjjlaaVb
import Derived.Test.YtagkhohglpjjlaaAb
namespace Go.Proofs.Ytagkhohglpjjlaa
open Go.RowKit
set_option linter.unusedSimpArgs false
set_option linter.unusedVariables false

/-- What ApplyEdit leaves, in the model. -/
def ApS (vx vl vs : Int) (N : Nat) (LL : Nat → List Met) (nx lg sq : Int) (D : List Int) (A : List Adm) (w : World) (e : Ending) (w' : World) : Prop :=
  (GoodAp vx vl vs N LL nx lg sq D A ∧ ∃ ao c, e = .returned (.tuple #[.agg #[.int .i64 nx, .int .i64 lg, .int .i64 sq, .slice ao N c], .bool true]) ∧ N = 3 ∧ 3 ≤ c ∧ LvA w' w.heap.size ao (apL LL D A) ∧ Below w.heap.size w w') ∨
  (¬ GoodAp vx vl vs N LL nx lg sq D A ∧ e = .returned (.tuple #[.agg #[.int .i64 0, .int .i64 0, .int .i64 0, .slice none 0 0], .bool false]) ∧ Below w.heap.size w w')

set_option maxRecDepth 100000 in
set_option maxHeartbeats 12800000 in
theorem applyEdit_spec (vx vl vs : Int) (ao : Option Addr) (N cap : Nat) (LL : Nat → List Met) (nx lg sq : Int) (da : Option Addr) (cd : Nat) (D : List Int) (aa : Option Addr) (ca : Nat) (A : List Adm) (w : World)
    (hv : VRow w ao N (fun i => mL (LL i)) (fun i => (LL i).length)) (hr : IRow w da D.length (fi D)) (hy : DRow w aa A.length (dL A)) (hN : N ≤ 1048576) (hM : sumM (fun i => (LL i).length) N ≤ 1048576) (hd : D.length ≤ 1048576) (ha : A.length ≤ 1048576) (hvx : -9223372036854775808 ≤ vx ∧ vx ≤ 9223372036854775807) (hcd : D.length ≤ cd) :
    Calls Try.prog 6 #[.agg #[.int .i64 vx, .int .i64 vl, .int .i64 vs, .slice ao N cap], .agg #[.int .i64 nx, .int .i64 lg, .int .i64 sq, .slice da D.length cd, .slice aa A.length ca]] w fun e w' => ApS vx vl vs N LL nx lg sq D A w e w' := by
  have b1 := below_new w (.cells #[.int .i64 vx, .int .i64 vl, .int .i64 vs, .slice ao N cap] 25)
  have A1 := VX.new w vx vl vs ao N cap 25
  go_enter Try.func6, Try.ntmps6
  go_wp2_with fail
  have s1 : (w.alloc (.cells #[.int .i64 vx, .int .i64 vl, .int .i64 vs, .slice ao N cap] 25)).heap.size = w.heap.size + 1 := by simp
  generalize w.alloc (.cells #[.int .i64 vx, .int .i64 vl, .int .i64 vs, .slice ao N cap] 25) = wa at *
  have b2 := below_new wa (.cells #[.int .i64 nx, .int .i64 lg, .int .i64 sq, .slice da D.length cd, .slice aa A.length ca] 29)
  have E2 := EX.new wa nx lg sq (.slice da D.length cd) (.slice aa A.length ca) 29
  have A2 := A1.keep b2
  have bw2 := b1.trans (b2.mono b1.size)
  have s2 : (wa.alloc (.cells #[.int .i64 nx, .int .i64 lg, .int .i64 sq, .slice da D.length cd, .slice aa A.length ca] 29)).heap.size = w.heap.size + 2 := by simp [s1]
  rw [s1] at E2
  clear A1 b1 b2
  generalize wa.alloc (.cells #[.int .i64 nx, .int .i64 lg, .int .i64 sq, .slice da D.length cd, .slice aa A.length ca] 29) = wb at *
  have b3 := below_new wb (.cells #[.int .i64 0, .int .i64 0, .int .i64 0, .slice none 0 0] 25)
  have Z3 := VZ.new wb 0 0 0 none 0 0 25
  have A3 := A2.keep b3
  have E3 := E2.keep b3
  have bw3 := bw2.trans (b3.mono bw2.size)
  have s3 : (wb.alloc (.cells #[.int .i64 0, .int .i64 0, .int .i64 0, .slice none 0 0] 25)).heap.size = w.heap.size + 3 := by simp [s2]
  rw [s2] at Z3
  clear A2 E2 b3 bw2 s1
  generalize wb.alloc (.cells #[.int .i64 0, .int .i64 0, .int .i64 0, .slice none 0 0] 25) = w3 at *
  clear s2
  refine (goodVersion_spec vx vl vs ao N cap _ _ w3 (hv.keep bw3) hN hM hvx).mono ?_
  rintro e w4 ⟨g4, rfl, q4', h4⟩
  have q4 : Hid (g4 = true ↔ GoodVP vx vl vs N (fun i => mL (LL i)) (fun i => (LL i).length)) := q4'
  clear q4'
  have A4 := A3.keep h4
  have E4 := E3.keep h4
  have Z4 := Z3.keep h4
  have bw4 := bw3.trans (h4.mono bw3.size)
  have s4 := h4.size
  clear A3 E3 Z3 h4
  cases g4
  · have HN : Hid (¬ GoodAp vx vl vs N LL nx lg sq D A) := fun h => by have := q4.out.2 h.1; cases this
    obtain ⟨⟨lz, z0, z1, z2, z3⟩, zf⟩ := id Z4
    have f0 := zf 0
    have f1 := zf 1
    have f2 := zf 2
    have f3 := zf 3
    clear zf q4 A4 E4
    go_wp2
    refine bodyPost_ret (v := .tuple #[.agg #[.int .i64 0, .int .i64 0, .int .i64 0, .slice none 0 0], .bool false]) (by simp [results, Try.results6, go_sem, z0, z1, z2, z3]) rfl (.inr ⟨HN.out, rfl, ?_⟩)
    repeat' refine Below.setCell ?_ (by first | (simp; done) | (simp; omega)) _
    exact bw4
  have HG4 : Hid (GoodVP vx vl vs N (fun i => mL (LL i)) (fun i => (LL i).length)) := q4.out.1 rfl
  clear q4
  obtain ⟨lx, x0, x1, x2, x3, x4⟩ := id E4
  go_wp2_with fail
  refine (l9Edit_any nx lg sq da D.length cd (fi D) aa A.length ca (dL A) w4 (hr.keep bw4) (hy.keep bw4) hd ha).mono ?_
  rintro e w5 ⟨g5, rfl, q5', h5⟩
  have q5 : Hid (g5 = true ↔ GoodEd nx lg sq D.length (fi D) A.length (dL A)) := q5'
  clear q5'
  have A5 := A4.keep h5
  have E5 := E4.keep h5
  have Z5 := Z4.keep h5
  have bw5 := bw4.trans (h5.mono bw4.size)
  have s5 := h5.size
  clear A4 E4 Z4 h5 lx x0 x1 x2 x3 x4
  cases g5
  · have HN : Hid (¬ GoodAp vx vl vs N LL nx lg sq D A) := fun h => by have := q5.out.2 h.2.1; cases this
    obtain ⟨⟨lz, z0, z1, z2, z3⟩, zf⟩ := id Z5
    have f0 := zf 0
    have f1 := zf 1
    have f2 := zf 2
    have f3 := zf 3
    clear zf q5 A5 E5
    go_wp2
    refine bodyPost_ret (v := .tuple #[.agg #[.int .i64 0, .int .i64 0, .int .i64 0, .slice none 0 0], .bool false]) (by simp [results, Try.results6, go_sem, z0, z1, z2, z3]) rfl (.inr ⟨HN.out, rfl, ?_⟩)
    repeat' refine Below.setCell ?_ (by first | (simp; done) | (simp; omega)) _
    exact bw5
  have HG5 : Hid (GoodEd nx lg sq D.length (fi D) A.length (dL A)) := q5.out.1 rfl
  clear q5
  have hN3 : N = 3 := HG4.out.few.1
  subst hN3
  obtain ⟨la, a0, a1, a2, a3⟩ := id A5
  obtain ⟨lx, x0, x1, x2, x3, x4⟩ := id E5
  go_wp2_with fail
  refine (l9Apply_any vx vl vs ao cap LL nx lg sq da cd D aa ca A w5 (hv.keep bw5) (hr.keep bw5) (hy.keep bw5) HG4.out HG5.out hcd).mono ?_
  clear A5 E5 la a0 a1 a2 a3 lx x0 x1 x2 x3 x4
  rintro e w6 (⟨hG, go, gc, rfl, hgc, hVA, h6⟩ | ⟨hG, v1, v2, v3, vo, vn, vk, rfl, h6⟩)
  · have HY : Hid (GoodAp vx vl vs 3 LL nx lg sq D A) := ⟨HG4.out, HG5.out, hG.1, hG.2.1, hG.2.2.1, hG.2.2.2⟩
    have bn := below_new w6 (.cells #[.int .i64 nx, .int .i64 lg, .int .i64 sq, .slice go 3 gc] 25)
    have Z6 := (Z5.keep h6).keep bn
    have bw6 := (bw5.trans (h6.mono bw5.size)).trans (bn.mono (Nat.le_trans bw5.size h6.size))
    have VA6 : LvA (w6.alloc (.cells #[.int .i64 nx, .int .i64 lg, .int .i64 sq, .slice go 3 gc] 25)) w5.heap.size go (apL LL D A) := by
      obtain ⟨g, V, e, L⟩ := hVA
      exact ⟨g, V, e, L.same2 bn.size (fun c _ hc => bn.block c hc)⟩
    have s6 := h6.size
    have s7 : w6.heap.size ≤ (w6.alloc (.cells #[.int .i64 nx, .int .i64 lg, .int .i64 sq, .slice go 3 gc] 25)).heap.size := by simp
    obtain ⟨⟨lz, z0, z1, z2, z3⟩, zf⟩ := id Z6
    have f0 := zf 0
    have f1 := zf 1
    have f2 := zf 2
    have f3 := zf 3
    clear zf hG hVA h6 bn Z5
    go_wp2
    refine bodyPost_ret (v := .tuple #[.agg #[.int .i64 nx, .int .i64 lg, .int .i64 sq, .slice go 3 gc], .bool true]) (by simp [results, Try.results6, go_sem, z0, z1, z2, z3]) rfl (.inl ⟨HY.out, go, gc, rfl, rfl, hgc, ?_, ?_⟩)
    · have hV2 : ∀ W, (w6.alloc (.cells #[.int .i64 nx, .int .i64 lg, .int .i64 sq, .slice go 3 gc] 25)).heap.size = W.heap.size → (∀ c, w5.heap.size ≤ c → W.heap[c]? = (w6.alloc (.cells #[.int .i64 nx, .int .i64 lg, .int .i64 sq, .slice go 3 gc] 25)).heap[c]?) → LvA W w.heap.size go (apL LL D A) := fun W hs hc => by
        obtain ⟨g, V, e, L⟩ := VA6
        exact ⟨g, V, e, (L.same2 (W := W) (by omega) (fun c h1 _ => hc c h1)).mono2 (by have := bw5.size; omega)⟩
      refine hV2 _ (by simp) fun c hc => ?_
      repeat' refine (Below.heap_setCell _ _ _ _ (by first | omega | (dsimp only; omega))).trans ?_
      rfl
    · repeat' refine Below.setCell ?_ (by first | (simp; done) | (simp; omega)) _
      exact bw6
  · have HN : Hid (¬ GoodAp vx vl vs 3 LL nx lg sq D A) := fun h => hG ⟨h.2.2.1, h.2.2.2.1, h.2.2.2.2.1, h.2.2.2.2.2⟩
    have bn := below_new w6 (.cells #[.int .i64 v1, .int .i64 v2, .int .i64 v3, .slice vo vn vk] 25)
    have Z6 := (Z5.keep h6).keep bn
    have bw6 := (bw5.trans (h6.mono bw5.size)).trans (bn.mono (Nat.le_trans bw5.size h6.size))
    obtain ⟨⟨lz, z0, z1, z2, z3⟩, zf⟩ := id Z6
    have f0 := zf 0
    have f1 := zf 1
    have f2 := zf 2
    have f3 := zf 3
    clear zf hG h6 bn Z5
    go_wp2
    refine bodyPost_ret (v := .tuple #[.agg #[.int .i64 0, .int .i64 0, .int .i64 0, .slice none 0 0], .bool false]) (by simp [results, Try.results6, go_sem, z0, z1, z2, z3]) rfl (.inr ⟨HN.out, rfl, ?_⟩)
    repeat' refine Below.setCell ?_ (by first | (simp; done) | (simp; omega)) _
    exact bw6
end Go.Proofs.Ytagkhohglpjjlaa
namespace Go.Proofs.Ytagkhohglpjjlaa
open Go.RowKit
set_option linter.unusedSimpArgs false
set_option linter.unusedVariables false

theorem lv_first {w : World} {g base : Nat} (h : VO w g 3 3 noR noM (fun _ => none) (fun _ => 0)) (hb : base ≤ g) : Lv w base g 3 (fun _ => .slice none 0 0) (fun _ => []) :=
  ⟨h.lt, hb, fun i hi => h.cell i hi, fun i hi => ownM_nil _ _, (fun i hi e => by cases e), (fun i j hi hj hij c e => by cases e), h.free⟩
set_option maxRecDepth 10000 in
set_option maxHeartbeats 800000 in
theorem l9First_lv (w : World) : Calls Try.prog 30 #[] w fun e w' => ∃ g, e = .returned (.agg #[.int .i64 2, .int .i64 1, .int .i64 0, .slice (some ⟨g, 0, none⟩) 3 3]) ∧ Lv w' w.heap.size g 3 (fun _ => .slice none 0 0) (fun _ => []) ∧ Below w.heap.size w w' := by
  obtain ⟨i0, hi, hz0, hz1, hz2⟩ := info_parts Try.infoMS
  go_enter Try.func30, Try.ntmps30
  go_wp2_with (at_make; refine wpList_make_full _ rfl (.const (.int .i64 3)) (.const (.int .i64 3)) 23 rfl w.heap.size 71 i0 (.slice none 0 0) 1 Try.underlying23 hi hz0 hz1 .i64 .i64 _ _ 3 rfl rfl rfl rfl (by rw [hz2]; omega) (by unfold maxLen; omega) (by simp) ?_; intro w1 hown hgrow; obtain ⟨hV, ⟨l0, x0, x1, x2, x3⟩, ff, bw1, hlt⟩ := first_facts w w1 _ hown hgrow; have f0 := ff 0; have f1 := ff 1; have f2 := ff 2; have f3 := ff 3; clear hown hgrow ff)
  refine bodyPost_ret (v := .agg #[.int .i64 2, .int .i64 1, .int .i64 0, .slice (some ⟨w.heap.size + 1, 0, none⟩) 3 3]) (by simp [results, Try.results30, go_sem, x0, x1, x2, x3]) rfl ⟨w.heap.size + 1, rfl, lv_first ?_ (by omega), ?_⟩
  · refine hV.same (by simp) ?_ (fun i _ h => by simp [noM] at h)
    repeat' refine (Below.heap_setCell _ _ _ _ (by first | omega | (dsimp only; omega))).trans ?_
    rfl
  · repeat' refine Below.setCell ?_ (by first | (simp; done) | (simp; omega)) _
    exact bw1
/-- Levels that may be written, apart from two boxes. -/
structure LF (w' : World) (base D R g : Nat) (V : Nat → Value) (LL : Nat → List Met) : Prop where
  lv : Lv w' base g 3 V LL
  few : ∀ i, i < 3 → (LL i).length ≤ 14
  far : (g ≠ D ∧ g ≠ R) ∧ ∀ i, i < 3 → (V i).ownBlock ≠ some D ∧ (V i).ownBlock ≠ some R
section
variable {w w' w'' : World} {base D R g : Nat} {V : Nat → Value} {LL : Nat → List Met}
theorem LF.keep (h : LF w' base D R g V LL) (hb : Below w'.heap.size w' w'') : LF w'' base D R g V LL := ⟨h.lv.keep hb, h.few, h.far⟩
theorem LF.grown {row : Option Nat} (h : LF w' base D R g V LL) (k : w'.grownBy w'' row) (hr : ∀ q, row = some q → q < base) : LF w'' base D R g V LL := ⟨h.lv.same k.size (fun c h1 h2 => k.block c h2 (fun e => by have := hr c e.symm; omega)), h.few, h.far⟩
theorem LF.others {d : Nat} (h : LF w' base D R g V LL) (ot : Others d w' w'') (hg : g ≠ d) (hv : ∀ i, i < 3 → (V i).ownBlock ≠ some d) : LF w'' base D R g V LL := ⟨h.lv.others ot hg hv, h.few, h.far⟩
theorem LF.lt (h : LF w' base D R g V LL) : ∀ i, i < 3 → (V i).ownBlock ≠ some w'.heap.size := fun i hi e => by have := ((h.lv.own i hi).own.lt _ e).2; omega
theorem LF.vl (h : LF w' base D R g V LL) : VL w' base (some ⟨g, 0, none⟩) 3 LL := by
  refine ⟨fun i hi => (h.lv.own i hi).bd, fun i hi => by have := h.few i hi; omega, .inr ⟨g, 0, rfl, h.lv.bs, h.lv.lt, fun i hi => ?_⟩⟩
  obtain ⟨so, sc, e, _⟩ := (h.lv.own i hi).form
  refine ⟨so, sc, by rw [Nat.zero_add, h.lv.cell i hi, e], ?_⟩
  by_cases h0 : (LL i).length = 0
  · exact .inl h0
  · obtain ⟨g', cap, e', h1, _, h3⟩ := (h.lv.own i hi).at (by omega)
    rw [e] at e'
    injection e' with e1 _ _
    exact .inr ⟨g', 0, e1, h1, h3.lt, fun j hj => by rw [Nat.zero_add]; exact h3.ent j hj⟩
theorem LF.sum (h : LF w' base D R g V LL) : sumM (fun i => (LL i).length) 3 ≤ 1048576 := sum3 rfl (fun i hi => by have := h.few i hi; show (LL i).length ≤ 1000; omega)
end
theorem vx_grown {w w' : World} {b CB N c : Nat} {nx lg sq : Int} {lo : Option Addr} (h : VX w b nx lg sq lo N c) (g : w.grownBy w' (some CB)) (hne : b ≠ CB) : VX w' b nx lg sq lo N c := h.same g.size (g.block b h.lt (fun e => hne (Option.some.inj e)))
theorem vx_others {w w' : World} {b d N c : Nat} {nx lg sq : Int} {lo : Option Addr} (h : VX w b nx lg sq lo N c) (ot : Others d w w') (hne : b ≠ d) : VX w' b nx lg sq lo N c := h.same (by rw [ot.size]; exact Nat.le_refl _) (ot.block b hne)
theorem froz_others {w w' : World} {b d : Nat} (h : ∀ j, w.frozen? ⟨b, j, none⟩ = false) (ot : Others d w w') (hne : b ≠ d) : ∀ j, w'.frozen? ⟨b, j, none⟩ = false := fun j => (World.frozen?_of_block (w := w) (a := ⟨b, j, none⟩) (ot.block b hne)).trans (h j)

/-- A version at work. -/
structure VW (w w' : World) (R D CB : Nat) (ao : Option Addr) (n cap : Nat) (f : Nat → Int) (A : Nat) (vx vl vs : Int) (g c : Nat) (V : Nat → Value) (LL : Nat → List Met) : Prop where
  C : CS w w' CB ao n cap f A
  RA : VX w' R 0 0 0 none 0 0
  RF : ∀ j, w'.frozen? ⟨R, j, none⟩ = false
  DA : VX w' D vx vl vs (some ⟨g, 0, none⟩) 3 c
  DF : ∀ j, w'.frozen? ⟨D, j, none⟩ = false
  L : LF w' w.heap.size D R g V LL
  ne : w.heap.size ≤ R ∧ w.heap.size ≤ D ∧ R ≠ D
  bd : 3 ≤ c ∧ (-2000000000 ≤ vx ∧ vx ≤ 2000000000) ∧ (-2000000000 ≤ vl ∧ vl ≤ 2000000000) ∧ (-2000000000 ≤ vs ∧ vs ≤ 2000000000)
section
variable {w w' w'' : World} {R D CB : Nat} {ao : Option Addr} {n cap : Nat} {f : Nat → Int} {A A' : Nat} {vx vl vs : Int} {g c : Nat} {V : Nat → Value} {LL : Nat → List Met}
theorem VW.draw (h : VW w w' R D CB ao n cap f A vx vl vs g c V LL) (k : CS w' w'' CB ao n cap f A') : VW w w'' R D CB ao n cap f A' vx vl vs g c V LL := by
  have hl := h.C.lt
  have hn := h.ne
  exact ⟨h.C.trans k, vx_grown h.RA k.gr (by omega), froz_grown h.RF h.RA.lt k.gr (by omega), vx_grown h.DA k.gr (by omega), froz_grown h.DF h.DA.lt k.gr (by omega), h.L.grown k.gr (fun q e => by injection e with e; omega), hn, h.bd⟩
theorem VW.keep (h : VW w w' R D CB ao n cap f A vx vl vs g c V LL) (hb : Below w'.heap.size w' w'') : VW w w'' R D CB ao n cap f A vx vl vs g c V LL :=
  ⟨h.C.keep hb, h.RA.keep hb, froz_keep h.RF h.RA.lt hb, h.DA.keep hb, froz_keep h.DF h.DA.lt hb, h.L.keep hb, h.ne, h.bd⟩
theorem VW.mono (h : VW w w' R D CB ao n cap f A vx vl vs g c V LL) (hA : A ≤ A') : VW w w' R D CB ao n cap f A' vx vl vs g c V LL := ⟨h.C.mono hA, h.RA, h.RF, h.DA, h.DF, h.L, h.ne, h.bd⟩
/-- A box elsewhere is written. -/
theorem VW.others {d : Nat} (h : VW w w' R D CB ao n cap f A vx vl vs g c V LL) (ot : Others d w' w'') (h1 : d ≠ D) (h2 : d ≠ R) (h3 : w.heap.size ≤ d) (h4 : g ≠ d) (h5 : ∀ i, i < 3 → (V i).ownBlock ≠ some d) : VW w w'' R D CB ao n cap f A vx vl vs g c V LL :=
  ⟨h.C.others ot h3, vx_others h.RA ot (Ne.symm h2), froz_others h.RF ot (Ne.symm h2), vx_others h.DA ot (Ne.symm h1), froz_others h.DF ot (Ne.symm h1), h.L.others ot h4 h5, h.ne, h.bd⟩
/-- Its own box is written. -/
theorem VW.set (h : VW w w' R D CB ao n cap f A vx vl vs g c V LL) (ot : Others D w' w'') (hf : ∀ j, w''.frozen? ⟨D, j, none⟩ = false) {vx' vl' vs' : Int} {g' c' : Nat} {V' : Nat → Value} {LL' : Nat → List Met} (hx : VX w'' D vx' vl' vs' (some ⟨g', 0, none⟩) 3 c') (hL : LF w' w.heap.size D R g' V' LL') (hb : 3 ≤ c' ∧ (-2000000000 ≤ vx' ∧ vx' ≤ 2000000000) ∧ (-2000000000 ≤ vl' ∧ vl' ≤ 2000000000) ∧ (-2000000000 ≤ vs' ∧ vs' ≤ 2000000000)) : VW w w'' R D CB ao n cap f A vx' vl' vs' g' c' V' LL' := by
  have hn := h.ne
  exact ⟨h.C.others ot (by omega), vx_others h.RA ot (by omega), froz_others h.RF ot (by omega), hx, hf, hL.others ot hL.far.1.1 (fun i hi => (hL.far.2 i hi).1), hn, hb⟩
end
/-- What is new behind an edit that was applied. -/
theorem lf_new {w8 : World} {b7 base D R : Nat} {go : Option Addr} {LL : Nat → List Met} (h : LvA w8 b7 go LL) (hb : base ≤ b7) (hD : D < b7) (hR : R < b7) (hf : ∀ i, i < 3 → (LL i).length ≤ 12) : ∃ g V, go = some ⟨g, 0, none⟩ ∧ LF w8 base D R g V LL ∧ b7 ≤ g ∧ ∀ i, i < 3 → ∀ q, (V i).ownBlock = some q → b7 ≤ q := by
  obtain ⟨g, V, e, L⟩ := h
  have hq : ∀ i, i < 3 → ∀ q, (V i).ownBlock = some q → b7 ≤ q := fun i hi q e => ((L.own i hi).own.lt q e).1
  exact ⟨g, V, e, ⟨L.mono2 hb, fun i hi => by have := hf i hi; omega, ⟨by have := L.bs; omega, by have := L.bs; omega⟩, fun i hi => ⟨fun e => by have := hq i hi _ e; omega, fun e => by have := hq i hi _ e; omega⟩⟩, L.bs, hq⟩
theorem step_storeV {w : World} {ops : Array Oper} {o : Oper} {a : Act} {K : Act → World → Prop} {Q : Exit → Act → World → Prop} {E : Prop} (hgd : o.guard = none) (k j : Nat)
    (ho : o.op = .store 25 (.tmp k) (.tmp j)) (b : Nat) (nx lg sq : Int) (lo : Option Addr) (N c : Nat) {n0 l0 s0 : Int} {o0 : Option Addr} {N0 c0 : Nat} (hx : a.eval (.tmp k) = .pointer (some ⟨b, 0, none⟩)) (hv : a.eval (.tmp j) = .agg #[.int .i64 nx, .int .i64 lg, .int .i64 sq, .slice lo N c]) (hz : VX w b n0 l0 s0 o0 N0 c0) (hf : ∀ i, w.frozen? ⟨b, i, none⟩ = false)
    (h : K (a.put o.dst undef) ((((w.setCell ⟨b, 0, none⟩ (.int .i64 nx)).setCell ⟨b, 1, none⟩ (.int .i64 lg)).setCell ⟨b, 2, none⟩ (.int .i64 sq)).setCell ⟨b, 3, none⟩ (.slice lo N c))) :
    if Region.wanted o (yielded ops a.tmps) = true then Oper.wp Try.prog o a w K Q else E := by
  have hw : Region.wanted o (yielded ops a.tmps) = true := by simp [Region.wanted, hgd]
  rw [if_pos hw]
  have hx' : a.tmps.getD k undef = .pointer (some ⟨b, 0, none⟩) := hx
  have hv' : a.tmps.getD j undef = .agg #[.int .i64 nx, .int .i64 lg, .int .i64 sq, .slice lo N c] := hv
  obtain ⟨_, h0, h1, h2, h3⟩ := hz
  have f0 := hf 0
  have f1 := hf 1
  have f2 := hf 2
  have f3 := hf 3
  unfold Oper.wp execOp
  simp only [ho, Act.eval, hx', hv']
  go_simp
  exact h
theorem vx_put {w : World} {b : Nat} {n0 l0 s0 : Int} {o0 : Option Addr} {N0 c0 : Nat} (hz : VX w b n0 l0 s0 o0 N0 c0) (nx lg sq : Int) (lo : Option Addr) (N c : Nat) : VX ((((w.setCell ⟨b, 0, none⟩ (.int .i64 nx)).setCell ⟨b, 1, none⟩ (.int .i64 lg)).setCell ⟨b, 2, none⟩ (.int .i64 sq)).setCell ⟨b, 3, none⟩ (.slice lo N c)) b nx lg sq lo N c := by
  obtain ⟨l, h0, h1, h2, h3⟩ := hz
  refine ⟨by simpa using l, ?_, ?_, ?_, ?_⟩ <;> simp [go_sem, h0, h1, h2, h3]
theorem oth4 (w : World) (b : Nat) (v0 v1 v2 v3 : Value) : Others b w ((((w.setCell ⟨b, 0, none⟩ v0).setCell ⟨b, 1, none⟩ v1).setCell ⟨b, 2, none⟩ v2).setCell ⟨b, 3, none⟩ v3) := (((Others.setCell _ _ _ _).trans (Others.setCell _ _ _ _)).trans (Others.setCell _ _ _ _)).trans (Others.setCell _ _ _ _)
theorem goodVP_bd {nx lg sq : Int} {N : Nat} {LL : Nat → List Met} (h : GoodVP nx lg sq N (fun i => mL (LL i)) (fun i => (LL i).length)) : (-2000000000 ≤ nx ∧ nx ≤ 2000000000) ∧ (-2000000000 ≤ lg ∧ lg ≤ 2000000000) ∧ (-2000000000 ≤ sq ∧ sq ≤ 2000000000) := by
  obtain ⟨h1, h2, h3, h4, _⟩ := h
  have a1 : 1 ≤ nx ∧ nx ≤ 100000 := by simpa [fN, btw] using h1
  have a4 : 0 ≤ sq ∧ sq ≤ 1000000000 := by simpa [isC, btw] using h4
  omega
end Go.Proofs.Ytagkhohglpjjlaa
