/- A filter out of bytes. -/
import Derived.Test.YtohjjigkfdhklaaGreatXp
import Derived.Deep.RegionHeld3
import Derived.Deep.RegionLaw
import Derived.Deep.AppendLies
namespace Go.Proofs.YtohjjigkfdhklaaGreat
set_option maxRecDepth 100000
open Go.RowKit
set_option linter.unusedSimpArgs false
set_option linter.unusedVariables false

/-- A filter and whether: what is answered. -/
def RO (y : Int) (L : List Int) (ok : Bool) (w : World) (e : Ending) (w' : World) : Prop :=
  ∃ ao c, e = .returned (.tuple #[.agg #[.int .i64 y, .slice ao L.length c], .bool ok]) ∧ BV w' w.heap.size w'.heap.size ao L ∧ Below w.heap.size w w'
/-- Bytes that are a filter's. -/
def IsFl (n : Nat) (f : Nat → Int) : Prop := 1 ≤ n ∧ GoodF (f 0) (n - 1)
/-- What ReadFilter answers. -/
def RFO (n : Nat) (f : Nat → Int) (w : World) (e : Ending) (w' : World) : Prop := (IsFl n f → RO (f 0) (ffl (fun i => f (i + 1)) (n - 1)) true w e w') ∧ (¬ IsFl n f → RO 0 [] false w e w')

theorem ro_zero {w w' : World} (h : Below w.heap.size w w') : RO 0 [] false w (.returned (.tuple #[.agg #[.int .i64 0, .slice none 0 0], .bool false])) w' := ⟨none, 0, rfl, bv_nil _ _ _ (Nat.le_refl _), h⟩

theorem lt_cell {w : World} {b o : Nat} {v : Value} (h : w.cell? ⟨b, o, none⟩ = some v) : b < w.heap.size := by
  unfold World.cell? at h
  split at h
  · rename_i hb
    exact (Array.getElem?_eq_some_iff.1 hb).1
  · simp at h
theorem rf_copy {w w2 w3 : World} {b m n ub : Nat} {f : Nat → Int} {y : Int} {v : Value} (hbd : ∀ i, 0 ≤ f i ∧ f i ≤ 255) (hm : m = n - 1) (h0 : ¬ n = 0) (hsw : w.heap.size ≤ w2.heap.size) (hb3 : Below w2.heap.size w2 w3) (ho : Own w3 w2.heap.size 0 m (fun _ => 0)) (R2 : Own w2 b 0 n f) (F2 : FAt w2 ub y v) (Z2 : FAt w2 w.heap.size 0 (.slice none 0 0)) (fz2 : ∀ j, w2.frozen? ⟨w.heap.size, j, none⟩ = false) (B2 : Below w.heap.size w w2) :
    ∃ w4, (Builtin.copy_ #[22, 22] 3 #[.slice (some ⟨w2.heap.size, 0, none⟩) m m, .slice (some ⟨b, 1, none⟩) m m]).run Tryz.prog w3 = .ok (.int .i64 m) w4 ∧ Hid (Own w4 w2.heap.size 0 m (fun i => f (i + 1))) ∧ FAt w4 ub y v ∧ FAt w4 w.heap.size 0 (.slice none 0 0) ∧ w4.frozen? ⟨w.heap.size, 0, none⟩ = false ∧ w4.frozen? ⟨w.heap.size, 1, none⟩ = false ∧ Below w.heap.size w w4 := by
  obtain ⟨w4, hrun, o4, q4⟩ := copyB_run w3 w2.heap.size m 0 m m b 1 m _ (fun i => f (i + 1)) ho (by omega) (fun i => hbd (i + 1)) (fun i hi => by
    have h1 := (R2.keep hb3).cell (i + 1) (by omega)
    rw [← h1, show 0 + (i + 1) = 1 + i by omega])
  have fz4 : ∀ j, w4.frozen? ⟨w.heap.size, j, none⟩ = false := fun j => (World.frozen?_of_block (w := w3) (a := ⟨w.heap.size, j, none⟩) (q4.block w.heap.size (by have := Z2.lt; omega))).trans ((hb3.frozen (p := ⟨w.heap.size, j, none⟩) Z2.lt).trans (fz2 j))
  exact ⟨w4, hrun, o4.congr (fun i => hbd (i + 1)) (fun i hi => by simp [hi]), (F2.keep hb3).mid (Mid.of_others (B := w2.heap.size) (U := w2.heap.size + 1) q4 (Nat.le_refl _) (by omega)) (by have := F2.lt; omega), (Z2.keep hb3).mid (Mid.of_others (B := w2.heap.size) (U := w2.heap.size + 1) q4 (Nat.le_refl _) (by omega)) (by have := Z2.lt; omega), fz4 0, fz4 1, (B2.trans (hb3.mono hsw)).trans (q4.below hsw)⟩

set_option maxHeartbeats 1000000 in
theorem readFilter_impl (b n : Nat) (f : Nat → Int) (w : World) (hr : Own w b 0 n f) (hn : n ≤ 1048576) :
    Calls Tryz.prog 90 #[.slice (some ⟨b, 0, none⟩) n n] w fun e w' => RFO n f w e w' := by
  obtain ⟨i0, hi, hz0, hz1, hz2⟩ := info_parts Tryz.info5
  by_cases h0 : n = 0
  · subst h0
    have hB : Below w.heap.size w ((w.alloc (.cells #[.int .i64 0, .slice none 0 0] 55)).setCell ⟨w.heap.size, 0, none⟩ (.int .i64 0)) := (below_new w _).setCell (p := ⟨w.heap.size, 0, none⟩) (Nat.le_refl _) _
    go_enter Tryz.func90, Tryz.ntmps90
    go_wp2
    refine bodyPost_ret (v := .tuple #[.agg #[.int .i64 0, .slice none 0 0], .bool false]) (by simp [results, Tryz.results90, go_sem]) rfl ⟨fun h => absurd h.1 (by omega), fun _ => ro_zero ?_⟩
    repeat' refine Below.setCell ?_ (by first | (simp; done) | (simp; omega)) _
    exact below_new w _
  · have hblt := hr.lt
    have c0 := hr.cell 0 (by omega)
    have hb0 := hr.bd 0
    have hd1 : decide ((n : Int) < 1) = false := by simp; omega
    simp only [Nat.add_zero] at c0
    have W0 := below_new w (.cells #[.int .i64 0, .slice none 0 0] 55)
    have Z0 := FAt.new w 0 (.slice none 0 0) 55
    have c1 : (w.alloc (.cells #[.int .i64 0, .slice none 0 0] 55)).cell? ⟨b, 0, none⟩ = some (.int .u8 (f 0)) := (W0.cell (p := ⟨b, 0, none⟩) hblt).trans c0
    have hn0 : (0 : Int) < (n : Int) := by omega
    have hn1 : (1 : Int) ≤ (n : Int) := by omega
    have hn2 : 0 < n := by omega
    have hn1' : ¬ (n : Int) < 1 := by omega
    have hwf : IntKind.i64.wrap (f 0) = f 0 := by rw [IntKind.wrap_i64] <;> omega
    have hne := World.new_ne (w.alloc (.cells #[.int .i64 0, .slice none 0 0] 55)) _ c1
    have hfz : ∀ j, (w.alloc (.cells #[.int .i64 0, .slice none 0 0] 55)).frozen? ⟨w.heap.size, j, none⟩ = false := fun j => by simp [go_sem]
    obtain ⟨A, hA⟩ : ∃ A : Option Addr, (if n = 1 then some ⟨b, 0, none⟩ else some ⟨b, 1, none⟩) = A := ⟨_, rfl⟩
    have HA : Hid (n ≠ 1 → A = some ⟨b, 1, none⟩) := fun h => by rw [← hA, if_neg h]
    go_enter Tryz.func90, Tryz.ntmps90
    go_wp2
    generalize w.alloc (.cells #[.int .i64 0, .slice none 0 0] 55) = u at *
    go_region_held3 (fun w' => w'.cell? ⟨b, 0, none⟩ = some (.int .u8 (f 0))) (go_keep) (fail)
    clear hA hne
    have D1 : Below u.heap.size u (u.alloc (.cells #[.int .i64 (f 0), .slice A (n - 1) (n - 1)] 55)).drew := (below_new u _).drew
    have F1 : FAt (u.alloc (.cells #[.int .i64 (f 0), .slice A (n - 1) (n - 1)] 55)).drew u.heap.size (f 0) (.slice A (n - 1) (n - 1)) := (FAt.new u (f 0) (.slice A (n - 1) (n - 1)) 55).keep (Below.refl _ _).drew
    have Z1 := Z0.keep D1
    have R1 := (hr.keep W0).keep D1
    have B1 : Below w.heap.size w (u.alloc (.cells #[.int .i64 (f 0), .slice A (n - 1) (n - 1)] 55)).drew := W0.trans (D1.mono W0.size)
    have fz1 : ∀ j, (u.alloc (.cells #[.int .i64 (f 0), .slice A (n - 1) (n - 1)] 55)).drew.frozen? ⟨w.heap.size, j, none⟩ = false := fun j => (D1.frozen (p := ⟨w.heap.size, j, none⟩) Z0.lt).trans (hfz j)
    have hzu := Z0.lt
    clear Z0 c1 D1 hfz W0
    generalize (u.alloc (.cells #[.int .i64 (f 0), .slice A (n - 1) (n - 1)] 55)).drew = w1 at *
    obtain ⟨lf, f0, f1⟩ := id F1
    go_wp2_with fail
    refine (goodFilter_impl (f 0) A (n - 1) (n - 1) _ (by omega)).mono ?_
    rintro e w2 ⟨b2, rfl, h2, q2⟩
    have Z2 := Z1.keep q2
    have F2 := F1.keep q2
    have R2 := R1.keep q2
    have B2 : Below w.heap.size w w2 := B1.trans (q2.mono B1.size)
    have fz2 : ∀ j, w2.frozen? ⟨w.heap.size, j, none⟩ = false := fun j => (q2.frozen (p := ⟨w.heap.size, j, none⟩) Z1.lt).trans (fz1 j)
    clear Z1 F1 R1 B1 fz1 q2 lf f0 f1
    obtain ⟨lz, z0, z1⟩ := id Z2
    obtain ⟨lf, f0, f1⟩ := id F2
    have g0 := fz2 0
    have g1 := fz2 1
    cases b2
    · have K : Hid (¬ IsFl n f) := fun h => by
        have := h2.2 h.2
        cases this
      clear h2
      go_wp2
      refine bodyPost_ret (v := .tuple #[.agg #[.int .i64 0, .slice none 0 0], .bool false]) (by simp [results, Tryz.results90, go_sem, z0, z1]) rfl ⟨fun h => absurd h K.out, fun _ => ro_zero ?_⟩
      repeat' refine Below.setCell ?_ (by first | (simp; done) | (simp; omega)) _
      exact B2
    · have hg := h2.1 rfl
      have HG : Hid (IsFl n f) := ⟨by omega, hg⟩
      obtain ⟨⟨hy1, hy8⟩, hm1, hm2⟩ := hg
      obtain rfl := HA.out (by omega)
      obtain ⟨m, hm⟩ : ∃ m, m = n - 1 := ⟨_, rfl⟩
      rw [← hm] at f1 hm1 hm2 F2
      rw [← hm]
      have HM : Hid (m = n - 1) := hm
      have hm3 : n ≤ 201 := by omega
      clear HA h2 hm
      have hsw := B2.size
      go_wp2_with (at_make; refine wpList_make_full _ rfl (.tmp 23) (.tmp 23) 22 rfl w2.heap.size 5 i0 (.int .u8 0) 1 Tryz.underlying22 hi hz0 hz1 .i64 .i64 _ _ m rfl rfl rfl rfl (by rw [hz2]; omega) (by unfold maxLen; omega) (Nat.le_refl _) ?_; intro w3 hown hgrow; obtain ⟨hb3, ho⟩ := made_facts hown hgrow; clear hown hgrow; have F3 := F2.keep hb3; obtain ⟨_, f0', f1'⟩ := F3; obtain ⟨w4, hrun, HO, F4, Z4, h4, h5, B4⟩ := rf_copy hr.bd HM.out h0 hsw hb3 ho R2 F2 Z2 fz2 B2; obtain ⟨lf4, p0, p1⟩ := F4; obtain ⟨lz4, r0, r1⟩ := Z4; have hzl := Z2.lt; clear ho lf f0 f1 lz z0 z1 F2 Z2 R2 fz2 g0 g1 hb3)
      refine bodyPost_ret (v := .tuple #[.agg #[.int .i64 (f 0), .slice (some ⟨w2.heap.size, 0, none⟩) m m], .bool true]) (by simp [results, Tryz.results90, go_sem, r0, r1]) rfl ⟨fun _ => ?_, fun h => absurd HG.out h⟩
      refine ⟨some ⟨w2.heap.size, 0, none⟩, m, by rw [ffl_len, HM.out], ?_, ?_⟩
      · refine ⟨ffl_byt (fun i => hr.bd (i + 1)), Nat.le_refl _, .inr ⟨w2.heap.size, 0, rfl, hsw, by simp; exact HO.out.lt, ?_⟩⟩
        rw [ffl_len, ← HM.out]
        refine Own.congr (f := fun i => f (i + 1)) ?_ (Byt.fl (ffl_byt (fun i => hr.bd (i + 1)))) (fun i hi => by rw [ffl_fl hi])
        repeat' refine (Others.setCell _ _ _ _).row ?_ (by omega)
        exact HO.out
      · repeat' refine Below.setCell ?_ (by first | (simp; done) | (simp; omega)) _
        exact B4

/-- A filter read, in the box p4, beside the zero one. -/
structure RE (w : World) (f : Nat → Int) (n p4 : Nat) (g : Option Addr) (c : Nat) (W : World) : Prop where
  fat : FAt W p4 (f 0) (.slice g (n - 1) c)
  zat : FAt W w.heap.size 0 (.slice none 0 0)
  fz : ∀ j, W.frozen? ⟨w.heap.size, j, none⟩ = false
  bv : BV W (w.heap.size + 1) W.heap.size g (ffl (fun i => f (i + 1)) (n - 1))
  bel : Below w.heap.size w W

/-- The box made first. -/
theorem re_set {w u w2 : World} {f : Nat → Int} {n B0 P : Nat} {g : Option Addr} {c : Nat} (W0 : Below w.heap.size w u) (hzu : w.heap.size < u.heap.size) (Z0 : FAt u w.heap.size 0 (.slice none 0 0)) (hfz : ∀ j, u.frozen? ⟨w.heap.size, j, none⟩ = false)
    (K2 : ∀ k, k < u.heap.size → w2.heap[k]? = u.heap[k]?) (os : w2.os = u.os) (tape : w2.tape = u.tape) (output : w2.output = u.output) (sz : u.heap.size + 2 ≤ w2.heap.size) (V2 : BV w2 B0 w2.heap.size g (ffl (fun i => f (i + 1)) (n - 1))) (hB : u.heap.size ≤ B0) (hP : u.heap.size ≤ P) (hP2 : P < w2.heap.size) (hPg : ∀ o, g = some o → o.block ≠ P)
    (n0 : w2.cell? ⟨P, 0, none⟩ = some (.int .i64 0)) (n1 : w2.cell? ⟨P, 1, none⟩ = some (.slice none 0 0)) : RE w f n P g c ((w2.setCell ⟨P, 0, none⟩ (.int .i64 (f 0))).setCell ⟨P, 1, none⟩ (.slice g (n - 1) c)) := by
  have bl : ∀ k, k ≠ P → ((w2.setCell ⟨P, 0, none⟩ (.int .i64 (f 0))).setCell ⟨P, 1, none⟩ (.slice g (n - 1) c)).heap[k]? = w2.heap[k]? := fun k hk => (Below.heap_setCell _ _ _ _ hk).trans (Below.heap_setCell _ _ _ _ hk)
  have hs : ((w2.setCell ⟨P, 0, none⟩ (.int .i64 (f 0))).setCell ⟨P, 1, none⟩ (.slice g (n - 1) c)).heap.size = w2.heap.size := by simp
  have zb : ∀ k, k < u.heap.size → ((w2.setCell ⟨P, 0, none⟩ (.int .i64 (f 0))).setCell ⟨P, 1, none⟩ (.slice g (n - 1) c)).heap[k]? = u.heap[k]? := fun k hk => (bl k (by omega)).trans (K2 k hk)
  have zc : ∀ j, ((w2.setCell ⟨P, 0, none⟩ (.int .i64 (f 0))).setCell ⟨P, 1, none⟩ (.slice g (n - 1) c)).cell? ⟨w.heap.size, j, none⟩ = u.cell? ⟨w.heap.size, j, none⟩ := fun j => World.cell?_of_block (w := u) (a := ⟨w.heap.size, j, none⟩) (zb w.heap.size hzu)
  refine ⟨⟨by rw [hs]; exact hP2, ?_, ?_⟩, ⟨by rw [hs]; omega, (zc 0).trans Z0.c0, (zc 1).trans Z0.c1⟩, fun j => (World.frozen?_of_block (w := u) (a := ⟨w.heap.size, j, none⟩) (zb w.heap.size hzu)).trans (hfz j), ⟨V2.bd, Nat.le_refl _, ?_⟩, ⟨os.trans W0.os, tape.trans W0.tape, output.trans W0.output, by rw [hs]; omega, fun k hk => (zb k (by omega)).trans (W0.block k hk)⟩⟩
  · rw [World.cell?_setCell_other _ _ _ _ (by simp)]
    exact World.cell?_setCell_same _ _ _ n0
  · exact World.cell?_setCell_same _ _ _ ((World.cell?_setCell_other _ _ _ _ (by simp)).trans n1)
  · rcases V2.is with h0 | ⟨q, off, e, h1, h2, ho⟩
    · exact .inl h0
    · have hq : q ≠ P := hPg _ e
      refine .inr ⟨q, off, e, by omega, by rw [hs]; exact h2, ?_⟩
      exact (Others.setCell _ _ _ _).row ((Others.setCell _ _ _ _).row ho hq) hq
/-- The box made last. -/
theorem re_new {w u w1 : World} {f : Nat → Int} {n B0 : Nat} {g : Option Addr} {c : Nat} (W0 : Below w.heap.size w u) (hzu : w.heap.size < u.heap.size) (Z0 : FAt u w.heap.size 0 (.slice none 0 0)) (hfz : ∀ j, u.frozen? ⟨w.heap.size, j, none⟩ = false)
    (K1 : ∀ k, k < u.heap.size → w1.heap[k]? = u.heap[k]?) (os : w1.os = u.os) (tape : w1.tape = u.tape) (output : w1.output = u.output) (sz : u.heap.size + 1 ≤ w1.heap.size) (V1 : BV w1 B0 w1.heap.size g (ffl (fun i => f (i + 1)) (n - 1))) (hB : u.heap.size ≤ B0) : RE w f n w1.heap.size g c (w1.alloc (.cells #[.int .i64 (f 0), .slice g (n - 1) c] 55)) := by
  have hb := below_new w1 (.cells #[.int .i64 (f 0), .slice g (n - 1) c] 55)
  have zb : ∀ k, k < u.heap.size → (w1.alloc (.cells #[.int .i64 (f 0), .slice g (n - 1) c] 55)).heap[k]? = u.heap[k]? := fun k hk => (hb.block k (by omega)).trans (K1 k hk)
  have zc : ∀ j, (w1.alloc (.cells #[.int .i64 (f 0), .slice g (n - 1) c] 55)).cell? ⟨w.heap.size, j, none⟩ = u.cell? ⟨w.heap.size, j, none⟩ := fun j => World.cell?_of_block (w := u) (a := ⟨w.heap.size, j, none⟩) (zb w.heap.size hzu)
  refine ⟨FAt.new _ _ _ _, ⟨by simp; omega, (zc 0).trans Z0.c0, (zc 1).trans Z0.c1⟩, fun j => (World.frozen?_of_block (w := u) (a := ⟨w.heap.size, j, none⟩) (zb w.heap.size hzu)).trans (hfz j), ⟨V1.bd, Nat.le_refl _, ?_⟩, ⟨os.trans W0.os, tape.trans W0.tape, output.trans W0.output, by simp; omega, fun k hk => (zb k (by omega)).trans (W0.block k hk)⟩⟩
  rcases V1.is with h0 | ⟨q, off, e, h1, h2, ho⟩
  · exact .inl h0
  · exact .inr ⟨q, off, e, by omega, by simp; omega, ho.keep hb⟩

theorem step_append_run {P : Program} {w : World} {ops : Array Oper} {o : Oper} {a : Act} {K : Act → World → Prop} {Q : Exit → Act → World → Prop} {E : Prop} (hgd : o.guard = none) (s x : Operand) (t : TypeId)
    (ho : o.op = .call { callee := .builtin .append, args := #[s, x], argTypes := #[t, t] }) (u v r : Value) (hs : a.eval s = u) (hx : a.eval x = v) (w' : World) (hrun : ∀ ty, (Builtin.append_ #[t, t] ty #[u, v]).run P w = .ok r w') (h : K (a.put o.dst r) w') :
    if Region.wanted o (yielded ops a.tmps) = true then Oper.wp P o a w K Q else E := by
  have hw : Region.wanted o (yielded ops a.tmps) = true := by simp [Region.wanted, hgd]
  rw [if_pos hw]
  unfold Oper.wp execOp
  simp only [ho, resolve, invoke, builtin, Sem.run_bind, Sem.run_pure, Result.andThen_ok, List.map_toArray, List.map_cons, List.map_nil, hs, hx, hrun]
  exact h

/-- Bytes put behind an empty slice in block B0. -/
theorem copyE_run (w : World) (B0 : Nat) (hB0 : w.heap[B0]? = some (.cells #[] 5 (0, 0))) (da : Option Addr) (len dc : Nat) (f : Nat → Int) (hr : Row w da len f) (hn : len ≤ 1048576) :
    ∃ g c w', (∀ ty, (Builtin.append_ #[22, 22] ty #[.slice (some ⟨B0, 0, none⟩) 0 0, .slice da len dc]).run Tryz.prog w = .ok (.slice g len c) w') ∧ BV w' B0 w'.heap.size g (ffl f len) ∧ w.grownBy w' (some B0) ∧ (∀ o, g = some o → o.block = B0 ∨ w.heap.size ≤ o.block) := by
  obtain ⟨i0, hi, hz0, hz1, hz2⟩ := info_parts Tryz.info5
  have hB0lt : B0 < w.heap.size := (Array.getElem?_eq_some_iff.1 hB0).1
  by_cases h0 : len = 0
  · subst h0
    refine ⟨some ⟨B0, 0, none⟩, 0, w, fun ty => ?_, ⟨ffl_byt hr.bd, Nat.le_refl _, .inr ⟨B0, 0, rfl, Nat.le_refl _, hB0lt, Byt.fl (ffl_byt hr.bd), hB0lt, fun i hi => by rw [ffl_len] at hi; omega, fun i hi => by rw [ffl_len] at hi; omega⟩⟩, World.grownBy.refl _ _, fun o e => .inl (by injection e with e; rw [← e])⟩
    cases da <;> simp [Builtin.append_, run_underlying Tryz.underlying22, sizeOf, typeInfo, hi, Builtin.lenOf, Builtin.firstCells, loadCells, loadCellsFrom, storeCells]
  · obtain ⟨b, off, rfl, hlt, hc⟩ := hr.lies.resolve_left h0
    obtain ⟨g, cap, w', hrun, hown, hgrow, hat, hlt'⟩ := run_append_lies (P := Tryz.prog) w 22 0 B0 5 i0 (.int .u8 0) 1 1 Tryz.underlying22 hi hz0 hz1 hz2 rfl (by decide) (.slice (some ⟨B0, 0, none⟩) 0 0) 0 [] ⟨rfl, .inr ⟨B0, 0, #[], rfl, Nat.le_refl _, hB0, Nat.le_refl _, Nat.zero_le _, rfl, rfl⟩⟩ ⟨b, off, none⟩ len dc ((List.range len).map fun i => Value.int .u8 (f i)) (by simp)
      (fun j u hu => by
        have hj : j < len := by
          have := (List.getElem?_eq_some_iff.1 hu).1
          simpa using this
        have e : u = .int .u8 (f j) := by simpa [hj] using hu.symm
        subst e
        rw [add_flat]
        exact hc j hj)
      (fun u hu => by simp only [List.mem_map] at hu; obtain ⟨i, _, rfl⟩ := hu; rfl) (by omega) (by unfold maxLen; omega) (by omega) (by omega) w.heap.size rfl
    rw [Nat.zero_add] at hrun hown
    rw [List.nil_append] at hown
    have hO : Own w' g 0 (ffl f len).length (fl (ffl f len)) := by
      refine ⟨Byt.fl (ffl_byt hr.bd), hlt', fun i hi => ?_, fun i _ => by simpa using hown.frozenAt i⟩
      rw [ffl_len] at hi
      rw [Nat.zero_add, hown.cellAt i (by omega), ffl_fl hi]
      simp [hi]
    have hgB : B0 ≤ g := by
      rcases hat with h | h
      · simp [Value.ownBlock] at h; omega
      · omega
    refine ⟨_, cap, w', fun ty => hrun, ⟨ffl_byt hr.bd, Nat.le_refl _, .inr ⟨g, 0, rfl, hgB, hlt', hO⟩⟩, hgrow, fun o e => ?_⟩
    injection e with e
    subst e
    rcases hat with h | h
    · simp [Value.ownBlock] at h; exact .inl h.symm
    · right; show _ ≤ g; omega

set_option maxRecDepth 100000 in
set_option maxHeartbeats 4000000 in
theorem readFilter_spec (b n : Nat) (f : Nat → Int) (w : World) (hr : Own w b 0 n f) (hn : n ≤ 1048576) :
    Calls Tryz.prog 73 #[.slice (some ⟨b, 0, none⟩) n n] w fun e w' => RFO n f w e w' := by
  obtain ⟨i0, hi, hz0, hz1, hz2⟩ := info_parts Tryz.info5
  by_cases h0 : n = 0
  · subst h0
    go_enter Tryz.func73, Tryz.ntmps73
    go_wp2
    refine bodyPost_ret (v := .tuple #[.agg #[.int .i64 0, .slice none 0 0], .bool false]) (by simp [results, Tryz.results73, go_sem]) rfl ⟨fun h => absurd h.1 (by omega), fun _ => ro_zero ?_⟩
    repeat' refine Below.setCell ?_ (by first | (simp; done) | (simp; omega)) _
    exact below_new w _
  · have hblt := hr.lt
    have c0 := hr.cell 0 (by omega)
    have hb0 := hr.bd 0
    have hd1 : ((n : Int) == 0) = false := by simp; omega
    simp only [Nat.add_zero] at c0
    have W0 := below_new w (.cells #[.int .i64 0, .slice none 0 0] 55)
    have Z0 := FAt.new w 0 (.slice none 0 0) 55
    have c1 : (w.alloc (.cells #[.int .i64 0, .slice none 0 0] 55)).cell? ⟨b, 0, none⟩ = some (.int .u8 (f 0)) := (W0.cell (p := ⟨b, 0, none⟩) hblt).trans c0
    have hn1 : (1 : Int) ≤ (n : Int) := by omega
    have hn2 : 0 < n := by omega
    have hn1' : ¬ (n : Int) < 1 := by omega
    have hwf : IntKind.i64.wrap (f 0) = f 0 := by rw [IntKind.wrap_i64] <;> omega
    have hne := World.new_ne (w.alloc (.cells #[.int .i64 0, .slice none 0 0] 55)) _ c1
    have hfz : ∀ j, (w.alloc (.cells #[.int .i64 0, .slice none 0 0] 55)).frozen? ⟨w.heap.size, j, none⟩ = false := fun j => by simp [go_sem]
    obtain ⟨A, hA⟩ : ∃ A : Option Addr, (if n = 1 then some ⟨b, 0, none⟩ else some ⟨b, 1, none⟩) = A := ⟨_, rfl⟩
    have HA : Hid (n ≠ 1 → A = some ⟨b, 1, none⟩) := fun h => by rw [← hA, if_neg h]
    go_enter Tryz.func73, Tryz.ntmps73
    go_wp2
    generalize w.alloc (.cells #[.int .i64 0, .slice none 0 0] 55) = u at *
    have RA : ∀ W, Below u.heap.size u W → Row W A (n - 1) (fun i => f (i + 1)) := fun W hW => by
      refine ⟨fun i => hr.bd (i + 1), ?_⟩
      by_cases h1 : n = 1
      · exact .inl (by omega)
      · refine .inr ⟨b, 1, HA.out h1, Nat.lt_of_lt_of_le ((hr.keep W0).lt) hW.size, fun i hi => ?_⟩
        rw [show 1 + i = 0 + (i + 1) by omega]
        exact ((hr.keep W0).keep hW).cell (i + 1) (by omega)
    have b1 : Below u.heap.size u (u.drew.alloc (.cells #[] 5)) := (Below.refl _ u).drew.alloc (Nat.le_refl _) _
    obtain ⟨g1, c1', w1, hrun1, V1, G1, L1⟩ := copyE_run (u.drew.alloc (.cells #[] 5)) u.heap.size (heap_alloc_new u.drew _) A (n - 1) (n - 1) _ (RA _ b1) (by omega)
    have b2 : Below u.heap.size u ((u.drew.alloc (.cells #[] 5)).alloc (.cells #[.int .i64 0, .slice none 0 0] 55)) := b1.alloc (by simp) _
    obtain ⟨g2, c2', w2, hrun2, V2, G2, L2⟩ := copyE_run ((u.drew.alloc (.cells #[] 5)).alloc (.cells #[.int .i64 0, .slice none 0 0] 55)) u.heap.size ((Below.heap_alloc _ _ u.heap.size (by simp)).trans (heap_alloc_new u.drew _)) A (n - 1) (n - 1) _ (RA _ b2) (by omega)
    have b3 : Below u.heap.size u ((u.drew.alloc (.cells #[.int .i64 0, .slice none 0 0] 55)).alloc (.cells #[] 5)) := ((Below.refl _ u).drew.alloc (Nat.le_refl _) _).alloc (by simp) _
    have hx3 : ((u.drew.alloc (.cells #[.int .i64 0, .slice none 0 0] 55)).alloc (.cells #[] 5)).heap[u.heap.size + 1]? = some (.cells #[] 5 (0, 0)) := by
      have := heap_alloc_new (u.drew.alloc (.cells #[.int .i64 0, .slice none 0 0] 55)) (.cells #[] 5)
      simpa using this
    obtain ⟨g3, c3', w3, hrun3, V3, G3, L3⟩ := copyE_run ((u.drew.alloc (.cells #[.int .i64 0, .slice none 0 0] 55)).alloc (.cells #[] 5)) (u.heap.size + 1) hx3 A (n - 1) (n - 1) _ (RA _ b3) (by omega)
    have K1 : ∀ k, k < u.heap.size → w1.heap[k]? = u.heap[k]? := fun k hk => (G1.block k (by simp; omega) (fun e => by injection e with e; omega)).trans (b1.block k hk)
    have K2 : ∀ k, k < u.heap.size → w2.heap[k]? = u.heap[k]? := fun k hk => (G2.block k (by simp; omega) (fun e => by injection e with e; omega)).trans (b2.block k hk)
    have K3 : ∀ k, k < u.heap.size → w3.heap[k]? = u.heap[k]? := fun k hk => (G3.block k (by simp; omega) (fun e => by injection e with e; omega)).trans (b3.block k hk)
    have bu : b < u.heap.size := (hr.keep W0).lt
    have d1 : w1.cell? ⟨b, 0, none⟩ = some (.int .u8 (f 0)) := (World.cell?_of_block (w := u) (a := ⟨b, 0, none⟩) (K1 b bu)).trans c1
    have d2 : w2.cell? ⟨b, 0, none⟩ = some (.int .u8 (f 0)) := (World.cell?_of_block (w := u) (a := ⟨b, 0, none⟩) (K2 b bu)).trans c1
    have d3 : w3.cell? ⟨b, 0, none⟩ = some (.int .u8 (f 0)) := (World.cell?_of_block (w := u) (a := ⟨b, 0, none⟩) (K3 b bu)).trans c1
    have N2 : w2.heap[u.heap.size + 1]? = some (.cells #[.int .i64 0, .slice none 0 0] 55 (0, 0)) := (G2.block (u.heap.size + 1) (by simp) (fun e => by injection e with e; omega)).trans (by
      have := heap_alloc_new (u.drew.alloc (.cells #[] 5)) (.cells #[.int .i64 0, .slice none 0 0] 55)
      simpa using this)
    have N3 : w3.heap[u.heap.size]? = some (.cells #[.int .i64 0, .slice none 0 0] 55 (0, 0)) := (G3.block u.heap.size (by simp; omega) (fun e => by injection e with e; omega)).trans ((Below.heap_alloc _ _ u.heap.size (by simp)).trans (heap_alloc_new u.drew _))
    have n20 : w2.cell? ⟨u.heap.size + 1, 0, none⟩ = some (.int .i64 0) := by rw [cell_of_row _ _ _ _ _ _ N2]; rfl
    have n21 : w2.cell? ⟨u.heap.size + 1, 1, none⟩ = some (.slice none 0 0) := by rw [cell_of_row _ _ _ _ _ _ N2]; rfl
    have m20 : w2.frozen? ⟨u.heap.size + 1, 0, none⟩ = false := frozen_of_row _ _ _ _ _ N2
    have m21 : w2.frozen? ⟨u.heap.size + 1, 1, none⟩ = false := frozen_of_row _ _ _ _ _ N2
    have n30 : w3.cell? ⟨u.heap.size, 0, none⟩ = some (.int .i64 0) := by rw [cell_of_row _ _ _ _ _ _ N3]; rfl
    have n31 : w3.cell? ⟨u.heap.size, 1, none⟩ = some (.slice none 0 0) := by rw [cell_of_row _ _ _ _ _ _ N3]; rfl
    have m30 : w3.frozen? ⟨u.heap.size, 0, none⟩ = false := frozen_of_row _ _ _ _ _ N3
    have m31 : w3.frozen? ⟨u.heap.size, 1, none⟩ = false := frozen_of_row _ _ _ _ _ N3
    have e1 : (w1.alloc (.cells #[.int .i64 0, .slice none 0 0] 55)).cell? ⟨b, 0, none⟩ = some (.int .u8 (f 0)) := ((below_new w1 _).cell (p := ⟨b, 0, none⟩) (lt_cell d1)).trans d1
    clear N2 N3
    have hzu : w.heap.size < u.heap.size := Z0.lt
    have S1 := G1.size
    have S2 := G2.size
    have S3 := G3.size
    simp at S1 S2 S3
    have E1 : Hid (RE w f n w1.heap.size g1 c1' (w1.alloc (.cells #[.int .i64 (f 0), .slice g1 (n - 1) c1'] 55))) := re_new W0 hzu Z0 hfz K1 (G1.os.trans b1.os) (G1.tape.trans b1.tape) (G1.output.trans b1.output) (by omega) V1 (Nat.le_refl _)
    have E2 : Hid (RE w f n (u.heap.size + 1) g2 c2' ((w2.setCell ⟨u.heap.size + 1, 0, none⟩ (.int .i64 (f 0))).setCell ⟨u.heap.size + 1, 1, none⟩ (.slice g2 (n - 1) c2'))) := re_set W0 hzu Z0 hfz K2 (G2.os.trans b2.os) (G2.tape.trans b2.tape) (G2.output.trans b2.output) (by omega) V2 (Nat.le_refl _) (by omega) (by omega) (fun o e => by
      have hu : u.drew.heap.size = u.heap.size := rfl
      rcases L2 o e with h | h
      · omega
      · rw [World.size_alloc, World.size_alloc] at h; omega) n20 n21
    have E3 : Hid (RE w f n u.heap.size g3 c3' ((w3.setCell ⟨u.heap.size, 0, none⟩ (.int .i64 (f 0))).setCell ⟨u.heap.size, 1, none⟩ (.slice g3 (n - 1) c3'))) := re_set W0 hzu Z0 hfz K3 (G3.os.trans b3.os) (G3.tape.trans b3.tape) (G3.output.trans b3.output) (by omega) V3 (by omega) (by omega) (by omega) (fun o e => by
      have hu : u.drew.heap.size = u.heap.size := rfl
      rcases L3 o e with h | h
      · omega
      · rw [World.size_alloc, World.size_alloc] at h; omega) n30 n31
    obtain ⟨W1, eW1⟩ : ∃ W1, w1.alloc (.cells #[.int .i64 (f 0), .slice g1 (n - 1) c1'] 55) = W1 := ⟨_, rfl⟩
    obtain ⟨W2, eW2⟩ : ∃ W2, (w2.setCell ⟨u.heap.size + 1, 0, none⟩ (.int .i64 (f 0))).setCell ⟨u.heap.size + 1, 1, none⟩ (.slice g2 (n - 1) c2') = W2 := ⟨_, rfl⟩
    obtain ⟨W3, eW3⟩ : ∃ W3, (w3.setCell ⟨u.heap.size, 0, none⟩ (.int .i64 (f 0))).setCell ⟨u.heap.size, 1, none⟩ (.slice g3 (n - 1) c3') = W3 := ⟨_, rfl⟩
    rw [eW1] at E1
    rw [eW2] at E2
    rw [eW3] at E3
    have Q1 : Hid (_ = W1) := eW1
    have Q2 : Hid (_ = W2) := eW2
    have Q3 : Hid (_ = W3) := eW3
    clear eW1 eW2 eW3 b1 b2 b3 K1 K2 K3 V1 V2 V3 G1 G2 G3 L1 L2 L3 S1 S2 S3 RA
    go_region_law (first
      | (refine step_append_run (by rfl) (.tmp 13) (.tmp 15) 22 (by rfl) (.slice (some ⟨u.heap.size, 0, none⟩) 0 0) (.slice A (n - 1) (n - 1)) (.slice g1 (n - 1) c1') (by simp [Act.eval, Act.put]) (by simp [Act.eval, Act.put]) w1 hrun1 ?_)
      | (refine step_append_run (by rfl) (.tmp 13) (.tmp 15) 22 (by rfl) (.slice (some ⟨u.heap.size, 0, none⟩) 0 0) (.slice A (n - 1) (n - 1)) (.slice g2 (n - 1) c2') (by simp [Act.eval, Act.put]) (by simp [Act.eval, Act.put]) w2 hrun2 ?_)
      | (refine step_append_run (by rfl) (.tmp 13) (.tmp 15) 22 (by rfl) (.slice (some ⟨u.heap.size + 1, 0, none⟩) 0 0) (.slice A (n - 1) (n - 1)) (.slice g3 (n - 1) c3') (by simp [Act.eval, Act.put]) (by simp [Act.eval, Act.put]) w3 hrun3 ?_))
    all_goals first
      | (rw [Q1.out]; have HE := E1.out; generalize w1.heap.size = p4 at HE ⊢; generalize g1 = g at HE ⊢; generalize c1' = c at HE ⊢; generalize W1 = W at HE ⊢)
      | (rw [Q2.out]; have HE := E2.out; generalize u.heap.size + 1 = p4 at HE ⊢; generalize g2 = g at HE ⊢; generalize c2' = c at HE ⊢; generalize W2 = W at HE ⊢)
      | (rw [Q3.out]; have HE := E3.out; generalize u.heap.size = p4 at HE ⊢; generalize g3 = g at HE ⊢; generalize c3' = c at HE ⊢; generalize W3 = W at HE ⊢)
    all_goals
      clear E1 E2 E3 Q1 Q2 Q3 hrun1 hrun2 hrun3 d1 d2 d3 e1 n20 n21 n30 n31 m20 m21 m30 m31 hA HA hfz Z0 W0 c1 hne bu hzu
      obtain ⟨F1, Z1, fz1, V1, B1⟩ := HE
      obtain ⟨lf, f0, f1⟩ := id F1
      go_wp2_with fail
      refine (goodFilter_spec (f 0) g (n - 1) c _ (by omega)).mono ?_
      rintro e w5 ⟨b5, rfl, h5, q5⟩
      have Z5 := Z1.keep q5
      have F5 := F1.keep q5
      have V5 := V1.keep q5
      have B5 : Below w.heap.size w w5 := B1.trans (q5.mono B1.size)
      have g0 : w5.frozen? ⟨w.heap.size, 0, none⟩ = false := (q5.frozen (p := ⟨w.heap.size, 0, none⟩) Z1.lt).trans (fz1 0)
      have g1 : w5.frozen? ⟨w.heap.size, 1, none⟩ = false := (q5.frozen (p := ⟨w.heap.size, 1, none⟩) Z1.lt).trans (fz1 1)
      clear Z1 F1 V1 B1 fz1 q5 lf f0 f1
      obtain ⟨lz, z0, z1⟩ := id Z5
      obtain ⟨lf, f0, f1⟩ := id F5
      cases b5
      · have K : Hid (¬ IsFl n f) := fun h => by
          have := h5.2 h.2
          cases this
        clear h5
        go_wp2
        refine bodyPost_ret (v := .tuple #[.agg #[.int .i64 0, .slice none 0 0], .bool false]) (by simp [results, Tryz.results73, go_sem, z0, z1]) rfl ⟨fun h => absurd h K.out, fun _ => ro_zero ?_⟩
        repeat' refine Below.setCell ?_ (by first | (simp; done) | (simp; omega)) _
        exact B5
      · have HG : Hid (IsFl n f) := ⟨by omega, h5.1 rfl⟩
        clear h5
        go_wp2
        refine bodyPost_ret (v := .tuple #[.agg #[.int .i64 (f 0), .slice g (n - 1) c], .bool true]) (by simp [results, Tryz.results73, go_sem, z0, z1]) rfl ⟨fun _ => ?_, fun h => absurd HG.out h⟩
        refine ⟨g, c, by rw [ffl_len], ⟨V5.bd, Nat.le_refl _, ?_⟩, ?_⟩
        · rcases V5.is with h0 | ⟨q, off, e, h1, h2, ho⟩
          · exact .inl h0
          · refine .inr ⟨q, off, e, by omega, by simp; exact ho.lt, ?_⟩
            repeat' refine (Others.setCell _ _ _ _).row ?_ (by omega)
            exact ho
        · repeat' refine Below.setCell ?_ (by first | (simp; done) | (simp; omega)) _
          exact B5
end Go.Proofs.YtohjjigkfdhklaaGreat
