/- draftOf. -/
import Derived.Test.YtagkhohglpjjlaaAw
import Derived.Test.YtagkhohglpjjlaaFo
import Derived.Deep.RegionLaw
namespace Go.Proofs.Ytagkhohglpjjlaa
open Go.RowKit
set_option linter.unusedSimpArgs false
set_option linter.unusedVariables false

theorem step_append_run {P : Program} {w : World} {ops : Array Oper} {o : Oper} {a : Act} {K : Act → World → Prop} {Q : Exit → Act → World → Prop} {E : Prop} (hgd : o.guard = none) (s x : Operand) (t : TypeId)
    (ho : o.op = .call { callee := .builtin .append, args := #[s, x], argTypes := #[t, t] }) (u v r : Value) (hs : a.eval s = u) (hx : a.eval x = v) (w' : World) (hrun : ∀ ty, (Builtin.append_ #[t, t] ty #[u, v]).run P w = .ok r w') (h : K (a.put o.dst r) w') :
    if Region.wanted o (yielded ops a.tmps) = true then Oper.wp P o a w K Q else E := by
  have hw : Region.wanted o (yielded ops a.tmps) = true := by simp [Region.wanted, hgd]
  rw [if_pos hw]
  unfold Oper.wp execOp
  simp only [ho, resolve, invoke, builtin, Sem.run_bind, Sem.run_pure, Result.andThen_ok, List.map_toArray, List.map_cons, List.map_nil, hs, hx, hrun]
  exact h

/-- A copy by append. -/
theorem run_copyM (w : World) (base : Nat) (ao : Option Addr) (c : Nat) (M : List Met) (hM : MRow w ao M.length (mL M)) (hsz : M.length ≤ 1048576) (hbase : base ≤ w.heap.size) :
    ∃ v' w', (∀ ty, (Builtin.append_ #[71, 71] ty #[.slice none 0 0, .slice ao M.length c]).run Try.prog w = .ok v' w') ∧ OwnM w' base v' M ∧ w.grownBy w' none ∧ (v'.ownBlock = none ∨ v'.ownBlock = some w.heap.size) := by
  obtain ⟨i0, hi, hz0, hz1, hz2⟩ := info_parts Try.infoM
  have hbd := mf_bd hM
  have fin : ∀ ad : Addr, ao = some ad → (∀ j u, (M.flatMap mc)[j]? = some u → w.cell? (ad.add j) = some u) → ∃ v' w', (∀ ty, (Builtin.append_ #[71, 71] ty #[.slice none 0 0, .slice ao M.length c]).run Try.prog w = .ok v' w') ∧ OwnM w' base v' M ∧ w.grownBy w' none ∧ (v'.ownBlock = none ∨ v'.ownBlock = some w.heap.size) := fun ad e hc => by
    subst e
    obtain ⟨v', w', h1, h2, h3, _, h5⟩ := run_append_own_at (P := Try.prog) w base 71 0 52 i0 (.agg #[.int .i64 0, .string ByteArray.empty, .string ByteArray.empty, .int .i64 0]) 4 48 Try.underlying71 hi hz0 hz1 hz2 rfl (by decide) (.slice none 0 0) 0 [] (World.ownsRow_nil _ _ _ _) ad M.length c (M.flatMap mc) (mf_len M) hc (mf_one M) (by unfold maxLen; omega) (by omega) hbase
    refine ⟨v', w', fun ty => h1, ⟨hbd, ?_⟩, h3, h5⟩
    rw [Nat.zero_add] at h2
    exact h2
  rcases hM.lies with h0 | ⟨b, off, rfl, hblt, hc⟩
  · have hM0 : M = [] := List.length_eq_zero_iff.1 h0
    subst hM0
    cases ao with
    | none =>
      refine ⟨.slice none 0 0, w, fun ty => ?_, ownM_nil _ _, ⟨rfl, rfl, rfl, Nat.le_refl _, fun _ _ _ => rfl⟩, .inl rfl⟩
      simp [Builtin.append_, run_underlying Try.underlying71, sizeOf, typeInfo, hi, Builtin.lenOf, Builtin.firstCells]
    | some ad => exact fin ad rfl (fun j u hu => by simp at hu)
  · exact fin _ rfl (mf_cell hc)

theorem Lv.congr {w : World} {base g N : Nat} {V V' : Nat → Value} {LL LL' : Nat → List Met} (h : Lv w base g N V LL) (e : ∀ i, i < N → LL i = LL' i) : Lv w base g N V LL' :=
  ⟨h.lt, h.bs, h.cell, fun i hi => by rw [← e i hi]; exact h.own i hi, h.apart, h.dis, h.free⟩

theorem Lv.lower {w : World} {base base' g N : Nat} {V : Nat → Value} {LL : Nat → List Met} (h : Lv w base g N V LL) (hb : base' ≤ base) : Lv w base' g N V LL :=
  ⟨h.lt, Nat.le_trans hb h.bs, h.cell, fun i hi => (h.own i hi).lower hb, h.apart, h.dis, h.free⟩

/-- A draft in a box. -/
structure DX (w : World) (b : Nat) (nx lg sq : Int) (ao : Option Addr) (N cap : Nat) (fl : Bool) : Prop where
  lt : b < w.heap.size
  c0 : w.cell? ⟨b, 0, none⟩ = some (.int .i64 nx)
  c1 : w.cell? ⟨b, 1, none⟩ = some (.int .i64 lg)
  c2 : w.cell? ⟨b, 2, none⟩ = some (.int .i64 sq)
  c3 : w.cell? ⟨b, 3, none⟩ = some (.slice ao N cap)
  c4 : w.cell? ⟨b, 4, none⟩ = some (.bool fl)
  free : ∀ j, w.frozen? ⟨b, j, none⟩ = false
theorem DX.same {w w' : World} {b : Nat} {nx lg sq : Int} {ao : Option Addr} {N cap : Nat} {fl : Bool} (h : DX w b nx lg sq ao N cap fl) (hs : w.heap.size ≤ w'.heap.size) (hb : w'.heap[b]? = w.heap[b]?) : DX w' b nx lg sq ao N cap fl :=
  have c := fun j => World.cell?_of_block (w := w) (w' := w') (a := ⟨b, j, none⟩) hb
  ⟨Nat.lt_of_lt_of_le h.lt hs, (c 0).trans h.c0, (c 1).trans h.c1, (c 2).trans h.c2, (c 3).trans h.c3, (c 4).trans h.c4, fun j => (World.frozen?_of_block (w := w) (a := ⟨b, j, none⟩) hb).trans (h.free j)⟩
theorem DX.keep {w w' : World} {b : Nat} {nx lg sq : Int} {ao : Option Addr} {N cap : Nat} {fl : Bool} (h : DX w b nx lg sq ao N cap fl) (hb : Below w.heap.size w w') : DX w' b nx lg sq ao N cap fl := h.same hb.size (hb.block b h.lt)
theorem DX.new (w : World) (nx lg sq : Int) (ao : Option Addr) (N cap T : Nat) (fl : Bool) : DX (w.alloc (.cells #[.int .i64 nx, .int .i64 lg, .int .i64 sq, .slice ao N cap, .bool fl] T)) w.heap.size nx lg sq ao N cap fl := by
  refine ⟨by simp, ?_, ?_, ?_, ?_, ?_, fun j => ?_⟩ <;> simp [go_sem]

/-- The world of the three boxes. -/
abbrev dW (w : World) (nx lg sq : Int) (ao : Option Addr) (N cap : Nat) : World :=
  ((w.alloc (.cells #[.int .i64 nx, .int .i64 lg, .int .i64 sq, .slice ao N cap] 25)).alloc (.cells #[.int .i64 0, .int .i64 0, .int .i64 0, .slice none 0 0, .bool false] 48)).alloc (.cells #[.int .i64 nx, .int .i64 lg, .int .i64 sq, .slice ao N cap, .bool false] 48)
theorem draft_made (w : World) (nx lg sq : Int) (ao : Option Addr) (N cap : Nat) (w1 : World)
    (hown : w1.ownsRow w.heap.size 71 1 (.slice (some ⟨(dW w nx lg sq ao N cap).heap.size, 0, none⟩) N N) N (madeCells (Value.slice none 0 0).cells (N * 1)).toList)
    (hgrow : (dW w nx lg sq ao N cap).grownBy w1 none) :
    DX w1 (w.heap.size + 1 + 1) nx lg sq ao N cap false ∧ DX w1 (w.heap.size + 1) 0 0 0 none 0 0 false ∧ VX w1 w.heap.size nx lg sq ao N cap ∧ Below w.heap.size w w1 ∧ Lv w1 (w.heap.size + 1 + 1 + 1) (w.heap.size + 1 + 1 + 1) N (fun _ => .slice none 0 0) (fun _ => []) := by
  have hb1 : Below (dW w nx lg sq ao N cap).heap.size (dW w nx lg sq ao N cap) w1 := (Below.refl _ _).grown hgrow (Nat.le_refl _) (fun k h => by simp at h)
  have hb0 : Below w.heap.size w (dW w nx lg sq ao N cap) := (((Below.refl _ _).alloc (Nat.le_refl _) _).alloc (by simp) _).alloc (by simp; omega) _
  have hsz : (dW w nx lg sq ao N cap).heap.size = w.heap.size + 1 + 1 + 1 := by simp
  rw [hsz] at hown
  have hlt1 : w.heap.size + 1 + 1 + 1 < w1.heap.size := by
    rcases hown.2 with ⟨h, _⟩ | ⟨g', cap', cur, h, _, hg, _⟩
    · simp at h
    · simp at h; obtain ⟨rfl, _⟩ := h
      exact (Array.getElem?_eq_some_iff.1 hg).1
  refine ⟨DX.keep ?_ hb1, DX.keep ?_ hb1, VX.keep ?_ hb1, hb0.trans (hb1.mono (by omega)), ⟨hlt1, by omega, fun i hi => ?_, fun i hi => ownM_nil _ _, fun i hi h => ?_, fun i j _ _ _ c h => ?_, fun j _ => hown.frozenAt j⟩⟩
  · have h := DX.new ((w.alloc (.cells #[.int .i64 nx, .int .i64 lg, .int .i64 sq, .slice ao N cap] 25)).alloc (.cells #[.int .i64 0, .int .i64 0, .int .i64 0, .slice none 0 0, .bool false] 48)) nx lg sq ao N cap 48 false
    simpa using h
  · have h := (DX.new (w.alloc (.cells #[.int .i64 nx, .int .i64 lg, .int .i64 sq, .slice ao N cap] 25)) 0 0 0 none 0 0 48 false).keep (below_new _ (.cells #[.int .i64 nx, .int .i64 lg, .int .i64 sq, .slice ao N cap, .bool false] 48))
    simpa using h
  · exact (VX.new w nx lg sq ao N cap 25).keep (((below_new _ _)).alloc (by simp) _)
  · have h1 := hown.cellAt i (by omega)
    have h2 := made_cell (d := (Value.slice none 0 0).cells) (k := 1) (n := N) (i := i) (q := 0) rfl hi (by omega)
    simp only [Nat.mul_one, Nat.add_zero] at h2
    rw [h1, Nat.mul_one, h2]
    rfl
  · simp [Value.ownBlock] at h
  · simp [Value.ownBlock] at h

set_option maxRecDepth 100000 in
set_option maxHeartbeats 1600000 in
theorem draftOf_any (nx lg sq : Int) (ao : Option Addr) (N cap : Nat) (LL : Nat → List Met) (w : World) (hr : VRow w ao N (fun i => mL (LL i)) (fun i => (LL i).length)) (hN : N ≤ 1048576) (hM : ∀ i, i < N → (LL i).length ≤ 1048576) :
    Calls Try.prog 14 #[.agg #[.int .i64 nx, .int .i64 lg, .int .i64 sq, .slice ao N cap]] w
      fun e w' => ∃ g V, e = .returned (.agg #[.int .i64 nx, .int .i64 lg, .int .i64 sq, .slice (some ⟨g, 0, none⟩) N N, .bool false]) ∧ Lv w' w.heap.size g N V LL ∧ Below w.heap.size w w' := by
  obtain ⟨i0, hi, hz0, hz1, hz2⟩ := info_parts Try.infoMS
  have hbr : N * 24 ≤ 281474976710656 := by omega
  obtain ⟨hbd, _, hlies⟩ := hr
  go_enter Try.func14, Try.ntmps14
  go_wp2_with (at_make; refine wpList_make_full _ rfl (.tmp 10) (.tmp 10) 23 rfl w.heap.size 71 i0 (.slice none 0 0) 1 Try.underlying23 hi hz0 hz1 .i64 .i64 _ _ N rfl rfl rfl rfl (by rw [hz2]; omega) (by unfold maxLen; omega) (by simp; omega) ?_; intro w1 hown hgrow; obtain ⟨D2, D1, X0, hb1, hL⟩ := draft_made w nx lg sq ao N cap w1 hown hgrow; clear hown hgrow; have d23 := D2.c3; have d2f := D2.free 3; have x3 := X0.c3)
  have hoth : Others (w.heap.size + 1 + 1) w1 (w1.setCell ⟨w.heap.size + 1 + 1, 3, none⟩ (.slice (some ⟨w.heap.size + 1 + 1 + 1, 0, none⟩) N N)) := Others.setCell _ _ _ _
  have hL2 := hL.same (w' := w1.setCell ⟨w.heap.size + 1 + 1, 3, none⟩ (.slice (some ⟨w.heap.size + 1 + 1 + 1, 0, none⟩) N N)) (by rw [hoth.size]; exact Nat.le_refl _) (fun c h1 _ => hoth.block c (by omega))
  have hD1 := D1.same (w' := w1.setCell ⟨w.heap.size + 1 + 1, 3, none⟩ (.slice (some ⟨w.heap.size + 1 + 1 + 1, 0, none⟩) N N)) (by rw [hoth.size]; exact Nat.le_refl _) (hoth.block _ (by omega))
  have hD2 : DX (w1.setCell ⟨w.heap.size + 1 + 1, 3, none⟩ (.slice (some ⟨w.heap.size + 1 + 1 + 1, 0, none⟩) N N)) (w.heap.size + 1 + 1) nx lg sq (some ⟨w.heap.size + 1 + 1 + 1, 0, none⟩) N N false := by
    have hother : ∀ j, j ≠ 3 → (w1.setCell ⟨w.heap.size + 1 + 1, 3, none⟩ (.slice (some ⟨w.heap.size + 1 + 1 + 1, 0, none⟩) N N)).cell? ⟨w.heap.size + 1 + 1, j, none⟩ = w1.cell? ⟨w.heap.size + 1 + 1, j, none⟩ := fun j hj => World.cell?_setCell_other _ _ _ _ (by intro hh; injection hh with _ h2 _; omega)
    exact ⟨by rw [hoth.size]; exact D2.lt, (hother 0 (by omega)).trans D2.c0, (hother 1 (by omega)).trans D2.c1, (hother 2 (by omega)).trans D2.c2, World.cell?_setCell_same _ _ _ D2.c3, (hother 4 (by omega)).trans D2.c4, fun j => by simpa using D2.free j⟩
  have hb2 := hb1.setCell (p := ⟨w.heap.size + 1 + 1, 3, none⟩) (by show w.heap.size ≤ _; dsimp only; omega) (.slice (some ⟨w.heap.size + 1 + 1 + 1, 0, none⟩) N N)
  generalize (w1.setCell ⟨w.heap.size + 1 + 1, 3, none⟩ (.slice (some ⟨w.heap.size + 1 + 1 + 1, 0, none⟩) N N)) = w2 at *
  clear hoth D1 D2 X0 hb1 hL d23 d2f x3
  clear w1
  go_loopw [17] (fun i wr => ∃ (k : Nat) (V : Nat → Value), k ≤ N ∧ i = .int .i64 k ∧ Lv wr (w.heap.size + 1 + 1 + 1) (w.heap.size + 1 + 1 + 1) N V (fun i => if i < k then LL i else []) ∧ DX wr (w.heap.size + 1 + 1) nx lg sq (some ⟨w.heap.size + 1 + 1 + 1, 0, none⟩) N N false ∧ DX wr (w.heap.size + 1) 0 0 0 none 0 0 false ∧ Below w.heap.size w wr) (fun i _ => N - (intOf i).toNat)
  case atStart => exact ⟨0, _, Nat.zero_le _, rfl, hL2.congr (V' := fun _ => .slice none 0 0) (fun i _ => by simp), hD2, hD1, hb2⟩
  case round =>
    clear hL2 hD1 hD2 hb2
    clear w2
    obtain ⟨k, V, hk, rfl, hL, hD2, hD1, hbk⟩ := hrel
    by_cases hlt : k < N
    · obtain ⟨b, off, rfl, hblt, hc⟩ := hlies.resolve_left (by omega)
      obtain ⟨da, dc, ea, er⟩ := hc k hlt
      have a0 := (hbk.cell (p := ⟨b, off + k, none⟩) hblt).trans ea
      have erk := (er.keep hbk).keep (Below.refl _ wr).drew
      have hgs := hL.lt
      obtain ⟨v', w', hrun, hO, hg, hob⟩ := run_copyM wr.drew (w.heap.size + 1 + 1 + 1) da dc (LL k) erk (hM k hlt) (by show _ ≤ wr.heap.size; omega)
      have hbn : Below wr.heap.size wr w' := (Below.refl _ wr).drew.grown hg (Nat.le_refl _) (fun k h => by simp at h)
      have hob2 : ∀ c, v'.ownBlock = some c → c = wr.heap.size := fun c hc => by
        rcases hob with h | h
        · rw [h] at hc; cases hc
        · rw [h] at hc; exact (Option.some.inj hc).symm
      have L2 := hL.keep hbn
      have L3 := (L2.store hlt hO (fun h => by have := hob2 _ h; omega) (fun i hi _ c hc hc2 => by
        have h1 := hob2 _ hc2
        have h2 := ((hL.own i hi).own.lt c hc).2
        omega)).congr (V' := V) (LL' := fun i => if i < k + 1 then LL i else []) (fun i hi => by
          by_cases e : i = k
          · subst e; simp
          · by_cases e2 : i < k
            · simp [e, e2, show i < k + 1 by omega]
            · simp [e, e2, show ¬ i < k + 1 by omega])
      have hoth : Others (w.heap.size + 1 + 1 + 1) w' (w'.setCell ⟨w.heap.size + 1 + 1 + 1, k, none⟩ v') := Others.setCell _ _ _ _
      have hF : Hid (Lv (w'.setCell ⟨w.heap.size + 1 + 1 + 1, k, none⟩ v') (w.heap.size + 1 + 1 + 1) (w.heap.size + 1 + 1 + 1) N (fun i => if i = k then v' else V i) (fun i => if i < k + 1 then LL i else []) ∧ DX (w'.setCell ⟨w.heap.size + 1 + 1 + 1, k, none⟩ v') (w.heap.size + 1 + 1) nx lg sq (some ⟨w.heap.size + 1 + 1 + 1, 0, none⟩) N N false ∧ DX (w'.setCell ⟨w.heap.size + 1 + 1 + 1, k, none⟩ v') (w.heap.size + 1) 0 0 0 none 0 0 false ∧ Below w.heap.size w (w'.setCell ⟨w.heap.size + 1 + 1 + 1, k, none⟩ v')) :=
        ⟨L3, (hD2.keep hbn).same (by rw [hoth.size]; exact Nat.le_refl _) (hoth.block _ (by omega)), (hD1.keep hbn).same (by rw [hoth.size]; exact Nat.le_refl _) (hoth.block _ (by omega)), (hbk.trans (hbn.mono hbk.size)).setCell (p := ⟨w.heap.size + 1 + 1 + 1, k, none⟩) (by dsimp only; omega) v'⟩
      have gc := L2.cell k hlt
      have gf := L2.free k hlt
      have d3 := hD2.c3
      have e3 := (hD2.keep hbn).c3
      obtain ⟨so, sc, rfl, _⟩ := hO.form
      have hlk := hM k hlt
      clear hc hlies ea er erk L2 L3 hoth hO hob hob2 hg hbn hL hD2 hD1 hbd hM
      go_wp2
      go_region_law (refine step_append_run (by rfl) (.const (.slice none 0 0)) (.tmp 26) 71 (by rfl) (.slice none 0 0) (.slice da (LL k).length dc) (.slice so (LL k).length sc) (by simp [Act.eval, Act.put]) (by simp [Act.eval, Act.put]) w' hrun ?_)
      all_goals
        go_wp2
        go_roundw
        case rel => exact ⟨k + 1, _, by omega, by go_num, hF.out.1, hF.out.2.1, hF.out.2.2.1, hF.out.2.2.2⟩
        case measure => simp [intOf]; omega
    · obtain rfl : k = N := by omega
      have hL2 := hL.congr (V' := V) (LL' := LL) (fun i hi => by simp [hi])
      obtain ⟨_, a0, a1, a2, a3, a4, _⟩ := hD2
      obtain ⟨_, b0, b1, b2, b3, b4, bf⟩ := hD1
      clear hL hlies hbd
      go_wp2
      refine bodyPost_ret (v := .agg #[.int .i64 nx, .int .i64 lg, .int .i64 sq, .slice (some ⟨w.heap.size + 1 + 1 + 1, 0, none⟩) k k, .bool false]) (by simp [results, Try.results14, go_sem, b0, b1, b2, b3, b4]) rfl ⟨w.heap.size + 1 + 1 + 1, V, rfl, ?_, ?_⟩
      · refine (hL2.same (by simp) fun c hc _ => ?_).lower (by omega)
        repeat' refine (Below.heap_setCell _ _ _ _ (by first | omega | (dsimp only; omega))).trans ?_
        rfl
      · repeat' refine Below.setCell ?_ (by first | (simp; done) | (simp; omega)) _
        exact hbk
end Go.Proofs.Ytagkhohglpjjlaa
