/- l2Append where there is room. -/
import Derived.Test.YtiojjihonmonkaaDoorBytesA
import Derived.Test.YtiojjihonmonkaaDoorPutO
import Derived.Laws.OwnMore
import Derived.Deep.AppendLies
import Derived.Deep.RegionLaw
namespace Go.Proofs.YtiojjihonmonkaaDoor
open Go.RowKit
set_option linter.unusedSimpArgs false
set_option linter.unusedVariables false

theorem step_append_run {P : Program} {w : World} {ops : Array Oper} {o : Oper} {a : Act} {K : Act → World → Prop} {Q : Exit → Act → World → Prop} {E : Prop} (hgd : o.guard = none) (s x : Operand) (t : TypeId)
    (ho : o.op = .call { callee := .builtin .append, args := #[s, x], argTypes := #[t, t] }) (u v r : Value) (hs : a.eval s = u) (hx : a.eval x = v) (w' : World) (hrun : ∀ ty, (Builtin.append_ #[t, t] ty #[u, v]).run P w = .ok r w') (h : K (a.put o.dst r) w') :
    if Region.wanted o (yielded ops a.tmps) = true then Oper.wp P o a w K Q else E := by
  have hw : Region.wanted o (yielded ops a.tmps) = true := by simp [Region.wanted, hgd]
  rw [if_pos hw]
  unfold Oper.wp execOp
  simp only [ho, resolve, invoke, builtin, Sem.run_bind, Sem.run_pure, Result.andThen_ok, List.map_toArray, List.map_cons, List.map_nil, hs, hx, hrun]
  exact h

theorem copy2_runX (w : World) (B0 : Nat) (hB0 : w.heap[B0]? = some (.cells #[] 5 (0, 0))) (da : Option Addr) (len dc : Nat) (f : Nat → Int) (hr : Row w da len f) (hn : len ≤ 1048576) :
    ∃ g c w', (∀ ty, (Builtin.append_ #[22, 22] ty #[.slice (some ⟨B0, 0, none⟩) 0 0, .slice da len dc]).run Tryd.prog w = .ok (.slice g len c) w') ∧ w'.ownsRow B0 5 1 (.slice g len c) len (bl f len) ∧ w.grownBy w' (some B0) ∧ ∀ b, some b = (Value.slice g len c).ownBlock → b = B0 ∨ b = w.heap.size := by
  obtain ⟨i0, hi, hz0, hz1, hz2⟩ := info_parts Tryd.info5
  have hB0lt : B0 < w.heap.size := (Array.getElem?_eq_some_iff.1 hB0).1
  have hown0 : w.ownsRow B0 5 1 (.slice (some ⟨B0, 0, none⟩) 0 0) 0 (bl f 0) := ⟨by simp [bl], .inr ⟨B0, 0, #[], rfl, Nat.le_refl _, hB0, Nat.le_refl _, by unfold maxLen; omega, rfl, by simp [bl]⟩⟩
  by_cases h0 : len = 0
  · subst h0
    refine ⟨some ⟨B0, 0, none⟩, 0, w, fun ty => ?_, hown0, ⟨rfl, rfl, rfl, Nat.le_refl _, fun _ _ _ => rfl⟩, fun b e => .inl (Option.some.inj e)⟩
    cases da <;> simp [Builtin.append_, run_underlying Tryd.underlying22, sizeOf, typeInfo, hi, Builtin.lenOf, Builtin.firstCells, loadCells, loadCellsFrom, storeCells]
  · obtain ⟨b, off, rfl, hlt, hc⟩ := hr.lies.resolve_left h0
    obtain ⟨p', c', w', hrun, hown, hgr, hat⟩ := bapp_run w B0 (some ⟨B0, 0, none⟩) 0 0 len f f ⟨b, off, none⟩ dc hown0 (fun j hj => by
      have h1 := hc j hj
      by_cases hj0 : j = 0
      · subst hj0; simp only [Addr.add, if_true]; exact h1
      · simp only [Addr.add, if_neg hj0]; exact h1) (by omega) (Nat.le_of_lt hB0lt)
    rw [Nat.zero_add] at hrun hown hat
    have e : cat f 0 f = f := by funext i; simp [cat]
    rw [e] at hown
    refine ⟨p', c', w', hrun, hown, hgr, fun b e => ?_⟩
    rcases hat b e with g | g
    · exact .inl (Option.some.inj g)
    · exact .inr g

theorem bapp_run2 (w : World) (base : Nat) (p : Option Addr) (c n m : Nat) (f h : Nat → Int) (ao : Option Addr) (sc : Nat) (hown : w.ownsRow base 5 1 (.slice p n c) n (bl f n)) (hsrc : BAO w ao m sc h) (hl : n + m ≤ 4194304) (hb : base ≤ w.heap.size) :
    ∃ p' c' w', (∀ ty, (Builtin.append_ #[22, 22] ty #[.slice p n c, .slice ao m sc]).run Tryd.prog w = .ok (.slice p' (n + m) c') w') ∧
      w'.ownsRow base 5 1 (.slice p' (n + m) c') (n + m) (bl (cat f n h) (n + m)) ∧ w.grownBy w' (Value.slice p n c).ownBlock ∧ ∀ b, some b = (Value.slice p' (n + m) c').ownBlock → some b = (Value.slice p n c).ownBlock ∨ b = w.heap.size := by
  rcases hsrc with ⟨rfl, rfl, rfl⟩ | ⟨ad, rfl, hA⟩
  · obtain ⟨i0, hi, hz0, hz1, hz2⟩ := info_parts Tryd.info5
    have e : bl (cat f n h) (n + 0) = bl f n := by
      rw [Nat.add_zero]
      unfold bl
      exact List.map_congr_left fun i hi => by rw [List.mem_range] at hi; simp [cat, hi]
    exact ⟨p, c, w, fun ty => run_append_owned_none (P := Tryd.prog) (w := w) base 22 ty 5 i0 1 Tryd.underlying22 hi _ n _ hown, by rw [e]; exact hown, ⟨rfl, rfl, rfl, Nat.le_refl _, fun _ _ _ => rfl⟩, fun b hb => .inl hb⟩
  · exact bapp_run w base p c n m f h ad sc hown hA.2.2 hl hb

theorem app_low {w w4 : World} {g n base j m : Nat} {F : Nat → Fil} {h : Nat → Int} {p4 : Option Addr} {c4 c : Nat} (hj : j < n) (hg1 : base ≤ g) (hg2 : g < w.heap.size) (hS : SRow w base (.slice (some ⟨g, 0, none⟩) n c) n F) (hs : w.heap.size ≤ w4.heap.size) (hbl : ∀ k, k < w.heap.size → w4.heap[k]? = w.heap[k]?) (hbs : base ≤ w.heap.size) (hgc : ∀ i, i < n → ∃ da dc, FAt w g (i * 3) (F i) da dc ∧ ∀ b off, da = some ⟨b, off, none⟩ → (F i).len ≠ 0 → b ≠ g ∧ base ≤ b)
    (hf : ∀ i, 0 ≤ cat (F j).f (F j).len h i ∧ cat (F j).f (F j).len h i ≤ 255) (hown : w4.ownsRow w.heap.size 5 1 (.slice p4 ((F j).len + m) c4) ((F j).len + m) (bl (cat (F j).f (F j).len h) ((F j).len + m))) :
    SRow (w4.setCell ⟨g, j * 3 + 1, none⟩ (.slice p4 ((F j).len + m) c4)) base (.slice (some ⟨g, 0, none⟩) n c) n (appF F j m h) := by
  obtain ⟨cur, hcur, hsz, hnc, hmx⟩ := hS.blk
  obtain ⟨cur', hcur', hsz'⟩ := blk_set (k := j * 3 + 1) (.slice p4 ((F j).len + m) c4) ((hbl g hg2).trans hcur) hsz
  refine srow_of hg1 hcur' hsz' hnc hmx fun i hi => ?_
  obtain ⟨da, dc, ⟨f0, f1, f2, frow⟩, hda⟩ := hgc i hi
  have hcO := hS.cap hi f1
  have cl : ∀ k, w4.cell? ⟨g, k, none⟩ = w.cell? ⟨g, k, none⟩ := fun k => World.cell?_of_block (w := w) (a := ⟨g, k, none⟩) (hbl g hg2)
  have oth : ∀ k, k ≠ j * 3 + 1 → (w4.setCell ⟨g, j * 3 + 1, none⟩ (.slice p4 ((F j).len + m) c4)).cell? ⟨g, k, none⟩ = w.cell? ⟨g, k, none⟩ := fun k hk => (World.cell?_setCell_other _ _ _ _ (by intro hh; injection hh with _ h3 _; omega)).trans (cl k)
  by_cases e : i = j
  · subst e
    have e2 : appF F i m h i = { F i with len := (F i).len + m, f := cat (F i).f (F i).len h } := by simp [appF]
    rw [e2]
    have hO : Row (w4.setCell ⟨g, i * 3 + 1, none⟩ (.slice p4 ((F i).len + m) c4)) p4 ((F i).len + m) (cat (F i).f (F i).len h) := by
      rcases hown.2 with ⟨_, h0⟩ | ⟨g4, cap, cur, e, h1, h2, _⟩
      · exact ⟨hf, .inl h0⟩
      · injection e with e _ _
        subst e
        have hO := (own_of_rowP hf hown).row
        exact row_blocks hO (by simp) (fun b off e _ _ => Below.heap_setCell _ _ _ _ (by
          injection e with e
          injection e with e _ _
          show b ≠ g
          omega))
    refine ⟨p4, c4, ⟨(oth _ (by omega)).trans f0, World.cell?_setCell_same _ _ _ ((cl _).trans f1), (oth _ (by omega)).trans f2, hO⟩, fun b off e h0 => ?_, ?_⟩
    · have := brow_ge hown (b := b) (by rw [e]; rfl)
      exact ⟨by omega, by omega⟩
    · show CapO p4 ((F i).len + m) c4
      rcases hown.2 with ⟨e, h0⟩ | ⟨g4, cap, cur, e, h1, h2, h3, _⟩
      · injection e with e1 _ e3
        exact ⟨by omega, .inl ⟨e1, e3⟩⟩
      · injection e with e1 _ e3
        exact ⟨by omega, .inr ⟨_, _, e1⟩⟩
  · have e2 : appF F j m h i = F i := by simp [appF, e]
    rw [e2]
    have hrow : Row (w4.setCell ⟨g, j * 3 + 1, none⟩ (.slice p4 ((F j).len + m) c4)) da (F i).len (F i).f := row_blocks frow (by simpa using hs) (fun b off e h0 hlt => (Below.heap_setCell _ _ _ _ (hda b off e h0).1).trans (hbl b hlt))
    exact ⟨da, dc, ⟨(oth _ (by omega)).trans f0, (oth _ (by omega)).trans f1, (oth _ (by omega)).trans f2, hrow⟩, fun b off e h0 => hda b off e h0, hcO⟩

set_option maxRecDepth 100000 in
set_option maxHeartbeats 8000000 in
theorem l2Append_hit (Q : Int) (fb : Nat) (p : Option Addr) (n c base : Nat) (F : Nat → Fil) (s : ByteArray) (j : Nat) (hj : j < n) (ad : Option Addr) (m bc : Nat) (h : Nat → Int) (hat : ∀ v, AtN F n s v → v = (j : Int)) (hu : used F n ≤ 60000) (hm : m ≤ 1048576) (hroom : ((used F n + m : Nat) : Int) ≤ Q) (w : World) (hq : QAt w fb Q (.slice p n c)) (hfb : fb < base) (hbs : base ≤ w.heap.size) (hr : SRow w base (.slice p n c) n F) (hn : n ≤ 1048576) (hz : FSize n F 1048576)
    (HB : Hid (∀ i, 0 ≤ cat (F j).f (F j).len h i ∧ cat (F j).f (F j).len h i ≤ 255)) (HA : Hid (BAO w ad m bc h)) :
    Calls Tryd.prog 43 #[.pointer (some ⟨fb, 0, none⟩), .string s, .slice ad m bc] w fun e w' => LOut Q 0 n (appF F j m h) fb base w e w' := by
  obtain ⟨l1, x0, x1⟩ := id hq
  go_enter Tryd.func43, Tryd.ntmps43
  go_wp2_with fail
  refine (l2At_any Q p n c F s _ hr.row hn).mono ?_
  rintro e w1 ⟨v, rfl, hv, hb1⟩
  obtain rfl := hat v hv
  have hq1 := hq.keep hb1
  have hr1 := (hr.keep hb1).row.keep (Below.refl _ _).drew
  obtain ⟨_, y0, y1⟩ := id hq1
  have l2 : fb < w1.heap.size := hq1.lt
  have hwr : IntKind.i64.wrap (((used F n : Nat) : Int) + (m : Int)) = ((used F n : Nat) : Int) + (m : Int) := by rw [IntKind.wrap_i64] <;> omega
  have hlt : ¬ Q < ((used F n : Nat) : Int) + (m : Int) := by omega
  have hd : decide ((j : Int) < 0) = false := by simp
  clear x0 x1 hv hq1
  go_wp2
  go_region_held3 (fun w' => w'.cell? ⟨fb, 0, none⟩ = some (.int .i64 Q) ∧ w'.cell? ⟨fb, 1, none⟩ = some (.slice p n c)) (go_keep) (first | (go_at_call 37; refine (l2Used_any Q p n c F _ hr1 hn hz).mono ?_; rintro e w2 ⟨rfl, hb2⟩; have hb2' := (Below.refl _ w1).drew.trans hb2; have g0 := (hb2'.cell (p := ⟨fb, 0, none⟩) l2).trans y0; have g1 := (hb2'.cell (p := ⟨fb, 1, none⟩) l2).trans y1))
  have hb3 : Below w.heap.size w w2 := hb1.trans (Below.mono (show Below w1.heap.size w1 w2 from hb2') hb1.size)
  have hq2 := hq.keep hb3
  have hS2 := hr.keep hb3
  clear hb2 hb2' g0 g1 hr1 y0 y1 l2 hr hb1
  obtain ⟨g, rfl, hg1, hg2, hgf, hgc⟩ := hS2.at (by omega)
  obtain ⟨da, dc, hf, hda⟩ := hgc j hj
  obtain ⟨f0, f1, f2, frow⟩ := id hf
  obtain ⟨l2, x0, x1⟩ := id hq2
  have jn : (j : Int) < n := by omega
  have hU : Below w2.heap.size w2 (w2.drew.alloc (.cells #[] 5)) := (Below.refl _ w2).drew.alloc (Nat.le_refl _) _
  have sU : (w2.drew.alloc (.cells #[] 5)).heap.size = w2.heap.size + 1 := by simp
  have hU0 : (w2.drew.alloc (.cells #[] 5)).heap[w2.heap.size]? = some (.cells #[] 5 (0, 0)) := heap_alloc_new w2.drew _
  obtain ⟨p3, c3, w3, hrun1, own3, hgr3, hat3⟩ := copy2_runX _ w2.heap.size hU0 da (F j).len dc (F j).f (frow.keep hU) (hz j hj).2
  have s3 := hgr3.size
  have b3 : ∀ k, k < w2.heap.size → w3.heap[k]? = w2.heap[k]? := fun k hk => (hgr3.block k (by omega) (fun e => by have := Option.some.inj e; omega)).trans (hU.block k hk)
  have src3 : BAO w3 ad m bc h := by
    have hW : Below w.heap.size w w3 := ⟨hgr3.os.trans hb3.os, hgr3.tape.trans hb3.tape, hgr3.output.trans hb3.output, by have := hb3.size; omega, fun k hk => (b3 k (by have := hb3.size; omega)).trans (hb3.block k hk)⟩
    exact HA.out.keep hW
  obtain ⟨p4, c4, w4, hrun2, own4, hgr4, hat4⟩ := bapp_run2 w3 w2.heap.size p3 c3 (F j).len m (F j).f h ad bc own3 src3 (by have := (hz j hj).2; omega) (by omega)
  have s4 := hgr4.size
  have b4 : ∀ k, k < w2.heap.size → w4.heap[k]? = w2.heap[k]? := fun k hk => (hgr4.block k (by omega) (fun e => by
    rcases hat3 k e with h | h <;> omega)).trans (b3 k hk)
  have hlow := app_low hj hg1 hg2 hS2 (by omega) b4 (Nat.le_trans hbs hb3.size) hgc HB.out own4
  have d1 := x1
  have u1 : (w2.drew.alloc (.cells #[] 5)).cell? ⟨fb, 1, none⟩ = some (.slice (some ⟨g, 0, none⟩) n c) := (hU.cell (p := ⟨fb, 1, none⟩) l2).trans x1
  have t1 : w3.cell? ⟨fb, 1, none⟩ = some (.slice (some ⟨g, 0, none⟩) n c) := (World.cell?_of_block (w := w2) (a := ⟨fb, 1, none⟩) (b3 fb l2)).trans x1
  have v1 : w4.cell? ⟨fb, 1, none⟩ = some (.slice (some ⟨g, 0, none⟩) n c) := (World.cell?_of_block (w := w2) (a := ⟨fb, 1, none⟩) (b4 fb l2)).trans x1
  have v0 : w4.cell? ⟨fb, 0, none⟩ = some (.int .i64 Q) := (World.cell?_of_block (w := w2) (a := ⟨fb, 0, none⟩) (b4 fb l2)).trans x0
  have uf1 : (w2.drew.alloc (.cells #[] 5)).cell? ⟨g, j * 3 + 1, none⟩ = some (.slice da (F j).len dc) := (hU.cell (p := ⟨g, j * 3 + 1, none⟩) hg2).trans f1
  have vf1 : w4.cell? ⟨g, j * 3 + 1, none⟩ = some (.slice da (F j).len dc) := (World.cell?_of_block (w := w2) (a := ⟨g, j * 3 + 1, none⟩) (b4 g hg2)).trans f1
  have vz : w4.frozen? ⟨g, j * 3 + 1, none⟩ = false := (World.frozen?_of_block (w := w2) (a := ⟨g, j * 3 + 1, none⟩) (b4 g hg2)).trans (hgf _)
  have hfin : Hid (LOut Q 0 n (appF F j m h) fb base w (.returned (.int .i64 0)) (w4.setCell ⟨g, j * 3 + 1, none⟩ (.slice p4 ((F j).len + m) c4))) := by
    have hoth : ∀ k, k < base → k < w.heap.size → (w4.setCell ⟨g, j * 3 + 1, none⟩ (.slice p4 ((F j).len + m) c4)).heap[k]? = w.heap[k]? := fun k h1 h2 => (Below.heap_setCell _ _ _ _ (by show k ≠ g; omega)).trans ((b4 k (by have := hb3.size; omega)).trans (hb3.block k h2))
    refine ⟨_, c, rfl, ⟨by simp; omega, (World.cell?_setCell_other _ _ _ _ (by intro hh; injection hh with h3 _ _; omega)).trans v0, (World.cell?_setCell_other _ _ _ _ (by intro hh; injection hh with h3 _ _; omega)).trans v1⟩, hlow, by have := hb3.size; simp; omega, ⟨hgr4.os.trans (hgr3.os.trans hb3.os), hgr4.tape.trans (hgr3.tape.trans hb3.tape), hgr4.output.trans (hgr3.output.trans hb3.output), by have := hb3.size; simp; omega, fun k hk => hoth k (by omega) (by omega)⟩, fun k h1 _ h2 => hoth k h1 h2⟩
  have s2 : w2.drew.heap.size = w2.heap.size := rfl
  clear hlow b4 b3 hgr4 hgr3 hat3 hat4 own3 own4 src3 hgc hf hda f0 f2 frow hS2 hq2 hU hU0 sU x0 v0 hgf hq
  go_wp2
  go_region_law (first
    | (refine step_append_run (by rfl) (.tmp 32) (.tmp 40) 22 (by rfl) (.slice (some ⟨w2.heap.size, 0, none⟩) 0 0) (.slice da (F j).len dc) (.slice p3 (F j).len c3) (by simp [Act.eval, Act.put]) (by simp [Act.eval, Act.put]) w3 hrun1 ?_)
    | (refine step_append_run (by rfl) (.tmp 41) (.tmp 42) 22 (by rfl) (.slice p3 (F j).len c3) (.slice ad m bc) (.slice p4 ((F j).len + m) c4) (by simp [Act.eval, Act.put]) (by simp [Act.eval, Act.put]) w4 hrun2 ?_))
  all_goals
    go_wp2
    go_ret
    exact hfin.out
end Go.Proofs.YtiojjihonmonkaaDoor
