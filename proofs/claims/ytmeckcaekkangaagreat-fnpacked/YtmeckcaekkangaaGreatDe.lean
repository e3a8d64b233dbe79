/- An entry, drawn. -/
import Derived.Test.YtmeckcaekkangaaGreatDd
import Derived.Laws.BytesArg
namespace Go.Proofs.YtmeckcaekkangaaGreat
set_option maxRecDepth 100000
open Go.RowKit
set_option linter.unusedSimpArgs false
set_option linter.unusedVariables false

/-- Some noughts made, and turned into a text. -/
theorem make140 (w : World) : (Instr.makeSlice 22 (.int .i64 140) (.int .i64 140)).run Tryz.prog w = .ok (.slice (some ⟨w.heap.size, 0, none⟩) 140 140) (w.alloc (.cells (Array.replicate 140 (.int .u8 0)) 5)) := by kernel_rfl
theorem make141 (w : World) : (Instr.makeSlice 22 (.int .i64 141) (.int .i64 141)).run Tryz.prog w = .ok (.slice (some ⟨w.heap.size, 0, none⟩) 141 141) (w.alloc (.cells (Array.replicate 141 (.int .u8 0)) 5)) := by kernel_rfl
def nul (m : Nat) : ByteArray := strOfNums (List.replicate m 0)
theorem nul_size (m : Nat) : (nul m).size = m := by simp [nul, strOfNums_size]
/-- Noughts in a block. -/
def ZAt (w : World) (b m : Nat) : Prop := b < w.heap.size ∧ ∀ i, i < m → w.cell? ⟨b, i, none⟩ = some (.int .u8 0)
theorem ZAt.new (w : World) (m T : Nat) : ZAt (w.alloc (.cells (Array.replicate m (.int .u8 0)) T)) w.heap.size m := by
  have hh : (w.alloc (.cells (Array.replicate m (.int .u8 0)) T)).heap[w.heap.size]? = some (.cells (Array.replicate m (.int .u8 0)) T (0, 0)) := heap_alloc_new w _
  refine ⟨by simp, fun i hi => ?_⟩
  rw [cell_of_row _ _ _ _ _ _ hh]
  simp [hi]
theorem ZAt.keep {w w' : World} {b m : Nat} (h : ZAt w b m) (hb : Below w.heap.size w w') : ZAt w' b m := ⟨Nat.lt_of_lt_of_le h.1 hb.size, fun i hi => (hb.cell (p := ⟨b, i, none⟩) h.1).trans (h.2 i hi)⟩
theorem ZAt.conv {w : World} {b m : Nat} (h : ZAt w b m) : (convert 22 9 (.slice (some ⟨b, 0, none⟩) m m)).run Tryz.prog w = .ok (.string (nul m)) w :=
  run_convert_bytes_arg (P := Tryz.prog) w 22 5 Tryz.underlying22 Tryz.underlying5 b 0 m m (List.replicate m 0) (by simp) (fun i hi => by rw [Nat.zero_add, h.2 i hi]; simp [hi]) 9 Tryz.underlying9

/-- A list of ints in a block from base on. -/
structure HR (w : World) (base : Nat) (xo : Option Addr) (n : Nat) (f : Nat → Int) : Prop where
  row : IRow w xo n f
  at' : ∀ g off, xo = some ⟨g, off, none⟩ → n ≠ 0 → base ≤ g
theorem HR.keep {w w' : World} {base n : Nat} {xo : Option Addr} {f : Nat → Int} (h : HR w base xo n f) (hb : Below w.heap.size w w') : HR w' base xo n f := ⟨h.row.keep hb, h.at'⟩
theorem HR.mono {w : World} {base base' n : Nat} {xo : Option Addr} {f : Nat → Int} (h : HR w base xo n f) (hb : base' ≤ base) : HR w base' xo n f := ⟨h.row, fun g off e h0 => Nat.le_trans hb (h.at' g off e h0)⟩
theorem HR.grown {w w' : World} {base n : Nat} {xo : Option Addr} {f : Nat → Int} {row : Option Nat} (h : HR w base xo n f) (hg : w.grownBy w' row) (hne : ∀ g off, xo = some ⟨g, off, none⟩ → n ≠ 0 → row ≠ some g) : HR w' base xo n f := by
  refine ⟨⟨h.row.bd, ?_⟩, h.at'⟩
  by_cases h0 : n = 0
  · exact .inl h0
  · obtain ⟨b, off, e, hlt, hc⟩ := h.row.lies.resolve_left h0
    exact .inr ⟨b, off, e, Nat.lt_of_lt_of_le hlt hg.size, fun i hi => hg.cell (hc i hi) (fun e' => hne b off e h0 e'.symm)⟩
theorem HR.none {w : World} {base : Nat} {f : Nat → Int} (hb : ∀ i, -9223372036854775808 ≤ f i ∧ f i ≤ 9223372036854775807) : HR w base none 0 f := ⟨⟨hb, .inl rfl⟩, fun g off e h => absurd rfl h⟩

/-- The zero entry. -/
def zE : Ent := ⟨⟨#[]⟩, 0, 0, 0, 0, 0, 0, 0, fun _ => 0, false⟩
theorem eat_grown {w w' : World} {b off cap CB : Nat} {x : Ent} {ao : Option Addr} (h : EAt w b off x ao cap) (g : w.grownBy w' (some CB)) (hne : b ≠ CB) : EAt w' b off x ao cap :=
  h.move (Nat.lt_of_lt_of_le h.lt g.size) fun j => World.cell?_of_block (w := w) (a := ⟨b, j, none⟩) (g.block b h.lt (fun e => hne (Option.some.inj e)))
/-- An entry at work: R the result's box, D its own. -/
structure EW (w w' : World) (R D CB : Nat) (ao : Option Addr) (n cap : Nat) (f : Nat → Int) (A : Nat) (x : Ent) (xo : Option Addr) (xc : Nat) : Prop where
  C : CS w w' CB ao n cap f A
  RA : EAt w' R 0 zE none 0
  RF : ∀ j, w'.frozen? ⟨R, j, none⟩ = false
  DA : EAt w' D 0 x xo xc
  DF : ∀ j, w'.frozen? ⟨D, j, none⟩ = false
  H : HR w' w.heap.size xo x.n x.f
  far : ∀ g off, xo = some ⟨g, off, none⟩ → x.n ≠ 0 → g ≠ D ∧ g ≠ R
  ne : w.heap.size ≤ R ∧ w.heap.size ≤ D ∧ R ≠ D
  bd : EB x ∧ x.key.size ≤ 200 ∧ x.n ≤ 8
section
variable {w w' w'' : World} {R D CB : Nat} {ao : Option Addr} {n cap : Nat} {f : Nat → Int} {A A' : Nat} {x : Ent} {xo : Option Addr} {xc : Nat}
theorem EW.draw (h : EW w w' R D CB ao n cap f A x xo xc) (k : CS w' w'' CB ao n cap f A') : EW w w'' R D CB ao n cap f A' x xo xc := by
  have hl := h.C.lt
  have hn := h.ne
  exact ⟨h.C.trans k, eat_grown h.RA k.gr (by omega), froz_grown h.RF h.RA.lt k.gr (by omega), eat_grown h.DA k.gr (by omega), froz_grown h.DF h.DA.lt k.gr (by omega), h.H.grown k.gr (fun g off e h0 e2 => by have := h.H.at' g off e h0; injection e2 with e2; omega), h.far, hn, h.bd⟩
theorem EW.keep (h : EW w w' R D CB ao n cap f A x xo xc) (hb : Below w'.heap.size w' w'') : EW w w'' R D CB ao n cap f A x xo xc :=
  ⟨h.C.keep hb, h.RA.keep hb, froz_keep h.RF h.RA.lt hb, h.DA.keep hb, froz_keep h.DF h.DA.lt hb, h.H.keep hb, h.far, h.ne, h.bd⟩
theorem EW.oth (h : EW w w' R D CB ao n cap f A x xo xc) (ot : Others D w' w'') (hf : ∀ j, w''.frozen? ⟨D, j, none⟩ = false) {y : Ent} {yo : Option Addr} {yc : Nat} (hD : EAt w'' D 0 y yo yc) (hH : HR w' w.heap.size yo y.n y.f) (hfar : ∀ g off, yo = some ⟨g, off, none⟩ → y.n ≠ 0 → g ≠ D ∧ g ≠ R) (hb : EB y ∧ y.key.size ≤ 200 ∧ y.n ≤ 8) : EW w w'' R D CB ao n cap f A y yo yc := by
  have hn := h.ne
  have og : w'.grownBy w'' (some D) := ⟨ot.os, ot.tape, ot.output, by rw [ot.size]; exact Nat.le_refl _, fun i _ hn => ot.block i (fun e => hn (by rw [e]))⟩
  exact ⟨h.C.others ot (by omega), h.RA.others ot (by omega), fun j => (World.frozen?_of_block (w := w') (a := ⟨R, j, none⟩) (ot.block R (by omega))).trans (h.RF j), hD, hf, hH.grown og (fun g off e h0 e2 => by injection e2 with e2; exact (hfar g off e h0).1 e2.symm), hfar, hn, hb⟩
theorem EW.set0 (h : EW w w' R D CB ao n cap f A x xo xc) (s : ByteArray) (hs : s.size ≤ 200) : EW w (w'.setCell ⟨D, 0, none⟩ (.string s)) R D CB ao n cap f A { x with key := s } xo xc := by
  have d := h.DA
  refine h.oth (Others.setCell _ _ _ _) (fun j => by simp only [World.frozen?_setCell]; exact h.DF j) ⟨by simpa using d.lt, ?_, ?_, ?_, ?_, ?_, ?_, ?_, ?_, ?_⟩ h.H h.far ⟨⟨h.bd.1.seq, h.bd.1.s, by show s.size ≤ _; omega, h.bd.1.n⟩, hs, h.bd.2.2⟩
  all_goals
    obtain ⟨_, c0, c1, c2, c3, c4, c5, c6, c7, c8⟩ := d
    simp only [Nat.zero_add] at *
    simp [go_sem, c0, c1, c2, c3, c4, c5, c6, c7, c8]
theorem EW.set1 (h : EW w w' R D CB ao n cap f A x xo xc) (v : Int) (hv : -9223372036854775808 ≤ v ∧ v ≤ 9223372036854775807) : EW w (w'.setCell ⟨D, 1, none⟩ (.int .i64 v)) R D CB ao n cap f A { x with seq := v } xo xc := by
  have d := h.DA
  refine h.oth (Others.setCell _ _ _ _) (fun j => by simp only [World.frozen?_setCell]; exact h.DF j) ⟨by simpa using d.lt, ?_, ?_, ?_, ?_, ?_, ?_, ?_, ?_, ?_⟩ h.H h.far ⟨⟨hv, h.bd.1.s, h.bd.1.key, h.bd.1.n⟩, h.bd.2⟩
  all_goals
    obtain ⟨_, c0, c1, c2, c3, c4, c5, c6, c7, c8⟩ := d
    simp only [Nat.zero_add] at *
    simp [go_sem, c0, c1, c2, c3, c4, c5, c6, c7, c8]
theorem EW.set2 (h : EW w w' R D CB ao n cap f A x xo xc) (v : Int) : EW w (w'.setCell ⟨D, 2, none⟩ (.int .i64 v)) R D CB ao n cap f A { x with kind := v } xo xc := by
  have d := h.DA
  refine h.oth (Others.setCell _ _ _ _) (fun j => by simp only [World.frozen?_setCell]; exact h.DF j) ⟨by simpa using d.lt, ?_, ?_, ?_, ?_, ?_, ?_, ?_, ?_, ?_⟩ h.H h.far ⟨⟨h.bd.1.seq, h.bd.1.s, h.bd.1.key, h.bd.1.n⟩, h.bd.2⟩
  all_goals
    obtain ⟨_, c0, c1, c2, c3, c4, c5, c6, c7, c8⟩ := d
    simp only [Nat.zero_add] at *
    simp [go_sem, c0, c1, c2, c3, c4, c5, c6, c7, c8]
theorem EW.setA (h : EW w w' R D CB ao n cap f A x xo xc) (y : Ent) (g off gc : Nat) (hr : HR w' w.heap.size (some ⟨g, off, none⟩) y.n y.f) (hg : g ≠ D ∧ g ≠ R) (hy : y.n ≤ 8) (hs : -9223372036854775808 ≤ y.s ∧ y.s ≤ 9223372036854775807) :
    EW w ((((((w'.setCell ⟨D, 3, none⟩ (.int .i64 y.c)).setCell ⟨D, 4, none⟩ (.int .i64 y.s)).setCell ⟨D, 5, none⟩ (.int .i64 y.lo)).setCell ⟨D, 6, none⟩ (.int .i64 y.hi)).setCell ⟨D, 7, none⟩ (.slice (some ⟨g, off, none⟩) y.n gc)).setCell ⟨D, 8, none⟩ (.bool y.fu)) R D CB ao n cap f A ⟨x.key, x.seq, x.kind, y.c, y.s, y.lo, y.hi, y.n, y.f, y.fu⟩ (some ⟨g, off, none⟩) gc := by
  have d := h.DA
  refine h.oth ((((((Others.setCell _ _ _ _).trans (Others.setCell _ _ _ _)).trans (Others.setCell _ _ _ _)).trans (Others.setCell _ _ _ _)).trans (Others.setCell _ _ _ _)).trans (Others.setCell _ _ _ _)) (fun j => by simp only [World.frozen?_setCell]; exact h.DF j) ⟨by simpa using d.lt, ?_, ?_, ?_, ?_, ?_, ?_, ?_, ?_, ?_⟩ hr (fun g' off' e _ => by injection e with e; injection e with e1 _ _; subst e1; exact hg) ⟨⟨h.bd.1.seq, hs, h.bd.1.key, by show y.n ≤ _; omega⟩, h.bd.2.1, hy⟩
  all_goals
    obtain ⟨_, c0, c1, c2, c3, c4, c5, c6, c7, c8⟩ := d
    simp only [Nat.zero_add] at *
    simp [go_sem, c0, c1, c2, c3, c4, c5, c6, c7, c8]
end
theorem make_some (m : Nat) (hm : m = 140 ∨ m = 141) (w : World) : ∃ w', (Instr.makeSlice 22 (.int .i64 (m : Int)) (.int .i64 (m : Int))).run Tryz.prog w = .ok (.slice (some ⟨w.heap.size, 0, none⟩) m m) w' ∧ ZAt w' w.heap.size m ∧ Below w.heap.size w w' := by
  rcases hm with rfl | rfl
  · exact ⟨_, make140 w, ZAt.new w 140 5, below_new w _⟩
  · exact ⟨_, make141 w, ZAt.new w 141 5, below_new w _⟩
theorem step_make {w : World} {ops : Array Oper} {o : Oper} {a : Act} {K : Act → World → Prop} {Q : Exit → Act → World → Prop} {E : Prop} (hgd : o.guard = none) (m : Nat) (hm : m = 140 ∨ m = 141)
    (ho : o.op = .makeSlice 22 (.const (.int .i64 (m : Int))) (.const (.int .i64 (m : Int)))) (h : ∀ w', ZAt w' w.heap.size m → Below w.heap.size w w' → K (a.put o.dst (.slice (some ⟨w.heap.size, 0, none⟩) m m)) w') :
    if Region.wanted o (yielded ops a.tmps) = true then Oper.wp Tryz.prog o a w K Q else E := by
  have hw : Region.wanted o (yielded ops a.tmps) = true := by simp [Region.wanted, hgd]
  rw [if_pos hw]
  obtain ⟨w', h1, h2, h3⟩ := make_some m hm w
  unfold Oper.wp execOp
  simp only [ho, Act.eval, Sem.run_bind, Sem.run_pure, Sem.run_map, Result.andThen_ok, h1]
  exact h w' h2 h3
theorem step_conv {w : World} {ops : Array Oper} {o : Oper} {a : Act} {K : Act → World → Prop} {Q : Exit → Act → World → Prop} {E : Prop} (hgd : o.guard = none) (k m b : Nat)
    (ho : o.op = .convert 22 9 (.tmp k)) (hx : a.eval (.tmp k) = .slice (some ⟨b, 0, none⟩) m m) (hz : ZAt w b m) (h : K (a.put o.dst (.string (nul m))) w) :
    if Region.wanted o (yielded ops a.tmps) = true then Oper.wp Tryz.prog o a w K Q else E := by
  have hw : Region.wanted o (yielded ops a.tmps) = true := by simp [Region.wanted, hgd]
  rw [if_pos hw]
  have hx' : a.tmps.getD k undef = .slice (some ⟨b, 0, none⟩) m m := hx
  have h1 := hz.conv
  unfold Oper.wp execOp
  simp only [ho, Act.eval, hx', Sem.run_bind, Sem.run_pure, Sem.run_map, Result.andThen_ok, h1]
  exact h
theorem step_storeS {w : World} {ops : Array Oper} {o : Oper} {a : Act} {K : Act → World → Prop} {Q : Exit → Act → World → Prop} {E : Prop} (hgd : o.guard = none) (k j : Nat)
    (ho : o.op = .store 9 (.tmp k) (.tmp j)) (b q : Nat) (s : ByteArray) (u : Value) (hx : a.eval (.tmp k) = .pointer (some ⟨b, q, none⟩)) (hv : a.eval (.tmp j) = .string s) (hc : w.cell? ⟨b, q, none⟩ = some u) (hf : w.frozen? ⟨b, q, none⟩ = false) (h : K (a.put o.dst undef) (w.setCell ⟨b, q, none⟩ (.string s))) :
    if Region.wanted o (yielded ops a.tmps) = true then Oper.wp Tryz.prog o a w K Q else E := by
  have hw : Region.wanted o (yielded ops a.tmps) = true := by simp [Region.wanted, hgd]
  rw [if_pos hw]
  have hx' : a.tmps.getD k undef = .pointer (some ⟨b, q, none⟩) := hx
  have hv' : a.tmps.getD j undef = .string s := hv
  unfold Oper.wp execOp
  simp only [ho, Act.eval, hx', hv']
  go_simp
  exact h
end Go.Proofs.YtmeckcaekkangaaGreat
