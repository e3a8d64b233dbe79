/- Levels that are only read; an edit at work. -/
import Derived.Test.YtagkhohglpjjlaaMe
import Derived.Test.YtagkhohglpjjlaaDp
import Derived.Test.YtagkhohglpjjlaaIL
import Derived.Test.YtagkhohglpjjlaaAp
import Derived.Test.YtagkhohglpjjlaaFo
import Derived.Test.YtagkhohglpjjlaaAw
namespace Go.Proofs.Ytagkhohglpjjlaa
open Go.RowKit
set_option linter.unusedSimpArgs false
set_option linter.unusedVariables false

/-- Levels in blocks from base on. -/
structure VL (w : World) (base : Nat) (lo : Option Addr) (N : Nat) (LL : Nat → List Met) : Prop where
  bd : ∀ i, i < N → ∀ x ∈ LL i, MB x
  few : ∀ i, i < N → (LL i).length ≤ 1000
  lies : N = 0 ∨ ∃ b off, lo = some ⟨b, off, none⟩ ∧ base ≤ b ∧ b < w.heap.size ∧ ∀ i, i < N → ∃ da dc, w.cell? ⟨b, off + i, none⟩ = some (.slice da (LL i).length dc) ∧ ((LL i).length = 0 ∨ ∃ g o, da = some ⟨g, o, none⟩ ∧ base ≤ g ∧ g < w.heap.size ∧ ∀ j, j < (LL i).length → MAt w g (o + j * 4) (mL (LL i) j))
section
variable {w w' : World} {base : Nat} {lo : Option Addr} {N : Nat} {LL : Nat → List Met}
theorem VL.same (h : VL w base lo N LL) (hs : w.heap.size ≤ w'.heap.size) (hc : ∀ c, base ≤ c → c < w.heap.size → w'.heap[c]? = w.heap[c]?) : VL w' base lo N LL := by
  refine ⟨h.bd, h.few, h.lies.elim .inl fun ⟨b, off, e, hb, hlt, hcell⟩ => .inr ⟨b, off, e, hb, Nat.lt_of_lt_of_le hlt hs, fun i hi => ?_⟩⟩
  obtain ⟨da, dc, h1, h2⟩ := hcell i hi
  refine ⟨da, dc, (World.cell?_of_block (w := w) (a := ⟨b, off + i, none⟩) (hc b hb hlt)).trans h1, h2.elim .inl fun ⟨g, o, e, hg, hgl, hm⟩ => .inr ⟨g, o, e, hg, Nat.lt_of_lt_of_le hgl hs, fun j hj => (hm j hj).move (Nat.lt_of_lt_of_le hgl hs) fun q => World.cell?_of_block (w := w) (a := ⟨g, q, none⟩) (hc g hg hgl)⟩⟩
theorem VL.keep (h : VL w base lo N LL) (hb : Below w.heap.size w w') : VL w' base lo N LL := h.same hb.size (fun c _ hc => hb.block c hc)
theorem VL.grown {row : Option Nat} (h : VL w base lo N LL) (g : w.grownBy w' row) (hr : ∀ k, row = some k → k < base) : VL w' base lo N LL := h.same g.size (fun c hb hc => g.block c hc (fun e => by have := hr c e.symm; omega))
theorem VL.vrow (h : VL w base lo N LL) : VRow w lo N (fun i => mL (LL i)) (fun i => (LL i).length) := by
  refine ⟨fun i hi j hj => h.bd i hi _ (mL_mem hj), fun i hi => by have := h.few i hi; show (LL i).length ≤ _; omega, h.lies.elim .inl fun ⟨b, off, e, _, hlt, hcell⟩ => .inr ⟨b, off, e, hlt, fun i hi => ?_⟩⟩
  obtain ⟨da, dc, h1, h2⟩ := hcell i hi
  exact ⟨da, dc, h1, fun j hj => h.bd i hi _ (mL_mem hj), h2.elim .inl fun ⟨g, o, e, _, hgl, hm⟩ => .inr ⟨g, o, e, hgl, hm⟩⟩
end
theorem ex_grown {w w' : World} {b CB : Nat} {nx lg sq : Int} {dv av : Value} (h : EX w b nx lg sq dv av) (g : w.grownBy w' (some CB)) (hne : b ≠ CB) : EX w' b nx lg sq dv av := h.same g.size (g.block b h.lt (fun e => hne (Option.some.inj e)))
theorem ex_others {w w' : World} {b d : Nat} {nx lg sq : Int} {dv av : Value} (h : EX w b nx lg sq dv av) (ot : Others d w w') (hne : b ≠ d) : EX w' b nx lg sq dv av := h.same (by rw [ot.size]; exact Nat.le_refl _) (ot.block b hne)

theorem ownI_run {w : World} {base : Nat} {v : Value} {L : List Int} (h : OwnI w base v L) (B c : Nat) (x : Int) (hx : -9223372036854775808 ≤ x ∧ x ≤ 9223372036854775807) (h0 : w.cell? ⟨B, 0, none⟩ = some (.int .i64 x)) (hn : L.length ≤ 4194304) (hb : base ≤ w.heap.size) :
    ∃ ao' c' w', (∀ ty, (Builtin.append_ #[26, 26] ty #[v, .slice (some ⟨B, 0, none⟩) 1 c]).run Try.prog w = .ok (.slice ao' (L.length + 1) c') w') ∧ OwnI w' base (.slice ao' (L.length + 1) c') (L ++ [x]) ∧ w.grownBy w' v.ownBlock ∧ ((Value.slice ao' (L.length + 1) c').ownBlock = v.ownBlock ∨ (Value.slice ao' (L.length + 1) c').ownBlock = some w.heap.size) := by
  obtain ⟨i0, hi, hz0, hz1, hz2⟩ := info_parts Try.infoInt
  obtain ⟨v', w', hrun, hown, hg, _, hat⟩ := run_append_own_at (P := Try.prog) w base 26 0 3 i0 (.int .i64 0) 1 8 Try.underlying26 hi hz0 hz1 hz2 rfl (by decide) v L.length (vi L) h.own ⟨B, 0, none⟩ 1 c [.int .i64 x] rfl (fun j u hu => by
      rcases j with _ | j
      · simp at hu; subst hu; exact h0
      · simp at hu) (fun u hu => by simp at hu; subst hu; rfl) (by unfold maxLen; omega) (by omega) hb
  have e : OwnI w' base v' (L ++ [x]) := ⟨h.bd.push hx, by
    have e : (L ++ [x]).length = L.length + 1 := by simp
    rw [e]
    simpa [vi] using hown⟩
  obtain ⟨ao', c', rfl, _, _⟩ := e.form
  rw [List.length_append] at hrun e hat
  exact ⟨ao', c', w', fun ty => hrun, e, hg, hat⟩
theorem ownD_run (w : World) (base : Nat) (v : Value) (L : List Adm) (x : Adm) (h : OwnD w base v L) (hx : DB x) (hn : L.length ≤ 1048576) (hbase : base ≤ w.heap.size) :
    ∃ so sc w', (∀ ty, (Builtin.append_ #[27, 27] ty #[v, .slice (some ⟨w.heap.size, 0, none⟩) 1 1]).run Try.prog (w.alloc (.cells #[.int .i64 x.lv, .int .i64 x.m.file, .string x.m.least, .string x.m.most, .int .i64 x.m.many] 54)) = .ok (.slice so (L.length + 1) sc) w') ∧ OwnD w' base (.slice so (L.length + 1) sc) (L ++ [x]) ∧ (w.alloc (.cells #[.int .i64 x.lv, .int .i64 x.m.file, .string x.m.least, .string x.m.most, .int .i64 x.m.many] 54)).grownBy w' v.ownBlock ∧ ((Value.slice so (L.length + 1) sc).ownBlock = v.ownBlock ∨ (Value.slice so (L.length + 1) sc).ownBlock = some (w.heap.size + 1)) := by
  obtain ⟨i0, hi, hz0, hz1, hz2⟩ := info_parts Try.infoD
  obtain ⟨v', w', h1, h2, h3, _, h5⟩ := run_append_own_at (P := Try.prog) (w.alloc (.cells #[.int .i64 x.lv, .int .i64 x.m.file, .string x.m.least, .string x.m.most, .int .i64 x.m.many] 54)) base 27 0 54 i0 _ 5 56 Try.underlying27 hi hz0 hz1 hz2 rfl (by decide) v L.length (L.flatMap dc) (h.keep (below_new w _)).own ⟨w.heap.size, 0, none⟩ 1 1 (dc x) rfl (cell_one_d w x 54) (fun u hu => by
    simp only [dc, List.mem_cons, List.not_mem_nil, or_false] at hu
    rcases hu with rfl | rfl | rfl | rfl | rfl <;> rfl) (by unfold maxLen; omega) (by omega) (by simp; omega)
  have e : OwnD w' base v' (L ++ [x]) := by
    refine ⟨fun z hz => ?_, ?_⟩
    · rcases List.mem_append.1 hz with hz | hz
      · exact h.bd z hz
      · rw [List.mem_singleton.1 hz]; exact hx
    · have e : (L ++ [x]).length = L.length + 1 := by simp
      rw [e, List.flatMap_append]
      simpa using h2
  obtain ⟨so, sc, rfl, _⟩ := e.form
  rw [List.length_append] at h1 e h5
  rw [World.size_alloc] at h5
  exact ⟨so, sc, w', fun ty => h1, e, h3, h5⟩
theorem ownI_grown {w w' : World} {base : Nat} {v : Value} {L : List Int} {row : Option Nat} (h : OwnI w base v L) (g : w.grownBy w' row) (hr : ∀ k, row = some k → v.ownBlock ≠ some k) : OwnI w' base v L := ⟨h.bd, ownsRow_kept h.own g hr⟩
theorem ownD_grown {w w' : World} {base : Nat} {v : Value} {L : List Adm} {row : Option Nat} (h : OwnD w base v L) (g : w.grownBy w' row) (hr : ∀ k, row = some k → v.ownBlock ≠ some k) : OwnD w' base v L := ⟨h.bd, ownsRow_kept h.own g hr⟩
theorem others_gr {w w' : World} {d : Nat} (ot : Others d w w') : w.grownBy w' (some d) := ⟨ot.os, ot.tape, ot.output, by rw [ot.size]; exact Nat.le_refl _, fun i _ hn => ot.block i (fun e => hn (by rw [e]))⟩

/-- An edit at work: R the result's box, D its own; base ahead of its lists. -/
structure EdW (w w' : World) (R D CB base : Nat) (ao : Option Addr) (n cap : Nat) (f : Nat → Int) (A : Nat) (nx lg sq : Int) (dv av : Value) (Dl : List Int) (Al : List Adm) : Prop where
  C : CS w w' CB ao n cap f A
  RA : EX w' R 0 0 0 (.slice none 0 0) (.slice none 0 0)
  RF : ∀ j, w'.frozen? ⟨R, j, none⟩ = false
  DA : EX w' D nx lg sq dv av
  DF : ∀ j, w'.frozen? ⟨D, j, none⟩ = false
  d : OwnI w' base dv Dl
  a : OwnD w' base av Al
  ap : ∀ q, dv.ownBlock = some q → av.ownBlock ≠ some q
  ne : w.heap.size ≤ R ∧ w.heap.size ≤ D ∧ R ≠ D ∧ R < base ∧ D < base ∧ base ≤ w'.heap.size
section
variable {w w' w'' : World} {R D CB base : Nat} {ao : Option Addr} {n cap : Nat} {f : Nat → Int} {A A' : Nat} {nx lg sq : Int} {dv av : Value} {Dl : List Int} {Al : List Adm}
theorem EdW.draw (h : EdW w w' R D CB base ao n cap f A nx lg sq dv av Dl Al) (k : CS w' w'' CB ao n cap f A') : EdW w w'' R D CB base ao n cap f A' nx lg sq dv av Dl Al := by
  have hl := h.C.lt
  have hn := h.ne
  have hs := k.gr.size
  exact ⟨h.C.trans k, ex_grown h.RA k.gr (by omega), froz_grown h.RF h.RA.lt k.gr (by omega), ex_grown h.DA k.gr (by omega), froz_grown h.DF h.DA.lt k.gr (by omega), ownI_grown h.d k.gr (fun q e h2 => by injection e with e; have := (h.d.own.lt q h2).1; omega), ownD_grown h.a k.gr (fun q e h2 => by injection e with e; have := (h.a.own.lt q h2).1; omega), h.ap, by omega⟩
theorem EdW.keep (h : EdW w w' R D CB base ao n cap f A nx lg sq dv av Dl Al) (hb : Below w'.heap.size w' w'') : EdW w w'' R D CB base ao n cap f A nx lg sq dv av Dl Al := by
  have hs := hb.size
  have hn := h.ne
  exact ⟨h.C.keep hb, h.RA.keep hb, froz_keep h.RF h.RA.lt hb, h.DA.keep hb, froz_keep h.DF h.DA.lt hb, h.d.keep hb, h.a.keep hb, h.ap, by omega⟩
theorem EdW.mono (h : EdW w w' R D CB base ao n cap f A nx lg sq dv av Dl Al) (hA : A ≤ A') : EdW w w' R D CB base ao n cap f A' nx lg sq dv av Dl Al := ⟨h.C.mono hA, h.RA, h.RF, h.DA, h.DF, h.d, h.a, h.ap, h.ne⟩
/-- A cell of its box is set. -/
theorem EdW.set (h : EdW w w' R D CB base ao n cap f A nx lg sq dv av Dl Al) (j : Nat) (v : Value) {nx' lg' sq' : Int} {dv' av' : Value} {Dl' : List Int} {Al' : List Adm} (hx : EX (w'.setCell ⟨D, j, none⟩ v) D nx' lg' sq' dv' av') (hd : OwnI w' base dv' Dl') (ha : OwnD w' base av' Al') (hap : ∀ q, dv'.ownBlock = some q → av'.ownBlock ≠ some q) : EdW w (w'.setCell ⟨D, j, none⟩ v) R D CB base ao n cap f A nx' lg' sq' dv' av' Dl' Al' := by
  have ot : Others D w' (w'.setCell ⟨D, j, none⟩ v) := Others.setCell _ _ _ _
  have hn := h.ne
  refine ⟨h.C.others ot (by omega), ex_others h.RA ot (by omega), fun j => (World.frozen?_of_block (w := w') (a := ⟨R, j, none⟩) (ot.block R (by omega))).trans (h.RF j), hx, fun j => by simp only [World.frozen?_setCell]; exact h.DF j, ownI_grown hd (others_gr ot) (fun q e h2 => by injection e with e; have := (hd.own.lt q h2).1; omega), ownD_grown ha (others_gr ot) (fun q e h2 => by injection e with e; have := (ha.own.lt q h2).1; omega), hap, ?_⟩
  rw [ot.size]; omega
theorem EdW.set0 (h : EdW w w' R D CB base ao n cap f A nx lg sq dv av Dl Al) (v : Int) : EdW w (w'.setCell ⟨D, 0, none⟩ (.int .i64 v)) R D CB base ao n cap f A v lg sq dv av Dl Al := by
  obtain ⟨l, c0, c1, c2, c3, c4⟩ := h.DA
  refine h.set 0 _ ⟨by simpa using l, ?_, ?_, ?_, ?_, ?_⟩ h.d h.a h.ap <;> simp [go_sem, c0, c1, c2, c3, c4]
theorem EdW.set1 (h : EdW w w' R D CB base ao n cap f A nx lg sq dv av Dl Al) (v : Int) : EdW w (w'.setCell ⟨D, 1, none⟩ (.int .i64 v)) R D CB base ao n cap f A nx v sq dv av Dl Al := by
  obtain ⟨l, c0, c1, c2, c3, c4⟩ := h.DA
  refine h.set 1 _ ⟨by simpa using l, ?_, ?_, ?_, ?_, ?_⟩ h.d h.a h.ap <;> simp [go_sem, c0, c1, c2, c3, c4]
theorem EdW.set2 (h : EdW w w' R D CB base ao n cap f A nx lg sq dv av Dl Al) (v : Int) : EdW w (w'.setCell ⟨D, 2, none⟩ (.int .i64 v)) R D CB base ao n cap f A nx lg v dv av Dl Al := by
  obtain ⟨l, c0, c1, c2, c3, c4⟩ := h.DA
  refine h.set 2 _ ⟨by simpa using l, ?_, ?_, ?_, ?_, ?_⟩ h.d h.a h.ap <;> simp [go_sem, c0, c1, c2, c3, c4]
/-- A drop put behind. -/
theorem EdW.pushD (h : EdW w w' R D CB base ao n cap f A nx lg sq dv av Dl Al) (x : Int) (hx : -9223372036854775808 ≤ x ∧ x ≤ 9223372036854775807) (hl : Dl.length ≤ 10000) :
    ∃ so sc w2, (∀ ty, (Builtin.append_ #[26, 26] ty #[dv, .slice (some ⟨w'.heap.size, 0, none⟩) 1 1]).run Try.prog (w'.alloc (.cells #[.int .i64 x] 3)) = .ok (.slice so (Dl.length + 1) sc) w2) ∧ EX w2 D nx lg sq dv av ∧ (∀ j, w2.frozen? ⟨D, j, none⟩ = false) ∧ EdW w (w2.setCell ⟨D, 3, none⟩ (.slice so (Dl.length + 1) sc)) R D CB base ao n cap f A nx lg sq (.slice so (Dl.length + 1) sc) av (Dl ++ [x]) Al := by
  have h1 := h.keep (below_new w' (.cells #[.int .i64 x] 3))
  have hn := h1.ne
  obtain ⟨so, sc, w2, hrun, hO, hg, hat⟩ := ownI_run h1.d w'.heap.size 1 x hx (by simp [go_sem]) (by omega) (by omega)
  have hf : ∀ k, dv.ownBlock = some k → base ≤ k := fun k e => (h1.d.own.lt k e).1
  have hbD : w2.heap[D]? = (w'.alloc (.cells #[.int .i64 x] 3)).heap[D]? := hg.block D h1.DA.lt (fun e => by have := hf D e.symm; omega)
  have hbR : w2.heap[R]? = (w'.alloc (.cells #[.int .i64 x] 3)).heap[R]? := hg.block R h1.RA.lt (fun e => by have := hf R e.symm; omega)
  have DA2 := h1.DA.same hg.size hbD
  have DF2 : ∀ j, w2.frozen? ⟨D, j, none⟩ = false := fun j => (World.frozen?_of_block (w := w'.alloc (.cells #[.int .i64 x] 3)) (a := ⟨D, j, none⟩) hbD).trans (h1.DF j)
  have hap : ∀ q, (Value.slice so (Dl.length + 1) sc).ownBlock = some q → av.ownBlock ≠ some q := fun q e h2 => by
    rcases hat with hat | hat
    · rw [hat] at e; exact h1.ap q e h2
    · rw [hat] at e; injection e with e; have := (h1.a.own.lt q h2).2; omega
  have a2 := ownD_grown h1.a hg (fun k e h2 => h1.ap k e h2)
  have hs2 := hg.size
  have G2 : EdW w w2 R D CB base ao n cap f A nx lg sq dv av [] Al → True := fun _ => trivial
  obtain ⟨l, c0, c1, c2, c3, c4⟩ := DA2
  refine ⟨so, sc, w2, hrun, ⟨l, c0, c1, c2, c3, c4⟩, DF2, ?_⟩
  have ot : Others D w2 (w2.setCell ⟨D, 3, none⟩ (.slice so (Dl.length + 1) sc)) := Others.setCell _ _ _ _
  have C2 := h1.C.far hg (fun k e => by have := hf k e; omega)
  refine ⟨C2.others ot (by omega), ex_others (h1.RA.same hg.size hbR) ot (by omega), fun j => (World.frozen?_of_block (w := w2) (a := ⟨R, j, none⟩) (ot.block R (by omega))).trans ((World.frozen?_of_block (w := w'.alloc (.cells #[.int .i64 x] 3)) (a := ⟨R, j, none⟩) hbR).trans (h1.RF j)), ⟨by simpa using l, ?_, ?_, ?_, ?_, ?_⟩, fun j => by simp only [World.frozen?_setCell]; exact DF2 j, ownI_grown hO (others_gr ot) (fun q e h2 => by injection e with e; have := (hO.own.lt q h2).1; omega), ownD_grown a2 (others_gr ot) (fun q e h2 => by injection e with e; have := (a2.own.lt q h2).1; omega), hap, by rw [ot.size]; omega⟩
  all_goals simp [go_sem, c0, c1, c2, c3, c4]
/-- An add put behind. -/
theorem EdW.pushA (h : EdW w w' R D CB base ao n cap f A nx lg sq dv av Dl Al) (x : Adm) (hx : DB x) (hl : Al.length ≤ 10000) :
    ∃ so sc w2, (∀ ty, (Builtin.append_ #[27, 27] ty #[av, .slice (some ⟨w'.heap.size, 0, none⟩) 1 1]).run Try.prog (w'.alloc (.cells #[.int .i64 x.lv, .int .i64 x.m.file, .string x.m.least, .string x.m.most, .int .i64 x.m.many] 54)) = .ok (.slice so (Al.length + 1) sc) w2) ∧ EX w2 D nx lg sq dv av ∧ (∀ j, w2.frozen? ⟨D, j, none⟩ = false) ∧ EdW w (w2.setCell ⟨D, 4, none⟩ (.slice so (Al.length + 1) sc)) R D CB base ao n cap f A nx lg sq dv (.slice so (Al.length + 1) sc) Dl (Al ++ [x]) := by
  have h1 := h.keep (below_new w' (.cells #[.int .i64 x.lv, .int .i64 x.m.file, .string x.m.least, .string x.m.most, .int .i64 x.m.many] 54))
  have hn := h1.ne
  have hn0 := h.ne
  obtain ⟨so, sc, w2, hrun, hO, hg, hat⟩ := ownD_run w' base av Al x h.a hx (by omega) (by omega)
  have hf : ∀ k, av.ownBlock = some k → base ≤ k := fun k e => (h1.a.own.lt k e).1
  have hbD : w2.heap[D]? = (w'.alloc (.cells #[.int .i64 x.lv, .int .i64 x.m.file, .string x.m.least, .string x.m.most, .int .i64 x.m.many] 54)).heap[D]? := hg.block D h1.DA.lt (fun e => by have := hf D e.symm; omega)
  have hbR : w2.heap[R]? = (w'.alloc (.cells #[.int .i64 x.lv, .int .i64 x.m.file, .string x.m.least, .string x.m.most, .int .i64 x.m.many] 54)).heap[R]? := hg.block R h1.RA.lt (fun e => by have := hf R e.symm; omega)
  have DA2 := h1.DA.same hg.size hbD
  have DF2 : ∀ j, w2.frozen? ⟨D, j, none⟩ = false := fun j => (World.frozen?_of_block (w := w'.alloc (.cells #[.int .i64 x.lv, .int .i64 x.m.file, .string x.m.least, .string x.m.most, .int .i64 x.m.many] 54)) (a := ⟨D, j, none⟩) hbD).trans (h1.DF j)
  have hap : ∀ q, dv.ownBlock = some q → (Value.slice so (Al.length + 1) sc).ownBlock ≠ some q := fun q e h2 => by
    rcases hat with hat | hat
    · rw [hat] at h2; exact h1.ap q e h2
    · rw [hat] at h2; injection h2 with h2; have := (h.d.own.lt q e).2; omega
  have d2 := ownI_grown h1.d hg (fun k e h2 => h1.ap k h2 e)
  have hs2 := hg.size
  obtain ⟨l, c0, c1, c2, c3, c4⟩ := DA2
  refine ⟨so, sc, w2, hrun, ⟨l, c0, c1, c2, c3, c4⟩, DF2, ?_⟩
  have ot : Others D w2 (w2.setCell ⟨D, 4, none⟩ (.slice so (Al.length + 1) sc)) := Others.setCell _ _ _ _
  have C2 := h1.C.far hg (fun k e => by have := hf k e; omega)
  refine ⟨C2.others ot (by omega), ex_others (h1.RA.same hg.size hbR) ot (by omega), fun j => (World.frozen?_of_block (w := w2) (a := ⟨R, j, none⟩) (ot.block R (by omega))).trans ((World.frozen?_of_block (w := w'.alloc (.cells #[.int .i64 x.lv, .int .i64 x.m.file, .string x.m.least, .string x.m.most, .int .i64 x.m.many] 54)) (a := ⟨R, j, none⟩) hbR).trans (h1.RF j)), ⟨by simpa using l, ?_, ?_, ?_, ?_, ?_⟩, fun j => by simp only [World.frozen?_setCell]; exact DF2 j, ownI_grown d2 (others_gr ot) (fun q e h2 => by injection e with e; have := (d2.own.lt q h2).1; omega), ownD_grown hO (others_gr ot) (fun q e h2 => by injection e with e; have := (hO.own.lt q h2).1; omega), hap, by rw [ot.size]; omega⟩
  all_goals simp [go_sem, c0, c1, c2, c3, c4]
end
end Go.Proofs.Ytagkhohglpjjlaa
