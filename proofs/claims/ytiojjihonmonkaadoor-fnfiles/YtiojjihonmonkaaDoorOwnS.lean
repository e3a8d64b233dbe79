/- The model's own copy of files. -/
import Derived.Test.YtiojjihonmonkaaDoorRising
namespace Go.Proofs.YtiojjihonmonkaaDoor
open Go.RowKit
set_option linter.unusedSimpArgs false
set_option linter.unusedVariables false

theorem row_blocks {w w' : World} {da : Option Addr} {len : Nat} {f : Nat → Int} (h : Row w da len f) (hs : w.heap.size ≤ w'.heap.size) (hk : ∀ b off, da = some ⟨b, off, none⟩ → len ≠ 0 → b < w.heap.size → w'.heap[b]? = w.heap[b]?) : Row w' da len f := by
  refine ⟨h.bd, ?_⟩
  rcases h.lies with h0 | ⟨b, off, e, hlt, hc⟩
  · exact .inl h0
  · by_cases h0 : len = 0
    · exact .inl h0
    · exact .inr ⟨b, off, e, Nat.lt_of_lt_of_le hlt hs, fun i hi => (World.cell?_of_block (w := w) (a := ⟨b, off + i, none⟩) (hk b off e h0 hlt)).trans (hc i hi)⟩
theorem Row.lt {w : World} {da : Option Addr} {len : Nat} {f : Nat → Int} (h : Row w da len f) {b off : Nat} (e : da = some ⟨b, off, none⟩) (h0 : len ≠ 0) : b < w.heap.size := by
  obtain ⟨b', off', e', hlt, _⟩ := h.lies.resolve_left h0
  rw [e] at e'
  injection e' with e'
  injection e' with e1 _ _
  omega

/-- There is room for len bytes at da. -/
def CapO (da : Option Addr) (len dc : Nat) : Prop := len ≤ dc ∧ ((da = none ∧ dc = 0) ∨ ∃ b off, da = some ⟨b, off, none⟩)
/-- The three cells of a file tell the file y; its bytes lie outside the block own. -/
def FTis (w : World) (base : Nat) (own : Option Nat) (x : FT) (y : Fil) : Prop :=
  x.1 = y.nm ∧ x.2.1.2.1 = y.len ∧ x.2.2 = y.sy ∧ Row w x.2.1.1 y.len y.f ∧ (∀ b off, x.2.1.1 = some ⟨b, off, none⟩ → y.len ≠ 0 → some b ≠ own ∧ base ≤ b) ∧ CapO x.2.1.1 x.2.1.2.1 x.2.1.2.2
theorem FTis.to {w w' : World} {base : Nat} {own own' : Option Nat} {x : FT} {y : Fil} (h : FTis w base own x y) (hs : w.heap.size ≤ w'.heap.size) (hk : ∀ b, base ≤ b → b < w.heap.size → some b ≠ own → w'.heap[b]? = w.heap[b]?) (ho : ∀ b, b < w.heap.size → some b ≠ own → some b ≠ own') : FTis w' base own' x y := by
  obtain ⟨h1, h2, h3, h4, h5, h6⟩ := h
  exact ⟨h1, h2, h3, row_blocks h4 hs (fun b off e h0 hlt => hk b (h5 b off e h0).2 hlt (h5 b off e h0).1), fun b off e h0 => ⟨ho b (h4.lt e h0) (h5 b off e h0).1, (h5 b off e h0).2⟩, h6⟩
def DatF (w : World) (base : Nat) (own : Option Nat) (F : Nat → Fil) (xs : List FT) : Prop := ∀ i x, xs[i]? = some x → FTis w base own x (F i)
theorem DatF.to {w w' : World} {base : Nat} {own own' : Option Nat} {F : Nat → Fil} {xs : List FT} (h : DatF w base own F xs) (hs : w.heap.size ≤ w'.heap.size) (hk : ∀ b, base ≤ b → b < w.heap.size → some b ≠ own → w'.heap[b]? = w.heap[b]?) (ho : ∀ b, b < w.heap.size → some b ≠ own → some b ≠ own') : DatF w' base own' F xs :=
  fun i x hx => (h i x hx).to hs hk ho
/-- n files in a row of the call's own. -/
def SRow (w : World) (base : Nat) (v : Value) (n : Nat) (F : Nat → Fil) : Prop := ∃ xs : List FT, xs.length = n ∧ w.ownsRow base 35 3 v n (xs.flatMap fenc) ∧ DatF w base v.ownBlock F xs

structure OS (w wr : World) (Q : Int) (ao : Option Addr) (n cap : Nat) (F : Nat → Fil) (o : Value) (k : Nat) (xs : List FT) : Prop where
  len : xs.length = k
  own : wr.ownsRow (w.heap.size + 2) 35 3 o k (xs.flatMap fenc)
  dat : DatF wr (w.heap.size + 2) o.ownBlock F xs
  qa : QAt wr w.heap.size Q (.slice ao n cap)
  za : QAt wr (w.heap.size + 1) 0 (.slice none 0 0)
  qf : ∀ j, wr.frozen? ⟨w.heap.size, j, none⟩ = false
  zf : ∀ j, wr.frozen? ⟨w.heap.size + 1, j, none⟩ = false
  bel : Below w.heap.size w wr
theorem OS.keep {w wr w' : World} {Q : Int} {ao : Option Addr} {n cap k : Nat} {F : Nat → Fil} {o : Value} {xs : List FT} (h : OS w wr Q ao n cap F o k xs) (hb : Below wr.heap.size wr w') : OS w w' Q ao n cap F o k xs :=
  ⟨h.len, row_low h.own (fun j _ hj => hb.block j hj), h.dat.to hb.size (fun b _ hlt _ => hb.block b hlt) (fun _ _ h => h), h.qa.keep hb, h.za.keep hb, fun j => (hb.frozen (p := ⟨w.heap.size, j, none⟩) h.qa.lt).trans (h.qf j), fun j => (hb.frozen (p := ⟨w.heap.size + 1, j, none⟩) h.za.lt).trans (h.zf j), h.bel.trans (hb.mono h.bel.size)⟩
theorem OS.grown {w wr w' : World} {Q : Int} {ao : Option Addr} {n cap k g cp : Nat} {F : Nat → Fil} {o : Value} {xs : List FT} (h : OS w wr Q ao n cap F o k xs) (hg : wr.grownBy w' o.ownBlock) (hat : o.ownBlock = some g ∨ g = wr.heap.size) (x : FT) (hx : FTis wr (w.heap.size + 2) o.ownBlock x (F k))
    (hown : w'.ownsRow (w.heap.size + 2) 35 3 (.slice (some ⟨g, 0, none⟩) (k + 1) cp) (k + 1) (xs.flatMap fenc ++ fenc x)) : OS w w' Q ao n cap F (.slice (some ⟨g, 0, none⟩) (k + 1) cp) (k + 1) (xs ++ [x]) := by
  have hne : ∀ b, b < w.heap.size + 2 → some b ≠ o.ownBlock := fun b hb => row_ne h.own hb
  have ho : ∀ b, b < wr.heap.size → some b ≠ o.ownBlock → some b ≠ (Value.slice (some ⟨g, 0, none⟩) (k + 1) cp).ownBlock := fun b hb h1 e => by
    simp only [Value.ownBlock, Option.some.injEq] at e
    rcases hat with h2 | h2
    · exact h1 (by rw [h2, e])
    · omega
  have qb : ∀ b, b < w.heap.size + 2 → b < wr.heap.size → w'.heap[b]? = wr.heap[b]? := fun b h1 h2 => hg.block b h2 (hne b h1)
  have hq := h.qa.lt
  have hz := h.za.lt
  have cl : ∀ b j, b < w.heap.size + 2 → b < wr.heap.size → w'.cell? ⟨b, j, none⟩ = wr.cell? ⟨b, j, none⟩ := fun b j h1 h2 => World.cell?_of_block (w := wr) (a := ⟨b, j, none⟩) (qb b h1 h2)
  have fz : ∀ b j, b < w.heap.size + 2 → b < wr.heap.size → w'.frozen? ⟨b, j, none⟩ = wr.frozen? ⟨b, j, none⟩ := fun b j h1 h2 => World.frozen?_of_block (w := wr) (a := ⟨b, j, none⟩) (qb b h1 h2)
  have hsz := hg.size
  refine ⟨by rw [List.length_append, h.len]; rfl, ?_, ?_, ⟨by omega, (cl _ _ (by omega) hq).trans h.qa.c0, (cl _ _ (by omega) hq).trans h.qa.c1⟩, ⟨by omega, (cl _ _ (by omega) hz).trans h.za.c0, (cl _ _ (by omega) hz).trans h.za.c1⟩, fun j => (fz _ _ (by omega) hq).trans (h.qf j), fun j => (fz _ _ (by omega) hz).trans (h.zf j), below_row h.bel h.own hg (by omega) h.bel.size⟩
  · rw [List.flatMap_append]
    simpa using hown
  · intro i y hy
    by_cases hi : i < xs.length
    · rw [List.getElem?_append_left hi] at hy
      exact (h.dat i y hy).to hg.size (fun b _ hb h1 => hg.block b hb h1) ho
    · have e : i = k := by
        have := (List.getElem?_eq_some_iff.1 hy).1
        rw [List.length_append, h.len] at this
        have := h.len
        simp at *
        omega
      subst e
      rw [List.getElem?_append_right (by rw [h.len]; exact Nat.le_refl _), h.len] at hy
      simp at hy
      subst hy
      exact hx.to hg.size (fun b _ hb h1 => hg.block b hb h1) ho

/-- A copy made by an append to an empty slice in block B0: it lies in B0 or behind it. -/
theorem copy3_run (w : World) (B0 : Nat) (hB0 : w.heap[B0]? = some (.cells #[] 5 (0, 0))) (da : Option Addr) (len dc : Nat) (f : Nat → Int) (hr : Row w da len f) (hn : len ≤ 1048576) :
    ∃ g c w', (∀ ty, (Builtin.append_ #[22, 22] ty #[.slice (some ⟨B0, 0, none⟩) 0 0, .slice da len dc]).run Tryd.prog w = .ok (.slice g len c) w') ∧ Below B0 w w' ∧ Row w' g len f ∧ CapO g len c ∧ ∀ b off, g = some ⟨b, off, none⟩ → B0 ≤ b := by
  obtain ⟨i0, hi, hz0, hz1, hz2⟩ := info_parts Tryd.info5
  have hB0lt : B0 < w.heap.size := (Array.getElem?_eq_some_iff.1 hB0).1
  by_cases h0 : len = 0
  · subst h0
    refine ⟨some ⟨B0, 0, none⟩, 0, w, fun ty => ?_, Below.refl _ _, ⟨hr.bd, .inl rfl⟩, ⟨Nat.le_refl _, .inr ⟨_, _, rfl⟩⟩, fun b off e => by injection e with e; injection e with e1 _ _; omega⟩
    cases da <;> simp [Builtin.append_, run_underlying Tryd.underlying22, sizeOf, typeInfo, hi, Builtin.lenOf, Builtin.firstCells, loadCells, loadCellsFrom, storeCells]
  · obtain ⟨b, off, rfl, hlt, hc⟩ := hr.lies.resolve_left h0
    obtain ⟨g, cap, w', hrun, hown, hgrow, hat, hlt'⟩ := run_append_lies (P := Tryd.prog) w 22 0 B0 5 i0 (.int .u8 0) 1 1 Tryd.underlying22 hi hz0 hz1 hz2 rfl (by decide) (.slice (some ⟨B0, 0, none⟩) 0 0) 0 [] ⟨rfl, .inr ⟨B0, 0, #[], rfl, Nat.le_refl _, hB0, Nat.le_refl _, Nat.zero_le _, rfl, rfl⟩⟩ ⟨b, off, none⟩ len dc ((List.range len).map fun i => Value.int .u8 (f i)) (by simp)
      (fun j u hu => by
        have hj : j < len := by
          have := (List.getElem?_eq_some_iff.1 hu).1
          simpa using this
        have e : u = .int .u8 (f j) := by simpa [hj] using hu.symm
        subst e
        have := hc j hj
        by_cases hj0 : j = 0
        · subst hj0; simpa [Addr.add] using this
        · simpa [Addr.add, hj0] using this)
      (fun u hu => by simp only [List.mem_map] at hu; obtain ⟨i, _, rfl⟩ := hu; rfl) (by omega) (by unfold maxLen; omega) (by omega) (by omega) w.heap.size rfl
    rw [Nat.zero_add] at hrun hown
    rw [List.nil_append] at hown
    have hO : Own w' g 0 len f := by
      refine ⟨hr.bd, hlt', fun i hi => ?_, fun i _ => by simpa using hown.frozenAt i⟩
      rw [Nat.zero_add, hown.cellAt i (by omega)]
      simp [hi]
    have hB : Below B0 w w' := (Below.refl _ _).grown hgrow (Nat.le_of_lt hB0lt) (fun k h => by simp [Value.ownBlock] at h; omega)
    have hlc : len ≤ cap := by
      rcases hown.2 with ⟨_, h0'⟩ | ⟨g', cap', cur, e, _, _, hc', _⟩
      · omega
      · injection e with _ _ e3
        omega
    refine ⟨_, cap, w', fun ty => hrun, hB, hO.row, ⟨hlc, .inr ⟨_, _, rfl⟩⟩, fun b off e => ?_⟩
    injection e with e
    injection e with e1 _ _
    rcases hat with h | h
    · simp [Value.ownBlock] at h; omega
    · omega

set_option maxHeartbeats 4000000 in
theorem l2Own_any (Q : Int) (ao : Option Addr) (n cap : Nat) (F : Nat → Fil) (w : World) (hr : FRow w ao n F) (hn : n ≤ 1048576) (hz : FSize n F 1048576) :
    Calls Tryd.prog 16 #[.agg #[.int .i64 Q, .slice ao n cap]] w fun e w' => ∃ v, e = .returned (.agg #[.int .i64 Q, v]) ∧ SRow w' (w.heap.size + 2) v n F ∧ Below w.heap.size w w' := by
  obtain ⟨i0, hi, hz0, hz1, hz2⟩ := info_parts Tryd.infoFile
  have hB : Below w.heap.size w ((w.alloc (.cells #[.int .i64 Q, .slice ao n cap] 25)).alloc (.cells #[.int .i64 0, .slice none 0 0] 25)) := ((Below.refl _ _).alloc (Nat.le_refl _) _).alloc (by simp) _
  have Z0 := QAt.new (w.alloc (.cells #[.int .i64 Q, .slice ao n cap] 25)) 0 (.slice none 0 0) 25
  rw [World.size_alloc] at Z0
  have O0 : OS w ((w.alloc (.cells #[.int .i64 Q, .slice ao n cap] 25)).alloc (.cells #[.int .i64 0, .slice none 0 0] 25)) Q ao n cap F (.slice none 0 0) 0 [] :=
    ⟨rfl, World.ownsRow_nil _ _ _ _, fun i x hx => by simp at hx, (QAt.new w Q (.slice ao n cap) 25).keep ((Below.refl _ _).alloc (Nat.le_refl _) _), Z0, fun j => by simp [go_sem], fun j => by simp [go_sem], hB⟩
  clear Z0 hB
  go_enter Tryd.func16, Tryd.ntmps16
  go_wp2
  go_loopw [3, 9] (fun o i wr => ∃ (k : Nat) (xs : List FT) (po : Option Addr) (co : Nat), k ≤ n ∧ i = .int .i64 k ∧ o = .slice po k co ∧ OS w wr Q ao n cap F (.slice po k co) k xs) (fun _ i _ => n - (intOf i).toNat)
  case atStart => exact ⟨0, [], none, 0, Nat.zero_le _, rfl, rfl, O0⟩
  case round =>
    obtain ⟨k, xs, po, co, hk, rfl, rfl, O⟩ := hrel
    clear O0
    by_cases hlt : k < n
    · obtain ⟨b, off, rfl, hblt, hc⟩ := hr.lies.resolve_left (by omega)
      obtain ⟨da, dc, hf⟩ := hc k hlt
      have hlen : (F k).len ≤ 1048576 := (hz k hlt).2
      obtain ⟨f0, f1, f2, frow⟩ := hf.keep (B := 0) hblt O.bel
      have hbr : b < wr.heap.size := by have := O.bel.size; omega
      clear hc hf hr hz
      have hA : Below wr.heap.size wr ((wr.alloc (.cells #[.string (F k).nm, .slice da (F k).len dc, .int .i64 (F k).sy] 35)).alloc (.cells #[] 5)) := ((Below.refl _ _).alloc (Nat.le_refl _) _).alloc (by simp) _
      have hE0 := heap_alloc_new (wr.alloc (.cells #[.string (F k).nm, .slice da (F k).len dc, .int .i64 (F k).sy] 35)) (.cells #[] 5)
      rw [World.size_alloc] at hE0
      obtain ⟨g, c, w4, hcp, hb4, hrow4, hCO, hge⟩ := copy3_run _ (wr.heap.size + 1) hE0 da (F k).len dc (F k).f (frow.keep hA) hlen
      have y0 : w4.cell? ⟨wr.heap.size, 0, none⟩ = some (.string (F k).nm) := (hb4.cell (p := ⟨wr.heap.size, 0, none⟩) (Nat.lt_succ_self _)).trans (by simp [go_sem])
      have y1 : w4.cell? ⟨wr.heap.size, 1, none⟩ = some (.slice da (F k).len dc) := (hb4.cell (p := ⟨wr.heap.size, 1, none⟩) (Nat.lt_succ_self _)).trans (by simp [go_sem])
      have y2 : w4.cell? ⟨wr.heap.size, 2, none⟩ = some (.int .i64 (F k).sy) := (hb4.cell (p := ⟨wr.heap.size, 2, none⟩) (Nat.lt_succ_self _)).trans (by simp [go_sem])
      have yf : ∀ j, w4.frozen? ⟨wr.heap.size, j, none⟩ = false := fun j => (hb4.frozen (p := ⟨wr.heap.size, j, none⟩) (Nat.lt_succ_self _)).trans (by simp [go_sem])
      have bw4 : Below wr.heap.size wr w4 := hA.trans (hb4.mono (Nat.le_succ _))
      have bw5 : Below wr.heap.size wr (w4.setCell ⟨wr.heap.size, 1, none⟩ (.slice g (F k).len c)) := bw4.setCell (p := ⟨wr.heap.size, 1, none⟩) (Nat.le_refl _) _
      have bw6 := bw5.alloc (B := wr.heap.size) bw5.size (.cells #[.string (F k).nm, .slice g (F k).len c, .int .i64 (F k).sy] 35)
      have O6 := O.keep bw6
      have ft6 : FTis ((w4.setCell ⟨wr.heap.size, 1, none⟩ (.slice g (F k).len c)).alloc (.cells #[.string (F k).nm, .slice g (F k).len c, .int .i64 (F k).sy] 35)) (w.heap.size + 2) (Value.slice po k co).ownBlock ((F k).nm, (g, (F k).len, c), (F k).sy) (F k) :=
        ⟨rfl, rfl, rfl, row_blocks hrow4 (by simp) (fun b off e h0 hlt => by
          have := hge b off e
          rw [heap_alloc_old _ _ (by simpa using hlt), Below.heap_setCell _ _ _ _ (by show b ≠ wr.heap.size; omega)]), fun b off e h0 => ⟨fun heq => by
          have h1 := hge b off e
          have h2 := (O.own.lt b heq.symm).2
          omega, by have h1 := hge b off e; have h2 := O.za.lt; omega⟩, hCO⟩
      have e1 := World.news_of_block (heap_alloc_new (w4.setCell ⟨wr.heap.size, 1, none⟩ (.slice g (F k).len c)) (.cells #[.string (F k).nm, .slice g (F k).len c, .int .i64 (F k).sy] 35))
      have hsz4 : wr.heap.size + 1 ≤ w4.heap.size := by have := hb4.size; simp at this; omega
      have hws : w.heap.size + 2 ≤ w4.heap.size := by have := O.za.lt; omega
      have own6 := O6.own
      rw [World.size_setCell] at e1
      clear hA hE0 hb4 hrow4 hge bw4 bw5 bw6 frow
      have tok : True := trivial
      go_wp2_with (first | (at_builtin; clear tok; refine wpList_append_run _ rfl (.tmp 13) (.tmp 15) 22 rfl (.slice (some ⟨wr.heap.size + 1, 0, none⟩) 0 0) (.slice da (F k).len dc) _ rfl rfl w4 hcp ?_) | (at_builtin; refine wpList_append_lies _ rfl (.tmp 18) (.tmp 20) 23 rfl (w.heap.size + 2) 35 i0 (.agg #[.string ByteArray.empty, .slice none 0 0, .int .i64 0]) 3 48 Tryd.underlying23 hi hz0 hz1 hz2 rfl (by decide) _ _ _ rfl own6 ⟨w4.heap.size, 0, none⟩ 1 1 [.string (F k).nm, .slice g (F k).len c, .int .i64 (F k).sy] rfl rfl e1 (fenc_one ((F k).nm, (g, (F k).len, c), (F k).sy)) (by omega) (by unfold maxLen; omega) (by omega) (by simp; omega) (w4.heap.size + 1) (by simp) ?_; intro g7 cp7 w7 hown7 hgrow7 hat7 hlg7))
      have O7 := O6.grown hgrow7 (by rw [World.size_alloc, World.size_setCell]; exact hat7) _ ft6 hown7
      clear O6 O hown7 hgrow7 hat7 hlg7 ft6 own6 e1 y0 y1 y2 yf
      go_wp2
      go_roundw
      case rel => exact ⟨k + 1, _, _, _, by omega, by go_num, rfl, O7⟩
      case measure => simp [intOf]; omega
    · have e : k = n := by omega
      subst e
      obtain ⟨lx, x0, x1⟩ := O.qa
      obtain ⟨lz, z0, z1⟩ := O.za
      have qf := O.qf
      have zf := O.zf
      have hoB : ∀ j, w.heap.size + 2 ≤ j → (((wr.setCell ⟨w.heap.size, 1, none⟩ (.slice po k co)).setCell ⟨w.heap.size + 1, 0, none⟩ (.int .i64 Q)).setCell ⟨w.heap.size + 1, 1, none⟩ (.slice po k co)).heap[j]? = wr.heap[j]? := fun j hj => by
        rw [Below.heap_setCell _ _ _ _ (by show j ≠ w.heap.size + 1; omega), Below.heap_setCell _ _ _ _ (by show j ≠ w.heap.size + 1; omega), Below.heap_setCell _ _ _ _ (by show j ≠ w.heap.size; omega)]
      go_wp2
      refine bodyPost_ret (v := .agg #[.int .i64 Q, .slice po k co]) (by simp [results, Tryd.results16, go_sem, z0, z1, x0, x1]) rfl ⟨_, rfl, ⟨xs, O.len, row_low O.own (fun j h1 _ => hoB j h1), ?_⟩, ?_⟩
      · exact O.dat.to (by simp) (fun b h1 _ _ => hoB b h1) (fun _ _ h => h)
      · exact ((O.bel.setCell (p := ⟨w.heap.size, 1, none⟩) (Nat.le_refl _) _).setCell (p := ⟨w.heap.size + 1, 0, none⟩) (Nat.le_succ _) _).setCell (p := ⟨w.heap.size + 1, 1, none⟩) (Nat.le_succ _) _
end Go.Proofs.YtiojjihonmonkaaDoor
