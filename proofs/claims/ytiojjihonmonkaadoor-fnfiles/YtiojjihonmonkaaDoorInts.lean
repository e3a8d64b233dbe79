/- The model's own copy of files, with room told. / Marks: bytes marked and looked for, a mark's text; blocks that are let alone. / Ints: rows of them, copied, compared, marked. -/
import Derived.Test.YtiojjihonmonkaaDoorSyncS
import Derived.Test.YtiojjihonmonkaaDoorFiles
import Derived.Laws.BytesArg
namespace Go.Proofs.YtiojjihonmonkaaDoor
open Go.RowKit
set_option linter.unusedSimpArgs false
set_option linter.unusedVariables false

/-- No file's bytes are more than there is room for. -/
def CapL (xs : List FT) : Prop := ∀ x ∈ xs, x.2.1.2.1 ≤ x.2.1.2.2
theorem capL_nil : CapL [] := fun x hx => by cases hx
theorem CapL.snoc {xs : List FT} {x : FT} (h : CapL xs) (hx : x.2.1.2.1 ≤ x.2.1.2.2) : CapL (xs ++ [x]) := fun y hy => by
  rcases List.mem_append.1 hy with hy | hy
  · exact h y hy
  · rw [List.mem_singleton.1 hy]; exact hx
def SRowC (w : World) (base : Nat) (v : Value) (n : Nat) (F : Nat → Fil) : Prop := ∃ xs : List FT, xs.length = n ∧ w.ownsRow base 35 3 v n (xs.flatMap fenc) ∧ DatF w base v.ownBlock F xs ∧ CapL xs
theorem SRowC.srow {w : World} {base n : Nat} {v : Value} {F : Nat → Fil} (h : SRowC w base v n F) : SRow w base v n F := by
  obtain ⟨xs, h1, h2, h3, _⟩ := h
  exact ⟨xs, h1, h2, h3⟩
theorem SRowC.low {w w' : World} {base n : Nat} {v : Value} {F : Nat → Fil} (h : SRowC w base v n F) (hs : w.heap.size ≤ w'.heap.size) (hb : ∀ j, base ≤ j → j < w.heap.size → w'.heap[j]? = w.heap[j]?) : SRowC w' base v n F := by
  obtain ⟨xs, hl, hown, hdat, hc⟩ := h
  exact ⟨xs, hl, row_low hown hb, hdat.to hs (fun b h1 hlt _ => hb b h1 hlt) (fun _ _ h => h), hc⟩
theorem SRowC.at {w : World} {base n : Nat} {p : Option Addr} {c : Nat} {F : Nat → Fil} (h : SRowC w base (.slice p n c) n F) (hn : n ≠ 0) :
    ∃ g, p = some ⟨g, 0, none⟩ ∧ base ≤ g ∧ g < w.heap.size ∧ (∀ j, w.frozen? ⟨g, j, none⟩ = false) ∧ ∀ i, i < n → ∃ da dc, FAt w g (i * 3) (F i) da dc ∧ (F i).len ≤ dc ∧ ∀ b off, da = some ⟨b, off, none⟩ → (F i).len ≠ 0 → b ≠ g ∧ base ≤ b := by
  obtain ⟨xs, hl, hown, hdat, hcp⟩ := h
  rcases id hown.2 with ⟨_, h0⟩ | ⟨g, cap, cur, e, hbg, hg, _⟩
  · omega
  · injection e with e1 e2 e3
    subst e1 e3
    refine ⟨g, rfl, hbg, (Array.getElem?_eq_some_iff.1 hg).1, fun j => hown.frozenAt j, fun i hi => ?_⟩
    obtain ⟨x, hx⟩ : ∃ x, xs[i]? = some x := ⟨_, List.getElem?_eq_getElem (by omega)⟩
    obtain ⟨k0, k1, k2⟩ := fm_cells xs hx
    obtain ⟨d1, d2, d3, d4, d5, d6⟩ := hdat i x hx
    have hcx := hcp x (List.mem_of_getElem? hx)
    refine ⟨x.2.1.1, x.2.1.2.2, ⟨?_, ?_, ?_, d4⟩, by rw [← d2]; exact hcx, fun b off e h0 => ⟨fun eb => (d5 b off e h0).1 (by rw [eb]; rfl), (d5 b off e h0).2⟩⟩
    · rw [hown.cellAt _ (by omega), k0, d1]
    · rw [hown.cellAt _ (by omega), k1, d2]
    · rw [hown.cellAt _ (by omega), k2, d3]

set_option maxHeartbeats 4000000 in
theorem l2Own_cap (Q : Int) (ao : Option Addr) (n cap : Nat) (F : Nat → Fil) (w : World) (hr : FRow w ao n F) (hn : n ≤ 1048576) (hz : FSize n F 1048576) :
    Calls Tryd.prog 16 #[.agg #[.int .i64 Q, .slice ao n cap]] w fun e w' => ∃ v, e = .returned (.agg #[.int .i64 Q, v]) ∧ SRowC w' (w.heap.size + 2) v n F ∧ Below w.heap.size w w' := by
  obtain ⟨i0, hi, hz0, hz1, hz2⟩ := info_parts Tryd.infoFile
  have hB : Below w.heap.size w ((w.alloc (.cells #[.int .i64 Q, .slice ao n cap] 25)).alloc (.cells #[.int .i64 0, .slice none 0 0] 25)) := ((Below.refl _ _).alloc (Nat.le_refl _) _).alloc (by simp) _
  have Z0 := QAt.new (w.alloc (.cells #[.int .i64 Q, .slice ao n cap] 25)) 0 (.slice none 0 0) 25
  rw [World.size_alloc] at Z0
  have O0 : OS w ((w.alloc (.cells #[.int .i64 Q, .slice ao n cap] 25)).alloc (.cells #[.int .i64 0, .slice none 0 0] 25)) Q ao n cap F (.slice none 0 0) 0 [] :=
    ⟨rfl, World.ownsRow_nil _ _ _ _, fun i x hx => by simp at hx, (QAt.new w Q (.slice ao n cap) 25).keep ((Below.refl _ _).alloc (Nat.le_refl _) _), Z0, fun j => by simp [go_sem], fun j => by simp [go_sem], hB⟩
  clear Z0 hB
  go_enter Tryd.func16, Tryd.ntmps16
  go_wp2
  go_loopw [3, 9] (fun o i wr => ∃ (k : Nat) (xs : List FT) (po : Option Addr) (co : Nat), k ≤ n ∧ i = .int .i64 k ∧ o = .slice po k co ∧ CapL xs ∧ OS w wr Q ao n cap F (.slice po k co) k xs) (fun _ i _ => n - (intOf i).toNat)
  case atStart => exact ⟨0, [], none, 0, Nat.zero_le _, rfl, rfl, capL_nil, O0⟩
  case round =>
    obtain ⟨k, xs, po, co, hk, rfl, rfl, hC, O⟩ := hrel
    clear O0
    by_cases hlt : k < n
    · obtain ⟨b, off, rfl, hblt, hc⟩ := hr.lies.resolve_left (by omega)
      obtain ⟨da, dc, hf⟩ := hc k hlt
      have hlen : (F k).len ≤ 1048576 := (hz k hlt).2
      obtain ⟨f0, f1, f2, frow⟩ := hf.keep (B := 0) hblt O.bel
      have hbr : b < wr.heap.size := by have := O.bel.size; omega
      clear hc hf hr hz
      have hA : Below wr.heap.size wr ((wr.alloc (.cells #[.string (F k).nm, .slice da (F k).len dc, .int .i64 (F k).sy] 35)).alloc (.cells #[] 5)) := ((Below.refl _ _).alloc (Nat.le_refl _) _).alloc (by simp) _
      have hE0 := heap_alloc_new (wr.alloc (.cells #[.string (F k).nm, .slice da (F k).len dc, .int .i64 (F k).sy] 35)) (.cells #[] 5)
      rw [World.size_alloc] at hE0
      obtain ⟨g, c, w4, hcp, hb4, hrow4, hCO, hge⟩ := copy3_run _ (wr.heap.size + 1) hE0 da (F k).len dc (F k).f (frow.keep hA) hlen
      have y0 : w4.cell? ⟨wr.heap.size, 0, none⟩ = some (.string (F k).nm) := (hb4.cell (p := ⟨wr.heap.size, 0, none⟩) (Nat.lt_succ_self _)).trans (by simp [go_sem])
      have y1 : w4.cell? ⟨wr.heap.size, 1, none⟩ = some (.slice da (F k).len dc) := (hb4.cell (p := ⟨wr.heap.size, 1, none⟩) (Nat.lt_succ_self _)).trans (by simp [go_sem])
      have y2 : w4.cell? ⟨wr.heap.size, 2, none⟩ = some (.int .i64 (F k).sy) := (hb4.cell (p := ⟨wr.heap.size, 2, none⟩) (Nat.lt_succ_self _)).trans (by simp [go_sem])
      have yf : ∀ j, w4.frozen? ⟨wr.heap.size, j, none⟩ = false := fun j => (hb4.frozen (p := ⟨wr.heap.size, j, none⟩) (Nat.lt_succ_self _)).trans (by simp [go_sem])
      have bw4 : Below wr.heap.size wr w4 := hA.trans (hb4.mono (Nat.le_succ _))
      have bw5 : Below wr.heap.size wr (w4.setCell ⟨wr.heap.size, 1, none⟩ (.slice g (F k).len c)) := bw4.setCell (p := ⟨wr.heap.size, 1, none⟩) (Nat.le_refl _) _
      have bw6 := bw5.alloc (B := wr.heap.size) bw5.size (.cells #[.string (F k).nm, .slice g (F k).len c, .int .i64 (F k).sy] 35)
      have O6 := O.keep bw6
      have ft6 : FTis ((w4.setCell ⟨wr.heap.size, 1, none⟩ (.slice g (F k).len c)).alloc (.cells #[.string (F k).nm, .slice g (F k).len c, .int .i64 (F k).sy] 35)) (w.heap.size + 2) (Value.slice po k co).ownBlock ((F k).nm, (g, (F k).len, c), (F k).sy) (F k) :=
        ⟨rfl, rfl, rfl, row_blocks hrow4 (by simp) (fun b off e h0 hlt => by
          have := hge b off e
          rw [heap_alloc_old _ _ (by simpa using hlt), Below.heap_setCell _ _ _ _ (by show b ≠ wr.heap.size; omega)]), fun b off e h0 => ⟨fun heq => by
          have h1 := hge b off e
          have h2 := (O.own.lt b heq.symm).2
          omega, by have h1 := hge b off e; have h2 := O.za.lt; omega⟩, hCO⟩
      have e1 := World.news_of_block (heap_alloc_new (w4.setCell ⟨wr.heap.size, 1, none⟩ (.slice g (F k).len c)) (.cells #[.string (F k).nm, .slice g (F k).len c, .int .i64 (F k).sy] 35))
      have hsz4 : wr.heap.size + 1 ≤ w4.heap.size := by have := hb4.size; simp at this; omega
      have hws : w.heap.size + 2 ≤ w4.heap.size := by have := O.za.lt; omega
      have own6 := O6.own
      rw [World.size_setCell] at e1
      clear hA hE0 hb4 hrow4 hge bw4 bw5 bw6 frow
      have tok : True := trivial
      go_wp2_with (first | (at_builtin; clear tok; refine wpList_append_run _ rfl (.tmp 13) (.tmp 15) 22 rfl (.slice (some ⟨wr.heap.size + 1, 0, none⟩) 0 0) (.slice da (F k).len dc) _ rfl rfl w4 hcp ?_) | (at_builtin; refine wpList_append_lies _ rfl (.tmp 18) (.tmp 20) 23 rfl (w.heap.size + 2) 35 i0 (.agg #[.string ByteArray.empty, .slice none 0 0, .int .i64 0]) 3 48 Tryd.underlying23 hi hz0 hz1 hz2 rfl (by decide) _ _ _ rfl own6 ⟨w4.heap.size, 0, none⟩ 1 1 [.string (F k).nm, .slice g (F k).len c, .int .i64 (F k).sy] rfl rfl e1 (fenc_one ((F k).nm, (g, (F k).len, c), (F k).sy)) (by omega) (by unfold maxLen; omega) (by omega) (by simp; omega) (w4.heap.size + 1) (by simp) ?_; intro g7 cp7 w7 hown7 hgrow7 hat7 hlg7))
      have O7 := O6.grown hgrow7 (by rw [World.size_alloc, World.size_setCell]; exact hat7) _ ft6 hown7
      clear O6 O hown7 hgrow7 hat7 hlg7 ft6 own6 e1 y0 y1 y2 yf
      go_wp2
      go_roundw
      case rel => exact ⟨k + 1, _, _, _, by omega, by go_num, rfl, hC.snoc hCO.1, O7⟩
      case measure => simp [intOf]; omega
    · have e : k = n := by omega
      subst e
      obtain ⟨lx, x0, x1⟩ := O.qa
      obtain ⟨lz, z0, z1⟩ := O.za
      have qf := O.qf
      have zf := O.zf
      have hoB : ∀ j, w.heap.size + 2 ≤ j → (((wr.setCell ⟨w.heap.size, 1, none⟩ (.slice po k co)).setCell ⟨w.heap.size + 1, 0, none⟩ (.int .i64 Q)).setCell ⟨w.heap.size + 1, 1, none⟩ (.slice po k co)).heap[j]? = wr.heap[j]? := fun j hj => by
        rw [Below.heap_setCell _ _ _ _ (by show j ≠ w.heap.size + 1; omega), Below.heap_setCell _ _ _ _ (by show j ≠ w.heap.size + 1; omega), Below.heap_setCell _ _ _ _ (by show j ≠ w.heap.size; omega)]
      go_wp2
      refine bodyPost_ret (v := .agg #[.int .i64 Q, .slice po k co]) (by simp [results, Tryd.results16, go_sem, z0, z1, x0, x1]) rfl ⟨_, rfl, ⟨xs, O.len, row_low O.own (fun j h1 _ => hoB j h1), ?_, hC⟩, ?_⟩
      · exact O.dat.to (by simp) (fun b h1 _ _ => hoB b h1) (fun _ _ h => h)
      · exact ((O.bel.setCell (p := ⟨w.heap.size, 1, none⟩) (Nat.le_refl _) _).setCell (p := ⟨w.heap.size + 1, 0, none⟩) (Nat.le_succ _) _).setCell (p := ⟨w.heap.size + 1, 1, none⟩) (Nat.le_succ _) _
end Go.Proofs.YtiojjihonmonkaaDoor
namespace Go.Proofs.YtiojjihonmonkaaDoor
open Go.RowKit
set_option linter.unusedSimpArgs false
set_option linter.unusedVariables false

def mtLoop : Nat → Int → ByteArray → ByteArray
  | 0, _, out => out
  | f + 1, k, out => if 0 < k then mtLoop f (k / 10) (strOfNums [48 + k % 10] ++ out) else out
/-- The mark of k. -/
def mt (k : Int) : ByteArray := (⟨#[109]⟩ : ByteArray) ++ mtLoop k.toNat k ⟨#[]⟩
theorem mtLoop_zero (f : Nat) (k : Int) (out : ByteArray) (h : ¬ 0 < k) : mtLoop f k out = out := by
  cases f with
  | zero => rfl
  | succ f => simp [mtLoop, h]
theorem mtLoop_fuel : ∀ (f g : Nat) (k : Int) (out : ByteArray), k.toNat ≤ f → k.toNat ≤ g → mtLoop f k out = mtLoop g k out
  | 0, g, k, out, h, _ => by rw [mtLoop_zero g k out (by omega)]; rfl
  | f + 1, 0, k, out, _, h => by rw [mtLoop_zero (f + 1) k out (by omega)]; rfl
  | f + 1, g + 1, k, out, h1, h2 => by
    simp only [mtLoop]
    split
    · exact mtLoop_fuel f g _ _ (by omega) (by omega)
    · rfl
theorem one_nums (z : Int) : (strOfNums [z]).size = 1 := rfl

/-- All blocks but those from B up to U are as they were. -/
structure Mid (B U : Nat) (w w' : World) : Prop where
  os : w'.os = w.os
  tape : w'.tape = w.tape
  output : w'.output = w.output
  size : w.heap.size ≤ w'.heap.size
  block : ∀ k, k < w.heap.size → (k < B ∨ U ≤ k) → w'.heap[k]? = w.heap[k]?
section
variable {B U : Nat} {w w' : World}
theorem Mid.of_below (h : Below w.heap.size w w') : Mid B U w w' := ⟨h.os, h.tape, h.output, h.size, fun k hk _ => h.block k hk⟩
theorem Mid.of_others {g : Nat} (h : Others g w w') (h1 : B ≤ g) (h2 : g < U) : Mid B U w w' := ⟨h.os, h.tape, h.output, by rw [h.size]; exact Nat.le_refl _, fun k hk hne => h.block k (by omega)⟩
theorem Mid.refl (B U : Nat) (w : World) : Mid B U w w := ⟨rfl, rfl, rfl, Nat.le_refl _, fun _ _ _ => rfl⟩
theorem Mid.trans {u : World} (h : Mid B U w w') (k : Mid B U w' u) : Mid B U w u := ⟨k.os.trans h.os, k.tape.trans h.tape, k.output.trans h.output, Nat.le_trans h.size k.size, fun j hj hne => (k.block j (Nat.lt_of_lt_of_le hj h.size) hne).trans (h.block j hj hne)⟩
theorem Mid.cell (h : Mid B U w w') {b o : Nat} (hb : b < w.heap.size) (hne : b < B ∨ U ≤ b) : w'.cell? ⟨b, o, none⟩ = w.cell? ⟨b, o, none⟩ := World.cell?_of_block (w := w) (a := ⟨b, o, none⟩) (h.block b hb hne)
theorem Mid.frozen (h : Mid B U w w') {b o : Nat} (hb : b < w.heap.size) (hne : b < B ∨ U ≤ b) : w'.frozen? ⟨b, o, none⟩ = w.frozen? ⟨b, o, none⟩ := World.frozen?_of_block (w := w) (a := ⟨b, o, none⟩) (h.block b hb hne)
theorem Mid.own (h : Mid B U w w') {c off n : Nat} {f : Nat → Int} (ho : Own w c off n f) (hne : c < B ∨ U ≤ c) : Own w' c off n f :=
  ⟨ho.bd, Nat.lt_of_lt_of_le ho.lt h.size, fun i hi => (h.cell ho.lt hne).trans (ho.cell i hi), fun i hi => (h.frozen ho.lt hne).trans (ho.free i hi)⟩
theorem Mid.below (h : Mid B U w w') {C : Nat} (hC : C ≤ B) (hs : C ≤ w.heap.size) : Below C w w' := ⟨h.os, h.tape, h.output, h.size, fun k hk => h.block k (by omega) (by omega)⟩
end
/-- A row of bytes elsewhere stays. -/
theorem Mid.row {B U : Nat} {w w' : World} (h : Mid B U w w') {ao : Option Addr} {n : Nat} {f : Nat → Int} (hr : Row w ao n f) (hne : ∀ b off, ao = some ⟨b, off, none⟩ → 0 < n → b < B ∨ U ≤ b) : Row w' ao n f := by
  refine ⟨hr.bd, ?_⟩
  by_cases h0 : n = 0
  · exact .inl h0
  · obtain ⟨b, off, e, hlt, hc⟩ := hr.lies.resolve_left h0
    exact .inr ⟨b, off, e, Nat.lt_of_lt_of_le hlt h.size, fun i hi => (h.cell hlt (hne b off e (by omega))).trans (hc i hi)⟩
end Go.Proofs.YtiojjihonmonkaaDoor
namespace Go.Proofs.YtiojjihonmonkaaDoor
open Go.RowKit
set_option linter.unusedSimpArgs false
set_option linter.unusedVariables false

theorem Tryd.infoInt : (Tryd.prog.info? 3).map (fun i => (i.zero, i.size, i.bytes)) = some (some (.int .i64 0), 1, 8) := by kernel_rfl

/-- n ints f 0, f 1, .. lie at ao. -/
structure IRow (w : World) (ao : Option Addr) (n : Nat) (f : Nat → Int) : Prop where
  bd : ∀ i, -9223372036854775808 ≤ f i ∧ f i ≤ 9223372036854775807
  lies : n = 0 ∨ ∃ b off, ao = some ⟨b, off, none⟩ ∧ b < w.heap.size ∧ ∀ i, i < n → w.cell? ⟨b, off + i, none⟩ = some (.int .i64 (f i))

theorem IRow.keep {w w' : World} {ao : Option Addr} {n : Nat} {f : Nat → Int} (h : IRow w ao n f) (hb : Below w.heap.size w w') : IRow w' ao n f :=
  ⟨h.bd, h.lies.elim .inl fun ⟨b, off, e, hlt, hc⟩ => .inr ⟨b, off, e, Nat.lt_of_lt_of_le hlt hb.size, fun i hi => (hb.cell (p := ⟨b, off + i, none⟩) hlt).trans (hc i hi)⟩⟩

/-- n ints that may be written lie in block b from off on. -/
structure IOwn (w : World) (b off n : Nat) (f : Nat → Int) : Prop where
  bd : ∀ i, -9223372036854775808 ≤ f i ∧ f i ≤ 9223372036854775807
  lt : b < w.heap.size
  cell : ∀ i, i < n → w.cell? ⟨b, off + i, none⟩ = some (.int .i64 (f i))
  free : ∀ i, i < n → w.frozen? ⟨b, off + i, none⟩ = false

theorem IOwn.row {w : World} {b off n : Nat} {f : Nat → Int} (h : IOwn w b off n f) : IRow w (some ⟨b, off, none⟩) n f :=
  ⟨h.bd, .inr ⟨b, off, rfl, h.lt, h.cell⟩⟩

theorem IOwn.keep {w w' : World} {b off n : Nat} {f : Nat → Int} (h : IOwn w b off n f) (hb : Below w.heap.size w w') : IOwn w' b off n f :=
  ⟨h.bd, Nat.lt_of_lt_of_le h.lt hb.size, fun i hi => (hb.cell (p := ⟨b, off + i, none⟩) h.lt).trans (h.cell i hi), fun i hi => (hb.frozen (p := ⟨b, off + i, none⟩) h.lt).trans (h.free i hi)⟩

theorem IOwn.store {w : World} {b off n : Nat} {f : Nat → Int} (h : IOwn w b off n f) (k : Nat) (hk : k < n) (x : Int) (hx : -9223372036854775808 ≤ x ∧ x ≤ 9223372036854775807) :
    IOwn (w.setCell ⟨b, off + k, none⟩ (.int .i64 x)) b off n (fun i => if i = k then x else f i) := by
  refine ⟨fun i => ?_, by simpa using h.lt, fun i hi => ?_, fun i hi => by simpa using h.free i hi⟩
  · by_cases e : i = k <;> simp [e, hx, h.bd i]
  · by_cases e : i = k
    · subst e; simp [World.cell?_setCell_same _ _ _ (h.cell i hi)]
    · rw [World.cell?_setCell_other _ _ _ _ (by intro hh; injection hh with _ h2 _; omega), h.cell i hi]; simp [e]

theorem IOwn.congr {w : World} {b off n : Nat} {f g : Nat → Int} (h : IOwn w b off n f) (hb : ∀ i, -9223372036854775808 ≤ g i ∧ g i ≤ 9223372036854775807) (e : ∀ i, i < n → f i = g i) : IOwn w b off n g :=
  ⟨hb, h.lt, fun i hi => by rw [h.cell i hi, e i hi], h.free⟩

theorem iown_of_made {w : World} {base g n : Nat} (h : w.ownsRow base 3 1 (.slice (some ⟨g, 0, none⟩) n n) n (madeCells (Value.int .i64 0).cells (n * 1)).toList) (hlt : g < w.heap.size) : IOwn w g 0 n (fun _ => 0) := by
  refine ⟨fun _ => by omega, hlt, fun i hi => ?_, fun i _ => by simpa using h.frozenAt i⟩
  have := h.cellAt i (by omega)
  rw [Nat.zero_add, this]
  simp only [Value.cells, toList_madeCells_one]
  rw [List.getElem?_replicate]
  simp [hi]

/-- What is left of a by b, from 0 on. -/
def md (a b : Int) : Int := if a.tmod b < 0 then a.tmod b + b else a.tmod b
theorem md_bd {a b : Int} (hb : 0 < b) : 0 ≤ md a b ∧ md a b < b := by
  unfold md
  have h1 := Int.tmod_lt_of_pos a hb
  have h2 := Int.lt_tmod_of_pos a hb
  split <;> omega
theorem modOf_any (a b : Int) (ha : -9223372036854775808 ≤ a ∧ a ≤ 9223372036854775807) (hb : 0 < b ∧ b ≤ 1048577) (w : World) :
    Calls Tryd.prog 32 #[.int .i64 a, .int .i64 b] w fun e w' => e = .returned (.int .i64 (md a b)) ∧ w' = w := by
  have h1 := Int.tmod_lt_of_pos a hb.1
  have h2 := Int.lt_tmod_of_pos a hb.1
  have hb0 : ¬ b = 0 := by omega
  have hw : IntKind.i64.wrap (a.tmod b) = a.tmod b := by rw [IntKind.wrap_i64] <;> omega
  by_cases h : a.tmod b < 0
  · have hw2 : IntKind.i64.wrap (a.tmod b + b) = a.tmod b + b := by rw [IntKind.wrap_i64] <;> omega
    go_enter Tryd.func32, Tryd.ntmps32
    go_wp2
    go_ret
    exact ⟨by simp [md, h, hw2], rfl⟩
  · go_enter Tryd.func32, Tryd.ntmps32
    go_wp2
    go_ret
    have e : md a b = a.tmod b := by rw [md, if_neg (by omega)]
    exact ⟨by rw [e]; rfl, rfl⟩
theorem l1Mod_any (a b : Int) (ha : -9223372036854775808 ≤ a ∧ a ≤ 9223372036854775807) (hb : 0 < b ∧ b ≤ 1048577) (w : World) :
    Calls Tryd.prog 38 #[.int .i64 a, .int .i64 b] w fun e w' => e = .returned (.int .i64 (md a b)) ∧ w' = w := by
  have h1 := Int.tmod_lt_of_pos a hb.1
  have h2 := Int.lt_tmod_of_pos a hb.1
  have hb0 : ¬ b = 0 := by omega
  have hw : IntKind.i64.wrap (a.tmod b) = a.tmod b := by rw [IntKind.wrap_i64] <;> omega
  by_cases h : a.tmod b < 0
  · have hw2 : IntKind.i64.wrap (a.tmod b + b) = a.tmod b + b := by rw [IntKind.wrap_i64] <;> omega
    go_enter Tryd.func38, Tryd.ntmps38
    go_wp2
    go_ret
    exact ⟨by simp [md, h, hw2], rfl⟩
  · go_enter Tryd.func38, Tryd.ntmps38
    go_wp2
    go_ret
    have e : md a b = a.tmod b := by rw [md, if_neg (by omega)]
    exact ⟨by rw [e]; rfl, rfl⟩
end Go.Proofs.YtiojjihonmonkaaDoor
