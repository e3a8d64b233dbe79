/- openDisk with names: the files' bytes are rows of the call's own. -/
import Derived.Test.YtapmbgmmonhdoaaGreatDoorDiskN
namespace Go.Proofs.YtapmbgmmonhdoaaGreatDoor
set_option maxRecDepth 100000
open Go.RowKit
open Go.ChangeMaps (setBlock)
set_option linter.unusedSimpArgs false
set_option linter.unusedVariables false

def bl (f : Nat → Int) (n : Nat) : List Value := (List.range n).map fun i => Value.int .u8 (f i)
theorem brow_one {w w' : World} {base n : Nat} {v : Value} {xs : List Value} (h : w.ownsRow base 5 1 v n xs) (hb : ∀ b, some b = v.ownBlock → w'.heap[b]? = w.heap[b]?) : w'.ownsRow base 5 1 v n xs := by
  refine ⟨h.1, ?_⟩
  rcases h.2 with h | ⟨g, cap, cur, rfl, h1, h2, h3⟩
  · exact .inl h
  · exact .inr ⟨g, cap, cur, rfl, h1, (hb g rfl).trans h2, h3⟩
theorem brow_base {w : World} {base base' n : Nat} {v : Value} {xs : List Value} (h : w.ownsRow base' 5 1 v n xs) (hb : base ≤ base') : w.ownsRow base 5 1 v n xs := by
  refine ⟨h.1, ?_⟩
  rcases h.2 with h | ⟨g, cap, cur, rfl, h1, h2, h3⟩
  · exact .inl h
  · exact .inr ⟨g, cap, cur, rfl, by omega, h2, h3⟩
theorem brow_ge {w : World} {base n : Nat} {v : Value} {xs : List Value} (h : w.ownsRow base 5 1 v n xs) {b : Nat} (e : some b = v.ownBlock) : base ≤ b := by
  rcases h.2 with ⟨rfl, _⟩ | ⟨g, cap, cur, rfl, h1, h2, h3⟩
  · simp [Value.ownBlock] at e
  · injection e with e
    rw [e]; exact h1
theorem brow_lt {w : World} {base n : Nat} {v : Value} {xs : List Value} (h : w.ownsRow base 5 1 v n xs) {b : Nat} (e : some b = v.ownBlock) : b < w.heap.size := by
  rcases h.2 with ⟨rfl, _⟩ | ⟨g, cap, cur, rfl, h1, h2, h3⟩
  · simp [Value.ownBlock] at e
  · injection e with e
    rw [e]; exact (Array.getElem?_eq_some_iff.1 h2).1
/-- The bytes of each of k files are a row of the call's own. -/
def DRow (w : World) (B k : Nat) (F : Nat → Fil) (S : Nat → Value) : Prop := ∀ i, i < k → w.ownsRow B 5 1 (S i) (F i).len (bl (F i).f (F i).len) ∧ ((F i).len = 0 → (S i).ownBlock = none)
theorem DRow.to {w w' : World} {B k : Nat} {F : Nat → Fil} {S : Nat → Value} (h : DRow w B k F S) (hb : ∀ b, B ≤ b → b < w.heap.size → w'.heap[b]? = w.heap[b]?) : DRow w' B k F S := fun i hi => ⟨brow_one (h i hi).1 (fun b e => hb b (brow_ge (h i hi).1 e) (brow_lt (h i hi).1 e)), (h i hi).2⟩
theorem DRow.keep {w w0 w' : World} {B k bm : Nat} {Q : Int} {F : Nat → Fil} {S : Nat → Value} {G : Nat → Nat} (h : DRow w B k F S) (_ : OD w0 bm k Q F S G w) (hb : Below w.heap.size w w') : DRow w' B k F S := h.to (fun b _ hlt => hb.block b hlt)
theorem DRow.put {w : World} {bm k : Nat} {F : Nat → Fil} {S : Nat → Value} (h : DRow w (bm + 2) k F S) {g : Option Addr} {c : Nat} {o : Obj} (hn : w.ownsRow (bm + 2) 5 1 (.slice g (F k).len c) (F k).len (bl (F k).f (F k).len)) (hn0 : (F k).len = 0 → g = none) : DRow (setBlock w bm o) (bm + 2) (k + 1) F (fun i => if i = k then .slice g (F k).len c else S i) := fun i hi => by
  have blk : ∀ j, j ≠ bm → (setBlock w bm o).heap[j]? = w.heap[j]? := fun j hj => by simp [setBlock, Ne.symm hj]
  by_cases e : i = k
  · subst e
    simp only [if_true]
    exact ⟨brow_one hn (fun b e => blk b (by have := brow_ge hn e; omega)), fun h0 => by rw [hn0 h0]; rfl⟩
  · simp only [e, if_false]
    exact ⟨brow_one (h i (by omega)).1 (fun b e => blk b (by have := brow_ge (h i (by omega)).1 e; omega)), (h i (by omega)).2⟩
theorem copy_runX (w : World) (da : Option Addr) (len dc : Nat) (f : Nat → Int) (hr : Row w da len f) (hn : len ≤ 1048576) :
    ∃ g c w', (∀ ty, (Builtin.append_ #[38, 38] ty #[.slice none 0 0, .slice da len dc]).run Tryz.prog w = .ok (.slice g len c) w') ∧ ((len = 0 ∧ g = none) ∨ (g = some ⟨w.heap.size, 0, none⟩ ∧ Own w' w.heap.size 0 len f)) ∧ Below w.heap.size w w' ∧ Row w' g len f ∧ w'.ownsRow w.heap.size 5 1 (.slice g len c) len (bl f len) ∧ (len = 0 → g = none) := by
  obtain ⟨i0, hi, hz0, hz1, hz2⟩ := info_parts Tryz.info5
  by_cases h0 : len = 0
  · subst h0
    refine ⟨none, 0, w, fun ty => ?_, .inl ⟨rfl, rfl⟩, Below.refl _ _, ⟨hr.bd, .inl rfl⟩, World.ownsRow_nil _ _ _ _, fun _ => rfl⟩
    cases da <;> simp [Builtin.append_, run_underlying Tryz.underlying38, sizeOf, typeInfo, hi, Builtin.lenOf, Builtin.firstCells, loadCells, loadCellsFrom]
  · obtain ⟨b, off, rfl, hlt, hc⟩ := hr.lies.resolve_left h0
    obtain ⟨g, cap, w', hrun, hown, hgrow, hat, hlt'⟩ := run_append_lies (P := Tryz.prog) w 38 0 w.heap.size 5 i0 (.int .u8 0) 1 1 Tryz.underlying38 hi hz0 hz1 hz2 rfl (by decide) (.slice none 0 0) 0 [] (World.ownsRow_nil _ _ _ _) ⟨b, off, none⟩ len dc ((List.range len).map fun i => Value.int .u8 (f i)) (by simp)
      (fun j u hu => by
        have hj : j < len := by
          have := (List.getElem?_eq_some_iff.1 hu).1
          simpa using this
        have e : u = .int .u8 (f j) := by simpa [hj] using hu.symm
        subst e
        have := hc j hj
        by_cases hj0 : j = 0
        · subst hj0; simpa [Addr.add] using this
        · simpa [Addr.add, hj0] using this)
      (fun u hu => by simp only [List.mem_map] at hu; obtain ⟨i, _, rfl⟩ := hu; rfl) (by omega) (by unfold maxLen; omega) (by omega) (Nat.le_refl _) w.heap.size rfl
    rw [Nat.zero_add] at hrun hown
    rw [List.nil_append] at hown
    have hg : g = w.heap.size := by
      rcases hat with h | h
      · simp [Value.ownBlock] at h
      · exact h
    subst hg
    have hO : Own w' w.heap.size 0 len f := by
      refine ⟨hr.bd, hlt', fun i hi => ?_, fun i _ => by simpa using hown.frozenAt i⟩
      rw [Nat.zero_add, hown.cellAt i (by omega)]
      simp [hi]
    have hB : Below w.heap.size w w' := (Below.refl _ _).grown hgrow (Nat.le_refl _) (fun k h => by simp [Value.ownBlock] at h)
    exact ⟨_, cap, w', fun ty => hrun, .inr ⟨rfl, hO⟩, hB, hO.row, hown, fun h => absurd h h0⟩

/-- What openDisk answers where all is good, the rows told. -/
def DiskOutX (Q : Int) (n : Nat) (F : Nat → Fil) (w : World) (e : Ending) (w' : World) : Prop :=
  ∃ bm S G, e = .returned (.tuple #[.agg #[.int .i64 Q, .map (some bm)], .nilIface]) ∧ w.heap.size ≤ bm ∧ w'.heap[bm]? = some (.map (ents F S n) n) ∧ DOwn w' (bm + 2) n F S G ∧ Below w.heap.size w w' ∧ DRow w' (bm + 2) n F S

set_option maxHeartbeats 4000000 in
theorem openDiskN_goodX (no : Option Addr) (m nc : Nat) (ns : Nat → ByteArray) (Q : Int) (ao : Option Addr) (n cap : Nat) (F : Nat → Fil) (HG : Hid (goodF Q n F = true)) (HK : Hid (∀ i, i < n → fileOk F i = true)) (w : World) (hN : NRow w no m ns) (hm : m ≤ 1048576) (hns : ∀ j, j < m → fnB (ns j) = true) (hr : FRow w ao n F) (hq : -9223372036854775808 ≤ Q ∧ Q ≤ 9223372036854775807) (hn : n ≤ 1048576) (hz : FSize n F 1048576) :
    Calls Tryz.prog 38 #[.agg #[.int .i64 Q, .slice ao n cap], .slice no m nc] w fun e w' => DiskOutX Q n F w e w' := by
  have hB : Below w.heap.size w ((w.alloc (.cells #[.int .i64 Q, .slice ao n cap] 24)).alloc (.cells #[.int .i64 0, .map none] 68)) := ((Below.refl _ _).alloc (Nat.le_refl _) _).alloc (by simp) _
  have hmm := @run_makeMap Tryz.prog
  go_enter Tryz.func38, Tryz.ntmps38
  go_wp2_with fail
  refine (goodFiles_impl Q ao n cap F true HG _ (hr.keep hB) hq hn hz).mono ?_
  rintro e w1 ⟨rfl, hb1⟩
  have y0 : w1.cell? ⟨w.heap.size, 0, none⟩ = some (.int .i64 Q) := (hb1.cell (p := ⟨w.heap.size, 0, none⟩) (by simp; omega)).trans (by simp [go_sem])
  have y1 : w1.cell? ⟨w.heap.size, 1, none⟩ = some (.slice ao n cap) := (hb1.cell (p := ⟨w.heap.size, 1, none⟩) (by simp; omega)).trans (by simp [go_sem])
  have z0 : w1.cell? ⟨w.heap.size + 1, 0, none⟩ = some (.int .i64 0) := (hb1.cell (p := ⟨w.heap.size + 1, 0, none⟩) (by simp)).trans (by simp [go_sem])
  have z1 : w1.cell? ⟨w.heap.size + 1, 1, none⟩ = some (.map none) := (hb1.cell (p := ⟨w.heap.size + 1, 1, none⟩) (by simp)).trans (by simp [go_sem])
  have zf : ∀ j, w1.frozen? ⟨w.heap.size + 1, j, none⟩ = false := fun j => (hb1.frozen (p := ⟨w.heap.size + 1, j, none⟩) (by simp)).trans (by simp [go_sem])
  have bw1 : Below w.heap.size w w1 := hB.trans (hb1.mono (by simp; omega))
  have sz1 : w.heap.size + 2 ≤ w1.heap.size := by have := hb1.size; simp at this; omega
  have hB2 : Below w1.heap.size w1 ((w1.alloc (.map #[] 0)).alloc (.cells #[.int .i64 Q, .map (some w1.heap.size)] 68)) := ((Below.refl _ _).alloc (Nat.le_refl _) _).alloc (by simp) _
  have y1' := (hB2.cell (p := ⟨w.heap.size, 1, none⟩) (by simp; omega)).trans y1
  have O0 : OD w w1.heap.size 0 Q F (fun _ => .slice none 0 0) (fun _ => 0) ((w1.alloc (.map #[] 0)).alloc (.cells #[.int .i64 Q, .map (some w1.heap.size)] 68)) := by
    refine ⟨?_, ⟨fun i hi => by omega, fun i hi => by omega, fun i hi => by omega, fun i j _ hj => by omega⟩, ?_, ?_, (hB2.cell (p := ⟨w.heap.size + 1, 0, none⟩) (by simp; omega)).trans z0, (hB2.cell (p := ⟨w.heap.size + 1, 1, none⟩) (by simp; omega)).trans z1, fun j => (hB2.frozen (p := ⟨w.heap.size + 1, j, none⟩) (by simp; omega)).trans (zf j), ⟨sz1, by simp⟩, bw1.trans (hB2.mono (by omega))⟩
    · rw [heap_alloc_old _ _ (by simp), heap_alloc_new]; rfl
    · simp [go_sem]
    · simp [go_sem]
  clear hb1 hB z0 z1 zf
  go_wp2
  go_loopw [18] (fun i wr => ∃ j : Nat, j ≤ m ∧ i = .int .i64 j ∧ wr = w1) (fun i _ => m - (intOf i).toNat)
  case atStart => exact ⟨0, Nat.zero_le _, rfl, rfl⟩
  case round =>
   obtain ⟨j, hj, rfl, hw⟩ := hrel
   have hw' := hw.symm
   clear hw
   subst hw'
   by_cases hjm : j < m
   · obtain ⟨nb, noff, rfl, hnlt, hnc⟩ := hN.lies.resolve_left (by omega)
     have hn1 := (bw1.cell (p := ⟨nb, noff + j, none⟩) hnlt).trans (hnc j hjm)
     have HQ : Hid (fnB (ns j) = true) := hns j hjm
     have hsz : (ns j).size ≤ 1048576 := by have := (fnB_size (hns j hjm)).2; omega
     clear hnc hN hns y1' y0 y1
     go_wp2_with fail
     refine (isFileName_is _ _ HQ _ hsz).mono ?_
     rintro e w' ⟨rfl, rfl⟩
     go_wp2
     go_roundw
     case rel => exact ⟨j + 1, by omega, by go_num, trivial⟩
     case measure => simp [intOf]; omega
   · clear hns
     go_wp2
     go_loopw [37] (fun i wx => ∃ (k : Nat) (S : Nat → Value) (G : Nat → Nat), k ≤ n ∧ i = .int .i64 k ∧ OD w w1.heap.size k Q F S G wx ∧ DRow wx (w1.heap.size + 2) k F S) (fun i _ => n - (intOf i).toNat)
     case atStart => exact ⟨0, _, _, Nat.zero_le _, rfl, O0, fun i hi => by omega⟩
     case round =>
       clear hB2 y1' O0 y0 y1
       obtain ⟨k, S, G, hk, rfl, O, DR⟩ := hrel
       by_cases hlt : k < n
       · obtain ⟨b, off, rfl, hblt, hc⟩ := hr.lies.resolve_left (by omega)
         obtain ⟨da, dc, hf⟩ := hc k hlt
         have hc1 := (O.bel.cell (p := ⟨b, off + k * 3, none⟩) hblt).trans hf.c0
         have hc2 := (O.bel.cell (p := ⟨b, off + k * 3 + 1, none⟩) hblt).trans hf.c1
         have hc3 := (O.bel.cell (p := ⟨b, off + k * 3 + 2, none⟩) hblt).trans hf.c2
         have hlen := (hz k hlt).2
         obtain ⟨o1, o2⟩ := O.ord
         have hA : Below wr.heap.size wr (wr.alloc (.cells #[.string (F k).nm, .slice da (F k).len dc, .int .i64 (F k).sy] 40)) := (Below.refl _ _).alloc (Nat.le_refl _) _
         obtain ⟨g, c, wb, hcp, hgo, hbb, hrb, hor, hg0⟩ := copy_runX _ da (F k).len dc (F k).f ((hf.row.keep O.bel).keep hA) hlen
         have x0 : wb.cell? ⟨wr.heap.size, 0, none⟩ = some (.string (F k).nm) := (hbb.cell (p := ⟨wr.heap.size, 0, none⟩) (by simp)).trans (by simp [go_sem])
         have x1 : wb.cell? ⟨wr.heap.size, 1, none⟩ = some (.slice da (F k).len dc) := (hbb.cell (p := ⟨wr.heap.size, 1, none⟩) (by simp)).trans (by simp [go_sem])
         have x2 : wb.cell? ⟨wr.heap.size, 2, none⟩ = some (.int .i64 (F k).sy) := (hbb.cell (p := ⟨wr.heap.size, 2, none⟩) (by simp)).trans (by simp [go_sem])
         have xf : wb.frozen? ⟨wr.heap.size, 1, none⟩ = false := (hbb.frozen (p := ⟨wr.heap.size, 1, none⟩) (by simp)).trans (by simp [go_sem])
         have hbc : Below wr.heap.size wr (wb.setCell ⟨wr.heap.size, 1, none⟩ (.slice g (F k).len c)) := (hA.trans (hbb.mono (by simp))).setCell (Nat.le_refl _) _
         have sb : wr.heap.size + 1 ≤ wb.heap.size := by have := hbb.size; simpa using this
         have Oc := O.keep hbc
         have hrun := run_mapUpdate_new (P := Tryz.prog) (mty := 66) (kt := 9) (et := 40) (s := (F k).nm) (.agg #[.string (F k).nm, .slice g (F k).len c, .int .i64 (F k).sy]) Tryz.underlying66 Tryz.underlying9 Oc.map ents_keys (fun x hx => by
           obtain ⟨i, hi, rfl⟩ := mem_ents hx
           intro he
           simp only [ent, Value.string.injEq] at he
           exact names_ne HK.out hi hlt he)
         have On := Oc.put (g := g) (c := c) (gk := wr.heap.size + 1) (by
           rcases hgo with h | ⟨h, ho⟩
           · exact .inl h
           · rw [World.size_alloc] at h ho
             exact .inr ⟨h, (Others.setCell _ _ _ _).row ho (by omega)⟩) (by omega) (by simp; omega) (fun i hi => by have := O.own.up i hi; omega)
         have DN := (DR.keep O hbc).put (g := g) (c := c) (o := .map ((ents F S k).push { key := .string (F k).nm, val := .agg #[.string (F k).nm, .slice g (F k).len c, .int .i64 (F k).sy], born := k }) (k + 1)) (bm := w1.heap.size) (brow_one (brow_base hor (show w1.heap.size + 2 ≤ _ by simp; omega)) (fun b e => Below.heap_setCell _ _ _ _ (by
           have := brow_ge hor e
           simp at this
           show b ≠ wr.heap.size
           omega))) hg0
         have e0 : (wb.setCell ⟨wr.heap.size, 1, none⟩ (.slice g (F k).len c)).cell? ⟨wr.heap.size, 0, none⟩ = some (.string (F k).nm) := (World.cell?_setCell_other _ _ _ _ (by intro hh; injection hh with _ h3 _; omega)).trans x0
         have e1 : (wb.setCell ⟨wr.heap.size, 1, none⟩ (.slice g (F k).len c)).cell? ⟨wr.heap.size, 1, none⟩ = some (.slice g (F k).len c) := World.cell?_setCell_same _ _ _ x1
         have e2 : (wb.setCell ⟨wr.heap.size, 1, none⟩ (.slice g (F k).len c)).cell? ⟨wr.heap.size, 2, none⟩ = some (.int .i64 (F k).sy) := (World.cell?_setCell_other _ _ _ _ (by intro hh; injection hh with _ h3 _; omega)).trans x2
         have d1c := Oc.d1
         clear hc hf hgo hbb hrb hbc Oc hA O hor DR
         go_wp2_with (first | (at_builtin; refine wpList_append_run _ rfl (.const (.slice none 0 0)) (.tmp 42) 38 rfl _ _ _ rfl rfl wb hcp ?_) | (at_mapUpdate; refine wpList_mapUpdate_run _ rfl (.tmp 46) (.tmp 48) (.tmp 49) 66 rfl _ _ _ rfl rfl rfl _ hrun ?_))
         go_roundw
         case rel => exact ⟨k + 1, _, _, by omega, by go_num, On, DN⟩
         case measure => simp [intOf]; omega
       · have e : k = n := by omega
         subst e
         obtain ⟨map, own, d0, d1, z0, z1, zf, ord, bel⟩ := O
         go_wp2
         have hoth : Others (w.heap.size + 1) wr ((wr.setCell ⟨w.heap.size + 1, 0, none⟩ (.int .i64 Q)).setCell ⟨w.heap.size + 1, 1, none⟩ (.map (some w1.heap.size))) := (Others.setCell _ _ _ _).trans (Others.setCell _ _ _ _)
         refine bodyPost_ret (v := .tuple #[.agg #[.int .i64 Q, .map (some w1.heap.size)], .nilIface]) (by simp [results, Tryz.results38, go_sem, z0, z1]) rfl ⟨w1.heap.size, S, G, rfl, by omega, ?_, ?_, ?_, ?_⟩
         · exact (hoth.block _ (by omega)).trans map
         · exact own.low' hoth.size (fun j hj => hoth.block j (by omega))
         · exact (bel.setCell (Nat.le_succ _) _).setCell (Nat.le_succ _) _
         · exact DR.to (fun b h1 _ => hoth.block b (by omega))

end Go.Proofs.YtapmbgmmonhdoaaGreatDoor
