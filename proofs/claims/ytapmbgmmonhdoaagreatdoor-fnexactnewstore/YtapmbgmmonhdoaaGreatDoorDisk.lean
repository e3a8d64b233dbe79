/- openDisk: good files laid into a map, their bytes copied. -/
import Derived.Test.YtapmbgmmonhdoaaGreatDoorUsed
namespace Go.Proofs.YtapmbgmmonhdoaaGreatDoor
set_option maxRecDepth 100000
open Go.RowKit
open Go.ChangeMaps (setBlock)
set_option linter.unusedSimpArgs false
set_option linter.unusedVariables false

/-- The bytes of the first k files, told by S: none, or in blocks of their own, which rise. -/
structure DOwn (w : World) (B k : Nat) (F : Nat → Fil) (S : Nat → Value) (G : Nat → Nat) : Prop where
  data : ∀ i, i < k → ((F i).len = 0 ∧ ∃ c, S i = .slice none (F i).len c) ∨ ∃ c, S i = .slice (some ⟨G i, 0, none⟩) (F i).len c ∧ Own w (G i) 0 (F i).len (F i).f
  low : ∀ i, i < k → B ≤ G i
  up : ∀ i, i < k → G i ≤ w.heap.size
  mono : ∀ i j, i < j → j < k → G i < G j
section
variable {w w' : World} {B k : Nat} {F : Nat → Fil} {S : Nat → Value} {G : Nat → Nat}
theorem DOwn.keep (h : DOwn w B k F S G) (hb : Below w.heap.size w w') : DOwn w' B k F S G :=
  ⟨fun i hi => orR (h.data i hi) fun ⟨c, e, ho⟩ => ⟨c, e, ho.keep hb⟩, h.low, fun i hi => Nat.le_trans (h.up i hi) hb.size, h.mono⟩
theorem DOwn.len (h : DOwn w B k F S G) : ∀ i, i < k → ∃ da dc, S i = .slice da (F i).len dc := fun i hi => by
  rcases h.data i hi with ⟨_, c, e⟩ | ⟨c, e, _⟩
  · exact ⟨_, c, e⟩
  · exact ⟨_, c, e⟩
/-- Blocks below B are written. -/
theorem DOwn.low' (h : DOwn w B k F S G) (hs : w'.heap.size = w.heap.size) (hbl : ∀ j, B ≤ j → w'.heap[j]? = w.heap[j]?) : DOwn w' B k F S G :=
  ⟨fun i hi => orR (h.data i hi) fun ⟨c, e, ho⟩ => ⟨c, e, ho.bd, by rw [hs]; exact ho.lt, fun j hj => (World.cell?_of_block (w := w) (a := ⟨G i, 0 + j, none⟩) (hbl _ (h.low i hi))).trans (ho.cell j hj), fun j hj => (World.frozen?_of_block (w := w) (a := ⟨G i, 0 + j, none⟩) (hbl _ (h.low i hi))).trans (ho.free j hj)⟩, h.low, fun i hi => by rw [hs]; exact h.up i hi, h.mono⟩
end

/-- What openDisk holds in memory when k files are laid: the map in block bm, the disk's box behind it, the answer's box. -/
structure OD (w : World) (bm k : Nat) (Q : Int) (F : Nat → Fil) (S : Nat → Value) (G : Nat → Nat) (wr : World) : Prop where
  map : wr.heap[bm]? = some (.map (ents F S k) k)
  own : DOwn wr (bm + 2) k F S G
  d0 : wr.cell? ⟨bm + 1, 0, none⟩ = some (.int .i64 Q)
  d1 : wr.cell? ⟨bm + 1, 1, none⟩ = some (.map (some bm))
  z0 : wr.cell? ⟨w.heap.size + 1, 0, none⟩ = some (.int .i64 0)
  z1 : wr.cell? ⟨w.heap.size + 1, 1, none⟩ = some (.map none)
  zf : ∀ j, wr.frozen? ⟨w.heap.size + 1, j, none⟩ = false
  ord : w.heap.size + 2 ≤ bm ∧ bm + 2 ≤ wr.heap.size
  bel : Below w.heap.size w wr
section
variable {w wr w' : World} {bm k : Nat} {Q : Int} {F : Nat → Fil} {S : Nat → Value} {G : Nat → Nat}
theorem OD.keep (h : OD w bm k Q F S G wr) (hb : Below wr.heap.size wr w') : OD w bm k Q F S G w' := by
  obtain ⟨o1, o2⟩ := h.ord
  have hs := hb.size
  exact ⟨(hb.block bm (by omega)).trans h.map, h.own.keep hb, (hb.cell (p := ⟨bm + 1, 0, none⟩) (by simp; omega)).trans h.d0, (hb.cell (p := ⟨bm + 1, 1, none⟩) (by simp; omega)).trans h.d1, (hb.cell (p := ⟨w.heap.size + 1, 0, none⟩) (by simp; omega)).trans h.z0, (hb.cell (p := ⟨w.heap.size + 1, 1, none⟩) (by simp; omega)).trans h.z1, fun j => (hb.frozen (p := ⟨w.heap.size + 1, j, none⟩) (by simp; omega)).trans (h.zf j), ⟨o1, by omega⟩, h.bel.trans (hb.mono (by omega))⟩
theorem OD.put (h : OD w bm k Q F S G wr) {g : Option Addr} {c gk : Nat} (hg : ((F k).len = 0 ∧ g = none) ∨ (g = some ⟨gk, 0, none⟩ ∧ Own wr gk 0 (F k).len (F k).f)) (h1 : bm + 2 ≤ gk) (h2 : gk ≤ wr.heap.size) (h3 : ∀ i, i < k → G i < gk) :
    OD w bm (k + 1) Q F (fun i => if i = k then .slice g (F k).len c else S i) (fun i => if i = k then gk else G i) (setBlock wr bm (.map ((ents F S k).push { key := .string (F k).nm, val := .agg #[.string (F k).nm, .slice g (F k).len c, .int .i64 (F k).sy], born := k }) (k + 1))) := by
  obtain ⟨o1, o2⟩ := h.ord
  have hlt : bm < wr.heap.size := by omega
  have blk : ∀ (o : Obj) (j : Nat), j ≠ bm → (setBlock wr bm o).heap[j]? = wr.heap[j]? := fun o j hj => by simp [setBlock, Ne.symm hj]
  have sz : ∀ o : Obj, (setBlock wr bm o).heap.size = wr.heap.size := fun o => by simp [setBlock]
  have cl : ∀ (o : Obj) (b j : Nat), b ≠ bm → (setBlock wr bm o).cell? ⟨b, j, none⟩ = wr.cell? ⟨b, j, none⟩ := fun o b j hb => World.cell?_of_block (w := wr) (a := ⟨b, j, none⟩) (blk o b hb)
  have fz : ∀ (o : Obj) (b j : Nat), b ≠ bm → (setBlock wr bm o).frozen? ⟨b, j, none⟩ = wr.frozen? ⟨b, j, none⟩ := fun o b j hb => World.frozen?_of_block (w := wr) (a := ⟨b, j, none⟩) (blk o b hb)
  have hE : ∀ o : Obj, DOwn (setBlock wr bm o) (bm + 2) k F S G := fun o => h.own.low' (sz o) (fun j hj => blk o j (by omega))
  have eS : ents F S k = ents F (fun i => if i = k then .slice g (F k).len c else S i) k := ents_congr fun i hi => by simp [show ¬ i = k by omega]
  have ePush : (ents F S k).push { key := .string (F k).nm, val := .agg #[.string (F k).nm, .slice g (F k).len c, .int .i64 (F k).sy], born := k } = ents F (fun i => if i = k then .slice g (F k).len c else S i) (k + 1) := by
    rw [eS, ← ents_push]
    simp [ent]
  rw [ePush]
  refine ⟨by simp [setBlock, hlt], ⟨fun i hi => ?_, fun i hi => ?_, fun i hi => ?_, fun i j hij hj => ?_⟩, by rw [cl _ _ _ (by omega)]; exact h.d0, by rw [cl _ _ _ (by omega)]; exact h.d1, by rw [cl _ _ _ (by omega)]; exact h.z0, by rw [cl _ _ _ (by omega)]; exact h.z1, fun j => by rw [fz _ _ _ (by omega)]; exact h.zf j, ⟨o1, by rw [sz]; exact o2⟩, ?_⟩
  · by_cases e : i = k
    · subst e
      simp only [if_true]
      rcases hg with ⟨a, b⟩ | ⟨a, b⟩
      · subst b
        exact .inl ⟨a, c, rfl⟩
      · subst a
        exact .inr ⟨c, rfl, b.bd, by rw [sz]; exact b.lt, fun j hj => by rw [cl _ _ _ (by omega)]; exact b.cell j hj, fun j hj => by rw [fz _ _ _ (by omega)]; exact b.free j hj⟩
    · simp only [e, if_false]
      exact (hE _).data i (by omega)
  · by_cases e : i = k
    · simp only [e, if_true]; exact h1
    · simp only [e, if_false]; exact h.own.low i (by omega)
  · rw [sz]
    by_cases e : i = k
    · simp only [e, if_true]; exact h2
    · simp only [e, if_false]; exact h.own.up i (by omega)
  · by_cases e : j = k
    · simp only [e, if_true, show ¬ i = k by omega, if_false]
      exact h3 i (by omega)
    · simp only [e, show ¬ i = k by omega, if_false]
      exact h.own.mono i j hij (by omega)
  · exact ⟨h.bel.os, h.bel.tape, h.bel.output, by rw [sz]; exact h.bel.size, fun j hj => (blk _ j (by omega)).trans (h.bel.block j hj)⟩
end

/-- What openDisk answers where all is good. -/
def DiskOut (Q : Int) (n : Nat) (F : Nat → Fil) (w : World) (e : Ending) (w' : World) : Prop :=
  ∃ bm S G, e = .returned (.tuple #[.agg #[.int .i64 Q, .map (some bm)], .nilIface]) ∧ w.heap.size ≤ bm ∧ w'.heap[bm]? = some (.map (ents F S n) n) ∧ DOwn w' (bm + 2) n F S G ∧ Below w.heap.size w w'

set_option maxHeartbeats 2000000 in
theorem openDisk_bad (Q : Int) (ao : Option Addr) (n cap : Nat) (F : Nat → Fil) (HG : Hid (goodF Q n F = false)) (w : World) (hr : FRow w ao n F) (hq : -9223372036854775808 ≤ Q ∧ Q ≤ 9223372036854775807) (hn : n ≤ 1048576) (hz : FSize n F 1048576) :
    Calls Tryz.prog 38 #[.agg #[.int .i64 Q, .slice ao n cap], .slice none 0 0] w fun e w' => e = .returned (.tuple #[.agg #[.int .i64 0, .map none], .iface 91 (.int .i64 1)]) ∧ Below w.heap.size w w' := by
  have hB : Below w.heap.size w ((w.alloc (.cells #[.int .i64 Q, .slice ao n cap] 24)).alloc (.cells #[.int .i64 0, .map none] 68)) := ((Below.refl _ _).alloc (Nat.le_refl _) _).alloc (by simp) _
  go_enter Tryz.func38, Tryz.ntmps38
  go_wp2_with fail
  refine (goodFiles_impl Q ao n cap F false HG _ (hr.keep hB) hq hn hz).mono ?_
  rintro e w1 ⟨rfl, hb1⟩
  have z0 : w1.cell? ⟨w.heap.size + 1, 0, none⟩ = some (.int .i64 0) := (hb1.cell (p := ⟨w.heap.size + 1, 0, none⟩) (by simp)).trans (by simp [go_sem])
  have z1 : w1.cell? ⟨w.heap.size + 1, 1, none⟩ = some (.map none) := (hb1.cell (p := ⟨w.heap.size + 1, 1, none⟩) (by simp)).trans (by simp [go_sem])
  have zf : ∀ j, w1.frozen? ⟨w.heap.size + 1, j, none⟩ = false := fun j => (hb1.frozen (p := ⟨w.heap.size + 1, j, none⟩) (by simp)).trans (by simp [go_sem])
  have bw1 : Below w.heap.size w w1 := hB.trans (hb1.mono (by simp; omega))
  clear hb1 hB
  go_wp2
  refine bodyPost_ret (v := .tuple #[.agg #[.int .i64 0, .map none], .iface 91 (.int .i64 1)]) (by simp [results, Tryz.results38, go_sem, z0, z1]) rfl ⟨rfl, ?_⟩
  exact (bw1.setCell (Nat.le_succ _) _).setCell (Nat.le_succ _) _

set_option maxHeartbeats 4000000 in
theorem openDisk_good (Q : Int) (ao : Option Addr) (n cap : Nat) (F : Nat → Fil) (HG : Hid (goodF Q n F = true)) (HK : Hid (∀ i, i < n → fileOk F i = true)) (w : World) (hr : FRow w ao n F) (hq : -9223372036854775808 ≤ Q ∧ Q ≤ 9223372036854775807) (hn : n ≤ 1048576) (hz : FSize n F 1048576) :
    Calls Tryz.prog 38 #[.agg #[.int .i64 Q, .slice ao n cap], .slice none 0 0] w fun e w' => DiskOut Q n F w e w' := by
  have hB : Below w.heap.size w ((w.alloc (.cells #[.int .i64 Q, .slice ao n cap] 24)).alloc (.cells #[.int .i64 0, .map none] 68)) := ((Below.refl _ _).alloc (Nat.le_refl _) _).alloc (by simp) _
  have hmm := @run_makeMap Tryz.prog
  go_enter Tryz.func38, Tryz.ntmps38
  go_wp2_with fail
  refine (goodFiles_impl Q ao n cap F true HG _ (hr.keep hB) hq hn hz).mono ?_
  rintro e w1 ⟨rfl, hb1⟩
  have y0 : w1.cell? ⟨w.heap.size, 0, none⟩ = some (.int .i64 Q) := (hb1.cell (p := ⟨w.heap.size, 0, none⟩) (by simp; omega)).trans (by simp [go_sem])
  have y1 : w1.cell? ⟨w.heap.size, 1, none⟩ = some (.slice ao n cap) := (hb1.cell (p := ⟨w.heap.size, 1, none⟩) (by simp; omega)).trans (by simp [go_sem])
  have z0 : w1.cell? ⟨w.heap.size + 1, 0, none⟩ = some (.int .i64 0) := (hb1.cell (p := ⟨w.heap.size + 1, 0, none⟩) (by simp)).trans (by simp [go_sem])
  have z1 : w1.cell? ⟨w.heap.size + 1, 1, none⟩ = some (.map none) := (hb1.cell (p := ⟨w.heap.size + 1, 1, none⟩) (by simp)).trans (by simp [go_sem])
  have zf : ∀ j, w1.frozen? ⟨w.heap.size + 1, j, none⟩ = false := fun j => (hb1.frozen (p := ⟨w.heap.size + 1, j, none⟩) (by simp)).trans (by simp [go_sem])
  have bw1 : Below w.heap.size w w1 := hB.trans (hb1.mono (by simp; omega))
  have sz1 : w.heap.size + 2 ≤ w1.heap.size := by have := hb1.size; simp at this; omega
  have hB2 : Below w1.heap.size w1 ((w1.alloc (.map #[] 0)).alloc (.cells #[.int .i64 Q, .map (some w1.heap.size)] 68)) := ((Below.refl _ _).alloc (Nat.le_refl _) _).alloc (by simp) _
  have y1' := (hB2.cell (p := ⟨w.heap.size, 1, none⟩) (by simp; omega)).trans y1
  have O0 : OD w w1.heap.size 0 Q F (fun _ => .slice none 0 0) (fun _ => 0) ((w1.alloc (.map #[] 0)).alloc (.cells #[.int .i64 Q, .map (some w1.heap.size)] 68)) := by
    refine ⟨?_, ⟨fun i hi => by omega, fun i hi => by omega, fun i hi => by omega, fun i j _ hj => by omega⟩, ?_, ?_, (hB2.cell (p := ⟨w.heap.size + 1, 0, none⟩) (by simp; omega)).trans z0, (hB2.cell (p := ⟨w.heap.size + 1, 1, none⟩) (by simp; omega)).trans z1, fun j => (hB2.frozen (p := ⟨w.heap.size + 1, j, none⟩) (by simp; omega)).trans (zf j), ⟨sz1, by simp⟩, bw1.trans (hB2.mono (by omega))⟩
    · rw [heap_alloc_old _ _ (by simp), heap_alloc_new]; rfl
    · simp [go_sem]
    · simp [go_sem]
  clear hb1 hB z0 z1 zf
  go_wp2
  go_loopw [18] (fun i wr => i = .int .i64 0 ∧ wr = w1) (fun _ _ => 0)
  case atStart => exact ⟨rfl, rfl⟩
  case round =>
    obtain ⟨rfl, hw⟩ := hrel
    have hw' := hw.symm
    clear hw
    subst hw'
    go_wp2
    go_loopw [37] (fun i wx => ∃ (k : Nat) (S : Nat → Value) (G : Nat → Nat), k ≤ n ∧ i = .int .i64 k ∧ OD w w1.heap.size k Q F S G wx) (fun i _ => n - (intOf i).toNat)
    case atStart => exact ⟨0, _, _, Nat.zero_le _, rfl, O0⟩
    case round =>
      clear hB2 y1' O0 y0 y1
      obtain ⟨k, S, G, hk, rfl, O⟩ := hrel
      by_cases hlt : k < n
      · obtain ⟨b, off, rfl, hblt, hc⟩ := hr.lies.resolve_left (by omega)
        obtain ⟨da, dc, hf⟩ := hc k hlt
        have hc1 := (O.bel.cell (p := ⟨b, off + k * 3, none⟩) hblt).trans hf.c0
        have hc2 := (O.bel.cell (p := ⟨b, off + k * 3 + 1, none⟩) hblt).trans hf.c1
        have hc3 := (O.bel.cell (p := ⟨b, off + k * 3 + 2, none⟩) hblt).trans hf.c2
        have hlen := (hz k hlt).2
        obtain ⟨o1, o2⟩ := O.ord
        have hA : Below wr.heap.size wr (wr.alloc (.cells #[.string (F k).nm, .slice da (F k).len dc, .int .i64 (F k).sy] 40)) := (Below.refl _ _).alloc (Nat.le_refl _) _
        obtain ⟨g, c, wb, hcp, hgo, hbb, hrb⟩ := copy_runF _ da (F k).len dc (F k).f ((hf.row.keep O.bel).keep hA) hlen
        have x0 : wb.cell? ⟨wr.heap.size, 0, none⟩ = some (.string (F k).nm) := (hbb.cell (p := ⟨wr.heap.size, 0, none⟩) (by simp)).trans (by simp [go_sem])
        have x1 : wb.cell? ⟨wr.heap.size, 1, none⟩ = some (.slice da (F k).len dc) := (hbb.cell (p := ⟨wr.heap.size, 1, none⟩) (by simp)).trans (by simp [go_sem])
        have x2 : wb.cell? ⟨wr.heap.size, 2, none⟩ = some (.int .i64 (F k).sy) := (hbb.cell (p := ⟨wr.heap.size, 2, none⟩) (by simp)).trans (by simp [go_sem])
        have xf : wb.frozen? ⟨wr.heap.size, 1, none⟩ = false := (hbb.frozen (p := ⟨wr.heap.size, 1, none⟩) (by simp)).trans (by simp [go_sem])
        have hbc : Below wr.heap.size wr (wb.setCell ⟨wr.heap.size, 1, none⟩ (.slice g (F k).len c)) := (hA.trans (hbb.mono (by simp))).setCell (Nat.le_refl _) _
        have sb : wr.heap.size + 1 ≤ wb.heap.size := by have := hbb.size; simpa using this
        have Oc := O.keep hbc
        have hrun := run_mapUpdate_new (P := Tryz.prog) (mty := 66) (kt := 9) (et := 40) (s := (F k).nm) (.agg #[.string (F k).nm, .slice g (F k).len c, .int .i64 (F k).sy]) Tryz.underlying66 Tryz.underlying9 Oc.map ents_keys (fun x hx => by
          obtain ⟨i, hi, rfl⟩ := mem_ents hx
          intro he
          simp only [ent, Value.string.injEq] at he
          exact names_ne HK.out hi hlt he)
        have On := Oc.put (g := g) (c := c) (gk := wr.heap.size + 1) (by
          rcases hgo with h | ⟨h, ho⟩
          · exact .inl h
          · rw [World.size_alloc] at h ho
            exact .inr ⟨h, (Others.setCell _ _ _ _).row ho (by omega)⟩) (by omega) (by simp; omega) (fun i hi => by have := O.own.up i hi; omega)
        have e0 : (wb.setCell ⟨wr.heap.size, 1, none⟩ (.slice g (F k).len c)).cell? ⟨wr.heap.size, 0, none⟩ = some (.string (F k).nm) := (World.cell?_setCell_other _ _ _ _ (by intro hh; injection hh with _ h3 _; omega)).trans x0
        have e1 : (wb.setCell ⟨wr.heap.size, 1, none⟩ (.slice g (F k).len c)).cell? ⟨wr.heap.size, 1, none⟩ = some (.slice g (F k).len c) := World.cell?_setCell_same _ _ _ x1
        have e2 : (wb.setCell ⟨wr.heap.size, 1, none⟩ (.slice g (F k).len c)).cell? ⟨wr.heap.size, 2, none⟩ = some (.int .i64 (F k).sy) := (World.cell?_setCell_other _ _ _ _ (by intro hh; injection hh with _ h3 _; omega)).trans x2
        have d1c := Oc.d1
        clear hc hf hgo hbb hrb hbc Oc hA O
        go_wp2_with (first | (at_builtin; refine wpList_append_run _ rfl (.const (.slice none 0 0)) (.tmp 42) 38 rfl _ _ _ rfl rfl wb hcp ?_) | (at_mapUpdate; refine wpList_mapUpdate_run _ rfl (.tmp 46) (.tmp 48) (.tmp 49) 66 rfl _ _ _ rfl rfl rfl _ hrun ?_))
        go_roundw
        case rel => exact ⟨k + 1, _, _, by omega, by go_num, On⟩
        case measure => simp [intOf]; omega
      · have e : k = n := by omega
        subst e
        obtain ⟨map, own, d0, d1, z0, z1, zf, ord, bel⟩ := O
        go_wp2
        have hoth : Others (w.heap.size + 1) wr ((wr.setCell ⟨w.heap.size + 1, 0, none⟩ (.int .i64 Q)).setCell ⟨w.heap.size + 1, 1, none⟩ (.map (some w1.heap.size))) := (Others.setCell _ _ _ _).trans (Others.setCell _ _ _ _)
        refine bodyPost_ret (v := .tuple #[.agg #[.int .i64 Q, .map (some w1.heap.size)], .nilIface]) (by simp [results, Tryz.results38, go_sem, z0, z1]) rfl ⟨w1.heap.size, S, G, rfl, by omega, ?_, ?_, ?_⟩
        · exact (hoth.block _ (by omega)).trans map
        · exact own.low' hoth.size (fun j hj => hoth.block j (by omega))
        · exact (bel.setCell (Nat.le_succ _) _).setCell (Nat.le_succ _) _
end Go.Proofs.YtapmbgmmonhdoaaGreatDoor
