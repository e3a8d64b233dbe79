/- openDisk with names. -/
import Derived.Test.YtapmbgmmonhdoaaGreatDoorDisk
namespace Go.Proofs.YtapmbgmmonhdoaaGreatDoor
set_option maxRecDepth 100000
open Go.RowKit
open Go.ChangeMaps (setBlock)
set_option linter.unusedSimpArgs false
set_option linter.unusedVariables false

/-- m names lie at no. -/
structure NRow (w : World) (no : Option Addr) (m : Nat) (ns : Nat → ByteArray) : Prop where
  lies : m = 0 ∨ ∃ b off, no = some ⟨b, off, none⟩ ∧ b < w.heap.size ∧ ∀ i, i < m → w.cell? ⟨b, off + i, none⟩ = some (.string (ns i))
theorem NRow.keep {w w' : World} {no : Option Addr} {m : Nat} {ns : Nat → ByteArray} (h : NRow w no m ns) (hb : Below w.heap.size w w') : NRow w' no m ns :=
  ⟨h.lies.elim .inl fun ⟨b, off, e, hlt, hc⟩ => .inr ⟨b, off, e, Nat.lt_of_lt_of_le hlt hb.size, fun i hi => (hb.cell (p := ⟨b, off + i, none⟩) hlt).trans (hc i hi)⟩⟩

set_option maxHeartbeats 2000000 in
theorem openDiskN_bad (nv : Value) (Q : Int) (ao : Option Addr) (n cap : Nat) (F : Nat → Fil) (HG : Hid (goodF Q n F = false)) (w : World) (hr : FRow w ao n F) (hq : -9223372036854775808 ≤ Q ∧ Q ≤ 9223372036854775807) (hn : n ≤ 1048576) (hz : FSize n F 1048576) :
    Calls Tryz.prog 38 #[.agg #[.int .i64 Q, .slice ao n cap], nv] w fun e w' => e = .returned (.tuple #[.agg #[.int .i64 0, .map none], .iface 91 (.int .i64 1)]) ∧ Below w.heap.size w w' := by
  have hB : Below w.heap.size w ((w.alloc (.cells #[.int .i64 Q, .slice ao n cap] 24)).alloc (.cells #[.int .i64 0, .map none] 68)) := ((Below.refl _ _).alloc (Nat.le_refl _) _).alloc (by simp) _
  go_enter Tryz.func38, Tryz.ntmps38
  go_wp2_with fail
  refine (goodFiles_impl Q ao n cap F false HG _ (hr.keep hB) hq hn hz).mono ?_
  rintro e w1 ⟨rfl, hb1⟩
  have z0 : w1.cell? ⟨w.heap.size + 1, 0, none⟩ = some (.int .i64 0) := (hb1.cell (p := ⟨w.heap.size + 1, 0, none⟩) (by simp)).trans (by simp [go_sem])
  have z1 : w1.cell? ⟨w.heap.size + 1, 1, none⟩ = some (.map none) := (hb1.cell (p := ⟨w.heap.size + 1, 1, none⟩) (by simp)).trans (by simp [go_sem])
  have zf : ∀ j, w1.frozen? ⟨w.heap.size + 1, j, none⟩ = false := fun j => (hb1.frozen (p := ⟨w.heap.size + 1, j, none⟩) (by simp)).trans (by simp [go_sem])
  have bw1 : Below w.heap.size w w1 := hB.trans (hb1.mono (by simp; omega))
  clear hb1 hB
  go_wp2
  refine bodyPost_ret (v := .tuple #[.agg #[.int .i64 0, .map none], .iface 91 (.int .i64 1)]) (by simp [results, Tryz.results38, go_sem, z0, z1]) rfl ⟨rfl, ?_⟩
  exact (bw1.setCell (Nat.le_succ _) _).setCell (Nat.le_succ _) _

set_option maxHeartbeats 4000000 in
theorem openDiskN_good (no : Option Addr) (m nc : Nat) (ns : Nat → ByteArray) (Q : Int) (ao : Option Addr) (n cap : Nat) (F : Nat → Fil) (HG : Hid (goodF Q n F = true)) (HK : Hid (∀ i, i < n → fileOk F i = true)) (w : World) (hN : NRow w no m ns) (hm : m ≤ 1048576) (hns : ∀ j, j < m → fnB (ns j) = true) (hr : FRow w ao n F) (hq : -9223372036854775808 ≤ Q ∧ Q ≤ 9223372036854775807) (hn : n ≤ 1048576) (hz : FSize n F 1048576) :
    Calls Tryz.prog 38 #[.agg #[.int .i64 Q, .slice ao n cap], .slice no m nc] w fun e w' => DiskOut Q n F w e w' := by
  have hB : Below w.heap.size w ((w.alloc (.cells #[.int .i64 Q, .slice ao n cap] 24)).alloc (.cells #[.int .i64 0, .map none] 68)) := ((Below.refl _ _).alloc (Nat.le_refl _) _).alloc (by simp) _
  have hmm := @run_makeMap Tryz.prog
  go_enter Tryz.func38, Tryz.ntmps38
  go_wp2_with fail
  refine (goodFiles_impl Q ao n cap F true HG _ (hr.keep hB) hq hn hz).mono ?_
  rintro e w1 ⟨rfl, hb1⟩
  have y0 : w1.cell? ⟨w.heap.size, 0, none⟩ = some (.int .i64 Q) := (hb1.cell (p := ⟨w.heap.size, 0, none⟩) (by simp; omega)).trans (by simp [go_sem])
  have y1 : w1.cell? ⟨w.heap.size, 1, none⟩ = some (.slice ao n cap) := (hb1.cell (p := ⟨w.heap.size, 1, none⟩) (by simp; omega)).trans (by simp [go_sem])
  have z0 : w1.cell? ⟨w.heap.size + 1, 0, none⟩ = some (.int .i64 0) := (hb1.cell (p := ⟨w.heap.size + 1, 0, none⟩) (by simp)).trans (by simp [go_sem])
  have z1 : w1.cell? ⟨w.heap.size + 1, 1, none⟩ = some (.map none) := (hb1.cell (p := ⟨w.heap.size + 1, 1, none⟩) (by simp)).trans (by simp [go_sem])
  have zf : ∀ j, w1.frozen? ⟨w.heap.size + 1, j, none⟩ = false := fun j => (hb1.frozen (p := ⟨w.heap.size + 1, j, none⟩) (by simp)).trans (by simp [go_sem])
  have bw1 : Below w.heap.size w w1 := hB.trans (hb1.mono (by simp; omega))
  have sz1 : w.heap.size + 2 ≤ w1.heap.size := by have := hb1.size; simp at this; omega
  have hB2 : Below w1.heap.size w1 ((w1.alloc (.map #[] 0)).alloc (.cells #[.int .i64 Q, .map (some w1.heap.size)] 68)) := ((Below.refl _ _).alloc (Nat.le_refl _) _).alloc (by simp) _
  have y1' := (hB2.cell (p := ⟨w.heap.size, 1, none⟩) (by simp; omega)).trans y1
  have O0 : OD w w1.heap.size 0 Q F (fun _ => .slice none 0 0) (fun _ => 0) ((w1.alloc (.map #[] 0)).alloc (.cells #[.int .i64 Q, .map (some w1.heap.size)] 68)) := by
    refine ⟨?_, ⟨fun i hi => by omega, fun i hi => by omega, fun i hi => by omega, fun i j _ hj => by omega⟩, ?_, ?_, (hB2.cell (p := ⟨w.heap.size + 1, 0, none⟩) (by simp; omega)).trans z0, (hB2.cell (p := ⟨w.heap.size + 1, 1, none⟩) (by simp; omega)).trans z1, fun j => (hB2.frozen (p := ⟨w.heap.size + 1, j, none⟩) (by simp; omega)).trans (zf j), ⟨sz1, by simp⟩, bw1.trans (hB2.mono (by omega))⟩
    · rw [heap_alloc_old _ _ (by simp), heap_alloc_new]; rfl
    · simp [go_sem]
    · simp [go_sem]
  clear hb1 hB z0 z1 zf
  go_wp2
  go_loopw [18] (fun i wr => ∃ j : Nat, j ≤ m ∧ i = .int .i64 j ∧ wr = w1) (fun i _ => m - (intOf i).toNat)
  case atStart => exact ⟨0, Nat.zero_le _, rfl, rfl⟩
  case round =>
   obtain ⟨j, hj, rfl, hw⟩ := hrel
   have hw' := hw.symm
   clear hw
   subst hw'
   by_cases hjm : j < m
   · obtain ⟨nb, noff, rfl, hnlt, hnc⟩ := hN.lies.resolve_left (by omega)
     have hn1 := (bw1.cell (p := ⟨nb, noff + j, none⟩) hnlt).trans (hnc j hjm)
     have HQ : Hid (fnB (ns j) = true) := hns j hjm
     have hsz : (ns j).size ≤ 1048576 := by have := (fnB_size (hns j hjm)).2; omega
     clear hnc hN hns y1' y0 y1
     go_wp2_with fail
     refine (isFileName_is _ _ HQ _ hsz).mono ?_
     rintro e w' ⟨rfl, rfl⟩
     go_wp2
     go_roundw
     case rel => exact ⟨j + 1, by omega, by go_num, trivial⟩
     case measure => simp [intOf]; omega
   · clear hns
     go_wp2
     go_loopw [37] (fun i wx => ∃ (k : Nat) (S : Nat → Value) (G : Nat → Nat), k ≤ n ∧ i = .int .i64 k ∧ OD w w1.heap.size k Q F S G wx) (fun i _ => n - (intOf i).toNat)
     case atStart => exact ⟨0, _, _, Nat.zero_le _, rfl, O0⟩
     case round =>
       clear hB2 y1' O0 y0 y1
       obtain ⟨k, S, G, hk, rfl, O⟩ := hrel
       by_cases hlt : k < n
       · obtain ⟨b, off, rfl, hblt, hc⟩ := hr.lies.resolve_left (by omega)
         obtain ⟨da, dc, hf⟩ := hc k hlt
         have hc1 := (O.bel.cell (p := ⟨b, off + k * 3, none⟩) hblt).trans hf.c0
         have hc2 := (O.bel.cell (p := ⟨b, off + k * 3 + 1, none⟩) hblt).trans hf.c1
         have hc3 := (O.bel.cell (p := ⟨b, off + k * 3 + 2, none⟩) hblt).trans hf.c2
         have hlen := (hz k hlt).2
         obtain ⟨o1, o2⟩ := O.ord
         have hA : Below wr.heap.size wr (wr.alloc (.cells #[.string (F k).nm, .slice da (F k).len dc, .int .i64 (F k).sy] 40)) := (Below.refl _ _).alloc (Nat.le_refl _) _
         obtain ⟨g, c, wb, hcp, hgo, hbb, hrb⟩ := copy_runF _ da (F k).len dc (F k).f ((hf.row.keep O.bel).keep hA) hlen
         have x0 : wb.cell? ⟨wr.heap.size, 0, none⟩ = some (.string (F k).nm) := (hbb.cell (p := ⟨wr.heap.size, 0, none⟩) (by simp)).trans (by simp [go_sem])
         have x1 : wb.cell? ⟨wr.heap.size, 1, none⟩ = some (.slice da (F k).len dc) := (hbb.cell (p := ⟨wr.heap.size, 1, none⟩) (by simp)).trans (by simp [go_sem])
         have x2 : wb.cell? ⟨wr.heap.size, 2, none⟩ = some (.int .i64 (F k).sy) := (hbb.cell (p := ⟨wr.heap.size, 2, none⟩) (by simp)).trans (by simp [go_sem])
         have xf : wb.frozen? ⟨wr.heap.size, 1, none⟩ = false := (hbb.frozen (p := ⟨wr.heap.size, 1, none⟩) (by simp)).trans (by simp [go_sem])
         have hbc : Below wr.heap.size wr (wb.setCell ⟨wr.heap.size, 1, none⟩ (.slice g (F k).len c)) := (hA.trans (hbb.mono (by simp))).setCell (Nat.le_refl _) _
         have sb : wr.heap.size + 1 ≤ wb.heap.size := by have := hbb.size; simpa using this
         have Oc := O.keep hbc
         have hrun := run_mapUpdate_new (P := Tryz.prog) (mty := 66) (kt := 9) (et := 40) (s := (F k).nm) (.agg #[.string (F k).nm, .slice g (F k).len c, .int .i64 (F k).sy]) Tryz.underlying66 Tryz.underlying9 Oc.map ents_keys (fun x hx => by
           obtain ⟨i, hi, rfl⟩ := mem_ents hx
           intro he
           simp only [ent, Value.string.injEq] at he
           exact names_ne HK.out hi hlt he)
         have On := Oc.put (g := g) (c := c) (gk := wr.heap.size + 1) (by
           rcases hgo with h | ⟨h, ho⟩
           · exact .inl h
           · rw [World.size_alloc] at h ho
             exact .inr ⟨h, (Others.setCell _ _ _ _).row ho (by omega)⟩) (by omega) (by simp; omega) (fun i hi => by have := O.own.up i hi; omega)
         have e0 : (wb.setCell ⟨wr.heap.size, 1, none⟩ (.slice g (F k).len c)).cell? ⟨wr.heap.size, 0, none⟩ = some (.string (F k).nm) := (World.cell?_setCell_other _ _ _ _ (by intro hh; injection hh with _ h3 _; omega)).trans x0
         have e1 : (wb.setCell ⟨wr.heap.size, 1, none⟩ (.slice g (F k).len c)).cell? ⟨wr.heap.size, 1, none⟩ = some (.slice g (F k).len c) := World.cell?_setCell_same _ _ _ x1
         have e2 : (wb.setCell ⟨wr.heap.size, 1, none⟩ (.slice g (F k).len c)).cell? ⟨wr.heap.size, 2, none⟩ = some (.int .i64 (F k).sy) := (World.cell?_setCell_other _ _ _ _ (by intro hh; injection hh with _ h3 _; omega)).trans x2
         have d1c := Oc.d1
         clear hc hf hgo hbb hrb hbc Oc hA O
         go_wp2_with (first | (at_builtin; refine wpList_append_run _ rfl (.const (.slice none 0 0)) (.tmp 42) 38 rfl _ _ _ rfl rfl wb hcp ?_) | (at_mapUpdate; refine wpList_mapUpdate_run _ rfl (.tmp 46) (.tmp 48) (.tmp 49) 66 rfl _ _ _ rfl rfl rfl _ hrun ?_))
         go_roundw
         case rel => exact ⟨k + 1, _, _, by omega, by go_num, On⟩
         case measure => simp [intOf]; omega
       · have e : k = n := by omega
         subst e
         obtain ⟨map, own, d0, d1, z0, z1, zf, ord, bel⟩ := O
         go_wp2
         have hoth : Others (w.heap.size + 1) wr ((wr.setCell ⟨w.heap.size + 1, 0, none⟩ (.int .i64 Q)).setCell ⟨w.heap.size + 1, 1, none⟩ (.map (some w1.heap.size))) := (Others.setCell _ _ _ _).trans (Others.setCell _ _ _ _)
         refine bodyPost_ret (v := .tuple #[.agg #[.int .i64 Q, .map (some w1.heap.size)], .nilIface]) (by simp [results, Tryz.results38, go_sem, z0, z1]) rfl ⟨w1.heap.size, S, G, rfl, by omega, ?_, ?_, ?_⟩
         · exact (hoth.block _ (by omega)).trans map
         · exact own.low' hoth.size (fun j hj => hoth.block j (by omega))
         · exact (bel.setCell (Nat.le_succ _) _).setCell (Nat.le_succ _) _

set_option maxHeartbeats 2000000 in
theorem openDiskN_name (no : Option Addr) (m nc : Nat) (ns : Nat → ByteArray) (x : Nat) (hx : x < m) (Q : Int) (ao : Option Addr) (n cap : Nat) (F : Nat → Fil) (HG : Hid (goodF Q n F = true)) (w : World) (hN : NRow w no m ns) (hm : m ≤ 1048576) (hns : ∀ j, j < x → fnB (ns j) = true) (hbad : fnB (ns x) = false) (hsx : (ns x).size ≤ 1048576) (hr : FRow w ao n F) (hq : -9223372036854775808 ≤ Q ∧ Q ≤ 9223372036854775807) (hn : n ≤ 1048576) (hz : FSize n F 1048576) :
    Calls Tryz.prog 38 #[.agg #[.int .i64 Q, .slice ao n cap], .slice no m nc] w fun e w' => e = .returned (.tuple #[.agg #[.int .i64 0, .map none], .iface 94 (.agg #[.string (ns x), .int .i64 1])]) ∧ Below w.heap.size w w' := by
  have hB : Below w.heap.size w ((w.alloc (.cells #[.int .i64 Q, .slice ao n cap] 24)).alloc (.cells #[.int .i64 0, .map none] 68)) := ((Below.refl _ _).alloc (Nat.le_refl _) _).alloc (by simp) _
  go_enter Tryz.func38, Tryz.ntmps38
  go_wp2_with fail
  refine (goodFiles_impl Q ao n cap F true HG _ (hr.keep hB) hq hn hz).mono ?_
  rintro e w1 ⟨rfl, hb1⟩
  have z0 : w1.cell? ⟨w.heap.size + 1, 0, none⟩ = some (.int .i64 0) := (hb1.cell (p := ⟨w.heap.size + 1, 0, none⟩) (by simp)).trans (by simp [go_sem])
  have z1 : w1.cell? ⟨w.heap.size + 1, 1, none⟩ = some (.map none) := (hb1.cell (p := ⟨w.heap.size + 1, 1, none⟩) (by simp)).trans (by simp [go_sem])
  have zf : ∀ j, w1.frozen? ⟨w.heap.size + 1, j, none⟩ = false := fun j => (hb1.frozen (p := ⟨w.heap.size + 1, j, none⟩) (by simp)).trans (by simp [go_sem])
  have bw1 : Below w.heap.size w w1 := hB.trans (hb1.mono (by simp; omega))
  clear hb1 hB
  obtain ⟨nb, noff, rfl, hnlt, hnc⟩ := hN.lies.resolve_left (by omega)
  go_wp2
  go_loopw [18] (fun i wr => ∃ j : Nat, j ≤ x ∧ i = .int .i64 j ∧ wr = w1) (fun i _ => m - (intOf i).toNat)
  case atStart => exact ⟨0, Nat.zero_le _, rfl, rfl⟩
  case round =>
    obtain ⟨j, hj, rfl, hw⟩ := hrel
    have hw' := hw.symm
    clear hw
    subst hw'
    have hn1 := (bw1.cell (p := ⟨nb, noff + j, none⟩) hnlt).trans (hnc j (by omega))
    have hjm : j < m := by omega
    by_cases hjx : j < x
    · have HQ : Hid (fnB (ns j) = true) := hns j hjx
      have hsz : (ns j).size ≤ 1048576 := by have := (fnB_size (hns j hjx)).2; omega
      clear hnc hN hns hbad
      go_wp2_with fail
      refine (isFileName_is _ _ HQ _ hsz).mono ?_
      rintro e w' ⟨rfl, rfl⟩
      go_wp2
      go_roundw
      case rel => exact ⟨j + 1, by omega, by go_num, trivial⟩
      case measure => simp [intOf]; omega
    · have e : j = x := by omega
      subst e
      have HQ : Hid (fnB (ns j) = false) := hbad
      clear hnc hN hns hbad
      go_wp2_with fail
      refine (isFileName_is _ _ HQ _ hsx).mono ?_
      rintro e w' ⟨rfl, rfl⟩
      go_wp2
      refine bodyPost_ret (v := .tuple #[.agg #[.int .i64 0, .map none], .iface 94 (.agg #[.string (ns j), .int .i64 1])]) (by simp [results, Tryz.results38, go_sem, z0, z1]) rfl ⟨rfl, ?_⟩
      exact (bw1.setCell (Nat.le_succ _) _).setCell (Nat.le_succ _) _
end Go.Proofs.YtapmbgmmonhdoaaGreatDoor
