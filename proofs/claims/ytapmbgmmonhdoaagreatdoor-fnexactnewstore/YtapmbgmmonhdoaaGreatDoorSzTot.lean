/- The disk's methods over a map of files that is told by a list. / The laws' own measure of files, all of it. -/
import Derived.Test.YtapmbgmmonhdoaaGreatDoorMapL
import Derived.Test.YtapmbgmmonhdoaaGreatDoorGood
namespace Go.Proofs.YtapmbgmmonhdoaaGreatDoor
set_option maxRecDepth 100000
open Go.RowKit
open Go.ChangeMaps (setBlock)
set_option linter.unusedSimpArgs false
set_option linter.unusedVariables false

/-- All blocks below base but B are as they were. -/
structure KD (base B : Nat) (w w' : World) : Prop where
  os : w'.os = w.os
  tape : w'.tape = w.tape
  output : w'.output = w.output
  size : w.heap.size ≤ w'.heap.size
  block : ∀ c, c < base → c ≠ B → w'.heap[c]? = w.heap[c]?
section
variable {base B : Nat} {u w w' : World}
theorem KD.refl (base B : Nat) (w : World) : KD base B w w := ⟨rfl, rfl, rfl, Nat.le_refl _, fun _ _ _ => rfl⟩
theorem KD.trans (h : KD base B u w) (k : KD base B w w') : KD base B u w' := ⟨k.os.trans h.os, k.tape.trans h.tape, k.output.trans h.output, Nat.le_trans h.size k.size, fun c hc hne => (k.block c hc hne).trans (h.block c hc hne)⟩
theorem KD.of_below (h : Below base w w') : KD base B w w' := ⟨h.os, h.tape, h.output, h.size, fun c hc _ => h.block c hc⟩
theorem KD.mono {base' : Nat} (h : KD base B w w') (hb : base' ≤ base) : KD base' B w w' := ⟨h.os, h.tape, h.output, h.size, fun c hc hne => h.block c (Nat.lt_of_lt_of_le hc hb) hne⟩
theorem KD.below (h : KD base B w w') (hB : base ≤ B) : Below base w w' := ⟨h.os, h.tape, h.output, h.size, fun c hc => h.block c hc (by omega)⟩
theorem KD.low {d : Nat} (h : KD base B w w') (hd : d ≤ base) (hB : d ≤ B) : Below d w w' := ⟨h.os, h.tape, h.output, h.size, fun c hc => h.block c (by omega) (by omega)⟩
theorem KD.set {wX : World} (h : Below base w wX) (o : Obj) : KD base B w (setBlock wX B o) :=
  ⟨h.os, h.tape, h.output, by rw [size_setBlock]; exact h.size, fun c hc hne => (heap_setBlock_ne wX B o hne).trans (h.block c hc)⟩
theorem KD.cell (h : KD base B w w') {b j : Nat} (hb : b < base) (hne : b ≠ B) : w'.cell? ⟨b, j, none⟩ = w.cell? ⟨b, j, none⟩ := World.cell?_of_block (w := w) (a := ⟨b, j, none⟩) (h.block b hb hne)
theorem KD.frozen (h : KD base B w w') {b j : Nat} (hb : b < base) (hne : b ≠ B) : w'.frozen? ⟨b, j, none⟩ = w.frozen? ⟨b, j, none⟩ := World.frozen?_of_block (w := w) (a := ⟨b, j, none⟩) (h.block b hb hne)
theorem KD.setCell (h : KD base B w w') {b : Nat} (hb : base ≤ b) (j : Nat) (v : Value) : KD base B w (w'.setCell ⟨b, j, none⟩ v) :=
  ⟨h.os, h.tape, h.output, by simpa using h.size, fun c hc hne => (Below.heap_setCell _ _ _ _ (by show c ≠ b; omega)).trans (h.block c hc hne)⟩
theorem KD.alloc (h : KD base B w w') (hb : base ≤ w.heap.size) (o : Obj) : KD base B w (w'.alloc o) :=
  h.trans (KD.of_below (((Below.refl w'.heap.size w').alloc (Nat.le_refl _) o).mono (Nat.le_trans hb h.size)))
theorem KD.drew (h : KD base B w w') : KD base B w w'.drew := h.trans (KD.of_below ((Below.refl _ _).drew))
end
theorem MHas.setCell {w : World} {bm clock : Nat} {L : List (FT × Nat)} (h : MHas w bm L clock) {b : Nat} (hne : bm ≠ b) (j : Nat) (v : Value) : MHas (w.setCell ⟨b, j, none⟩ v) bm L clock :=
  ⟨(Below.heap_setCell _ _ _ _ (by show bm ≠ b; exact hne)).trans h.map, h.born, h.old, h.names⟩

theorem eq_of_rising0 : ∀ {l m : List FT}, l.Perm m → l.Pairwise (fun x y => Op.bytesLess x.1.toList y.1.toList = true) → m.Pairwise (fun x y => Op.bytesLess x.1.toList y.1.toList = true) → l = m
  | [], m, hp, _, _ => by rw [List.nil_perm.1 hp]
  | x :: l, [], hp, _, _ => absurd hp.length_eq (by simp)
  | x :: l, y :: m, hp, h1, h2 => by
    obtain ⟨a1, b1⟩ := List.pairwise_cons.1 h1
    obtain ⟨a2, b2⟩ := List.pairwise_cons.1 h2
    have e : x = y := by
      rcases List.mem_cons.1 (hp.mem_iff.1 (List.mem_cons_self ..)) with e | hx
      · exact e
      · rcases List.mem_cons.1 (hp.mem_iff.2 (List.mem_cons_self ..)) with e | hy
        · exact e.symm
        · have g1 := a2 x hx
          have g2 := a1 y hy
          have := bl_trans _ _ _ g1 g2
          rw [bl_selfF] at this
          exact absurd this (by decide)
    subst e
    rw [eq_of_rising0 (List.perm_cons x |>.1 hp) b1 b2]
/-- Of one name there is one file. -/
theorem MHas.one {w : World} {bm clock j : Nat} {L : List (FT × Nat)} {p q : FT × Nat} (hM : MHas w bm L clock) (hj : L[j]? = some p) (hq : q ∈ L) (he : q.1.1 = p.1.1) : q = p := by
  obtain ⟨i, hi⟩ := List.mem_iff_getElem?.1 hq
  have : i = j := nodup_at hM.names (a := p.1.1) (by rw [List.getElem?_map, hi]; exact congrArg some he) (by rw [List.getElem?_map, hj]; rfl)
  subst this
  rw [hi] at hj
  injection hj

set_option maxHeartbeats 1000000 in
theorem findM_hit (Q : Int) (bm clock : Nat) (L : List (FT × Nat)) (j : Nat) (p : FT × Nat) (hj : L[j]? = some p) (w : World) (hM : MHas w bm L clock) :
    Calls Tryz.prog 81 #[.agg #[.int .i64 Q, .map (some bm)], .string p.1.1] w fun e w' => e = .returned (.tuple #[fval p.1, .nilIface]) ∧ Below w.heap.size w w' := by
  have hlt := hM.lt
  have hB : Below w.heap.size w ((w.alloc (.cells #[.int .i64 Q, .map (some bm)] 68)).alloc (.cells #[.string ⟨#[]⟩, .slice none 0 0, .int .i64 0] 40)) := ((Below.refl _ _).alloc (Nat.le_refl _) _).alloc (by simp) _
  have hb2 := (hM.keep hB).map
  have hlk := run_lookup_hit (P := Tryz.prog) (mty := 66) (kt := 9) (et := 40) (s := p.1.1) Tryz.underlying66 Tryz.underlying9 hb2 (esOf_keys L) (v := fval p.1) (fun x hx he => by
    obtain ⟨q, hq, rfl⟩ := mem_esOf hx
    have e1 : q.1.1 = p.1.1 := by simpa [mkE] using he
    rw [hM.one hj hq e1]
    rfl) ⟨mkE p, by simp only [esOf, List.mem_map]; exact ⟨p, List.mem_of_getElem? hj, rfl⟩, rfl⟩
  obtain ⟨⟨nm, ⟨da, len, dc⟩, sy⟩, born⟩ := p
  simp only [fval] at hlk ⊢
  clear hb2 hB hM hj
  go_enter Tryz.func81, Tryz.ntmps81
  go_wp2
  refine bodyPost_ret (v := .tuple #[.agg #[.string nm, .slice da len dc, .int .i64 sy], .nilIface]) (by simp [results, Tryz.results81, go_sem]) rfl ⟨rfl, ?_⟩
  exact (((Below.refl _ _).alloc (Nat.le_refl _) _).alloc (by simp) _).alloc (by simp; omega) _

set_option maxHeartbeats 2000000 in
theorem syncM_hit (Q : Int) (bm clock : Nat) (L : List (FT × Nat)) (j : Nat) (p : FT × Nat) (hj : L[j]? = some p) (w : World) (hM : MHas w bm L clock) :
    Calls Tryz.prog 70 #[.agg #[.int .i64 Q, .map (some bm)], .string p.1.1] w fun e w' => e = .returned .nilIface ∧ MHas w' bm (L.set j ((p.1.1, p.1.2.1, (p.1.2.1.2.1 : Int)), p.2)) clock ∧ KD w.heap.size bm w w' := by
  have hlt := hM.lt
  have hB : Below w.heap.size w (w.alloc (.cells #[.int .i64 Q, .map (some bm)] 68)) := (Below.refl _ _).alloc (Nat.le_refl _) _
  have X0 := QAt.new w Q (.map (some bm)) 68
  have hMA := hM.keep hB
  obtain ⟨⟨nm, ⟨da, len, dc⟩, sy⟩, born⟩ := p
  simp only []
  go_enter Tryz.func70, Tryz.ntmps70
  go_wp2_with fail
  refine (findM_hit Q bm clock L j _ hj _ hMA).mono ?_
  simp only [fval]
  rintro e w1 ⟨rfl, hb1⟩
  have bw1 : Below w.heap.size w w1 := hB.trans (hb1.mono (by simp))
  obtain ⟨lx, x0, x1⟩ := X0.keep hb1
  have bwA := bw1.alloc (B := w.heap.size) bw1.size (.cells #[.string nm, .slice da len dc, .int .i64 (len : Int)] 40)
  have hMB := hM.keep bwA
  have hup := upd_old (P := Tryz.prog) Tryz.underlying66 Tryz.underlying9 hMB hj (nm, (da, len, dc), (len : Int)) rfl
  have hfin := hMB.upd hj (nm, (da, len, dc), (len : Int)) rfl (Nat.lt_of_lt_of_le hlt bwA.size)
  have hkd := KD.set (B := bm) bwA (.map (esOf (L.set j ((nm, (da, len, dc), (len : Int)), born))) clock)
  clear hB X0 hMA hb1 hM hMB
  go_wp2_with (at_mapUpdate; refine wpList_mapUpdate_run _ rfl (.tmp 21) (.tmp 22) (.tmp 23) 66 rfl _ _ _ rfl rfl rfl _ hup ?_)
  go_ret
  exact ⟨rfl, hfin, hkd⟩
end Go.Proofs.YtapmbgmmonhdoaaGreatDoor
namespace Go.Proofs.YtapmbgmmonhdoaaGreatDoor
set_option maxRecDepth 100000
open Go.RowKit
set_option linter.unusedSimpArgs false
set_option linter.unusedVariables false

/-- What a measure leaves: c at least is gone. -/
def SzT (left : Int) (c : Nat) (P : Prop) (w : World) (e : Ending) (w' : World) : Prop :=
  ∃ v : Int, e = .returned (.int .i64 v) ∧ -1 ≤ v ∧ v ≤ left ∧ (0 ≤ v → v + (c : Int) ≤ left ∧ P) ∧ Below w.heap.size w w'

end Go.Proofs.YtapmbgmmonhdoaaGreatDoor
