/- FirstVersion, in both texts, and its law. / What an empty store's opening meets: records of an empty file, no entries, two files. -/
import Derived.Test.YtapmbgmmonhdoaaGreatDoorVn
import Derived.Test.YtapmbgmmonhdoaaGreatDoorNa
import Derived.Test.YtapmbgmmonhdoaaGreatDoorSzTot
namespace Go.Proofs.YtapmbgmmonhdoaaGreatDoor
set_option maxRecDepth 100000
open Go.RowKit
set_option linter.unusedSimpArgs false
set_option linter.unusedVariables false

/-- No metas. -/
def noR (_ _ : Nat) : Met := ⟨0, .empty, .empty, 0⟩
def noM (_ : Nat) : Nat := 0
/-- The first version. -/
def FvO (w : World) (e : Ending) (w' : World) : Prop :=
  ∃ g, e = .returned (.agg #[.int .i64 2, .int .i64 1, .int .i64 0, .slice (some ⟨g, 0, none⟩) 3 3]) ∧ VA w' w.heap.size w'.heap.size (some ⟨g, 0, none⟩) 3 noR noM ∧ Below w.heap.size w w'

theorem va_made {w w1 : World} {g base : Nat} (h : w1.ownsRow base 84 1 (.slice (some ⟨g, 0, none⟩) 3 3) 3 (madeCells (Value.slice none 0 0).cells (3 * 1)).toList) (hlt : g < w1.heap.size) : VO w1 g 3 3 noR noM (fun _ => none) (fun _ => 0) := by
  have hc : ∀ j, j < 3 → w1.cell? ⟨g, j, none⟩ = some (.slice none 0 0) := fun j hj => by
    rw [h.cellAt j (by omega)]
    have := made_cell (d := #[.slice none 0 0]) (k := 1) (n := 3) (i := j) (q := 0) rfl hj (by omega)
    simpa [Value.cells] using this
  exact ⟨hlt, fun i hi => hc i hi, fun i _ => .inl rfl, fun i j _ _ _ h => by simp [noM] at h, fun j hj => by rw [hc j hj]; rfl, fun j _ => h.frozenAt j⟩

theorem first_facts (w w1 : World) (base : Nat) (h : w1.ownsRow base 84 1 (.slice (some ⟨(w.alloc (.cells #[.int .i64 0, .int .i64 0, .int .i64 0, .slice none 0 0] 27)).heap.size, 0, none⟩) 3 3) 3 (madeCells (Value.slice none 0 0).cells (3 * 1)).toList) (hg : (w.alloc (.cells #[.int .i64 0, .int .i64 0, .int .i64 0, .slice none 0 0] 27)).grownBy w1 none) :
    VO w1 (w.heap.size + 1) 3 3 noR noM (fun _ => none) (fun _ => 0) ∧ VX w1 w.heap.size 0 0 0 none 0 0 ∧ (∀ j, w1.frozen? ⟨w.heap.size, j, none⟩ = false) ∧ Below w.heap.size w w1 ∧ w.heap.size + 1 < w1.heap.size := by
  have bn0 := below_new w (.cells #[.int .i64 0, .int .i64 0, .int .i64 0, .slice none 0 0] 27)
  have A0 := VX.new w 0 0 0 none 0 0 27
  have hb1 : Below (w.alloc (.cells #[.int .i64 0, .int .i64 0, .int .i64 0, .slice none 0 0] 27)).heap.size (w.alloc (.cells #[.int .i64 0, .int .i64 0, .int .i64 0, .slice none 0 0] 27)) w1 := (Below.refl _ _).grown hg (Nat.le_refl _) (fun k h => by simp at h)
  have hs0 : (w.alloc (.cells #[.int .i64 0, .int .i64 0, .int .i64 0, .slice none 0 0] 27)).heap.size = w.heap.size + 1 := by simp
  rw [hs0] at h
  have hlt1 : w.heap.size + 1 < w1.heap.size := by
    rcases h.2 with ⟨h, _⟩ | ⟨g', cap', cur, h, _, hg, _⟩
    · simp at h
    · simp at h; obtain ⟨rfl, _⟩ := h
      exact (Array.getElem?_eq_some_iff.1 hg).1
  exact ⟨va_made (w := w) h hlt1, A0.keep hb1, fun j => (hb1.frozen (p := ⟨w.heap.size, j, none⟩) A0.lt).trans (by simp [go_sem]), bn0.trans (hb1.mono bn0.size), hlt1⟩

set_option maxRecDepth 10000 in
set_option maxHeartbeats 800000 in
theorem firstVersion_impl (w : World) : Calls Tryz.prog 13 #[] w fun e w' => FvO w e w' := by
  obtain ⟨i0, hi, hz0, hz1, hz2⟩ := info_parts Tryz.infoMS
  go_enter Tryz.func13, Tryz.ntmps13
  go_wp2_with (at_make; refine wpList_make_full _ rfl (.const (.int .i64 3)) (.const (.int .i64 3)) 25 rfl w.heap.size 84 i0 (.slice none 0 0) 1 Tryz.underlying25 hi hz0 hz1 .i64 .i64 _ _ 3 rfl rfl rfl rfl (by rw [hz2]; omega) (by unfold maxLen; omega) (by simp) ?_; intro w1 hown hgrow; obtain ⟨hV, ⟨l0, x0, x1, x2, x3⟩, ff, bw1, hlt⟩ := first_facts w w1 _ hown hgrow; have f0 := ff 0; have f1 := ff 1; have f2 := ff 2; have f3 := ff 3; clear hown hgrow ff)
  refine bodyPost_ret (v := .agg #[.int .i64 2, .int .i64 1, .int .i64 0, .slice (some ⟨w.heap.size + 1, 0, none⟩) 3 3]) (by simp [results, Tryz.results13, go_sem, x0, x1, x2, x3]) rfl ⟨w.heap.size + 1, rfl, ⟨Nat.le_refl _, .inr ⟨w.heap.size + 1, fun _ => none, fun _ => 0, rfl, by omega, by simpa using hlt, ?_, fun i _ h => by simp [noM] at h⟩⟩, ?_⟩
  · refine hV.same (by simp) ?_ (fun i _ h => by simp [noM] at h)
    repeat' refine (Below.heap_setCell _ _ _ _ (by first | omega | (dsimp only; omega))).trans ?_
    rfl
  · repeat' refine Below.setCell ?_ (by first | (simp; done) | (simp; omega)) _
    exact bw1

set_option maxRecDepth 10000 in
set_option maxHeartbeats 800000 in
theorem l9First_any (w : World) : Calls Tryz.prog 11 #[] w fun e w' => FvO w e w' := by
  obtain ⟨i0, hi, hz0, hz1, hz2⟩ := info_parts Tryz.infoMS
  go_enter Tryz.func11, Tryz.ntmps11
  go_wp2_with (at_make; refine wpList_make_full _ rfl (.const (.int .i64 3)) (.const (.int .i64 3)) 25 rfl w.heap.size 84 i0 (.slice none 0 0) 1 Tryz.underlying25 hi hz0 hz1 .i64 .i64 _ _ 3 rfl rfl rfl rfl (by rw [hz2]; omega) (by unfold maxLen; omega) (by simp) ?_; intro w1 hown hgrow; obtain ⟨hV, ⟨l0, x0, x1, x2, x3⟩, ff, bw1, hlt⟩ := first_facts w w1 _ hown hgrow; have f0 := ff 0; have f1 := ff 1; have f2 := ff 2; have f3 := ff 3; clear hown hgrow ff)
  refine bodyPost_ret (v := .agg #[.int .i64 2, .int .i64 1, .int .i64 0, .slice (some ⟨w.heap.size + 1, 0, none⟩) 3 3]) (by simp [results, Tryz.results11, go_sem, x0, x1, x2, x3]) rfl ⟨w.heap.size + 1, rfl, ⟨Nat.le_refl _, .inr ⟨w.heap.size + 1, fun _ => none, fun _ => 0, rfl, by omega, by simpa using hlt, ?_, fun i _ h => by simp [noM] at h⟩⟩, ?_⟩
  · refine hV.same (by simp) ?_ (fun i _ h => by simp [noM] at h)
    repeat' refine (Below.heap_setCell _ _ _ _ (by first | omega | (dsimp only; omega))).trans ?_
    rfl
  · repeat' refine Below.setCell ?_ (by first | (simp; done) | (simp; omega)) _
    exact bw1

theorem VA.vrow0 {w : World} {lo hi : Nat} {ao : Option Addr} (h : VA w lo hi ao 3 noR noM) : VRow w ao 3 noR noM := h.row (fun i _ j hj => by simp [noM] at hj) (fun i _ => by simp [noM])
theorem sum0 : 1 + 4 * sumM noM 3 = 1 := rfl

end Go.Proofs.YtapmbgmmonhdoaaGreatDoor
namespace Go.Proofs.YtapmbgmmonhdoaaGreatDoor
set_option maxRecDepth 100000
open Go.RowKit
open Go.ChangeMaps (setBlock)
set_option linter.unusedSimpArgs false
set_option linter.unusedVariables false

/-- A file in its box. -/
structure FX (w : World) (b : Nat) (x : FT) : Prop where
  lt : b < w.heap.size
  c0 : w.cell? ⟨b, 0, none⟩ = some (.string x.1)
  c1 : w.cell? ⟨b, 1, none⟩ = some (.slice x.2.1.1 x.2.1.2.1 x.2.1.2.2)
  c2 : w.cell? ⟨b, 2, none⟩ = some (.int .i64 x.2.2)
  free : ∀ j, w.frozen? ⟨b, j, none⟩ = false
theorem FX.keep {w w' : World} {b : Nat} {x : FT} (h : FX w b x) (hb : Below w.heap.size w w') : FX w' b x :=
  ⟨Nat.lt_of_lt_of_le h.lt hb.size, (hb.cell (p := ⟨b, 0, none⟩) h.lt).trans h.c0, (hb.cell (p := ⟨b, 1, none⟩) h.lt).trans h.c1, (hb.cell (p := ⟨b, 2, none⟩) h.lt).trans h.c2, fun j => (hb.frozen (p := ⟨b, j, none⟩) h.lt).trans (h.free j)⟩
theorem FX.new (w : World) (x : FT) (t : TypeId) : FX (w.alloc (.cells #[.string x.1, .slice x.2.1.1 x.2.1.2.1 x.2.1.2.2, .int .i64 x.2.2] t)) w.heap.size x := by
  refine ⟨by simp, ?_, ?_, ?_, fun j => ?_⟩ <;> simp [go_sem]

set_option maxHeartbeats 2000000 in
theorem recM (Q : Int) (bm clock : Nat) (L : List (FT × Nat)) (j : Nat) (nm : ByteArray) (da : Option Addr) (dc : Nat) (sy : Int) (born : Nat) (hj : L[j]? = some ((nm, (da, 0, dc), sy), born)) (w : World) (hM : MHas w bm L clock) :
    Calls Tryz.prog 54 #[.agg #[.int .i64 Q, .map (some bm)], .string nm] w fun e w' => e = .returned (.tuple #[.slice none 0 0, .bool true]) ∧ MHas w' bm (L.set j ((nm, (da, 0, 0), sy), born)) clock ∧ KD w.heap.size bm w w' := by
  have hlt := hM.lt
  have hB : Below w.heap.size w (w.alloc (.cells #[.int .i64 Q, .map (some bm)] 68)) := (Below.refl _ _).alloc (Nat.le_refl _) _
  have X0 := QAt.new w Q (.map (some bm)) 68
  have hMA := hM.keep hB
  go_enter Tryz.func54, Tryz.ntmps54
  go_wp2_with fail
  refine (findM_hit Q bm clock L j _ hj _ hMA).mono ?_
  simp only [fval]
  rintro e w1 ⟨rfl, hb1⟩
  have bw1 : Below w.heap.size w w1 := hB.trans (hb1.mono (by simp))
  have X1 := X0.keep hb1
  have l1 : w.heap.size < w1.heap.size := X1.lt
  have hA : Below w1.heap.size w1 (w1.alloc (.cells #[.string nm, .slice da 0 dc, .int .i64 sy] 40)) := (Below.refl _ _).alloc (Nat.le_refl _) _
  have F0 := FX.new w1 (nm, (da, 0, dc), sy) 40
  have X2 := X1.keep hA
  have bwA := bw1.trans (hA.mono bw1.size)
  clear hb1 hB X0 hMA X1 hA
  go_wp2_with fail
  refine (readLog_none da dc _).mono ?_
  rintro e w2 ⟨rfl, hb2⟩
  have F2 := F0.keep hb2
  have X3 := X2.keep hb2
  have bw2 := bwA.trans (hb2.mono bwA.size)
  have ho : w.heap.size ≤ w1.heap.size := bw1.size
  have bw3 := bw2.setCell (p := ⟨w1.heap.size, 1, none⟩) ho (.slice da 0 0)
  have hMB := hM.keep bw3
  have hup := upd_old (P := Tryz.prog) Tryz.underlying66 Tryz.underlying9 hMB hj (nm, (da, 0, 0), sy) rfl
  have hfin := hMB.upd hj (nm, (da, 0, 0), sy) rfl (Nat.lt_of_lt_of_le hlt bw3.size)
  have hkd := KD.set (B := bm) bw3 (.map (esOf (L.set j ((nm, (da, 0, 0), sy), born))) clock)
  obtain ⟨lx, x0, x1⟩ := X3
  obtain ⟨lf, f0, f1, f2, ff⟩ := F2
  have ff1 := ff 1
  have g0 : (w2.setCell ⟨w1.heap.size, 1, none⟩ (.slice da 0 0)).cell? ⟨w1.heap.size, 0, none⟩ = some (.string nm) := (World.cell?_setCell_other _ _ _ _ (by intro hh; injection hh with _ h3 _; omega)).trans f0
  have g1 : (w2.setCell ⟨w1.heap.size, 1, none⟩ (.slice da 0 0)).cell? ⟨w1.heap.size, 1, none⟩ = some (.slice da 0 0) := World.cell?_setCell_same _ _ _ f1
  have g2 : (w2.setCell ⟨w1.heap.size, 1, none⟩ (.slice da 0 0)).cell? ⟨w1.heap.size, 2, none⟩ = some (.int .i64 sy) := (World.cell?_setCell_other _ _ _ _ (by intro hh; injection hh with _ h3 _; omega)).trans f2
  have x1' : (w2.setCell ⟨w1.heap.size, 1, none⟩ (.slice da 0 0)).cell? ⟨w.heap.size, 1, none⟩ = some (.map (some bm)) := (World.cell?_setCell_other _ _ _ _ (by intro hh; injection hh with h3 _ _; omega)).trans x1
  clear hb2 hM hMB F0 X2 bwA bw2 bw3
  go_wp2_with (at_mapUpdate; refine wpList_mapUpdate_run _ rfl (.tmp 33) (.tmp 34) (.tmp 35) 66 rfl _ _ _ rfl rfl rfl _ hup ?_)
  refine bodyPost_ret (v := .tuple #[.slice none 0 0, .bool true]) (by simp [results, Tryz.results54, go_sem]) rfl ⟨rfl, hfin, hkd⟩
end Go.Proofs.YtapmbgmmonhdoaaGreatDoor
