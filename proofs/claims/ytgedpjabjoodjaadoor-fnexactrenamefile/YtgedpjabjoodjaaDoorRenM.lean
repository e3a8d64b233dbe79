/- rename: what it leaves. -/
import Derived.Test.YtgedpjabjoodjaaDoorCreM
import Derived.Test.YtgedpjabjoodjaaDoorRemM
namespace Go.Proofs.YtgedpjabjoodjaaDoor
open Go.RowKit
open Go.ChangeMaps (setBlock)
set_option linter.unusedSimpArgs false
set_option linter.unusedVariables false

theorem setBlock_over (w : World) (bm : Nat) (o1 o2 : Obj) (p : Addr) (v : Value) (h : p.block ≠ bm) : setBlock ((setBlock w bm o1).setCell p v) bm o2 = setBlock (w.setCell p v) bm o2 := by
  have e : ((setBlock w bm o1).setCell p v).heap.setIfInBounds bm o2 = (w.setCell p v).heap.setIfInBounds bm o2 := by
    apply Array.ext_getElem?
    intro i
    simp only [setBlock, World.setCell, Array.getElem?_setIfInBounds, Array.getElem?_modify, Array.size_modify, Array.size_setIfInBounds]
    by_cases hi : bm = i
    · subst hi; simp
    · simp [hi]
  show ({ (setBlock w bm o1).setCell p v with heap := _ } : World) = _
  rw [e]
  rfl

set_option maxHeartbeats 1000000 in
theorem rename_miss (Q : Int) (bm n : Nat) (F : Nat → Fil) (S : Nat → Value) (s t : ByteArray) (hs : ∀ j, j < n → (F j).nm ≠ s) (w : World) (hb : w.heap[bm]? = some (.map (ents F S n) n)) :
    Calls Tryd.prog 55 #[.agg #[.int .i64 Q, .map (some bm)], .string s, .string t] w fun e w' => e = .returned (.iface 90 (.agg #[.string s, .int .i64 2])) ∧ Below w.heap.size w w' := by
  have hlt : bm < w.heap.size := (Array.getElem?_eq_some_iff.1 hb).1
  have hB : Below w.heap.size w (w.alloc (.cells #[.int .i64 Q, .map (some bm)] 60)) := (Below.refl _ _).alloc (Nat.le_refl _) _
  have hbA : (w.alloc (.cells #[.int .i64 Q, .map (some bm)] 60)).heap[bm]? = some (.map (ents F S n) n) := (hB.block bm hlt).trans hb
  go_enter Tryd.func55, Tryd.ntmps55
  go_wp2_with fail
  refine (find_miss Q bm n F S s hs _ hbA).mono ?_
  rintro e w1 ⟨rfl, hb1⟩
  have bw1 : Below w.heap.size w w1 := hB.trans (hb1.mono (by simp))
  clear hb1 hB hbA
  go_wp2
  go_ret
  exact ⟨rfl, bw1.alloc bw1.size _⟩

set_option maxRecDepth 100000 in
set_option maxHeartbeats 2000000 in
theorem rename_hit (Q : Int) (bm n : Nat) (F : Nat → Fil) (S : Nat → Value) (a : Nat) (ha : a < n) (t : ByteArray) (L2 : List (FT × Nat)) (clock2 : Nat) (HK : Hid (∀ i, i < n → fileOk F i = true))
    (HU : Hid (∀ (W : World) da dc, S a = .slice da (F a).len dc → MHas W bm ((lOf F S n).eraseIdx a) n → (Instr.mapUpdate 58 (.map (some bm)) (.string t) (.agg #[.string t, .slice da (F a).len dc, .int .i64 (F a).sy])).run Tryd.prog W = .ok () (setBlock W bm (.map (esOf L2) clock2))))
    (w : World) (hb : w.heap[bm]? = some (.map (ents F S n) n)) (hS : ∀ i, i < n → ∃ da dc, S i = .slice da (F i).len dc) :
    Calls Tryd.prog 55 #[.agg #[.int .i64 Q, .map (some bm)], .string (F a).nm, .string t] w fun e w' => e = .returned .nilIface ∧ ∃ wX, Below w.heap.size w wX ∧ w' = setBlock wX bm (.map (esOf L2) clock2) := by
  have hM := mhas_of HK.out hS hb
  have hlt := hM.lt
  obtain ⟨da, dc, hSj⟩ := hS a ha
  have hB : Below w.heap.size w (w.alloc (.cells #[.int .i64 Q, .map (some bm)] 60)) := (Below.refl _ _).alloc (Nat.le_refl _) _
  have X0 := QAt.new w Q (.map (some bm)) 60
  have hbA : (w.alloc (.cells #[.int .i64 Q, .map (some bm)] 60)).heap[bm]? = some (.map (ents F S n) n) := (hB.block bm hM.lt).trans hb
  go_enter Tryd.func55, Tryd.ntmps55
  go_wp2_with fail
  refine (find_hit Q bm n F S a ha HK _ hbA da dc hSj).mono ?_
  rintro e w1 ⟨rfl, hb1⟩
  have bw1 : Below w.heap.size w w1 := hB.trans (hb1.mono (by simp))
  have X1 := X0.keep hb1
  have bwA := bw1.alloc (B := w.heap.size) bw1.size (.cells #[.string (F a).nm, .slice da (F a).len dc, .int .i64 (F a).sy] 73)
  have hA : Below w1.heap.size w1 (w1.alloc (.cells #[.string (F a).nm, .slice da (F a).len dc, .int .i64 (F a).sy] 73)) := (Below.refl _ _).alloc (Nat.le_refl _) _
  have XA := X1.keep hA
  have cA : ∀ j u, #[Value.string (F a).nm, .slice da (F a).len dc, .int .i64 (F a).sy][j]? = some u → (w1.alloc (.cells #[.string (F a).nm, .slice da (F a).len dc, .int .i64 (F a).sy] 73)).cell? ⟨w1.heap.size, j, none⟩ = some u := fun j u hu => by
    match j, hu with
    | 0, hu => simp at hu; subst hu; simp [go_sem]
    | 1, hu => simp at hu; subst hu; simp [go_sem]
    | 2, hu => simp at hu; subst hu; simp [go_sem]
    | j + 3, hu => simp at hu
  have fA : ∀ j, (w1.alloc (.cells #[.string (F a).nm, .slice da (F a).len dc, .int .i64 (F a).sy] 73)).frozen? ⟨w1.heap.size, j, none⟩ = false := fun j => by simp [go_sem]
  have hMA := hM.keep bwA
  have hup := fun ty => run_delete (P := Tryd.prog) Tryd.underlying58 Tryd.underlying9 hMA (lOf_at F S ha) 9 ty
  change ∀ ty, (Builtin.delete_ #[58, 9] ty #[.map (some bm), .string (F a).nm]).run Tryd.prog _ = _ at hup
  have sz1 := bw1.size
  have hsA : w1.heap.size < (w1.alloc (.cells #[.string (F a).nm, .slice da (F a).len dc, .int .i64 (F a).sy] 73)).heap.size := by simp
  obtain ⟨lx, x0, x1⟩ := id X1
  clear hB X0 hbA hb1 hS hb hM bw1 hA X1
  generalize hwA : w1.alloc (.cells #[.string (F a).nm, .slice da (F a).len dc, .int .i64 (F a).sy] 73) = wA at bwA XA cA fA hMA hup hsA
  have HA : Hid (w1.alloc (.cells #[.string (F a).nm, .slice da (F a).len dc, .int .i64 (F a).sy] 73) = wA) := hwA
  clear hwA
  have hltA : bm < wA.heap.size := hMA.lt
  have hMD : MHas (setBlock wA bm (.map (esOf ((lOf F S n).eraseIdx a)) n)) bm ((lOf F S n).eraseIdx a) n := hMA.del (wX := wA) (j := a) hltA
  have nb : w1.heap.size ≠ bm := by omega
  have nw : w.heap.size ≠ bm := by omega
  have cl : ∀ b j, b ≠ bm → (setBlock wA bm (.map (esOf ((lOf F S n).eraseIdx a)) n)).cell? ⟨b, j, none⟩ = wA.cell? ⟨b, j, none⟩ := fun b j h => World.cell?_of_block (w := wA) (a := ⟨b, j, none⟩) (heap_setBlock_ne _ _ _ h)
  have d0 := (cl w1.heap.size 0 nb).trans (cA 0 _ rfl)
  have d1 := (cl w1.heap.size 1 nb).trans (cA 1 _ rfl)
  have d2 := (cl w1.heap.size 2 nb).trans (cA 2 _ rfl)
  have y1 := (cl w.heap.size 1 nw).trans XA.c1
  have df : ∀ j, (setBlock wA bm (.map (esOf ((lOf F S n).eraseIdx a)) n)).frozen? ⟨w1.heap.size, j, none⟩ = false := fun j => (World.frozen?_of_block (w := wA) (a := ⟨w1.heap.size, j, none⟩) (heap_setBlock_ne _ _ _ nb)).trans (fA j)
  have hM2 : MHas ((setBlock wA bm (.map (esOf ((lOf F S n).eraseIdx a)) n)).setCell ⟨w1.heap.size, 0, none⟩ (.string t)) bm ((lOf F S n).eraseIdx a) n := ⟨(Below.heap_setCell _ _ _ _ (by show bm ≠ w1.heap.size; omega)).trans hMD.map, hMD.born, hMD.old, hMD.names⟩
  have hupd := HU.out _ da dc hSj hM2
  have hfin : Hid (setBlock ((setBlock wA bm (.map (esOf ((lOf F S n).eraseIdx a)) n)).setCell ⟨w1.heap.size, 0, none⟩ (.string t)) bm (.map (esOf L2) clock2) = setBlock (wA.setCell ⟨w1.heap.size, 0, none⟩ (.string t)) bm (.map (esOf L2) clock2)) := setBlock_over _ _ _ _ _ _ nb
  have bwF : Below w.heap.size w (wA.setCell ⟨w1.heap.size, 0, none⟩ (.string t)) := bwA.setCell (p := ⟨w1.heap.size, 0, none⟩) sz1 _
  clear cl XA cA fA hMA hMD hM2 bwA
  generalize setBlock wA bm (.map (esOf ((lOf F S n).eraseIdx a)) n) = wD at *
  have hup' : ∀ ty, (Builtin.delete_ #[58, 9] ty #[.map (some bm), .string (F a).nm]).run Tryd.prog (w1.alloc (.cells #[.string (F a).nm, .slice da (F a).len dc, .int .i64 (F a).sy] 73)) = .ok (.tuple #[]) wD := fun ty => by rw [HA.out]; exact hup ty
  clear hup
  go_wp2_with (first
    | (at_builtin; refine wpList_delete_run _ rfl (.tmp 19) (.tmp 20) 58 9 rfl (.map (some bm)) (.string (F a).nm) _ rfl rfl wD hup' ?_)
    | (at_mapUpdate; refine wpList_mapUpdate_run _ rfl (.tmp 24) (.tmp 25) (.tmp 26) 58 rfl _ _ _ rfl rfl rfl _ hupd ?_))
  go_ret
  exact ⟨rfl, _, bwF, hfin.out⟩
end Go.Proofs.YtgedpjabjoodjaaDoor
