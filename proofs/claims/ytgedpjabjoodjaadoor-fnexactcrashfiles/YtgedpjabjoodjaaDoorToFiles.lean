/- Files copied by the laws. -/
import Derived.Test.YtgedpjabjoodjaaDoorFiles
namespace Go.Proofs.YtgedpjabjoodjaaDoor
open Go.RowKit
set_option linter.unusedSimpArgs false
set_option linter.unusedVariables false

theorem Tryd.infoFile : (Tryd.prog.info? 73).map (fun i => (i.zero, i.size, i.bytes)) = some (some (.agg #[.string ByteArray.empty, .slice none 0 0, .int .i64 0]), 3, 48) := by kernel_rfl

theorem three_new (w : World) (a0 a1 a2 b0 b1 b2 c0 c1 c2 : Value) (T U V : Nat) {w1 : World}
    (hb : Below (((w.alloc (.cells #[a0, a1, a2] T)).alloc (.cells #[b0, b1, b2] U)).alloc (.cells #[c0, c1, c2] V)).heap.size (((w.alloc (.cells #[a0, a1, a2] T)).alloc (.cells #[b0, b1, b2] U)).alloc (.cells #[c0, c1, c2] V)) w1) :
    (w1.cell? ⟨w.heap.size, 2, none⟩ = some a2) ∧
    (w1.cell? ⟨w.heap.size + 1, 0, none⟩ = some b0 ∧ w1.cell? ⟨w.heap.size + 1, 1, none⟩ = some b1 ∧ w1.cell? ⟨w.heap.size + 1, 2, none⟩ = some b2) ∧
    (w1.cell? ⟨w.heap.size + 1 + 1, 0, none⟩ = some c0 ∧ w1.cell? ⟨w.heap.size + 1 + 1, 1, none⟩ = some c1 ∧ w1.cell? ⟨w.heap.size + 1 + 1, 2, none⟩ = some c2) ∧
    (∀ j, w1.frozen? ⟨w.heap.size + 1, j, none⟩ = false) ∧ (∀ j, w1.frozen? ⟨w.heap.size + 1 + 1, j, none⟩ = false) ∧ w.heap.size + 3 ≤ w1.heap.size := by
  have hs := hb.size
  simp at hs
  have c : ∀ b j, b < w.heap.size + 3 → w1.cell? ⟨b, j, none⟩ = _ := fun b j h => hb.cell (p := ⟨b, j, none⟩) (by simp; omega)
  have d : ∀ b j, b < w.heap.size + 3 → w1.frozen? ⟨b, j, none⟩ = _ := fun b j h => hb.frozen (p := ⟨b, j, none⟩) (by simp; omega)
  refine ⟨(c _ _ (by omega)).trans ?_, ⟨(c _ _ (by omega)).trans ?_, (c _ _ (by omega)).trans ?_, (c _ _ (by omega)).trans ?_⟩, ⟨(c _ _ (by omega)).trans ?_, (c _ _ (by omega)).trans ?_, (c _ _ (by omega)).trans ?_⟩, fun j => (d _ _ (by omega)).trans ?_, fun j => (d _ _ (by omega)).trans ?_, by omega⟩
  all_goals simp [go_sem]
theorem two_new (w : World) (a0 a1 b0 b1 c0 c1 : Value) (T U V : Nat) {w1 : World}
    (hb : Below (((w.alloc (.cells #[a0, a1] T)).alloc (.cells #[b0, b1] U)).alloc (.cells #[c0, c1] V)).heap.size (((w.alloc (.cells #[a0, a1] T)).alloc (.cells #[b0, b1] U)).alloc (.cells #[c0, c1] V)) w1) :
    (w1.cell? ⟨w.heap.size + 1, 0, none⟩ = some b0 ∧ w1.cell? ⟨w.heap.size + 1, 1, none⟩ = some b1) ∧
    (w1.cell? ⟨w.heap.size + 1 + 1, 0, none⟩ = some c0 ∧ w1.cell? ⟨w.heap.size + 1 + 1, 1, none⟩ = some c1) ∧
    (∀ j, w1.frozen? ⟨w.heap.size + 1, j, none⟩ = false) ∧ (∀ j, w1.frozen? ⟨w.heap.size + 1 + 1, j, none⟩ = false) ∧ w.heap.size + 3 ≤ w1.heap.size := by
  have hs := hb.size
  simp at hs
  have c : ∀ b j, b < w.heap.size + 3 → w1.cell? ⟨b, j, none⟩ = _ := fun b j h => hb.cell (p := ⟨b, j, none⟩) (by simp; omega)
  have d : ∀ b j, b < w.heap.size + 3 → w1.frozen? ⟨b, j, none⟩ = _ := fun b j h => hb.frozen (p := ⟨b, j, none⟩) (by simp; omega)
  refine ⟨⟨(c _ _ (by omega)).trans ?_, (c _ _ (by omega)).trans ?_⟩, ⟨(c _ _ (by omega)).trans ?_, (c _ _ (by omega)).trans ?_⟩, fun j => (d _ _ (by omega)).trans ?_, fun j => (d _ _ (by omega)).trans ?_, by omega⟩
  all_goals simp [go_sem]

set_option maxHeartbeats 400000 in
theorem toFile_any (nm : ByteArray) (sy : Int) (da : Option Addr) (len dc : Nat) (f : Nat → Int) (w : World) (hr : Row w da len f) (hn : len ≤ 1048576) :
    Calls Tryd.prog 65 #[.agg #[.string nm, .slice da len dc, .int .i64 sy]] w fun e w' => ∃ g, e = .returned (.agg #[.string nm, .slice (some ⟨g, 0, none⟩) len len, .int .i64 sy]) ∧ w.heap.size ≤ g ∧ Own w' g 0 len f ∧ Below w.heap.size w w' := by
  go_enter Tryd.func65, Tryd.ntmps65
  go_wp2_with fail
  refine (toByteS_any da len dc f _ (hr.keep ((((Below.refl _ _).alloc (Nat.le_refl _) _).alloc (by simp) _).alloc (by simp; omega) _)) hn).mono ?_
  rintro e w1 ⟨rfl, ho, hb⟩
  obtain ⟨f2, ⟨g0, g1, g2⟩, ⟨k0, k1, k2⟩, hf1, hf2, hsz⟩ := three_new w _ _ _ _ _ _ _ _ _ _ _ _ hb
  have hbw : Below w.heap.size w w1 := ((((Below.refl _ _).alloc (Nat.le_refl _) _).alloc (by simp) _).alloc (by simp; omega) _).trans (hb.mono (by simp; omega))
  simp only [World.size_alloc] at ho
  clear hb
  go_wp2
  refine bodyPost_ret (v := .agg #[.string nm, .slice (some ⟨w.heap.size + 1 + 1 + 1, 0, none⟩) len len, .int .i64 sy]) (by simp [results, Tryd.results65, go_sem, g0, g1, g2]) rfl ⟨w.heap.size + 1 + 1 + 1, rfl, by omega, ?_, ?_⟩
  · exact (Others.setCell _ _ _ _).row ((Others.setCell _ _ _ _).row ((Others.setCell _ _ _ _).row ((Others.setCell _ _ _ _).row ((Others.setCell _ _ _ _).row ho (by omega)) (by omega)) (by omega)) (by omega)) (by omega)
  · exact ((((hbw.setCell (by simp; omega) _).setCell (by simp; omega) _).setCell (by simp) _).setCell (by simp) _).setCell (by simp) _

/-- n files of the call's own in block b, the first k of them laid, their bytes in blocks of their own. -/
structure FOwn (w : World) (b n k : Nat) (F : Nat → Fil) (G : Nat → Nat) : Prop where
  lt : b < w.heap.size
  cell : ∀ i, i < k → i < n → w.cell? ⟨b, i * 3, none⟩ = some (.string (F i).nm) ∧ w.cell? ⟨b, i * 3 + 1, none⟩ = some (.slice (some ⟨G i, 0, none⟩) (F i).len (F i).len) ∧ w.cell? ⟨b, i * 3 + 2, none⟩ = some (.int .i64 (F i).sy)
  data : ∀ i, i < k → i < n → b < G i ∧ Own w (G i) 0 (F i).len (F i).f
  mono : ∀ i j, i < j → j < k → G i < G j
  there : ∀ j, j < n * 3 → ∃ v, w.cell? ⟨b, j, none⟩ = some v
  free : ∀ j, j < n * 3 → w.frozen? ⟨b, j, none⟩ = false
section
variable {w w' : World} {b n k : Nat} {F : Nat → Fil} {G : Nat → Nat}
theorem FOwn.row (h : FOwn w b n n F G) : FRow w (some ⟨b, 0, none⟩) n F :=
  ⟨.inr ⟨b, 0, rfl, h.lt, fun i hi => by
    obtain ⟨c0, c1, c2⟩ := h.cell i hi hi
    exact ⟨_, _, by simpa using c0, by simpa using c1, by simpa using c2, (h.data i hi hi).2.row⟩⟩⟩
theorem FOwn.keep (h : FOwn w b n k F G) (hb : Below w.heap.size w w') : FOwn w' b n k F G :=
  ⟨Nat.lt_of_lt_of_le h.lt hb.size, fun i hk hi => ⟨(hb.cell (p := ⟨b, i * 3, none⟩) h.lt).trans (h.cell i hk hi).1, (hb.cell (p := ⟨b, i * 3 + 1, none⟩) h.lt).trans (h.cell i hk hi).2.1, (hb.cell (p := ⟨b, i * 3 + 2, none⟩) h.lt).trans (h.cell i hk hi).2.2⟩,
    fun i hk hi => ⟨(h.data i hk hi).1, (h.data i hk hi).2.keep hb⟩, h.mono,
    fun j hj => by obtain ⟨v, hv⟩ := h.there j hj; exact ⟨v, (hb.cell (p := ⟨b, j, none⟩) h.lt).trans hv⟩, fun j hj => (hb.frozen (p := ⟨b, j, none⟩) h.lt).trans (h.free j hj)⟩
theorem FOwn.others {c : Nat} (h : FOwn w b n k F G) (ho : Others c w w') (hne : b ≠ c) (hd : ∀ i, i < k → G i ≠ c) : FOwn w' b n k F G :=
  have cl : ∀ j, w'.cell? ⟨b, j, none⟩ = w.cell? ⟨b, j, none⟩ := fun j => World.cell?_of_block (w := w) (a := ⟨b, j, none⟩) (ho.block b hne)
  have fz : ∀ j, w'.frozen? ⟨b, j, none⟩ = w.frozen? ⟨b, j, none⟩ := fun j => World.frozen?_of_block (w := w) (a := ⟨b, j, none⟩) (ho.block b hne)
  ⟨by rw [ho.size]; exact h.lt, fun i hk hi => by rw [cl, cl, cl]; exact h.cell i hk hi, fun i hk hi => ⟨(h.data i hk hi).1, ho.row (h.data i hk hi).2 (hd i hk)⟩, h.mono, fun j hj => by rw [cl]; exact h.there j hj, fun j hj => by rw [fz]; exact h.free j hj⟩
theorem FOwn.store (h : FOwn w b n k F G) (hk : k < n) {g : Nat} (ho : Own w g 0 (F k).len (F k).f) (hg : b < g) (hm : ∀ i, i < k → G i < g) :
    FOwn (((w.setCell ⟨b, k * 3, none⟩ (.string (F k).nm)).setCell ⟨b, k * 3 + 1, none⟩ (.slice (some ⟨g, 0, none⟩) (F k).len (F k).len)).setCell ⟨b, k * 3 + 2, none⟩ (.int .i64 (F k).sy)) b n (k + 1) F (fun i => if i = k then g else G i) := by
  obtain ⟨v0, hv0⟩ := h.there (k * 3) (by omega)
  obtain ⟨v1, hv1⟩ := h.there (k * 3 + 1) (by omega)
  obtain ⟨v2, hv2⟩ := h.there (k * 3 + 2) (by omega)
  generalize hX : (Value.string (F k).nm) = X
  generalize hY : (Value.slice (some ⟨g, 0, none⟩) (F k).len (F k).len) = Y
  generalize hZ : (Value.int .i64 (F k).sy) = Z
  have ne : ∀ (i j : Nat), i ≠ j → (⟨b, i, none⟩ : Addr) ≠ ⟨b, j, none⟩ := fun i j hij hh => by injection hh with _ h3 _; exact hij h3
  have other : ∀ j, j ≠ k * 3 → j ≠ k * 3 + 1 → j ≠ k * 3 + 2 → (((w.setCell ⟨b, k * 3, none⟩ X).setCell ⟨b, k * 3 + 1, none⟩ Y).setCell ⟨b, k * 3 + 2, none⟩ Z).cell? ⟨b, j, none⟩ = w.cell? ⟨b, j, none⟩ := fun j h1 h2 h3 => by
    rw [World.cell?_setCell_other _ _ _ _ (by first | exact ne _ _ h3 | exact ne _ _ (Ne.symm h3)), World.cell?_setCell_other _ _ _ _ (by first | exact ne _ _ h2 | exact ne _ _ (Ne.symm h2)), World.cell?_setCell_other _ _ _ _ (by first | exact ne _ _ h1 | exact ne _ _ (Ne.symm h1))]
  have at0 : (((w.setCell ⟨b, k * 3, none⟩ X).setCell ⟨b, k * 3 + 1, none⟩ Y).setCell ⟨b, k * 3 + 2, none⟩ Z).cell? ⟨b, k * 3, none⟩ = some X := by
    rw [World.cell?_setCell_other _ _ _ _ (by intro hh; injection hh with _ h3 _; omega), World.cell?_setCell_other _ _ _ _ (by intro hh; injection hh with _ h3 _; omega), World.cell?_setCell_same _ _ _ hv0]
  have at1 : (((w.setCell ⟨b, k * 3, none⟩ X).setCell ⟨b, k * 3 + 1, none⟩ Y).setCell ⟨b, k * 3 + 2, none⟩ Z).cell? ⟨b, k * 3 + 1, none⟩ = some Y := by
    rw [World.cell?_setCell_other _ _ _ _ (by intro hh; injection hh with _ h3 _; omega), World.cell?_setCell_same _ _ _ (by rw [World.cell?_setCell_other _ _ _ _ (by intro hh; injection hh with _ h3 _; omega)]; exact hv1)]
  have at2 : (((w.setCell ⟨b, k * 3, none⟩ X).setCell ⟨b, k * 3 + 1, none⟩ Y).setCell ⟨b, k * 3 + 2, none⟩ Z).cell? ⟨b, k * 3 + 2, none⟩ = some Z :=
    World.cell?_setCell_same _ _ _ (by rw [World.cell?_setCell_other _ _ _ _ (by intro hh; injection hh with _ h3 _; omega), World.cell?_setCell_other _ _ _ _ (by intro hh; injection hh with _ h3 _; omega)]; exact hv2)
  have oth : Others b w (((w.setCell ⟨b, k * 3, none⟩ X).setCell ⟨b, k * 3 + 1, none⟩ Y).setCell ⟨b, k * 3 + 2, none⟩ Z) := ((Others.setCell _ _ _ _).trans (Others.setCell _ _ _ _)).trans (Others.setCell _ _ _ _)
  refine ⟨by simpa using h.lt, fun i hi hin => ?_, fun i hi hin => ?_, fun i j hij hj => ?_, fun j hj => ?_, fun j hj => by simpa using h.free j hj⟩
  · by_cases e : i = k
    · subst e
      exact ⟨by rw [at0, hX], by rw [at1]; simp [← hY], by rw [at2, hZ]⟩
    · rw [other _ (by omega) (by omega) (by omega), other _ (by omega) (by omega) (by omega), other _ (by omega) (by omega) (by omega)]
      simp only [e, if_false]
      exact h.cell i (by omega) hin
  · by_cases e : i = k
    · subst e
      simp only [if_true]
      exact ⟨hg, oth.row ho (by omega)⟩
    · simp only [e, if_false]
      have := h.data i (by omega) hin
      exact ⟨this.1, oth.row this.2 (by omega)⟩
  · by_cases e : j = k
    · subst e
      simp only [if_true, show ¬ i = j by omega, if_false]
      exact hm i hij
    · simp only [e, show ¬ i = k by omega, if_false]
      exact h.mono i j hij (by omega)
  · by_cases e0 : j = k * 3
    · subst e0; exact ⟨_, at0⟩
    · by_cases e1 : j = k * 3 + 1
      · subst e1; exact ⟨_, at1⟩
      · by_cases e2 : j = k * 3 + 2
        · subst e2; exact ⟨_, at2⟩
        · rw [other _ e0 e1 e2]; exact h.there j hj
end

set_option maxHeartbeats 400000 in
theorem toFileS_any (ao : Option Addr) (n cap : Nat) (F : Nat → Fil) (w : World) (hr : FRow w ao n F) (hn : n ≤ 1048576) (hz : FSize n F 1048576) :
    Calls Tryd.prog 41 #[.slice ao n cap] w fun e w' => ∃ G, e = .returned (.slice (some ⟨w.heap.size, 0, none⟩) n n) ∧ FOwn w' w.heap.size n n F G ∧ Below w.heap.size w w' := by
  obtain ⟨i0, hi, hz0, hz1, hz2⟩ := info_parts Tryd.infoFile
  obtain ⟨hlies⟩ := hr
  go_enter Tryd.func41, Tryd.ntmps41
  go_wp2_with (at_make; refine wpList_make_full _ rfl (.tmp 6) (.tmp 6) 26 rfl w.heap.size 73 i0 (.agg #[.string ByteArray.empty, .slice none 0 0, .int .i64 0]) 3 Tryd.underlying26 hi hz0 hz1 .i64 .i64 _ _ n rfl rfl rfl rfl (by rw [hz2]; omega) (by unfold maxLen; omega) (Nat.le_refl _) ?_; intro w1 hown hgrow)
  have hb1 : Below w.heap.size w w1 := (Below.refl _ _).grown hgrow (Nat.le_refl _) (fun k h => by simp at h)
  have hlt1 : w.heap.size < w1.heap.size := by
    rcases hown.2 with ⟨h, _⟩ | ⟨g', cap', cur, h, _, hg, _⟩
    · simp at h
    · simp at h; obtain ⟨rfl, _⟩ := h
      exact (Array.getElem?_eq_some_iff.1 hg).1
  have ho : FOwn w1 w.heap.size n 0 F (fun _ => 0) := by
    refine ⟨hlt1, fun i h _ => by omega, fun i h _ => by omega, fun i j _ h => by omega, fun j hj => ?_, fun j _ => hown.frozenAt j⟩
    have h1 := hown.cellAt j hj
    have h2 : j < (madeCells (Value.agg #[.string ByteArray.empty, .slice none 0 0, .int .i64 0]).cells (n * 3)).toList.length := by
      rw [Array.length_toList, size_madeCells]; exact hj
    exact ⟨_, h1.trans (List.getElem?_eq_getElem h2)⟩
  clear hown hgrow
  go_loopw [4] (fun i wr => ∃ (k : Nat) (G : Nat → Nat), k ≤ n ∧ i = .int .i64 k ∧ FOwn wr w.heap.size n k F G ∧ Below w.heap.size w wr) (fun i _ => n - (intOf i).toNat)
  case atStart => exact ⟨0, _, Nat.zero_le _, rfl, ho, hb1⟩
  case round =>
    obtain ⟨k, G, hk, rfl, hok, hbk⟩ := hrel
    by_cases hlt : k < n
    · obtain ⟨b, off, rfl, hblt, hc⟩ := hlies.resolve_left (by omega)
      obtain ⟨da, dc, hf⟩ := hc k hlt
      have hc1 : wr.cell? ⟨b, off + k * 3, none⟩ = some (.string (F k).nm) := (hbk.cell (p := ⟨b, off + k * 3, none⟩) hblt).trans hf.c0
      have hc2 : wr.cell? ⟨b, off + k * 3 + 1, none⟩ = some (.slice da (F k).len dc) := (hbk.cell (p := ⟨b, off + k * 3 + 1, none⟩) hblt).trans hf.c1
      have hc3 : wr.cell? ⟨b, off + k * 3 + 2, none⟩ = some (.int .i64 (F k).sy) := (hbk.cell (p := ⟨b, off + k * 3 + 2, none⟩) hblt).trans hf.c2
      have hrow := hf.row.keep hbk
      have hlen := (hz k hlt).2
      clear hc hlies ho hf
      go_wp2_with fail
      refine (toFile_any _ _ _ _ _ _ _ hrow hlen).mono ?_
      rintro e w2 ⟨g, rfl, hg, ho2, hb2⟩
      have hok2 := hok.keep hb2
      obtain ⟨v0, hv0⟩ := hok2.there (k * 3) (by omega)
      obtain ⟨v1, hv1⟩ := hok2.there (k * 3 + 1) (by omega)
      obtain ⟨v2, hv2⟩ := hok2.there (k * 3 + 2) (by omega)
      have hf0 := hok2.free (k * 3) (by omega)
      have hf1 := hok2.free (k * 3 + 1) (by omega)
      have hf2 := hok2.free (k * 3 + 2) (by omega)
      have hst := hok2.store hlt ho2 (by have := hok.lt; omega) (fun i hi => by have := (hok.data i hi (by omega)).2.lt; omega)
      have hbw : Below w.heap.size w w2 := hbk.trans (hb2.mono hbk.size)
      clear hok hok2 ho2 hb2 hrow
      go_wp2
      go_roundw
      case rel => exact ⟨k + 1, _, by omega, by go_num, hst, ((hbw.setCell (Nat.le_refl _) _).setCell (Nat.le_refl _) _).setCell (Nat.le_refl _) _⟩
      case measure => simp [intOf]; omega
    · go_wp2
      go_ret
      have e : k = n := by omega
      subst e
      exact ⟨G, rfl, hok, hbk⟩

set_option maxHeartbeats 400000 in
theorem toFiles_any (Q : Int) (ao : Option Addr) (n cap : Nat) (F : Nat → Fil) (w : World) (hr : FRow w ao n F) (hn : n ≤ 1048576) (hz : FSize n F 1048576) :
    Calls Tryd.prog 12 #[.agg #[.int .i64 Q, .slice ao n cap]] w fun e w' => ∃ g G, e = .returned (.agg #[.int .i64 Q, .slice (some ⟨g, 0, none⟩) n n]) ∧ w.heap.size ≤ g ∧ FOwn w' g n n F G ∧ Below w.heap.size w w' := by
  go_enter Tryd.func12, Tryd.ntmps12
  go_wp2_with fail
  refine (toFileS_any ao n cap F _ (hr.keep ((((Below.refl _ _).alloc (Nat.le_refl _) _).alloc (by simp) _).alloc (by simp; omega) _)) hn hz).mono ?_
  rintro e w1 ⟨G, rfl, ho, hb⟩
  obtain ⟨⟨g0, g1⟩, ⟨k0, k1⟩, hf1, hf2, hsz⟩ := two_new w _ _ _ _ _ _ _ _ _ hb
  have hbw : Below w.heap.size w w1 := ((((Below.refl _ _).alloc (Nat.le_refl _) _).alloc (by simp) _).alloc (by simp; omega) _).trans (hb.mono (by simp; omega))
  simp only [World.size_alloc] at ho
  have hd : ∀ i, i < n → w.heap.size + 1 + 1 + 1 < G i := fun i hi => (ho.data i hi hi).1
  clear hb
  go_wp2
  refine bodyPost_ret (v := .agg #[.int .i64 Q, .slice (some ⟨w.heap.size + 1 + 1 + 1, 0, none⟩) n n]) (by simp [results, Tryd.results12, go_sem, g0, g1]) rfl ⟨w.heap.size + 1 + 1 + 1, G, rfl, by omega, ?_, ?_⟩
  · refine FOwn.others (FOwn.others (FOwn.others ho (Others.setCell _ _ _ _) (by omega) ?_) (Others.setCell _ _ _ _) (by omega) ?_) (Others.setCell _ _ _ _) (by omega) ?_
    all_goals (intro i hi; have := hd i hi; omega)
  · exact ((hbw.setCell (by simp; omega) _).setCell (by simp) _).setCell (by simp) _
end Go.Proofs.YtgedpjabjoodjaaDoor
