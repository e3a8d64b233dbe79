/- LiveIn, in both texts. / PackRows and LiveIn of no rows at all; SplitRows of no entries. -/
import Derived.Test.YtmeckcaekkangaaGreatPr
import Derived.Test.YtmeckcaekkangaaGreatSm
namespace Go.Proofs.YtmeckcaekkangaaGreat
set_option maxRecDepth 100000
open Go.RowKit
set_option linter.unusedSimpArgs false
set_option linter.unusedVariables false

set_option maxHeartbeats 4000000 in
theorem liveIn_impl (b off N cap : Nat) (D : Nat → List Ent) (w : World) (hr : LR w b off N D) (hN : N ≤ 1048576) (hs : sm D N ≤ 1048576) (hz : ∀ i, i < N → ESize (D i).length (eL (D i))) (hSm : RowsOk N D → SmL (mg N D)) :
    Calls Tryz.prog 8 #[.slice (some ⟨b, off, none⟩) N cap] w fun e w' => PrO N D true w e w' := by
  have hp := packRows_impl b off N cap D true w hr hN hs hz hSm
  obtain ⟨E, c, hA, hB⟩ : ∃ (E : List Ent) (c : Bool), (∀ e w', PrO N D true w e w' → AnE E c w e w') ∧ (∀ e w', AnE E c w e w' → PrO N D true w e w') := by
    by_cases h : RowsOk N D
    · exact ⟨_, _, fun e w' hh => hh.1 h, fun e w' hh => ⟨fun _ => hh, fun h2 => absurd h h2⟩⟩
    · exact ⟨_, _, fun e w' hh => hh.2 h, fun e w' hh => ⟨fun h2 => absurd h2 h, fun _ => hh⟩⟩
  have hp2 : Calls Tryz.prog 5 #[.slice (some ⟨b, off, none⟩) N cap, .bool true] w fun e w' => AnE E c w e w' := hp.mono fun e w' h => hA e w' h
  have HB : Hid (∀ e w', AnE E c w e w' → PrO N D true w e w') := hB
  clear hp hA hB hSm hz
  go_enter Tryz.func8, Tryz.ntmps8
  go_wp2_with fail
  refine hp2.mono ?_
  rintro e w1 ⟨v, rfl, hv, hb1⟩
  obtain ⟨lo, lc, rfl⟩ := hv.form
  go_wp2
  exact bodyPost_ret (v := .tuple #[.slice lo E.length lc, .bool c]) (by simp [results, Tryz.results8, go_sem]) rfl (HB.out _ _ ⟨_, rfl, hv, hb1⟩)

/-- What is told of a run. -/
theorem run_live {E : List Ent} (hg : GoodLs E) (h3 : E.length ≤ 300) {W : World} {g i : Nat} (hi : i < (rn (eL E) E.length).length) (h : LR W g 0 (rn (eL E) E.length).length (gR (rn (eL E) E.length))) :
    ∃ b off c d0 c0, W.cell? ⟨g, i, none⟩ = some (.slice (some ⟨b, off, none⟩) (gR (rn (eL E) E.length) i).length c) ∧ 0 < (gR (rn (eL E) E.length) i).length ∧ EAt W b off (eL (gR (rn (eL E) E.length) i) 0) d0 c0 ∧
      ((NoF (eL (gR (rn (eL E) E.length) i)) (gR (rn (eL E) E.length) i).length ∧ pkX (eL (gR (rn (eL E) E.length) i)) (gR (rn (eL E) E.length) i).length true = [] ∧ (∀ W', Below W.heap.size W W' → Calls Tryz.prog 58 #[.slice (some ⟨b, off, none⟩) (gR (rn (eL E) E.length) i).length c] W' fun e w' => FlO dE false W' e w')) ∨
       ∃ y : Ent, pkX (eL (gR (rn (eL E) E.length) i)) (gR (rn (eL E) E.length) i).length true = [⟨(eL (gR (rn (eL E) E.length) i) 0).key, (eL (gR (rn (eL E) E.length) i) 0).seq, 1, y.c, y.s, y.lo, y.hi, y.n, y.f, y.fu⟩] ∧ (∀ W', Below W.heap.size W W' → Calls Tryz.prog 58 #[.slice (some ⟨b, off, none⟩) (gR (rn (eL E) E.length) i).length c] W' fun e w' => FlO y true W' e w')) := by
  obtain ⟨p, c, h1, h2, h4⟩ := h.row i hi
  obtain ⟨g1, g2, g3, g4⟩ := run_ok hg hi
  obtain ⟨b, off, rfl, hlt, hc⟩ := h4.lies.resolve_left (by omega)
  obtain ⟨d0, c0, ea, _⟩ := hc 0 g2
  rw [Nat.zero_mul, Nat.add_zero] at ea
  have hf := fun W' (hW : Below W.heap.size W W') => l5Fold_any b off _ c _ W' (h4.keep hW) g3.1 (by omega)
  refine ⟨b, off, c, d0, c0, by rw [Nat.zero_add] at h1; exact h1, g2, ea, ?_⟩
  by_cases hN : NoF (eL (gR (rn (eL E) E.length) i)) (gR (rn (eL E) E.length) i).length
  · exact .inl ⟨hN, by unfold pkX; rw [show (if (gR (rn (eL E) E.length) i).length = 0 ∨ (eL (gR (rn (eL E) E.length) i) 0).kind = 2 then (if (gR (rn (eL E) E.length) i).length = 0 ∨ true = true then [] else [eL (gR (rn (eL E) E.length) i) 0]) else [pk1 (eL (gR (rn (eL E) E.length) i)) (gR (rn (eL E) E.length) i).length true]) = _ from if_pos hN]; simp, fun W' hW => (hf W' hW).mono fun e w' hh => hh.1 hN⟩
  · refine .inr ⟨fdA (eL (gR (rn (eL E) E.length) i)) (gR (rn (eL E) E.length) i).length, ?_, fun W' hW => (hf W' hW).mono fun e w' hh => hh.2 hN⟩
    unfold pkX
    rw [show (if (gR (rn (eL E) E.length) i).length = 0 ∨ (eL (gR (rn (eL E) E.length) i) 0).kind = 2 then (if (gR (rn (eL E) E.length) i).length = 0 ∨ true = true then [] else [eL (gR (rn (eL E) E.length) i) 0]) else [pk1 (eL (gR (rn (eL E) E.length) i)) (gR (rn (eL E) E.length) i).length true]) = _ from if_neg hN]
    simp [pk1]

end Go.Proofs.YtmeckcaekkangaaGreat
namespace Go.Proofs.YtmeckcaekkangaaGreat
set_option maxRecDepth 100000
open Go.RowKit
set_option linter.unusedSimpArgs false
set_option linter.unusedVariables false

theorem fewRows_none (w : World) : Calls Tryz.prog 28 #[.slice none 0 0] w fun e w' => e = .returned (.bool true) ∧ w' = w := by
  go_enter Tryz.func28, Tryz.ntmps28
  go_wp2
  go_loopw [3, 8] (fun q i wr => i = .int .i64 0 ∧ q = .int .i64 0 ∧ wr = w) (fun _ _ _ => 0)
  case atStart => exact ⟨rfl, rfl, rfl⟩
  case round =>
    obtain ⟨rfl, rfl, rfl⟩ := hrel
    go_wp2
    go_ret
    exact ⟨rfl, rfl⟩
theorem addEntries_none (w : World) : Calls Tryz.prog 23 #[.slice none 0 0, .slice none 0 0] w fun e w' => e = .returned (.slice none 0 0) ∧ w' = w := by
  go_enter Tryz.func23, Tryz.ntmps23
  go_wp2
  go_loopw [0, 9] (fun q i wr => i = .int .i64 0 ∧ q = .slice none 0 0 ∧ wr = w) (fun _ _ _ => 0)
  case atStart => exact ⟨rfl, rfl, rfl⟩
  case round =>
    obtain ⟨rfl, rfl, rfl⟩ := hrel
    go_wp2
    go_ret
    exact ⟨rfl, rfl⟩
theorem erow_none (w : World) (ao : Option Addr) (X : Nat → Ent) : ERow w ao 0 X := ⟨fun i hi => absurd hi (Nat.not_lt_zero _), .inl rfl⟩
theorem esize_none (X : Nat → Ent) : ESize 0 X := fun i hi => absurd hi (Nat.not_lt_zero _)
theorem goodL_none : GoodL (eL []) 0 := (good_iff (E := [])).2 ⟨fun x hx => (nomatch hx), List.Pairwise.nil, List.Pairwise.nil⟩
theorem goodEntries_none (ao : Option Addr) (cap : Nat) (w : World) : Calls Tryz.prog 9 #[.slice ao 0 cap] w fun e w' => e = .returned (.bool true) ∧ Below w.heap.size w w' := by
  refine (goodEntries_impl ao 0 cap (eL []) w (erow_none _ _ _) (by omega) (esize_none _)).mono ?_
  rintro e w' ⟨b, rfl, h, hb⟩
  have := h.2 (goodL_none)
  subst this
  exact ⟨rfl, hb⟩
theorem joinRows_none (w : World) : Calls Tryz.prog 13 #[.slice none 0 0] w fun e w' => e = .returned (.tuple #[.slice none 0 0, .bool true]) ∧ Below w.heap.size w w' := by
  go_enter Tryz.func13, Tryz.ntmps13
  go_wp2_with fail
  refine (fewRows_none w).mono ?_
  rintro e w1 ⟨rfl, rfl⟩
  go_wp2_with fail
  refine (drain_none _).mono ?_
  rintro e w2 ⟨rfl, rfl⟩
  go_wp2_with fail
  refine (goodEntries_none none 0 _).mono ?_
  rintro e w3 ⟨rfl, hb3⟩
  go_wp2_with fail
  refine (addEntries_none _).mono ?_
  rintro e w4 ⟨rfl, rfl⟩
  go_wp2
  go_ret2
  exact ⟨rfl, hb3⟩
theorem rowsOk_none (D : Nat → List Ent) : RowsOk 0 D := ⟨by omega, by simp [sm], fun i hi => absurd hi (Nat.not_lt_zero _), by simp [fl]⟩
theorem mg_zero (D : Nat → List Ent) : mg 0 D = [] := List.eq_nil_of_length_eq_zero (by rw [mg_len]; simp [sm])
theorem prO_none (D : Nat → List Ent) (bt : Bool) {w w' : World} (hb : Below w.heap.size w w') : PrO 0 D bt w (.returned (.tuple #[.slice none 0 0, .bool true])) w' := by
  refine ⟨fun _ => ?_, fun h => absurd (rowsOk_none D) h⟩
  rw [mg_zero]
  exact ⟨_, rfl, ca_nil _ _ _ _, hb⟩
theorem packRows_impl_none (D : Nat → List Ent) (bt : Bool) (w : World) : Calls Tryz.prog 5 #[.slice none 0 0, .bool bt] w fun e w' => PrO 0 D bt w e w' := by
  have hp := fun W => @prO_none D bt w W
  go_enter Tryz.func5, Tryz.ntmps5
  go_wp2_with fail
  refine (joinRows_none w).mono ?_
  rintro e w1 ⟨rfl, hb1⟩
  go_wp2_with fail
  refine (keyRuns_zero none 0 _).mono ?_
  rintro e w2 ⟨rfl, rfl⟩
  have hq := hp _ hb1
  clear hp
  go_wp2
  go_loopw [8, 23] (fun u i wr => i = .int .i64 0 ∧ u = .slice none 0 0 ∧ wr = w2) (fun _ _ _ => 0)
  case atStart => exact ⟨rfl, rfl, rfl⟩
  case round =>
    obtain ⟨rfl, rfl, rfl⟩ := hrel
    go_wp2
    go_ret2
    exact hq
theorem liveIn_impl_none (D : Nat → List Ent) (w : World) : Calls Tryz.prog 8 #[.slice none 0 0] w fun e w' => PrO 0 D true w e w' := by
  have hp := fun W => @prO_none D true w W
  have h2 : Calls Tryz.prog 5 #[.slice none 0 0, .bool true] w fun e w' => AnE [] true w e w' := (packRows_impl_none D true w).mono fun e w' h => by
    have := h.1 (rowsOk_none D)
    rw [mg_zero] at this
    exact this
  have H : Hid (∀ e w', AnE [] true w e w' → PrO 0 D true w e w') := fun e w' h => ⟨fun _ => by rw [mg_zero]; exact h, fun h2 => absurd (rowsOk_none D) h2⟩
  clear hp
  go_enter Tryz.func8, Tryz.ntmps8
  go_wp2_with fail
  refine h2.mono ?_
  rintro e w1 ⟨v, rfl, hv, hb1⟩
  obtain ⟨lo, lc, rfl⟩ := hv.form
  go_wp2
  exact bodyPost_ret (v := .tuple #[.slice lo ([] : List Ent).length lc, .bool true]) (by simp [results, Tryz.results8, go_sem]) rfl (H.out _ _ ⟨_, rfl, hv, hb1⟩)
theorem l8Rows_none (w : World) : Calls Tryz.prog 16 #[.slice none 0 0] w fun e w' => e = .returned (.bool true) ∧ w' = w := by
  go_enter Tryz.func16, Tryz.ntmps16
  go_wp2
  go_loopw [3, 17] (fun q i wr => i = .int .i64 0 ∧ q = .slice none 0 0 ∧ wr = w) (fun _ _ _ => 0)
  case atStart => exact ⟨rfl, rfl, rfl⟩
  case round =>
    obtain ⟨rfl, rfl, rfl⟩ := hrel
    go_wp2
    go_ret
    exact ⟨rfl, rfl⟩
set_option maxHeartbeats 2000000 in
theorem l8Join_none (w : World) : Calls Tryz.prog 36 #[.slice none 0 0] w fun e w' => e = .returned (.slice none 0 0) ∧ Below w.heap.size w w' := by
  obtain ⟨i0, hi, hz0, hz1, hz2⟩ := info_parts Tryz.infoInt
  go_enter Tryz.func36, Tryz.ntmps36
  go_wp2_with (at_make; refine wpList_make_full _ rfl (.tmp 9) (.tmp 9) 44 rfl w.heap.size 3 i0 (.int .i64 0) 1 Tryz.underlying44 hi hz0 hz1 .i64 .i64 _ _ 0 rfl rfl rfl rfl (by rw [hz2]; omega) (by unfold maxLen; omega) (Nat.le_refl _) ?_; intro w1 hown hgrow)
  have hb1 : Below w.heap.size w w1 := (Below.refl _ _).grown hgrow (Nat.le_refl _) (fun k h => by simp at h)
  clear hown hgrow
  go_loopw [3] (fun u wr => u = .slice none 0 0 ∧ wr = w1) (fun _ _ => 0)
  case atStart => exact ⟨rfl, rfl⟩
  case round =>
    obtain ⟨rfl, rfl⟩ := hrel
    go_wp2
    go_loopw [5, 13] (fun q i W => i = .int .i64 0 ∧ q = .int .i64 (-1) ∧ W = wr) (fun _ _ _ => 0)
    case atStart => exact ⟨rfl, rfl, rfl⟩
    case round =>
      obtain ⟨rfl, rfl, rfl⟩ := hrel
      go_wp2
      go_ret
      exact ⟨rfl, hb1⟩
theorem packRows_spec_none (D : Nat → List Ent) (bt : Bool) (w : World) : Calls Tryz.prog 6 #[.slice none 0 0, .bool bt] w fun e w' => PrO 0 D bt w e w' := by
  have hp := fun W => @prO_none D bt w W
  have hall : Calls Tryz.prog 17 #[.slice none 0 0, .bool bt] w fun e w' => e = .returned (.slice none 0 0) ∧ Below w.heap.size w w' := by
    go_enter Tryz.func17, Tryz.ntmps17
    go_wp2_with fail
    refine (l8Join_none w).mono ?_
    rintro e w1 ⟨rfl, hb1⟩
    go_wp2_with fail
    refine (l8Each_zero none 0 _).mono ?_
    rintro e w2 ⟨rfl, rfl⟩
    go_wp2
    go_loopw [5, 12] (fun u i wr => i = .int .i64 0 ∧ u = .slice none 0 0 ∧ wr = w2) (fun _ _ _ => 0)
    case atStart => exact ⟨rfl, rfl, rfl⟩
    case round =>
      obtain ⟨rfl, rfl, rfl⟩ := hrel
      go_wp2
      go_ret
      exact ⟨rfl, hb1⟩
  go_enter Tryz.func6, Tryz.ntmps6
  go_wp2_with fail
  refine (l8Rows_none w).mono ?_
  rintro e w1 ⟨rfl, rfl⟩
  go_wp2_with fail
  refine hall.mono ?_
  rintro e w2 ⟨rfl, hb2⟩
  have hq := hp _ hb2
  clear hp
  go_wp2
  go_ret2
  exact hq
theorem splitRows_none (ao : Option Addr) (cap : Nat) (w : World) : Calls Tryz.prog 10 #[.slice ao 0 cap, .int .i64 3] w fun e w' => e = .returned (.tuple #[.slice none 0 0, .bool true]) ∧ Below w.heap.size w w' := by
  go_enter Tryz.func10, Tryz.ntmps10
  go_wp2_with fail
  refine (goodEntries_none ao cap _).mono ?_
  rintro e w1 ⟨rfl, hb1⟩
  go_wp2_with fail
  refine (keyRuns_zero ao cap _).mono ?_
  rintro e w2 ⟨rfl, rfl⟩
  go_wp2
  go_loopw [6, 29] (fun u i wr => i = .int .i64 0 ∧ u = .slice none 0 0 ∧ wr = w2) (fun _ _ _ => 0)
  case atStart => exact ⟨rfl, rfl, rfl⟩
  case round =>
    obtain ⟨rfl, rfl, rfl⟩ := hrel
    go_wp2
    go_ret2
    exact ⟨rfl, hb1⟩
end Go.Proofs.YtmeckcaekkangaaGreat
