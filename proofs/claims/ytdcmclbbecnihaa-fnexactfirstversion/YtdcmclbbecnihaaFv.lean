/- FirstVersion, in both texts, and its law. -/
import Derived.Test.YtdcmclbbecnihaaVn
namespace Go.Proofs.Ytdcmclbbecnihaa
open Go.RowKit
set_option linter.unusedSimpArgs false
set_option linter.unusedVariables false

/-- No metas. -/
def noR (_ _ : Nat) : Met := ⟨0, .empty, .empty, 0⟩
def noM (_ : Nat) : Nat := 0
/-- The first version. -/
def FvO (w : World) (e : Ending) (w' : World) : Prop :=
  ∃ g, e = .returned (.agg #[.int .i64 2, .int .i64 1, .int .i64 0, .slice (some ⟨g, 0, none⟩) 3 3]) ∧ VA w' w.heap.size w'.heap.size (some ⟨g, 0, none⟩) 3 noR noM ∧ Below w.heap.size w w'

theorem va_made {w w1 : World} {g base : Nat} (h : w1.ownsRow base 78 1 (.slice (some ⟨g, 0, none⟩) 3 3) 3 (madeCells (Value.slice none 0 0).cells (3 * 1)).toList) (hlt : g < w1.heap.size) : VO w1 g 3 3 noR noM (fun _ => none) (fun _ => 0) := by
  have hc : ∀ j, j < 3 → w1.cell? ⟨g, j, none⟩ = some (.slice none 0 0) := fun j hj => by
    rw [h.cellAt j (by omega)]
    have := made_cell (d := #[.slice none 0 0]) (k := 1) (n := 3) (i := j) (q := 0) rfl hj (by omega)
    simpa [Value.cells] using this
  exact ⟨hlt, fun i hi => hc i hi, fun i _ => .inl rfl, fun i j _ _ _ h => by simp [noM] at h, fun j hj => by rw [hc j hj]; rfl, fun j _ => h.frozenAt j⟩

theorem first_facts (w w1 : World) (base : Nat) (h : w1.ownsRow base 78 1 (.slice (some ⟨(w.alloc (.cells #[.int .i64 0, .int .i64 0, .int .i64 0, .slice none 0 0] 24)).heap.size, 0, none⟩) 3 3) 3 (madeCells (Value.slice none 0 0).cells (3 * 1)).toList) (hg : (w.alloc (.cells #[.int .i64 0, .int .i64 0, .int .i64 0, .slice none 0 0] 24)).grownBy w1 none) :
    VO w1 (w.heap.size + 1) 3 3 noR noM (fun _ => none) (fun _ => 0) ∧ VX w1 w.heap.size 0 0 0 none 0 0 ∧ (∀ j, w1.frozen? ⟨w.heap.size, j, none⟩ = false) ∧ Below w.heap.size w w1 ∧ w.heap.size + 1 < w1.heap.size := by
  have bn0 := below_new w (.cells #[.int .i64 0, .int .i64 0, .int .i64 0, .slice none 0 0] 24)
  have A0 := VX.new w 0 0 0 none 0 0 24
  have hb1 : Below (w.alloc (.cells #[.int .i64 0, .int .i64 0, .int .i64 0, .slice none 0 0] 24)).heap.size (w.alloc (.cells #[.int .i64 0, .int .i64 0, .int .i64 0, .slice none 0 0] 24)) w1 := (Below.refl _ _).grown hg (Nat.le_refl _) (fun k h => by simp at h)
  have hs0 : (w.alloc (.cells #[.int .i64 0, .int .i64 0, .int .i64 0, .slice none 0 0] 24)).heap.size = w.heap.size + 1 := by simp
  rw [hs0] at h
  have hlt1 : w.heap.size + 1 < w1.heap.size := by
    rcases h.2 with ⟨h, _⟩ | ⟨g', cap', cur, h, _, hg, _⟩
    · simp at h
    · simp at h; obtain ⟨rfl, _⟩ := h
      exact (Array.getElem?_eq_some_iff.1 hg).1
  exact ⟨va_made (w := w) h hlt1, A0.keep hb1, fun j => (hb1.frozen (p := ⟨w.heap.size, j, none⟩) A0.lt).trans (by simp [go_sem]), bn0.trans (hb1.mono bn0.size), hlt1⟩

set_option maxRecDepth 10000 in
set_option maxHeartbeats 800000 in
theorem firstVersion_impl (w : World) : Calls Try.prog 11 #[] w fun e w' => FvO w e w' := by
  obtain ⟨i0, hi, hz0, hz1, hz2⟩ := info_parts Try.infoMS
  go_enter Try.func11, Try.ntmps11
  go_wp2_with (at_make; refine wpList_make_full _ rfl (.const (.int .i64 3)) (.const (.int .i64 3)) 22 rfl w.heap.size 78 i0 (.slice none 0 0) 1 Try.underlying22 hi hz0 hz1 .i64 .i64 _ _ 3 rfl rfl rfl rfl (by rw [hz2]; omega) (by unfold maxLen; omega) (by simp) ?_; intro w1 hown hgrow; obtain ⟨hV, ⟨l0, x0, x1, x2, x3⟩, ff, bw1, hlt⟩ := first_facts w w1 _ hown hgrow; have f0 := ff 0; have f1 := ff 1; have f2 := ff 2; have f3 := ff 3; clear hown hgrow ff)
  refine bodyPost_ret (v := .agg #[.int .i64 2, .int .i64 1, .int .i64 0, .slice (some ⟨w.heap.size + 1, 0, none⟩) 3 3]) (by simp [results, Try.results11, go_sem, x0, x1, x2, x3]) rfl ⟨w.heap.size + 1, rfl, ⟨Nat.le_refl _, .inr ⟨w.heap.size + 1, fun _ => none, fun _ => 0, rfl, by omega, by simpa using hlt, ?_, fun i _ h => by simp [noM] at h⟩⟩, ?_⟩
  · refine hV.same (by simp) ?_ (fun i _ h => by simp [noM] at h)
    repeat' refine (Below.heap_setCell _ _ _ _ (by first | omega | (dsimp only; omega))).trans ?_
    rfl
  · repeat' refine Below.setCell ?_ (by first | (simp; done) | (simp; omega)) _
    exact bw1

set_option maxRecDepth 10000 in
set_option maxHeartbeats 800000 in
theorem l9First_any (w : World) : Calls Try.prog 45 #[] w fun e w' => FvO w e w' := by
  obtain ⟨i0, hi, hz0, hz1, hz2⟩ := info_parts Try.infoMS
  go_enter Try.func45, Try.ntmps45
  go_wp2_with (at_make; refine wpList_make_full _ rfl (.const (.int .i64 3)) (.const (.int .i64 3)) 22 rfl w.heap.size 78 i0 (.slice none 0 0) 1 Try.underlying22 hi hz0 hz1 .i64 .i64 _ _ 3 rfl rfl rfl rfl (by rw [hz2]; omega) (by unfold maxLen; omega) (by simp) ?_; intro w1 hown hgrow; obtain ⟨hV, ⟨l0, x0, x1, x2, x3⟩, ff, bw1, hlt⟩ := first_facts w w1 _ hown hgrow; have f0 := ff 0; have f1 := ff 1; have f2 := ff 2; have f3 := ff 3; clear hown hgrow ff)
  refine bodyPost_ret (v := .agg #[.int .i64 2, .int .i64 1, .int .i64 0, .slice (some ⟨w.heap.size + 1, 0, none⟩) 3 3]) (by simp [results, Try.results45, go_sem, x0, x1, x2, x3]) rfl ⟨w.heap.size + 1, rfl, ⟨Nat.le_refl _, .inr ⟨w.heap.size + 1, fun _ => none, fun _ => 0, rfl, by omega, by simpa using hlt, ?_, fun i _ h => by simp [noM] at h⟩⟩, ?_⟩
  · refine hV.same (by simp) ?_ (fun i _ h => by simp [noM] at h)
    repeat' refine (Below.heap_setCell _ _ _ _ (by first | omega | (dsimp only; omega))).trans ?_
    rfl
  · repeat' refine Below.setCell ?_ (by first | (simp; done) | (simp; omega)) _
    exact bw1

set_option maxRecDepth 10000 in
set_option maxHeartbeats 800000 in
theorem firstVersion_spec (w : World) : Calls Try.prog 10 #[] w fun e w' => FvO w e w' := by
  have bn0 := below_new w (.cells #[.int .i64 0, .int .i64 0, .int .i64 0, .slice none 0 0] 24)
  have A0 := VX.new w 0 0 0 none 0 0 24
  have F0 : ∀ j, (w.alloc (.cells #[.int .i64 0, .int .i64 0, .int .i64 0, .slice none 0 0] 24)).frozen? ⟨w.heap.size, j, none⟩ = false := fun j => by simp [go_sem]
  have hs0 : Hid ((w.alloc (.cells #[.int .i64 0, .int .i64 0, .int .i64 0, .slice none 0 0] 24)).heap.size = w.heap.size + 1) := by simp [Hid]
  go_enter Try.func10, Try.ntmps10
  go_wp2_with fail
  generalize w.alloc (.cells #[.int .i64 0, .int .i64 0, .int .i64 0, .slice none 0 0] 24) = w0 at *
  refine (l9First_any w0).mono ?_
  rintro e w1 ⟨g, rfl, hV, hb1⟩
  obtain ⟨l0, x0, x1, x2, x3⟩ := A0.keep hb1
  have f0 := (hb1.frozen (p := ⟨w.heap.size, 0, none⟩) A0.lt).trans (F0 0)
  have f1 := (hb1.frozen (p := ⟨w.heap.size, 1, none⟩) A0.lt).trans (F0 1)
  have f2 := (hb1.frozen (p := ⟨w.heap.size, 2, none⟩) A0.lt).trans (F0 2)
  have f3 := (hb1.frozen (p := ⟨w.heap.size, 3, none⟩) A0.lt).trans (F0 3)
  have bw1 := bn0.trans (hb1.mono bn0.size)
  clear hb1 F0 A0
  go_wp2
  refine bodyPost_ret (v := .agg #[.int .i64 2, .int .i64 1, .int .i64 0, .slice (some ⟨g, 0, none⟩) 3 3]) (by simp [results, Try.results10, go_sem, x0, x1, x2, x3]) rfl ⟨g, rfl, ?_, ?_⟩
  · have hV2 : ∀ W, w1.heap.size = W.heap.size → (∀ c, w0.heap.size ≤ c → W.heap[c]? = w1.heap[c]?) → VA W w.heap.size W.heap.size (some ⟨g, 0, none⟩) 3 noR noM := fun W hs hc => by
      have h1 := hV.same (w' := W) (by omega) (fun c h1 _ => hc c h1)
      exact h1.mono (by have := hs0.out; omega) (by omega) (Nat.le_refl _)
    refine hV2 _ (by simp) fun c hc => ?_
    repeat' refine (Below.heap_setCell _ _ _ _ (by have := hs0.out; first | omega | (dsimp only; omega))).trans ?_
    rfl
  · repeat' refine Below.setCell ?_ (by first | (simp; done) | (simp; omega)) _
    exact bw1

theorem VA.vrow0 {w : World} {lo hi : Nat} {ao : Option Addr} (h : VA w lo hi ao 3 noR noM) : VRow w ao 3 noR noM := h.row (fun i _ j hj => by simp [noM] at hj) (fun i _ => by simp [noM])
theorem sum0 : 1 + 4 * sumM noM 3 = 1 := rfl

set_option maxRecDepth 10000 in
set_option maxHeartbeats 1600000 in
theorem firstVersion_law (w : World) : Calls Try.prog 3 #[] w fun e w' => e = .returned (.bool true) ∧ Below w.heap.size w w' := by
  have hM : ∀ i, i < 3 → noM i ≤ 1048576 := fun i _ => by simp [noM]
  have HM : Hid (∀ i, i < 3 → noM i ≤ 1048576) := hM
  clear hM
  have hk1 : ¬ ((1 + 4 * sumM noM 3 : Nat) : Int) < 0 := by omega
  have hsm : sumM noM 3 ≤ 1048576 := by show 0 ≤ _; omega
  have hsm2 : 1 + 4 * sumM noM 3 ≤ 16000000 := by show 1 ≤ _; omega
  have hmark := fun (lo hi : Nat) (ao : Option Addr) (W : World) (h : VA W lo hi ao 3 noR noM) => markVersion_any 2 1 0 lo hi ao 3 3 1 noR noM W h (by omega) (by omega) hsm hsm2
  have hheld := fun (ao : Option Addr) (W : World) (h : VRow W ao 3 (mkR noM 1) noM) => heldVersion_yes 2 1 0 ao 3 3 1 noM W h (by omega) (by omega) hsm hsm2
  generalize ((1 + 4 * sumM noM 3 : Nat) : Int) = kk at hk1 hmark hheld
  go_enter Try.func3, Try.ntmps3
  go_wp2_with fail
  refine (firstVersion_spec w).mono ?_
  rintro e w1 ⟨g1, rfl, V1, bw1⟩
  have bn1 := below_new w1 (.cells #[.int .i64 2, .int .i64 1, .int .i64 0, .slice (some ⟨g1, 0, none⟩) 3 3] 24)
  have W2 := VX.new w1 2 1 0 (some ⟨g1, 0, none⟩) 3 3 24
  have V2 := V1.keep bn1
  have bw2 := bw1.trans (bn1.mono bw1.size)
  have s12 : w1.heap.size < (w1.alloc (.cells #[.int .i64 2, .int .i64 1, .int .i64 0, .slice (some ⟨g1, 0, none⟩) 3 3] 24)).heap.size := by simp
  have s01 := bw1.size
  clear V1 bn1
  go_wp2_with fail
  generalize w1.alloc (.cells #[.int .i64 2, .int .i64 1, .int .i64 0, .slice (some ⟨g1, 0, none⟩) 3 3] 24) = w2 at *
  refine (firstVersion_impl w2).mono ?_
  rintro e w3 ⟨g3, rfl, V3, hb3⟩
  have bn3 := below_new w3 (.cells #[.int .i64 2, .int .i64 1, .int .i64 0, .slice (some ⟨g3, 0, none⟩) 3 3] 24)
  have X4 := VX.new w3 2 1 0 (some ⟨g3, 0, none⟩) 3 3 24
  have V4 := V3.keep bn3
  have U4 := (V2.keep hb3).keep bn3
  have W4 := (W2.keep hb3).keep bn3
  have bw3 := bw2.trans (hb3.mono bw2.size)
  have bw4 := bw3.trans (bn3.mono bw3.size)
  have s34 : w3.heap.size < (w3.alloc (.cells #[.int .i64 2, .int .i64 1, .int .i64 0, .slice (some ⟨g3, 0, none⟩) 3 3] 24)).heap.size := by simp
  have s23 := hb3.size
  clear V2 W2 V3 bn3 hb3
  obtain ⟨_, p0, p1, p2, p3⟩ := id W4
  go_wp2_with fail
  generalize w3.alloc (.cells #[.int .i64 2, .int .i64 1, .int .i64 0, .slice (some ⟨g3, 0, none⟩) 3 3] 24) = w4 at *
  refine (eqVersion_same 2 1 0 _ _ 3 3 3 noR noM w4 V4.vrow0 U4.vrow0 (by omega) HM.out).mono ?_
  rintro e w5 ⟨rfl, hb5⟩
  have V5 := V4.keep hb5
  have U5 := U4.keep hb5
  have W5 := W4.keep hb5
  have X5 := X4.keep hb5
  have bw5 := bw4.trans (hb5.mono bw4.size)
  have s45 := hb5.size
  clear V4 U4 W4 X4 hb5 p0 p1 p2 p3
  obtain ⟨_, q0, q1, q2, q3⟩ := id X5
  go_wp2_with fail
  refine (hmark _ _ _ w5 V5).mono ?_
  rintro e w6 ⟨rfl, V6, hr6⟩
  have U6 := U5.same hr6.size (fun c _ h2 => hr6.block c (by omega) (.inl (by omega)))
  have W6 := W5.same hr6.size (hr6.block _ W5.lt (.inl (by omega)))
  have X6 := X5.same hr6.size (hr6.block _ X5.lt (.inr (by omega)))
  have bw6 : Below w.heap.size w w6 := bw5.trans (hr6.below (by omega) bw5.size)
  have V6' : VRow w6 (some ⟨g3, 0, none⟩) 3 (mkR noM 1) noM := V6.row (fun i _ j hj => by simp [noM] at hj) (fun i _ => by simp [noM])
  clear V5 V6 U5 W5 X5 hr6 q0 q1 q2 q3
  obtain ⟨_, q0, q1, q2, q3⟩ := id X6
  go_wp2_with fail
  refine (hheld _ w6 V6').mono ?_
  rintro e w7 ⟨rfl, hb7⟩
  have U7 := U6.keep hb7
  have V7 := V6'.keep hb7
  have W7 := W6.keep hb7
  have X7 := X6.keep hb7
  have bw7 := bw6.trans (hb7.mono bw6.size)
  clear U6 V6' W6 X6 hb7 q0 q1 q2 q3
  go_wp2_with fail
  refine (firstVersion_impl w7).mono ?_
  rintro e w8 ⟨g8, rfl, V8, hb8⟩
  have bn8 := below_new w8 (.cells #[.int .i64 2, .int .i64 1, .int .i64 0, .slice (some ⟨g8, 0, none⟩) 3 3] 24)
  have H9 := V8.keep bn8
  have U9 := (U7.keep hb8).keep bn8
  have V9 := (V7.keep hb8).keep bn8
  have W9 := (W7.keep hb8).keep bn8
  have X9 := (X7.keep hb8).keep bn8
  have bw8 := bw7.trans (hb8.mono bw7.size)
  have bw9 := bw8.trans (bn8.mono bw8.size)
  clear U7 V7 W7 X7 V8 bn8 hb8
  obtain ⟨_, p0, p1, p2, p3⟩ := id W9
  go_wp2_with fail
  generalize w8.alloc (.cells #[.int .i64 2, .int .i64 1, .int .i64 0, .slice (some ⟨g8, 0, none⟩) 3 3] 24) = w9 at *
  refine (eqVersion_same 2 1 0 _ _ 3 3 3 noR noM w9 H9.vrow0 U9.vrow0 (by omega) HM.out).mono ?_
  rintro e w10 ⟨rfl, hb10⟩
  have V10 := V9.keep hb10
  have X10 := X9.keep hb10
  have bw10 := bw9.trans (hb10.mono bw9.size)
  clear V9 U9 W9 X9 hb10 H9 p0 p1 p2 p3
  obtain ⟨_, q0, q1, q2, q3⟩ := id X10
  go_wp2_with fail
  refine (hheld _ w10 V10).mono ?_
  rintro e w11 ⟨rfl, hb11⟩
  have bw11 := bw10.trans (hb11.mono bw10.size)
  clear hb11
  go_wp2
  go_ret
  exact ⟨rfl, bw11⟩
end Go.Proofs.Ytdcmclbbecnihaa
