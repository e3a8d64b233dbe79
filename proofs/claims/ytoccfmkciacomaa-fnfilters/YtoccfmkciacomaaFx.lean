/- The bytes of a filter, their room told; bytes as texts. -/
import Derived.Test.YtoccfmkciacomaaFm
import Derived.Test.YtoccfmkciacomaaFs
import Derived.Test.YtoccfmkciacomaaDr
import Derived.Laws.BytesArg
namespace Go.Proofs.Ytoccfmkciacomaa
open Go.RowKit
set_option linter.unusedSimpArgs false
set_option linter.unusedVariables false

theorem conv_row (w : World) (ao : Option Addr) (c : Nat) (L : List Int) (hr : Row w ao L.length (fl L)) : (convert 22 9 (.slice ao L.length c)).run Try.prog w = .ok (.string (strOfNums L)) w := by
  by_cases h0 : L.length = 0
  · have e : L = [] := List.eq_nil_of_length_eq_zero h0
    subst e
    cases ao with
    | none => exact run_convert_bytes_nil (P := Try.prog) w 22 5 Try.underlying22 Try.underlying5 0 c 9 Try.underlying9
    | some p =>
      show (convert 22 9 (.slice (some p) 0 c)).run Try.prog w = .ok (.string (strOfNums [])) w
      rw [run_convert_bytes_string w 22 9 5 (some p) 0 c Try.underlying22 Try.underlying5 Try.underlying9, run_bytesToString w p 0 c [] (by simp [loadCells, loadCellsFrom])]
      rfl
  · obtain ⟨b, off, rfl, hlt, hc⟩ := hr.lies.resolve_left h0
    exact run_convert_bytes_arg (P := Try.prog) w 22 5 Try.underlying22 Try.underlying5 b off L.length c L rfl (fun i hi => hc i hi) 9 Try.underlying9

theorem str_same (s : ByteArray) : (s.toList == s.toList) = true := by simp
/-- What FilterBytes answers of a good filter. -/
def FBX (y : Int) (n : Nat) (f : Nat → Int) (w : World) (e : Ending) (w' : World) : Prop :=
  ∃ g, e = .returned (.tuple #[.slice (some ⟨g, 0, none⟩) (n + 1) (n + 1), .bool true]) ∧ Own w' g 0 (n + 1) (fl (fbL y f n)) ∧ Below w.heap.size w w'
set_option maxHeartbeats 1000000 in
theorem filterBytes_implX (y : Int) (ao : Option Addr) (n cap : Nat) (f : Nat → Int) (w : World) (hr : Row w ao n f) (hn : n ≤ 1048576) (hgood : Hid (GoodF y n)) :
    Calls Try.prog 8 #[.agg #[.int .i64 y, .slice ao n cap]] w fun e w' => FBX y n f w e w' := by
  obtain ⟨i0, hi, hz0, hz1, hz2⟩ := info_parts Try.info5
  have hB := below_new w (.cells #[.int .i64 y, .slice ao n cap] 27)
  have A0 := FAt.new w y (.slice ao n cap) 27
  go_enter Try.func8, Try.ntmps8
  go_wp2_with fail
  refine (goodFilter_impl y ao n cap _ hn).mono ?_
  rintro e w1 ⟨b1, rfl, h1, q1⟩
  have A1 := A0.keep q1
  have B1 : Below w.heap.size w w1 := hB.trans (q1.mono (by simp))
  have r1 := hr.keep B1
  have hsw := B1.size
  clear q1 hB A0
  have e1 : b1 = true := h1.2 hgood.out
  subst e1
  · have hg := h1.1 rfl
    have HG : Hid (GoodF y n) := hg
    obtain ⟨⟨hy1, hy8⟩, hn1, hn2⟩ := hg
    obtain ⟨b, off, rfl, hblt, hcell⟩ := r1.lies.resolve_left (by omega)
    have hbd := r1.bd
    clear h1 r1 hr
    obtain ⟨la, a0, a1⟩ := id A1
    go_wp2_with (at_make; refine wpList_make_full _ rfl (.tmp 11) (.tmp 11) 22 rfl w1.heap.size 5 i0 (.int .u8 0) 1 Try.underlying22 hi hz0 hz1 .i64 .i64 _ _ (n + 1) rfl rfl (by simp; omega) (by simp; omega) (by rw [hz2]; omega) (by unfold maxLen; omega) (Nat.le_refl _) ?_; intro w2 hown hgrow; obtain ⟨hb2, ho⟩ := made_facts hown hgrow; clear hown hgrow; have A2 := A1.keep hb2; obtain ⟨_, d0, d1⟩ := id A2; have hd := ho.cell 0 (by omega); have hfz := ho.free 0 (by omega); simp only [Nat.add_zero] at hd hfz)
    have hst := ho.store 0 (by omega) y (by omega)
    simp only [Nat.add_zero] at hst
    have B2 : Below w.heap.size w w2 := B1.trans (hb2.mono hsw)
    have hst' := hst.keep (Below.refl _ _).drew
    have hoth : Others w1.heap.size w2 (w2.setCell ⟨w1.heap.size, 0, none⟩ (.int .u8 y)) := Others.setCell _ _ _ _
    have A3 : FAt (w2.setCell ⟨w1.heap.size, 0, none⟩ (.int .u8 y)).drew w.heap.size y (.slice (some ⟨b, off, none⟩) n cap) := (A2.mid (Mid.of_others (B := w1.heap.size) (U := w1.heap.size + 1) hoth (Nat.le_refl _) (by omega)) (by have := A1.lt; omega)).keep (Below.refl _ _).drew
    have hcell3 : ∀ i, i < n → (w2.setCell ⟨w1.heap.size, 0, none⟩ (.int .u8 y)).drew.cell? ⟨b, off + i, none⟩ = some (.int .u8 (f i)) := fun i hi => by
      have e1 := World.cell?_of_block (w := w2) (a := ⟨b, off + i, none⟩) (hoth.block b (by omega))
      exact e1.trans ((hb2.cell (p := ⟨b, off + i, none⟩) hblt).trans (hcell i hi))
    obtain ⟨w4, hrun, o4, q4⟩ := copyB_run _ w1.heap.size (n + 1) 1 n n b off cap _ f hst' (by omega) hbd hcell3
    have B4 : Below w.heap.size w w4 := (B2.trans (hoth.below hsw)).drew.trans (q4.below hsw)
    have o5 : Own w4 w1.heap.size 0 (fbL y f n).length (fl (fbL y f n)) := by
      rw [fbL_len]
      refine o4.congr (Byt.fl (byt_cons (by omega) (ffl_byt hbd))) (fun i hi => ?_)
      by_cases h0 : i = 0
      · subst h0; rw [fbL_zero]; simp
      · obtain ⟨j, rfl⟩ : ∃ j, i = j + 1 := ⟨i - 1, by omega⟩
        rw [fbL_succ _ _ _ _ (by omega), if_pos (by omega)]
        simp
    have V5 : BV w4 w.heap.size w4.heap.size (some ⟨w1.heap.size, 0, none⟩) (fbL y f n) := ⟨byt_cons (by omega) (ffl_byt hbd), Nat.le_refl _, .inr ⟨_, _, rfl, hsw, o5.lt, o5⟩⟩
    have HF : Hid (FBX y n f w (.returned (.tuple #[.slice (some ⟨w1.heap.size, 0, none⟩) (n + 1) (n + 1), .bool true])) w4) := ⟨_, rfl, by rw [fbL_len] at o5; exact o5, B4⟩
    obtain ⟨_, c0, c1⟩ := A3
    clear ho hst hst' o4 o5 V5 B4 q4 hcell3 hcell A1
    go_region
    go_wp2
    exact bodyPost_ret (v := .tuple #[.slice (some ⟨w1.heap.size, 0, none⟩) (n + 1) (n + 1), .bool true]) (by simp [results, Try.results8, go_sem]) rfl HF.out
end Go.Proofs.Ytoccfmkciacomaa
