/- Whole numbers told as texts, by the library in the program and by the model's own function. -/
import Derived.Test.YtpddodjecbcmlaaDoorIto
import Derived.Test.YtpddodjecbcmlaaDoorAg
import Derived.Test.YtpddodjecbcmlaaDoorOh
import Derived.Lib.ItoaLen
import Derived.Lib.ItoaMem
import Derived.Deep.RegionHeld3
namespace Go.Proofs.YtpddodjecbcmlaaDoor
open Go.RowKit
set_option linter.unusedSimpArgs false
set_option linter.unusedVariables false

/-- The library's table of powers of ten is laid. -/
def TabP (w : World) : Prop := Lib.TabIs Tryd.prog w "internal/strconv.uint64pow10" .u64 Lib.pow10Tab
theorem TabP.keep {w w' : World} (h : TabP w) (hb : Below w.heap.size w w') : TabP w' := by
  unfold TabP Lib.TabIs World.var? at h ⊢
  cases hg : Tryd.prog.globalNamed "internal/strconv.uint64pow10" with
  | none => rw [hg] at h; cases h
  | some g =>
  rw [hg] at h
  simp only [Option.bind_some] at h ⊢
  have hlt : g < w.heap.size := by
    rcases Nat.lt_or_ge g w.heap.size with h' | h'
    · exact h'
    · rw [Array.getElem?_eq_none h'] at h; cases h
  rw [hb.block g hlt]
  exact h
/-- The text of a whole number. -/
def tx (n : Int) : ByteArray := ⟨(Lib.itoa n).toArray⟩
theorem itoa_any (n : Int) (h : -9223372036854775808 ≤ n ∧ n ≤ 9223372036854775807) (w : World) (ht : TabP w) :
    Calls Tryd.prog 20 #[.int .i64 n] w fun e w' => e = .returned (.string (tx n)) ∧ Below w.heap.size w w' := by
  refine (itoaL n h.1 h.2 w ht).mono ?_
  rintro e w' ⟨rfl, k, os, rfl⟩
  refine ⟨rfl, ⟨rfl, rfl, rfl, ?_, ?_⟩⟩
  · simp [Go.Sort.grow, World.drewN]
  · intro i hi
    simp [Go.Sort.grow, World.drewN, Array.getElem?_append, hi]

theorem conv_one (w u : World) (b : Nat) (z : Int) (hz : u.cell? ⟨b, 0, none⟩ = some (.int .u8 z)) : (convert 22 9 (.slice (some ⟨b, 0, none⟩) 1 1)).run Tryd.prog u = .ok (.string (strOfNums [z])) u :=
  run_convert_bytes_arg (P := Tryd.prog) u 22 5 Tryd.underlying22 Tryd.underlying5 b 0 1 1 [z] rfl (fun i hi => by
        have : i = 0 := by omega
        subst this; simpa using hz) 9 Tryd.underlying9
theorem dec_last (n : Nat) (hn : ¬ n < 10) : (⟨(Lib.decDigits (n / 10)).toArray⟩ : ByteArray) ++ strOfNums [48 + (n : Int) % 10] = ⟨(Lib.decDigits n).toArray⟩ := by
  have e : (48 + (n : Int) % 10).toNat = 48 + n % 10 := by omega
  conv => rhs; rw [Lib.decDigits, dif_neg hn]
  apply ByteArray.ext
  simp [strOfNums, e, ByteArray.data_append]

set_option maxRecDepth 100000 in
theorem l1Num_nat (n : Nat) (h : n ≤ 9223372036854775807) (w : World) :
    Calls Tryd.prog 41 #[.int .i64 n] w fun e w' => e = .returned (.string ⟨(Lib.decDigits n).toArray⟩) ∧ Below w.heap.size w w' := by
  induction n using Nat.strongRecOn generalizing w with
  | _ n ih =>
    by_cases hn : n < 10
    · have hB := fun o => below_new w o
      have e1 : Hid (strOfNums [48 + (n : Int)] = ⟨(Lib.decDigits n).toArray⟩) := by
        unfold Hid
        rw [Lib.decDigits_one hn]
        have : (48 + (n : Int)).toNat = 48 + n := by omega
        simp [strOfNums, this]
      have hw1 : IntKind.i64.wrap (48 + (n : Int)) = 48 + (n : Int) := by rw [IntKind.wrap_i64] <;> omega
      have hw2 : IntKind.u8.wrap (48 + (n : Int)) = 48 + (n : Int) := by rw [IntKind.wrap_u8] <;> omega
      have hcv := conv_one w (w.alloc (.cells #[.int .u8 (48 + (n : Int))] 5)) w.heap.size (48 + (n : Int)) (by simp [go_sem])
      generalize strOfNums [48 + (n : Int)] = z at *
      go_enter Tryd.func41, Tryd.ntmps41
      go_wp2
      go_ret
      rw [← e1.out]
      exact ⟨rfl, hB _⟩
    · have i1 := ih (n / 10) (by omega) (by omega)
      have n0 : ¬ (n : Int) < 10 := by omega
      have n1 : ¬ (n : Int) < 0 := by omega
      have hq : (n : Int).tdiv 10 = ((n / 10 : Nat) : Int) := by rw [Int.tdiv_eq_ediv_of_nonneg (by omega)]; omega
      have hm : (n : Int).tmod 10 = (n : Int) % 10 := Int.tmod_eq_emod_of_nonneg (by omega)
      have hw0 : IntKind.i64.wrap ((n : Int).tdiv 10) = ((n / 10 : Nat) : Int) := by rw [hq, IntKind.wrap_i64] <;> omega
      have hwr : IntKind.i64.wrap ((n : Int).tmod 10) = (n : Int) % 10 := by rw [hm, IntKind.wrap_i64] <;> omega
      have hw1 : IntKind.i64.wrap (48 + (n : Int) % 10) = 48 + (n : Int) % 10 := by rw [IntKind.wrap_i64] <;> omega
      have hw2 : IntKind.u8.wrap (48 + (n : Int) % 10) = 48 + (n : Int) % 10 := by rw [IntKind.wrap_u8] <;> omega
      have hw4 : IntKind.i64.wrap ((n : Int) / 10) = (n : Int) / 10 := by rw [IntKind.wrap_i64] <;> omega
      have hL : (Lib.decDigits (n / 10)).length + (strOfNums [48 + (n : Int) % 10]).size ≤ 9223372036854775807 := by
        have h1 := Lib.itoa_length_le ((n / 10 : Nat) : Int) (by omega) (by omega)
        rw [Lib.itoa_nonneg] at h1
        rw [strOfNums_size]
        simp only [List.length_cons, List.length_nil]
        omega
      have HE := dec_last n hn
      go_enter Tryd.func41, Tryd.ntmps41
      go_wp2
      refine wp_region_w (fun _ => True) (fun _ => true) (by kernel_rfl) ?_
      change wpW _ _ _ _ _ _ 11 _ _ w.drew
      refine wpW_take 0 _ (.int .i64 n) rfl (by kernel_rfl) (by kernel_rfl) (by kernel_rfl) (fun _ _ _ h => h) (by kernel_rfl) (.inl ⟨rfl, fun w' hS' => by go_simp⟩) trivial ?_
      refine wpW_take 1 _ (.int .i64 ((n / 10 : Nat) : Int)) rfl (by kernel_rfl) (by kernel_rfl) (by kernel_rfl) (fun _ _ _ h => h) (by kernel_rfl) (.inl ⟨rfl, fun w' hS' => by go_simp⟩) trivial ?_
      refine wpW_take 3 _ (.int .i64 n) rfl (by kernel_rfl) (by kernel_rfl) (by kernel_rfl) (fun _ _ _ h => h) (by kernel_rfl) (.inl ⟨rfl, fun w' hS' => by go_simp⟩) trivial ?_
      refine wpW_take 4 _ (.int .i64 ((n : Int) % 10)) rfl (by kernel_rfl) (by kernel_rfl) (by kernel_rfl) (fun _ _ _ h => h) (by kernel_rfl) (.inl ⟨rfl, fun w' hS' => by go_simp⟩) trivial ?_
      refine wpW_take 5 _ (.int .i64 (48 + (n : Int) % 10)) rfl (by kernel_rfl) (by kernel_rfl) (by kernel_rfl) (fun _ _ _ h => h) (by kernel_rfl) (.inl ⟨rfl, fun w' hS' => by go_simp⟩) trivial ?_
      refine wpW_take 6 _ (.int .u8 (48 + (n : Int) % 10)) rfl (by kernel_rfl) (by kernel_rfl) (by kernel_rfl) (fun _ _ _ h => h) (by kernel_rfl) (.inl ⟨rfl, fun w' hS' => by go_simp⟩) trivial ?_
      have hw3 : (48 + (n : Int) % 10) = (48 + (n : Int) % 10) := rfl
      simp only [Act.put, List.getElem_toArray, List.getElem_cons_succ, List.getElem_cons_zero, List.setIfInBounds_toArray, List.set_cons_zero, List.set_cons_succ]
      refine wpW_two 2 7 _ _ rfl rfl (by kernel_rfl) ?_ ?_
      · refine step_enter rfl 41 #[.int .i64 ((n / 10 : Nat) : Int)] _ _ (by go_simp) (i1 _) ?_
        intro w1 b1
        refine ⟨fun _ => trivial, ?_⟩
        simp only [Act.put, List.getElem_toArray, List.getElem_cons_succ, List.getElem_cons_zero, List.setIfInBounds_toArray, List.set_cons_zero, List.set_cons_succ]
        have c1 := conv_one w1 (w1.alloc (.cells #[.int .u8 (48 + (n : Int) % 10)] 5)) w1.heap.size (48 + (n : Int) % 10) (by simp [go_sem])
        have bF : Below w.heap.size w (w1.alloc (.cells #[.int .u8 (48 + (n : Int) % 10)] 5)) := ((Below.refl _ w).drew.trans b1).alloc b1.size _
        refine wpW_one 7 _ rfl (by kernel_rfl) (step_val rfl (.slice (some ⟨w1.heap.size, 0, none⟩) 1 1) (w' := w1.alloc (.cells #[.int .u8 (48 + (n : Int) % 10)] 5)) (by go_simp) ?_)
        refine ⟨fun _ => trivial, ?_⟩
        simp only [Act.put, List.getElem_toArray, List.getElem_cons_succ, List.getElem_cons_zero, List.setIfInBounds_toArray, List.set_cons_zero, List.set_cons_succ]
        refine wpW_one 8 _ rfl (by kernel_rfl) (step_val rfl (.string (strOfNums [48 + (n : Int) % 10])) (w' := w1.alloc (.cells #[.int .u8 (48 + (n : Int) % 10)] 5)) (by go_simp) ?_)
        refine ⟨fun _ => trivial, ?_⟩
        simp only [Act.put, List.getElem_toArray, List.getElem_cons_succ, List.getElem_cons_zero, List.setIfInBounds_toArray, List.set_cons_zero, List.set_cons_succ]
        refine wpW_take 9 _ (.string ⟨(Lib.decDigits n).toArray⟩) rfl (by kernel_rfl) (by kernel_rfl) (by kernel_rfl) (fun _ _ _ h => h) (by kernel_rfl) (.inl ⟨rfl, fun w' hS' => by go_simp⟩) trivial ?_
        refine wpW_one 10 _ rfl (by kernel_rfl) (step_val rfl (.string ⟨(Lib.decDigits n).toArray⟩) (w' := w1.alloc (.cells #[.int .u8 (48 + (n : Int) % 10)] 5)) (by go_simp) ?_)
        refine ⟨fun _ => trivial, ?_⟩
        refine wpW_done (by kernel_rfl) ?_
        simp only [Act.put, List.getElem_toArray, List.getElem_cons_succ, List.getElem_cons_zero, List.setIfInBounds_toArray, List.set_cons_zero, List.set_cons_succ]
        go_wp2
        go_ret
        exact ⟨rfl, bF⟩
      · have c0 := conv_one w (w.alloc (.cells #[.int .u8 (48 + (n : Int) % 10)] 5)).drew w.heap.size (48 + (n : Int) % 10) (by simp [go_sem])
        refine step_val rfl (.slice (some ⟨w.heap.size, 0, none⟩) 1 1) (w' := w.drew.alloc (.cells #[.int .u8 (48 + (n : Int) % 10)] 5)) (by go_simp) ?_
        refine ⟨fun _ => trivial, ?_⟩
        simp only [Act.put, List.getElem_toArray, List.getElem_cons_succ, List.getElem_cons_zero, List.setIfInBounds_toArray, List.set_cons_zero, List.set_cons_succ]
        refine wpW_two 2 8 _ _ rfl rfl (by kernel_rfl) ?_ ?_
        · refine step_enter rfl 41 #[.int .i64 ((n / 10 : Nat) : Int)] _ _ (by go_simp) (i1 _) ?_
          intro w1 b1
          have bF : Below w.heap.size w w1 := ((Below.refl _ w).drew.alloc (Nat.le_refl _) _).trans (b1.mono (by simp))
          have c1 := conv_one w.drew w1 w.heap.size (48 + (n : Int) % 10) ((b1.cell (p := ⟨w.heap.size, 0, none⟩) (by show w.drew.heap.size < _; simp)).trans (by show (w.drew.alloc (.cells #[.int .u8 (48 + (n : Int) % 10)] 5)).cell? ⟨w.drew.heap.size, 0, none⟩ = _; simp [go_sem]))
          refine ⟨fun _ => trivial, ?_⟩
          simp only [Act.put, List.getElem_toArray, List.getElem_cons_succ, List.getElem_cons_zero, List.setIfInBounds_toArray, List.set_cons_zero, List.set_cons_succ]
          refine wpW_one 8 _ rfl (by kernel_rfl) (step_val rfl (.string (strOfNums [48 + (n : Int) % 10])) (w' := w1) (by go_simp) ?_)
          refine ⟨fun _ => trivial, ?_⟩
          simp only [Act.put, List.getElem_toArray, List.getElem_cons_succ, List.getElem_cons_zero, List.setIfInBounds_toArray, List.set_cons_zero, List.set_cons_succ]
          refine wpW_take 9 _ (.string ⟨(Lib.decDigits n).toArray⟩) rfl (by kernel_rfl) (by kernel_rfl) (by kernel_rfl) (fun _ _ _ h => h) (by kernel_rfl) (.inl ⟨rfl, fun w' hS' => by go_simp⟩) trivial ?_
          refine wpW_one 10 _ rfl (by kernel_rfl) (step_val rfl (.string ⟨(Lib.decDigits n).toArray⟩) (w' := w1) (by go_simp) ?_)
          refine ⟨fun _ => trivial, ?_⟩
          refine wpW_done (by kernel_rfl) ?_
          simp only [Act.put, List.getElem_toArray, List.getElem_cons_succ, List.getElem_cons_zero, List.setIfInBounds_toArray, List.set_cons_zero, List.set_cons_succ]
          go_wp2
          go_ret
          exact ⟨rfl, bF⟩
        · refine step_val rfl (.string (strOfNums [48 + (n : Int) % 10])) (w' := w.drew.alloc (.cells #[.int .u8 (48 + (n : Int) % 10)] 5)) (by go_simp) ?_
          refine ⟨fun _ => trivial, ?_⟩
          simp only [Act.put, List.getElem_toArray, List.getElem_cons_succ, List.getElem_cons_zero, List.setIfInBounds_toArray, List.set_cons_zero, List.set_cons_succ]
          refine wpW_one 2 _ rfl (by kernel_rfl) (step_enter rfl 41 #[.int .i64 ((n / 10 : Nat) : Int)] _ _ (by go_simp) (i1 _) ?_)
          intro w1 b1
          have bF : Below w.heap.size w w1 := ((Below.refl _ w).drew.alloc (Nat.le_refl _) _).trans (b1.mono (by simp))
          refine ⟨fun _ => trivial, ?_⟩
          simp only [Act.put, List.getElem_toArray, List.getElem_cons_succ, List.getElem_cons_zero, List.setIfInBounds_toArray, List.set_cons_zero, List.set_cons_succ]
          refine wpW_take 9 _ (.string ⟨(Lib.decDigits n).toArray⟩) rfl (by kernel_rfl) (by kernel_rfl) (by kernel_rfl) (fun _ _ _ h => h) (by kernel_rfl) (.inl ⟨rfl, fun w' hS' => by go_simp⟩) trivial ?_
          refine wpW_one 10 _ rfl (by kernel_rfl) (step_val rfl (.string ⟨(Lib.decDigits n).toArray⟩) (w' := w1) (by go_simp) ?_)
          refine ⟨fun _ => trivial, ?_⟩
          refine wpW_done (by kernel_rfl) ?_
          simp only [Act.put, List.getElem_toArray, List.getElem_cons_succ, List.getElem_cons_zero, List.setIfInBounds_toArray, List.set_cons_zero, List.set_cons_succ]
          go_wp2
          go_ret
          exact ⟨rfl, bF⟩
theorem l1Num_any (n : Int) (h : -9223372036854775808 ≤ n ∧ n ≤ 9223372036854775807) (w : World) :
    Calls Tryd.prog 41 #[.int .i64 n] w fun e w' => e = .returned (.string (tx n)) ∧ Below w.heap.size w w' := by
  by_cases h0 : 0 ≤ n
  · obtain ⟨u, rfl⟩ := Int.eq_ofNat_of_zero_le h0
    have := l1Num_nat u (by omega) w
    unfold tx
    rw [show Lib.itoa (u : Int) = Lib.decDigits u from Lib.itoa_nonneg u]
    exact this
  · by_cases hm : n = -9223372036854775808
    · subst hm
      have e : Hid ((⟨#[45, 57, 50, 50, 51, 51, 55, 50, 48, 51, 54, 56, 53, 52, 55, 55, 53, 56, 48, 56]⟩ : ByteArray) = tx (-9223372036854775808)) := by
        unfold Hid tx
        apply ByteArray.ext
        simp [Lib.itoa, Lib.decDigits]
      go_enter Tryd.func41, Tryd.ntmps41
      go_wp2
      go_ret
      rw [← e.out]
      exact ⟨rfl, Below.refl _ _⟩
    · obtain ⟨u, hu⟩ : ∃ u : Nat, n = -(u : Int) := ⟨n.natAbs, by omega⟩
      subst hu
      have hn1 : -(u : Int) < 0 := by omega
      have hw : IntKind.i64.wrap (u : Int) = (u : Int) := by rw [IntKind.wrap_i64] <;> omega
      have e : Hid ((⟨#[45]⟩ : ByteArray) ++ ⟨(Lib.decDigits u).toArray⟩ = tx (-(u : Int))) := by
        unfold Hid tx
        rw [Lib.itoa_neg u (by omega)]
        apply ByteArray.ext
        simp [ByteArray.data_append]
      have hL : (Lib.decDigits u).length + 1 ≤ 9223372036854775807 := by
        have h1 := Lib.itoa_length_le (u : Int) (by omega) (by omega)
        rw [Lib.itoa_nonneg] at h1
        omega
      go_enter Tryd.func41, Tryd.ntmps41
      go_wp2_with fail
      refine (l1Num_nat u (by omega) _).mono ?_
      rintro e1 w1 ⟨rfl, b1⟩
      go_wp2
      go_ret
      rw [← e.out]
      exact ⟨rfl, b1⟩
end Go.Proofs.YtpddodjecbcmlaaDoor
