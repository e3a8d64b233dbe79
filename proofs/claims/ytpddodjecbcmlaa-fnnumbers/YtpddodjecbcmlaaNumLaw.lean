/- The law of the numbers, walked. -/
import Derived.Test.YtpddodjecbcmlaaVarR
import Derived.Test.YtpddodjecbcmlaaFixR
import Derived.Test.YtpddodjecbcmlaaReadVarI
import Derived.Test.YtpddodjecbcmlaaDrw
import Derived.Test.YtpddodjecbcmlaaApp
import Derived.Test.YtpddodjecbcmlaaOh
namespace Go.Proofs.Ytpddodjecbcmlaa
open Go.RowKit
set_option linter.unusedSimpArgs false
set_option linter.unusedVariables false

theorem all_get {f : Nat → Int} {m i : Nat} {g : Nat → Int} {n : Nat} (hi : i < n) : fl (lst f m ++ lst g n) (m + i) = g i := by
  have h1 : ¬ m + i < (lst f m).length := by rw [lst_len]; omega
  simp only [fl, List.getD_eq_getElem?_getD]
  rw [List.getElem?_append_right (by rw [lst_len]; omega), lst_len, show m + i - m = i by omega]
  simp [lst, hi]

set_option maxHeartbeats 1600000 in
set_option maxRecDepth 100000 in
theorem fnNumbers_law (ao : Option Addr) (n cap : Nat) (f : Nat → Int) (bo : Option Addr) (m cap' : Nat) (h : Nat → Int) (w : World) (hr : Row w ao n f) (hq : Row w bo m h) (hn : n ≤ 140737488351232) (hm : m ≤ 140737488351232) :
    Calls Try.prog 3 #[.slice ao n cap, .slice bo m cap'] w fun e w' => e = .returned (.bool true) ∧ Below w.heap.size w w' := by
  by_cases hsum : n + m ≤ 1048576
  · have h1 : ¬ (1048576 : Int) < (n : Int) + (m : Int) := by omega
    go_enter Try.func3, Try.ntmps3
    go_wp2_with fail
    refine (drawPutVar_any ao n cap f _ hr (by omega)).mono ?_
    rintro e w1 ⟨u, rfl, hu, b1⟩
    go_wp2_with fail
    refine (putVar_impl u _ hu).mono ?_
    rintro e w2 ⟨k, g2, cap2, hk, rfl, hg2, O2, q2⟩
    have b2 : Below w.heap.size w w2 := b1.trans (q2.mono b1.size)
    have hk9 := hk.1
    have L0 := ownL_lit w2 w2.heap.size [] byt_nil (Nat.le_refl _) (by unfold maxLen; simp)
    have Q2 := hq.keep (b2.alloc b2.size (.cells #[] 5))
    have O2' := O2.keep (below_new w2 (.cells #[] 5))
    have hsz2 : m ≤ 4194304 := by omega
    go_wp2_with (first | (at_builtin; refine wpList_app1 rfl (.tmp 29) (.tmp 30) rfl w2.heap.size w2.heap.size rfl L0 bo m cap' h rfl Q2 hsz2 (by simp) ?_; intro v3 w3 L3 g3' n3; have O3 := (at_lst O2').grown g3' (by intro e; injection e with e; have := O2.lt; omega)) | (at_builtin; refine wpList_app rfl (.tmp 31) (.tmp 32) rfl w2.heap.size v3 (lst h m) rfl L3 g2 0 (k + 1) cap2 (lst (pb u k) (k + 1)) rfl (lst_len _ _).symm O3 (by simp [lst_len]; omega) (by have := g3'.size; simp at this; omega) ?_; intro v4 w4 L4 g4' n4))
    have b3 : Below w.heap.size w w3 := OwnL.below L0 (b2.alloc b2.size _) g3' b2.size (by have := b2.size; simp; omega)
    have sz3 : w2.heap.size < w3.heap.size := by have := g3'.size; simp at this; omega
    have b4 : Below w.heap.size w w4 := OwnL.below L3 b3 g4' b2.size b3.size
    have O4 := O3.grown g4' (by
      have := O2.lt
      rcases n3 with e | e
      · rw [e]; intro e; injection e with e; omega
      · rw [e]; intro e; injection e with e; simp at e; omega)
    obtain ⟨g3, cap3, hv4, hg3, hc3, W4⟩ := L4.own' (by simp [lst_len]; omega)
    rw [List.length_append, lst_len, lst_len] at hv4 hc3 W4
    subst hv4
    obtain ⟨N, rfl⟩ := Int.eq_ofNat_of_zero_le hu.1
    have hRd : Hid (rdVar (fl (lst h m ++ lst (pb (N : Int) k) (k + 1))) (m + (k + 1)) (m : Int) = ((N : Int), (m : Int) + k + 1, true)) := by
      unfold Hid rdVar
      rw [if_pos (by omega), Int.toNat_natCast, rvAll_back (N := N) (k := k) (by omega) hk (fun i hi => all_get (by omega)) (by omega)]
      have : decide ((0 : Int) < (m : Int) + k + 1) = true := by simp; omega
      simp [this]
    have hcap : m + (k + 1) ≤ 2097152 := by omega
    clear O2 O2' Q2 L0 L3 L4 O3 g3' g4' n3 n4 b3 q2 b1 hr
    obtain ⟨L, hL⟩ : ∃ L, lst h m ++ lst (pb (N : Int) k) (k + 1) = L := ⟨_, rfl⟩
    rw [hL] at W4 hRd
    clear hL
    go_wp2_with fail
    refine (readVar_impl (some ⟨g3, 0, none⟩) (m + (k + 1)) cap3 (fl L) (m : Int) _ W4.row hcap hc3).mono ?_
    rintro e w5 ⟨rfl, q5⟩
    rw [hRd.out]
    have b5 : Below w.heap.size w w5 := b4.trans (q5.mono b4.size)
    have O5 := (O4.keep q5).keep (Below.refl _ w5).drew
    obtain ⟨Z, hZ⟩ : ∃ Z, strOfNums (lst (pb (N : Int) k) (k + 1)) = Z := ⟨_, rfl⟩
    have HC : Hid (∀ (w' : World) (g c : Nat), At w' g 0 (lst (pb (N : Int) k) (k + 1)) → (convert 22 9 (.slice (some ⟨g, 0, none⟩) (k + 1) c)).run Try.prog w' = .ok (.string Z) w') := fun w' g c hA => by
      have := conv_row w' (some ⟨g, 0, none⟩) c _ hA.row
      rw [lst_len, hZ] at this
      exact this
    clear hZ O4 q5 W4 hRd
    have b5s := b5.size
    have hS0 := HC.out _ _ cap2 O5
    have hml : (m : Int) + ((k : Int) + 1) = (m : Int) + k + 1 := by omega
    go_wp2
    refine wp_region_w (fun w' => (convert 22 9 (.slice (some ⟨g2, 0, none⟩) (k + 1) cap2)).run Try.prog w' = .ok (.string Z) w') (fun _ => true) (by kernel_rfl) ?_
    change wpW _ _ _ _ _ _ 21 _ _ w5.drew
    refine wpW_take 0 _ (.bool true) rfl (by kernel_rfl) (by kernel_rfl) (by kernel_rfl) (fun _ _ _ h => h) (by kernel_rfl) (.inl ⟨rfl, fun w' hS' => by go_simp⟩) hS0 ?_
    simp only [Act.put, List.getElem_toArray, List.getElem_cons_succ, List.getElem_cons_zero, List.setIfInBounds_toArray, List.set_cons_zero, List.set_cons_succ]
    refine wpW_take 1 _ (.bool false) rfl (by kernel_rfl) (by kernel_rfl) (by kernel_rfl) (fun _ _ _ h => h) (by kernel_rfl) (.inl ⟨rfl, fun w' hS' => by go_simp⟩) hS0 ?_
    simp only [Act.put, List.getElem_toArray, List.getElem_cons_succ, List.getElem_cons_zero, List.setIfInBounds_toArray, List.set_cons_zero, List.set_cons_succ]
    refine wpW_take 2 _ (.bool false) rfl (by kernel_rfl) (by kernel_rfl) (by kernel_rfl) (fun _ _ _ h => h) (by kernel_rfl) (.inl ⟨rfl, fun w' hS' => by go_simp⟩) hS0 ?_
    simp only [Act.put, List.getElem_toArray, List.getElem_cons_succ, List.getElem_cons_zero, List.setIfInBounds_toArray, List.set_cons_zero, List.set_cons_succ]
    refine wpW_take 3 _ (.int .u64 (N : Int)) rfl (by kernel_rfl) (by kernel_rfl) (by kernel_rfl) (fun _ _ _ h => h) (by kernel_rfl) (.inl ⟨rfl, fun w' hS' => by go_simp⟩) hS0 ?_
    simp only [Act.put, List.getElem_toArray, List.getElem_cons_succ, List.getElem_cons_zero, List.setIfInBounds_toArray, List.set_cons_zero, List.set_cons_succ]
    refine wpW_take 4 _ (.int .u64 (N : Int)) rfl (by kernel_rfl) (by kernel_rfl) (by kernel_rfl) (fun _ _ _ h => h) (by kernel_rfl) (.inl ⟨rfl, fun w' hS' => by go_simp⟩) hS0 ?_
    simp only [Act.put, List.getElem_toArray, List.getElem_cons_succ, List.getElem_cons_zero, List.setIfInBounds_toArray, List.set_cons_zero, List.set_cons_succ]
    refine wpW_take 5 _ (.bool false) rfl (by kernel_rfl) (by kernel_rfl) (by kernel_rfl) (fun _ _ _ h => h) (by kernel_rfl) (.inl ⟨rfl, fun w' hS' => by go_simp⟩) hS0 ?_
    simp only [Act.put, List.getElem_toArray, List.getElem_cons_succ, List.getElem_cons_zero, List.setIfInBounds_toArray, List.set_cons_zero, List.set_cons_succ]
    refine wpW_take 6 _ (.bool false) rfl (by kernel_rfl) (by kernel_rfl) (by kernel_rfl) (fun _ _ _ h => h) (by kernel_rfl) (.inl ⟨rfl, fun w' hS' => by go_simp⟩) hS0 ?_
    simp only [Act.put, List.getElem_toArray, List.getElem_cons_succ, List.getElem_cons_zero, List.setIfInBounds_toArray, List.set_cons_zero, List.set_cons_succ]
    refine wpW_take 7 _ (.bool false) rfl (by kernel_rfl) (by kernel_rfl) (by kernel_rfl) (fun _ _ _ h => h) (by kernel_rfl) (.inl ⟨rfl, fun w' hS' => by go_simp⟩) hS0 ?_
    simp only [Act.put, List.getElem_toArray, List.getElem_cons_succ, List.getElem_cons_zero, List.setIfInBounds_toArray, List.set_cons_zero, List.set_cons_succ]
    refine wpW_take 8 _ (.int .i64 ((m : Int) + k + 1)) rfl (by kernel_rfl) (by kernel_rfl) (by kernel_rfl) (fun _ _ _ h => h) (by kernel_rfl) (.inl ⟨rfl, fun w' hS' => by go_simp⟩) hS0 ?_
    simp only [Act.put, List.getElem_toArray, List.getElem_cons_succ, List.getElem_cons_zero, List.setIfInBounds_toArray, List.set_cons_zero, List.set_cons_succ]
    refine wpW_take 9 _ (.slice (some ⟨g3, 0, none⟩) (m + (k + 1)) cap3) rfl (by kernel_rfl) (by kernel_rfl) (by kernel_rfl) (fun _ _ _ h => h) (by kernel_rfl) (.inl ⟨rfl, fun w' hS' => by go_simp⟩) hS0 ?_
    simp only [Act.put, List.getElem_toArray, List.getElem_cons_succ, List.getElem_cons_zero, List.setIfInBounds_toArray, List.set_cons_zero, List.set_cons_succ]
    refine wpW_take 10 _ (.int .i64 ((m : Int) + k + 1)) rfl (by kernel_rfl) (by kernel_rfl) (by kernel_rfl) (fun _ _ _ h => h) (by kernel_rfl) (.inl ⟨rfl, fun w' hS' => by go_simp⟩) hS0 ?_
    simp only [Act.put, List.getElem_toArray, List.getElem_cons_succ, List.getElem_cons_zero, List.setIfInBounds_toArray, List.set_cons_zero, List.set_cons_succ]
    refine wpW_take 11 _ (.bool false) rfl (by kernel_rfl) (by kernel_rfl) (by kernel_rfl) (fun _ _ _ h => h) (by kernel_rfl) (.inl ⟨rfl, fun w' hS' => by go_simp⟩) hS0 ?_
    simp only [Act.put, List.getElem_toArray, List.getElem_cons_succ, List.getElem_cons_zero, List.setIfInBounds_toArray, List.set_cons_zero, List.set_cons_succ]
    refine wpW_take 12 _ (.bool false) rfl (by kernel_rfl) (by kernel_rfl) (by kernel_rfl) (fun _ _ _ h => h) (by kernel_rfl) (.inl ⟨rfl, fun w' hS' => by go_simp⟩) hS0 ?_
    simp only [Act.put, List.getElem_toArray, List.getElem_cons_succ, List.getElem_cons_zero, List.setIfInBounds_toArray, List.set_cons_zero, List.set_cons_succ]
    refine wpW_take 13 _ (.bool false) rfl (by kernel_rfl) (by kernel_rfl) (by kernel_rfl) (fun _ _ _ h => h) (by kernel_rfl) (.inl ⟨rfl, fun w' hS' => by go_simp⟩) hS0 ?_
    simp only [Act.put, List.getElem_toArray, List.getElem_cons_succ, List.getElem_cons_zero, List.setIfInBounds_toArray, List.set_cons_zero, List.set_cons_succ]
    refine wpW_take 14 _ (.slice (some ⟨g2, 0, none⟩) (k + 1) cap2) rfl (by kernel_rfl) (by kernel_rfl) (by kernel_rfl) (fun _ _ _ h => h) (by kernel_rfl) (.inl ⟨rfl, fun w' hS' => by go_simp⟩) hS0 ?_
    simp only [Act.put, List.getElem_toArray, List.getElem_cons_succ, List.getElem_cons_zero, List.setIfInBounds_toArray, List.set_cons_zero, List.set_cons_succ]
    refine wpW_take 15 _ (.string Z) rfl (by kernel_rfl) (by kernel_rfl) (by kernel_rfl) (fun _ _ _ h => h) (by kernel_rfl) (.inl ⟨rfl, fun w' hS' => by have hz := hS'; go_simp⟩) hS0 ?_
    simp only [Act.put, List.getElem_toArray, List.getElem_cons_succ, List.getElem_cons_zero, List.setIfInBounds_toArray, List.set_cons_zero, List.set_cons_succ]
    refine wpW_take 16 _ (.int .u64 (N : Int)) rfl (by kernel_rfl) (by kernel_rfl) (by kernel_rfl) (fun _ _ _ h => h) (by kernel_rfl) (.inl ⟨rfl, fun w' hS' => by go_simp⟩) hS0 ?_
    simp only [Act.put, List.getElem_toArray, List.getElem_cons_succ, List.getElem_cons_zero, List.setIfInBounds_toArray, List.set_cons_zero, List.set_cons_succ]
    refine wpW_one 17 _ rfl (by kernel_rfl) (step_wanted rfl (op_call 9 #[.int .u64 (N : Int)] _ (by go_simp) (putVar_spec (N : Int) _ hu) ?_))
    rintro e w6 ⟨k', g6, cap6, hk', rfl, hg6, O6, q6⟩
    obtain rfl := hk'.one hk
    have b6 : Below w.heap.size w w6 := b5.drew.trans (q6.mono (by show w.heap.size ≤ w5.heap.size; exact b5.size))
    have hS6 := HC.out _ _ cap2 (O5.keep q6)
    have c6 := HC.out _ _ cap6 (at_lst O6)
    refine ⟨_, rfl, fun _ => hS6, ?_⟩
    simp only [Act.put, List.getElem_toArray, List.getElem_cons_succ, List.getElem_cons_zero, List.setIfInBounds_toArray, List.set_cons_zero, List.set_cons_succ]
    refine wpW_one 18 _ rfl (by kernel_rfl) (step_wanted rfl (op_val (.string Z) (w' := w6) (by go_simp) ?_))
    refine ⟨fun _ => hS6, ?_⟩
    simp only [Act.put, List.getElem_toArray, List.getElem_cons_succ, List.getElem_cons_zero, List.setIfInBounds_toArray, List.set_cons_zero, List.set_cons_succ]
    refine wpW_take 19 _ (.bool false) rfl (by kernel_rfl) (by kernel_rfl) (by kernel_rfl) (fun _ _ _ h => h) (by kernel_rfl) (.inl ⟨rfl, fun w' hS' => by go_simp⟩) hS6 ?_
    simp only [Act.put, List.getElem_toArray, List.getElem_cons_succ, List.getElem_cons_zero, List.setIfInBounds_toArray, List.set_cons_zero, List.set_cons_succ]
    refine wpW_take 20 _ (.bool false) rfl (by kernel_rfl) (by kernel_rfl) (by kernel_rfl) (fun _ _ _ h => h) (by kernel_rfl) (.inl ⟨rfl, fun w' hS' => by go_simp⟩) hS6 ?_
    simp only [Act.put, List.getElem_toArray, List.getElem_cons_succ, List.getElem_cons_zero, List.setIfInBounds_toArray, List.set_cons_zero, List.set_cons_succ]
    refine wpW_done (by kernel_rfl) ?_
    clear hS0 hS6 c6 O5 O6 HC q6
    go_wp2_with fail
    refine (drawPutFixed_any bo m cap' h _ (hq.keep b6) (by omega)).mono ?_
    rintro e w7 ⟨x, y, rfl, hx, hy, q7⟩
    have b7 : Below w.heap.size w w7 := b6.trans (q7.mono b6.size)
    by_cases hg : PFGood x y
    · obtain ⟨y, rfl⟩ := Int.eq_ofNat_of_zero_le hy.1
      obtain ⟨x0, y1, y8, hd⟩ := hg
      have hxb : 0 ≤ x ∧ x ≤ 9223372036854775807 := ⟨x0, hx.2⟩
      rw [Int.toNat_natCast] at hd
      have HD : Hid (x / 2 ^ (8 * y) = 0) := hd
      clear hd
      go_wp2_with fail
      refine (putFixed_impl_yes x y _ hxb (by omega) (by omega) HD.out).mono ?_
      rintro e w8 ⟨g8, o8, c8, rfl, hg8, hc8, O8, q8⟩
      have b8 : Below w.heap.size w w8 := b7.trans (q8.mono b7.size)
      go_wp2_with fail
      refine (putFixed_spec_yes x y _ hxb (by omega) (by omega) HD.out).mono ?_
      rintro e w9 ⟨g9, o9, c9, rfl, hg9, hc9, O9, q9⟩
      have b9 : Below w.heap.size w w9 := b8.trans (q9.mono b8.size)
      have R9 := (O8.keep q9).row
      clear O8 O9 q8 q9
      go_wp2_with fail
      refine (readFixed_impl_yes (some ⟨g8, o8, none⟩) y c8 (pf x y) 0 y _ R9 (by omega) hc8 (by omega) (by omega) (by omega)).mono ?_
      rintro e w10 ⟨rfl, q10⟩
      rw [num_all (n := x) (m := y) (q := 0) HD.out (fun i _ => by rw [Nat.zero_add]), rfAns_yes (by omega)]
      go_wp2
      go_ret
      exact ⟨rfl, b9.trans (q10.mono b9.size)⟩
    · go_wp2_with fail
      refine (putFixed_impl_no x y _ hx (by omega) hg).mono ?_
      rintro e w8 ⟨rfl, rfl⟩
      go_wp2_with fail
      refine (putFixed_spec_no x y _ hx (by omega) hg).mono ?_
      rintro e w9 ⟨rfl, rfl⟩
      clear hg
      go_wp2
      go_ret
      exact ⟨rfl, b7⟩
  · have h1 : (1048576 : Int) < (n : Int) + (m : Int) := by omega
    have hw : IntKind.i64.wrap ((n : Int) + (m : Int)) = (n : Int) + (m : Int) := by rw [IntKind.wrap_i64] <;> omega
    go_enter Try.func3, Try.ntmps3
    go_wp2
    go_ret
    exact ⟨rfl, Below.refl _ _⟩
end Go.Proofs.Ytpddodjecbcmlaa
