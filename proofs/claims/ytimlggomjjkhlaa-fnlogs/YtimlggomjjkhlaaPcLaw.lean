/- The law of LogPieces, walked. -/
import Derived.Test.YtimlggomjjkhlaaPcI
import Derived.Test.YtimlggomjjkhlaaPcS
import Derived.Test.YtimlggomjjkhlaaMarks
namespace Go.Proofs.Ytimlggomjjkhlaa
open Go.RowKit
set_option linter.unusedSimpArgs false
set_option linter.unusedVariables false

def ls (f : Nat → Int) (n : Nat) : List Int := (List.range n).map f
theorem ls_length (f : Nat → Int) (n : Nat) : (ls f n).length = n := by simp [ls]
theorem ls_bd {f : Nat → Int} (h : ∀ i, 0 ≤ f i ∧ f i ≤ 255) (n : Nat) : Byt (ls f n) := fun x hx => by
  obtain ⟨i, _, rfl⟩ := List.mem_map.1 hx
  exact h i
theorem Own.at {w : World} {b off n : Nat} {f : Nat → Int} (h : Own w b off n f) : At w b off (ls f n) :=
  ⟨ls_bd h.bd n, h.lt, fun i hi => by
    rw [ls_length] at hi
    rw [h.cell i hi]
    simp [fl, ls, hi]⟩

set_option maxHeartbeats 400000 in
theorem logPieces_spec_yes (at' b off n cap : Nat) (R : List Int) (w : World) (hR : At w b off R) (hn : n = R.length) (hcap : n ≤ cap) (hat : at' ≤ 20000) (hl : R.length ≤ 2000) :
    Calls Try.prog 12 #[.int .i64 at', .slice (some ⟨b, off, none⟩) n cap] w fun e w' => ∃ v, e = .returned (.tuple #[v, .bool true]) ∧ OwnL w' w.heap.size v (allL at' R) ∧ Below w.heap.size w w' := by
  have h3 : ¬ (2000 : Int) < (n : Int) := by omega
  have HN : Hid (n = R.length) := hn
  clear hn
  go_enter Try.func12, Try.ntmps12
  go_wp2_with fail
  refine (l1In_yes _ _ _ _ (by omega) (by omega)).mono ?_
  rintro e w' ⟨rfl, rfl⟩
  go_wp2_with fail
  refine (l3Pieces_any at' b off n cap R _ hR HN.out hcap hat hl).mono ?_
  rintro e w1 ⟨v, rfl, ho, hb⟩
  go_wp2
  go_ret2
  exact ⟨v, rfl, ho, hb⟩

set_option maxHeartbeats 400000 in
theorem logPieces_spec_no (a : Int) (ao : Option Addr) (n cap : Nat) (w : World) (ha : -9223372036854775808 ≤ a ∧ a ≤ 9223372036854775807) (hn : n ≤ 1048576) (h : ¬ (0 ≤ a ∧ a ≤ 20000 ∧ n ≤ 2000)) :
    Calls Try.prog 12 #[.int .i64 a, .slice ao n cap] w fun e w' => e = .returned (.tuple #[.slice none 0 0, .bool false]) ∧ w' = w := by
  by_cases h1 : 0 ≤ a ∧ a ≤ 20000
  · have h3 : (2000 : Int) < (n : Int) := by omega
    clear h
    go_enter Try.func12, Try.ntmps12
    go_wp2_with fail
    refine (l1In_yes _ _ _ _ (by omega) (by omega)).mono ?_
    rintro e w' ⟨rfl, rfl⟩
    go_wp2
    go_ret2
    exact ⟨rfl, rfl⟩
  · clear h
    go_enter Try.func12, Try.ntmps12
    go_wp2_with fail
    refine (l1In_no _ _ _ _ h1).mono ?_
    rintro e w' ⟨rfl, rfl⟩
    go_wp2
    go_ret2
    exact ⟨rfl, rfl⟩

set_option maxHeartbeats 1000000 in
theorem logPieces_law_yes (at' : Nat) (ao : Option Addr) (n cap : Nat) (f : Nat → Int) (w : World) (hr : Row w ao n f) (hat : at' ≤ 20000) (hn : n ≤ 2000) :
    Calls Try.prog 4 #[.int .i64 at', .slice ao n cap] w fun e w' => e = .returned (.bool true) ∧ Below w.heap.size w w' := by
  have hn' : n ≤ 1048576 := by omega
  have hng : ¬ (1048576 : Int) < (n : Int) := by omega
  have hRl := ls_length f n
  have hTl := allL_length_le at' (ls f n) (by omega)
  have hTp := allL_pos at' (ls f n)
  go_enter Try.func4, Try.ntmps4
  go_wp2_with fail
  refine (toByteS_any ao n cap f _ hr hn').mono ?_
  rintro e w1 ⟨rfl, o1, b1⟩
  go_wp2_with fail
  refine (logPieces_spec_yes at' _ _ n n (ls f n) _ o1.at hRl.symm (Nat.le_refl _) hat (by omega)).mono ?_
  rintro e w2 ⟨v2, rfl, ho2, b2⟩
  obtain ⟨g2, c2, rfl, hg2, _, O2⟩ := ho2.own' (by omega)
  have B2 := b1.trans (b2.mono b1.size)
  go_wp2_with fail
  refine (toByteS_any ao n cap f _ (hr.keep B2) hn').mono ?_
  rintro e w3 ⟨rfl, o3, b3⟩
  go_wp2_with fail
  refine (logPieces_impl_yes at' _ _ n n (ls f n) _ o3.at hRl.symm (Nat.le_refl _) hat (by omega)).mono ?_
  rintro e w4 ⟨v4, rfl, ho4, b4⟩
  obtain ⟨g4, c4, rfl, hg4, _, O4⟩ := ho4.own' (by omega)
  have B3 := B2.trans (b3.mono B2.size)
  have B4 := B3.trans (b4.mono B3.size)
  have O2_4 := (O2.keep b3).keep b4
  generalize hT : allL at' (ls f n) = T at *
  have HT : Hid (allL at' (ls f n) = T) := hT
  clear hT ho2 ho4
  go_wp2_with fail
  refine (eqByteS_same _ _ T.length c4 c2 (fl T) _ O4.row O2_4.row (by omega)).mono ?_
  rintro e w5 ⟨rfl, b5⟩
  have B5 := B4.trans (b5.mono B4.size)
  go_wp2_with fail
  refine (toByteS_any ao n cap f _ (hr.keep B5) hn').mono ?_
  rintro e w6 ⟨rfl, o6, b6⟩
  have x6 := ((o3.keep b4).keep b5).keep b6
  have B6 := B5.trans (b6.mono B5.size)
  go_wp2_with fail
  refine (eqByteS_same _ _ n n n f _ x6.row o6.row hn').mono ?_
  rintro e w7 ⟨rfl, b7⟩
  have B7 := B6.trans (b7.mono B6.size)
  go_wp2_with fail
  refine (mark_one _ _ n n f _ (x6.keep b7) hn').mono ?_
  rintro e w8 ⟨rfl, o8, X8⟩
  have s1 := b1.size
  have s2 := b2.size
  have s3 := b3.size
  have s4 := b4.size
  have s5 := b5.size
  have s6 := b6.size
  have s7 := b7.size
  have l2 := O2.lt
  have l3 := o3.lt
  have B8 := B7.trans (X8.below (B := w.heap.size) (by omega))
  have s8 := X8.size
  have G8 := X8.row (((O4.keep b5).keep b6).keep b7) (by omega)
  have W8 := X8.row (((O2_4.keep b5).keep b6).keep b7) (by omega)
  clear x6 o6
  go_wp2_with fail
  refine (eqByteS_same _ _ T.length c4 c2 (fl T) _ G8.row W8.row (by omega)).mono ?_
  rintro e w9 ⟨rfl, b9⟩
  have B9 := B8.trans (b9.mono B8.size)
  have s9 := b9.size
  go_wp2_with fail
  refine (mark_one g4 0 T.length c4 (fl T) _ (G8.keep b9) (by omega)).mono ?_
  rintro e w10 ⟨rfl, G10, X10⟩
  have W10 := X10.row (W8.keep b9) (by omega)
  have B10 := B9.trans (X10.below (B := w.heap.size) (by omega))
  have s10 := X10.size
  go_wp2_with fail
  refine (held_one _ T.length c4 _ G10.row (by omega)).mono ?_
  rintro e w11 ⟨rfl, b11⟩
  have B11 := B10.trans (b11.mono B10.size)
  go_wp2_with fail
  refine (toByteS_any ao n cap f _ (hr.keep B11) hn').mono ?_
  rintro e w12 ⟨rfl, o12, b12⟩
  have B12 := B11.trans (b12.mono B11.size)
  go_wp2_with fail
  refine (logPieces_impl_yes at' _ _ n n (ls f n) _ o12.at hRl.symm (Nat.le_refl _) hat (by omega)).mono ?_
  rw [HT.out]
  rintro e w13 ⟨v13, rfl, ho13, b13⟩
  obtain ⟨g13, c13, rfl, hg13, _, O13⟩ := ho13.own' (by omega)
  have B13 := B12.trans (b13.mono B12.size)
  go_wp2_with fail
  refine (eqByteS_same _ _ T.length c13 c2 (fl T) _ O13.row (((W10.keep b11).keep b12).keep b13).row (by omega)).mono ?_
  rintro e w14 ⟨rfl, b14⟩
  have B14 := B13.trans (b14.mono B13.size)
  go_wp2_with fail
  refine (held_one _ T.length c4 _ ((((G10.keep b11).keep b12).keep b13).keep b14).row (by omega)).mono ?_
  rintro e w15 ⟨rfl, b15⟩
  have B15 := B14.trans (b15.mono B14.size)
  go_wp2
  go_ret
  exact ⟨rfl, B15⟩

set_option maxHeartbeats 1000000 in
theorem logPieces_law_no (a : Int) (ao : Option Addr) (n cap : Nat) (f : Nat → Int) (w : World) (hr : Row w ao n f) (ha : -9223372036854775808 ≤ a ∧ a ≤ 9223372036854775807) (hn' : n ≤ 1048576) (h : ¬ (0 ≤ a ∧ a ≤ 20000 ∧ n ≤ 2000)) :
    Calls Try.prog 4 #[.int .i64 a, .slice ao n cap] w fun e w' => e = .returned (.bool true) ∧ Below w.heap.size w w' := by
  have hng : ¬ (1048576 : Int) < (n : Int) := by omega
  have H : Hid (¬ (0 ≤ a ∧ a ≤ 20000 ∧ n ≤ 2000)) := h
  clear h
  go_enter Try.func4, Try.ntmps4
  go_wp2_with fail
  refine (toByteS_any ao n cap f _ hr hn').mono ?_
  rintro e w1 ⟨rfl, o1, b1⟩
  go_wp2_with fail
  refine (logPieces_spec_no a _ n n _ ha hn' H.out).mono ?_
  rintro e w2 ⟨rfl, rfl⟩
  go_wp2_with fail
  refine (toByteS_any ao n cap f _ (hr.keep b1) hn').mono ?_
  rintro e w3 ⟨rfl, o3, b3⟩
  have B3 := b1.trans (b3.mono b1.size)
  go_wp2_with fail
  refine (logPieces_impl_no a _ n n _ ha hn' H.out).mono ?_
  rintro e w4 ⟨rfl, rfl⟩
  go_wp2_with fail
  refine (eq_none _ _ _ _ _).mono ?_
  rintro e w5 ⟨rfl, b5⟩
  have B5 := B3.trans (b5.mono B3.size)
  go_wp2_with fail
  refine (toByteS_any ao n cap f _ (hr.keep B5) hn').mono ?_
  rintro e w6 ⟨rfl, o6, b6⟩
  have x6 := (o3.keep b5).keep b6
  have B6 := B5.trans (b6.mono B5.size)
  go_wp2_with fail
  refine (eqByteS_same _ _ n n n f _ x6.row o6.row hn').mono ?_
  rintro e w7 ⟨rfl, b7⟩
  have B7 := B6.trans (b7.mono B6.size)
  go_wp2_with fail
  refine (mark_one _ _ n n f _ (x6.keep b7) hn').mono ?_
  rintro e w8 ⟨rfl, o8, X8⟩
  have B8 := B7.trans (X8.below (B := w.heap.size) b1.size)
  go_wp2_with fail
  refine (eq_none _ _ _ _ _).mono ?_
  rintro e w9 ⟨rfl, b9⟩
  have B9 := B8.trans (b9.mono B8.size)
  go_wp2_with fail
  refine (mark_none _ _ _).mono ?_
  rintro e w10 ⟨rfl, rfl⟩
  go_wp2_with fail
  refine (held_none _ _ _).mono ?_
  rintro e w11 ⟨rfl, b11⟩
  have B11 := B9.trans (b11.mono B9.size)
  go_wp2_with fail
  refine (toByteS_any ao n cap f _ (hr.keep B11) hn').mono ?_
  rintro e w12 ⟨rfl, o12, b12⟩
  have B12 := B11.trans (b12.mono B11.size)
  go_wp2_with fail
  refine (logPieces_impl_no a _ n n _ ha hn' H.out).mono ?_
  rintro e w13 ⟨rfl, rfl⟩
  go_wp2_with fail
  refine (eq_none _ _ _ _ _).mono ?_
  rintro e w14 ⟨rfl, b14⟩
  have B14 := B12.trans (b14.mono B12.size)
  go_wp2_with fail
  refine (held_none _ _ _).mono ?_
  rintro e w15 ⟨rfl, b15⟩
  have B15 := B14.trans (b15.mono B14.size)
  go_wp2
  go_ret
  exact ⟨rfl, B15⟩

set_option maxHeartbeats 400000 in
theorem logPieces_law (a : Int) (ao : Option Addr) (n cap : Nat) (f : Nat → Int) (w : World) (hr : Row w ao n f) (ha : -9223372036854775808 ≤ a ∧ a ≤ 9223372036854775807) (hm : n ≤ maxLen) :
    Calls Try.prog 4 #[.int .i64 a, .slice ao n cap] w fun e w' => e = .returned (.bool true) ∧ Below w.heap.size w w' := by
  by_cases hn : n ≤ 1048576
  · by_cases h : 0 ≤ a ∧ a ≤ 20000 ∧ n ≤ 2000
    · obtain ⟨m, rfl⟩ := Int.eq_ofNat_of_zero_le h.1
      exact logPieces_law_yes m ao n cap f w hr (by omega) h.2.2
    · exact logPieces_law_no a ao n cap f w hr ha hn h
  · unfold maxLen at hm
    have hng : (1048576 : Int) < (n : Int) := by omega
    go_enter Try.func4, Try.ntmps4
    go_wp2
    go_ret
    exact ⟨rfl, Below.refl _ _⟩
end Go.Proofs.Ytimlggomjjkhlaa
