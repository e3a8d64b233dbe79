/- The law of LogOf, walked. -/
import Derived.Test.YtimlggomjjkhlaaLog
import Derived.Test.YtimlggomjjkhlaaSSm
import Derived.Test.YtimlggomjjkhlaaBV
namespace Go.Proofs.Ytimlggomjjkhlaa
open Go.RowKit
set_option linter.unusedSimpArgs false
set_option linter.unusedVariables false

/-- L, ok: what LogOf answers. -/
def IsLog (Rs : Nat → List Int) (n : Nat) (L : List Int) (ok : Bool) : Prop := ((n ≤ 60 ∧ Gd Rs n) ∧ L = logL Rs n ∧ ok = true) ∨ (¬ (n ≤ 60 ∧ Gd Rs n) ∧ L = [] ∧ ok = false)
theorem isLog_ex (Rs : Nat → List Int) (n : Nat) : ∃ L ok, IsLog Rs n L ok ∧ L.length ≤ 20000 := by
  by_cases h : n ≤ 60 ∧ Gd Rs n
  · exact ⟨_, true, .inl ⟨h, rfl, rfl⟩, h.2.le⟩
  · exact ⟨[], false, .inr ⟨h, rfl, rfl⟩, Nat.zero_le _⟩
theorem logOut_is {Rs : Nat → List Int} {n : Nat} {L : List Int} {ok : Bool} {w w' : World} {e : Ending} (h : LogOut Rs n w e w') (hI : IsLog Rs n L ok) :
    ∃ ao c, e = .returned (.tuple #[.slice ao L.length c, .bool ok]) ∧ BV w' w.heap.size w'.heap.size ao L ∧ Below w.heap.size w w' := by
  obtain ⟨hb, h⟩ := h
  rcases hI with ⟨hg, rfl, rfl⟩ | ⟨hg, rfl, rfl⟩
  · rcases h with ⟨_, _, v, rfl, ho⟩ | ⟨hn, _⟩
    · obtain ⟨ao, c, rfl, hv⟩ := bv_of ho
      exact ⟨ao, c, rfl, hv, hb⟩
    · exact absurd hg hn
  · rcases h with ⟨h1, h2, _⟩ | ⟨_, rfl⟩
    · exact absurd ⟨h1, h2⟩ hg
    · exact ⟨none, 0, rfl, bv_nil _ _ _ (Nat.le_refl _), hb⟩

theorem below_lt {w w' : World} (h : Below w.heap.size w w') : w.heap.size ≤ w'.heap.size := h.size

set_option maxHeartbeats 1000000 in
theorem logOf_law_ok (ao : Option Addr) (n cap : Nat) (V : Nat → Value) (Rs : Nat → List Int) (w : World) (h : RdS w ao n V Rs) (hB : ∀ i, i < n → Byt (Rs i)) (ht : n + tot Rs n ≤ 1048576) :
    Calls Try.prog 6 #[.slice ao n cap] w fun e w' => e = .returned (.bool true) ∧ Below w.heap.size w w' := by
  obtain ⟨L, ok, hI, hLl⟩ := isLog_ex Rs n
  have HI : Hid (IsLog Rs n L ok) := hI
  have hLm : L.length ≤ 1048576 := by omega
  have hs : ∀ i, i < n → (Rs i).length ≤ 1048576 := fun i hi => by have := len_le_tot Rs hi; omega
  have HS : Hid (∀ i, i < n → (Rs i).length ≤ 1048576) := hs
  have HB : Hid (∀ i, i < n → Byt (Rs i)) := hB
  have hn : n ≤ 1048576 := by omega
  have hok : (ok != ok) = false := by simp
  clear hI hs hB
  go_enter Try.func6, Try.ntmps6
  go_wp2_with fail
  refine (szByteSS_ok ao n cap V Rs _ h ht).mono ?_
  rintro e w0 ⟨l, rfl, hl0, b0⟩
  have hl0' : ¬ l < 0 := by omega
  have h0 := h.keep b0
  go_wp2_with fail
  refine (toByteSS_any ao n cap V Rs _ h0 HB.out ht).mono ?_
  rintro e w1 ⟨U1, rfl, _, a1, b1⟩
  have B1 := b0.trans (b1.mono b0.size)
  go_wp2_with fail
  refine (logOf_spec _ n n U1 Rs _ a1 hn HS.out).mono ?_
  intro e w2 hout
  obtain ⟨ao2, c2, rfl, V2, b2⟩ := logOut_is hout HI.out
  clear hout
  have B2 := B1.trans (b2.mono B1.size)
  go_wp2_with fail
  refine (toByteSS_any ao n cap V Rs _ (h.keep B2) HB.out ht).mono ?_
  rintro e w3 ⟨U3, rfl, o3, a3, b3⟩
  have B3 := B2.trans (b3.mono B2.size)
  go_wp2_with fail
  refine (logOf_impl _ n n U3 Rs _ a3 hn HS.out).mono ?_
  intro e w4 hout
  obtain ⟨ao4, c4, rfl, V4, b4⟩ := logOut_is hout HI.out
  clear hout
  have B4 := B3.trans (b4.mono B3.size)
  have V2_4 := (V2.keep b3).keep b4
  have s0 := b0.size
  have s1 := b1.size
  have s2 := b2.size
  have s3 := b3.size
  have s4 := b4.size
  go_wp2_with fail
  refine (eqBV _ _ c4 c2 _ _ _ _ L _ V4 V2_4 hLm).mono ?_
  rintro e w5 ⟨rfl, b5⟩
  have B5 := B4.trans (b5.mono B4.size)
  go_wp2_with fail
  refine (toByteSS_any ao n cap V Rs _ (h.keep B5) HB.out ht).mono ?_
  rintro e w6 ⟨U6, rfl, o6, a6, b6⟩
  have B6 := B5.trans (b6.mono B5.size)
  have x6 := ((o3.keep b4).keep b5).keep b6
  go_wp2_with fail
  refine (eqByteSS_same _ _ n n n U3 U6 Rs _ x6.rd o6.rd ht).mono ?_
  rintro e w7 ⟨rfl, b7⟩
  have B7 := B6.trans (b7.mono B6.size)
  go_wp2_with fail
  refine (markSS_one _ n n _ _ U3 Rs _ (x6.keep b7) ht).mono ?_
  rintro e w8 ⟨rfl, o8, X8⟩
  have B8 := B7.trans (X8.below (B := w.heap.size) (by omega))
  have G8 := (((V4.keep b5).keep b6).keep b7).wit X8 (.inr (Nat.le_refl _))
  have W8 := (((V2_4.keep b5).keep b6).keep b7).wit X8 (.inl (Nat.le_refl _))
  clear x6 o6 a6 o3 a3 a1
  go_wp2_with fail
  refine (eqBV _ _ c4 c2 _ _ _ _ L _ G8 W8 hLm).mono ?_
  rintro e w9 ⟨rfl, b9⟩
  have B9 := B8.trans (b9.mono B8.size)
  go_wp2_with fail
  refine (markBV _ c4 _ _ L _ (G8.keep b9) hLm).mono ?_
  rintro e w10 ⟨rfl, G10, X10⟩
  have B10 := B9.trans (X10.below (B := w.heap.size) (by omega))
  have W10 := (W8.keep b9).wit X10 (.inl (by omega))
  go_wp2_with fail
  refine (held_one _ L.length c4 _ G10 hLm).mono ?_
  rintro e w11 ⟨rfl, b11⟩
  have B11 := B10.trans (b11.mono B10.size)
  go_wp2_with fail
  refine (toByteSS_any ao n cap V Rs _ (h.keep B11) HB.out ht).mono ?_
  rintro e w12 ⟨U12, rfl, _, a12, b12⟩
  have B12 := B11.trans (b12.mono B11.size)
  go_wp2_with fail
  refine (logOf_impl _ n n U12 Rs _ a12 hn HS.out).mono ?_
  intro e w13 hout
  obtain ⟨ao13, c13, rfl, V13, b13⟩ := logOut_is hout HI.out
  clear hout
  have B13 := B12.trans (b13.mono B12.size)
  go_wp2_with fail
  refine (eqBV _ _ c13 c2 _ _ _ _ L _ V13 (((W10.keep b11).keep b12).keep b13) hLm).mono ?_
  rintro e w14 ⟨rfl, b14⟩
  have B14 := B13.trans (b14.mono B13.size)
  go_wp2_with fail
  refine (held_one _ L.length c4 _ ((((G10.keep b11).keep b12).keep b13).keep b14) hLm).mono ?_
  rintro e w15 ⟨rfl, b15⟩
  have B15 := B14.trans (b15.mono B14.size)
  go_wp2
  go_ret
  exact ⟨rfl, B15⟩

set_option maxHeartbeats 400000 in
theorem logOf_law (ao : Option Addr) (n cap : Nat) (V : Nat → Value) (Rs : Nat → List Int) (w : World) (h : RdS w ao n V Rs) (hn : n ≤ maxLen) (hB : ∀ i, i < n → Byt (Rs i) ∧ (Rs i).length ≤ maxLen) :
    Calls Try.prog 6 #[.slice ao n cap] w fun e w' => e = .returned (.bool true) ∧ Below w.heap.size w w' := by
  by_cases ht : n + tot Rs n ≤ 1048576
  · exact logOf_law_ok ao n cap V Rs w h (fun i hi => (hB i hi).1) ht
  · unfold maxLen at hn hB
    have HB : Hid (∀ i, i < n → (Rs i).length ≤ 9223372036854775807) := fun i hi => by have := (hB i hi).2; omega
    clear hB
    go_enter Try.func6, Try.ntmps6
    go_wp2_with fail
    refine (szByteSS_no ao n cap V Rs _ h (by omega) HB.out ht).mono ?_
    rintro e w0 ⟨rfl, b0⟩
    go_wp2
    go_ret
    exact ⟨rfl, b0⟩
end Go.Proofs.Ytimlggomjjkhlaa
