/- The law of ReadLog, walked. -/
import Derived.Test.YtimlggomjjkhlaaSpN
import Derived.Test.YtimlggomjjkhlaaSSm
import Derived.Test.YtimlggomjjkhlaaPcLaw
namespace Go.Proofs.Ytimlggomjjkhlaa
open Go.RowKit
set_option linter.unusedSimpArgs false
set_option linter.unusedVariables false

set_option maxHeartbeats 400000 in
theorem readLog_spec_yes (lb lo n lc : Nat) (B : List Int) (w : World) (hA : At w lb lo B) (hn : n = B.length) (hc : n ≤ lc) (hs : B.length ≤ 20000) :
    Calls Try.prog 18 #[.slice (some ⟨lb, lo, none⟩) n lc] w fun e w' => RLOut B w e w' := by
  have h1 : ¬ (20000 : Int) < (n : Int) := by omega
  have HN : Hid (n = B.length) := hn
  clear hn
  go_enter Try.func18, Try.ntmps18
  go_wp2_with fail
  refine (l3Read_any lb lo lc n B _ hA HN.out hc hs).mono ?_
  rintro e w1 ⟨ao, m, cap, V, Rs, wh, rfl, hS, hF, hb, ht⟩
  have HF : Hid (Fin B 0 [] false [] 0 (recs m Rs, wh)) := hF
  clear hF
  go_wp2
  exact bodyPost_ret (v := .tuple #[.slice ao m cap, .int .i64 (wh : Int), .bool true]) (by simp [results, Try.results18, go_sem]) rfl ⟨ao, m, cap, V, Rs, wh, rfl, hS, HF.out, hb, ht⟩

set_option maxHeartbeats 400000 in
theorem readLog_spec_no (ao : Option Addr) (n cap : Nat) (w : World) (hn : n ≤ 1048576) (h : ¬ n ≤ 20000) :
    Calls Try.prog 18 #[.slice ao n cap] w fun e w' => e = .returned (.tuple #[.slice none 0 0, .int .i64 0, .bool false]) ∧ w' = w := by
  have h1 : (20000 : Int) < (n : Int) := by omega
  go_enter Try.func18, Try.ntmps18
  go_wp2
  exact bodyPost_ret (v := .tuple #[.slice none 0 0, .int .i64 0, .bool false]) (by simp [results, Try.results18, go_sem]) rfl ⟨rfl, rfl⟩

/-- Two lists of rows that are the same row by row are so up to their names. -/
theorem recs_same {n m : Nat} {Rs Qs : Nat → List Int} (h : recs n Rs = recs m Qs) : n = m ∧ ∀ i, i < n → Rs i = Qs i := by
  have hl : n = m := by have := congrArg List.length h; simpa [recs] using this
  subst hl
  refine ⟨rfl, fun i hi => ?_⟩
  have := congrArg (fun L => L[i]?) h
  simpa [recs, hi] using this
theorem RLOut.as {B : List Int} {w w' : World} {e : Ending} {m wh : Nat} {Rs : Nat → List Int} (h : RLOut B w e w') (hF : Fin B 0 [] false [] 0 (recs m Rs, wh)) :
    ∃ ao cap V, e = .returned (.tuple #[.slice ao m cap, .int .i64 (wh : Nat), .bool true]) ∧ OwS w' w.heap.size w'.heap.size ao m V Rs ∧ Below w.heap.size w w' := by
  obtain ⟨ao, n, cap, V, Qs, g, rfl, hS, hF', hb, _⟩ := h
  have e := hF'.det hF
  simp only [Prod.mk.injEq] at e
  obtain ⟨e1, rfl⟩ := e
  obtain ⟨rfl, e2⟩ := recs_same e1
  exact ⟨ao, cap, V, rfl, hS.congr e2, hb⟩

set_option maxHeartbeats 2000000 in
theorem readLog_law_yes (ao : Option Addr) (n cap : Nat) (f : Nat → Int) (w : World) (hr : Row w ao n f) (hn : n ≤ 20000) :
    Calls Try.prog 5 #[.slice ao n cap] w fun e w' => e = .returned (.bool true) ∧ Below w.heap.size w w' := by
  have hn' : n ≤ 1048576 := by omega
  have hng : ¬ (1048576 : Int) < (n : Int) := by omega
  have hRl := ls_length f n
  go_enter Try.func5, Try.ntmps5
  go_wp2_with fail
  refine (toByteS_any ao n cap f _ hr hn').mono ?_
  rintro e w1 ⟨rfl, o1, b1⟩
  go_wp2_with fail
  refine (readLog_spec_yes _ _ n n (ls f n) _ o1.at hRl.symm (Nat.le_refl _) (by omega)).mono ?_
  rintro e w2 ⟨a2, m, c2, V2, Rs, wh, rfl, S2, hF, b2, ht⟩
  have HF : Hid (Fin (ls f n) 0 [] false [] 0 (recs m Rs, wh)) := hF
  clear hF
  have htt : m + tot Rs m ≤ 1048576 := by omega
  have B2 := b1.trans (b2.mono b1.size)
  go_wp2_with fail
  refine (toByteS_any ao n cap f _ (hr.keep B2) hn').mono ?_
  rintro e w3 ⟨rfl, o3, b3⟩
  go_wp2_with fail
  refine (readLog_impl_yes _ _ n n (ls f n) _ o3.at hRl.symm (Nat.le_refl _) (by omega)).mono ?_
  intro e w4 hout
  obtain ⟨a4, c4, V4, rfl, S4, b4⟩ := hout.as HF.out
  clear hout
  have B3 := B2.trans (b3.mono B2.size)
  have B4 := B3.trans (b4.mono B3.size)
  have S2_4 := (S2.keep b3).keep b4
  have s1 := b1.size
  have s2 := b2.size
  have s3 := b3.size
  have s4 := b4.size
  go_wp2_with fail
  refine (eqByteSS_same _ _ m c4 c2 V4 V2 Rs _ S4.rd S2_4.rd htt).mono ?_
  rintro e w5 ⟨rfl, b5⟩
  have B5 := B4.trans (b5.mono B4.size)
  go_wp2_with fail
  refine (toByteS_any ao n cap f _ (hr.keep B5) hn').mono ?_
  rintro e w6 ⟨rfl, o6, b6⟩
  have x6 := ((o3.keep b4).keep b5).keep b6
  have B6 := B5.trans (b6.mono B5.size)
  go_wp2_with fail
  refine (eqByteS_same _ _ n n n f _ x6.row o6.row hn').mono ?_
  rintro e w7 ⟨rfl, b7⟩
  have B7 := B6.trans (b7.mono B6.size)
  go_wp2_with fail
  refine (mark_one _ _ n n f _ (x6.keep b7) hn').mono ?_
  rintro e w8 ⟨rfl, o8, X8⟩
  have l3 := o3.lt
  have Y8 : Wit w2.heap.size w3.heap.size w7 w8 := Wit.ofOthers X8 (Nat.le_refl _) l3
  have B8 := B7.trans (X8.below (B := w.heap.size) (by omega))
  have G8 := Y8.ows (((S4.keep b5).keep b6).keep b7) (.inr (Nat.le_refl _))
  have W8 := Y8.ows (((S2_4.keep b5).keep b6).keep b7) (.inl (Nat.le_refl _))
  clear x6 o6
  go_wp2_with fail
  refine (eqByteSS_same _ _ m c4 c2 V4 V2 Rs _ G8.rd W8.rd htt).mono ?_
  rintro e w9 ⟨rfl, b9⟩
  have B9 := B8.trans (b9.mono B8.size)
  go_wp2_with fail
  refine (markSS_one _ m c4 _ _ V4 Rs _ (G8.keep b9) htt).mono ?_
  rintro e w10 ⟨rfl, G10, X10⟩
  have B10 := B9.trans (X10.below (B := w.heap.size) (by omega))
  have W10 := X10.ows (W8.keep b9) (.inl (by omega))
  go_wp2_with fail
  refine (heldSS_one _ m c4 V4 Rs _ G10.rd htt).mono ?_
  rintro e w11 ⟨rfl, b11⟩
  have B11 := B10.trans (b11.mono B10.size)
  go_wp2_with fail
  refine (toByteS_any ao n cap f _ (hr.keep B11) hn').mono ?_
  rintro e w12 ⟨rfl, o12, b12⟩
  have B12 := B11.trans (b12.mono B11.size)
  go_wp2_with fail
  refine (readLog_impl_yes _ _ n n (ls f n) _ o12.at hRl.symm (Nat.le_refl _) (by omega)).mono ?_
  intro e w13 hout
  obtain ⟨a13, c13, V13, rfl, S13, b13⟩ := hout.as HF.out
  clear hout
  have B13 := B12.trans (b13.mono B12.size)
  go_wp2_with fail
  refine (eqByteSS_same _ _ m c13 c2 V13 V2 Rs _ S13.rd (((W10.keep b11).keep b12).keep b13).rd htt).mono ?_
  rintro e w14 ⟨rfl, b14⟩
  have B14 := B13.trans (b14.mono B13.size)
  go_wp2_with fail
  refine (heldSS_one _ m c4 V4 Rs _ ((((G10.keep b11).keep b12).keep b13).keep b14).rd htt).mono ?_
  rintro e w15 ⟨rfl, b15⟩
  have B15 := B14.trans (b15.mono B14.size)
  go_wp2
  go_ret
  exact ⟨rfl, B15⟩

theorem eqSS_none (ao bo : Option Addr) (ca cb : Nat) (w : World) :
    Calls Try.prog 19 #[.slice ao 0 ca, .slice bo 0 cb] w fun e w' => e = .returned (.bool true) ∧ Below w.heap.size w w' :=
  eqByteSS_same ao bo 0 ca cb (fun _ => .slice none 0 0) (fun _ => .slice none 0 0) (fun _ => []) w ⟨fun i hi => absurd hi (Nat.not_lt_zero _), .inl rfl⟩ ⟨fun i hi => absurd hi (Nat.not_lt_zero _), .inl rfl⟩ (by simp [tot])
theorem markSS_none (ao : Option Addr) (ca : Nat) (w : World) :
    Calls Try.prog 20 #[.slice ao 0 ca, .int .i64 1] w fun e w' => e = .returned (.int .i64 1) ∧ Wit 0 0 w w' := by
  refine (markSS_one ao 0 ca 0 0 (fun _ => .slice none 0 0) (fun _ => []) w ⟨fun i hi => absurd hi (Nat.not_lt_zero _), fun i hi => absurd hi (Nat.not_lt_zero _), fun i j hi => absurd hi (Nat.not_lt_zero _), .inl rfl, Nat.zero_le _⟩ (by simp [tot])).mono fun e w' h => ?_
  obtain ⟨rfl, _, h2⟩ := h
  exact ⟨rfl, h2⟩
theorem heldSS_none (ao : Option Addr) (ca : Nat) (w : World) :
    Calls Try.prog 21 #[.slice ao 0 ca, .int .i64 1] w fun e w' => e = .returned (.int .i64 1) ∧ Below w.heap.size w w' := by
  refine (heldSS_one ao 0 ca (fun _ => .slice none 0 0) (fun _ => []) w ⟨fun i hi => absurd hi (Nat.not_lt_zero _), .inl rfl⟩ (by simp [tot])).mono fun e w' h => ?_
  obtain ⟨rfl, h2⟩ := h
  exact ⟨rfl, h2⟩
theorem Wit.none {w w' : World} (h : Wit 0 0 w w') : Below w.heap.size w w' := ⟨h.os, h.tape, h.output, by rw [h.size]; exact Nat.le_refl _, fun k hk => h.block k (by omega)⟩

set_option maxHeartbeats 2000000 in
theorem readLog_law_no (ao : Option Addr) (n cap : Nat) (f : Nat → Int) (w : World) (hr : Row w ao n f) (hn' : n ≤ 1048576) (hn : ¬ n ≤ 20000) :
    Calls Try.prog 5 #[.slice ao n cap] w fun e w' => e = .returned (.bool true) ∧ Below w.heap.size w w' := by
  have hng : ¬ (1048576 : Int) < (n : Int) := by omega
  go_enter Try.func5, Try.ntmps5
  go_wp2_with fail
  refine (toByteS_any ao n cap f _ hr hn').mono ?_
  rintro e w1 ⟨rfl, o1, b1⟩
  go_wp2_with fail
  refine (readLog_spec_no _ n n _ hn' hn).mono ?_
  rintro e w2 ⟨rfl, rfl⟩
  go_wp2_with fail
  refine (toByteS_any ao n cap f _ (hr.keep b1) hn').mono ?_
  rintro e w3 ⟨rfl, o3, b3⟩
  have B3 := b1.trans (b3.mono b1.size)
  go_wp2_with fail
  refine (readLog_impl_no _ n n _ hn' hn).mono ?_
  rintro e w4 ⟨rfl, rfl⟩
  go_wp2_with fail
  refine (eqSS_none _ _ _ _ _).mono ?_
  rintro e w5 ⟨rfl, b5⟩
  have B5 := B3.trans (b5.mono B3.size)
  go_wp2_with fail
  refine (toByteS_any ao n cap f _ (hr.keep B5) hn').mono ?_
  rintro e w6 ⟨rfl, o6, b6⟩
  have x6 := (o3.keep b5).keep b6
  have B6 := B5.trans (b6.mono B5.size)
  go_wp2_with fail
  refine (eqByteS_same _ _ n n n f _ x6.row o6.row hn').mono ?_
  rintro e w7 ⟨rfl, b7⟩
  have B7 := B6.trans (b7.mono B6.size)
  go_wp2_with fail
  refine (mark_one _ _ n n f _ (x6.keep b7) hn').mono ?_
  rintro e w8 ⟨rfl, o8, X8⟩
  have B8 := B7.trans (X8.below (B := w.heap.size) b1.size)
  go_wp2_with fail
  refine (eqSS_none _ _ _ _ _).mono ?_
  rintro e w9 ⟨rfl, b9⟩
  have B9 := B8.trans (b9.mono B8.size)
  go_wp2_with fail
  refine (markSS_none _ _ _).mono ?_
  rintro e w10 ⟨rfl, X10⟩
  have b10 := X10.none
  have B10 := B9.trans (b10.mono B9.size)
  go_wp2_with fail
  refine (heldSS_none _ _ _).mono ?_
  rintro e w11 ⟨rfl, b11⟩
  have B11 := B10.trans (b11.mono B10.size)
  go_wp2_with fail
  refine (toByteS_any ao n cap f _ (hr.keep B11) hn').mono ?_
  rintro e w12 ⟨rfl, o12, b12⟩
  have B12 := B11.trans (b12.mono B11.size)
  go_wp2_with fail
  refine (readLog_impl_no _ n n _ hn' hn).mono ?_
  rintro e w13 ⟨rfl, rfl⟩
  go_wp2_with fail
  refine (eqSS_none _ _ _ _ _).mono ?_
  rintro e w14 ⟨rfl, b14⟩
  have B14 := B12.trans (b14.mono B12.size)
  go_wp2_with fail
  refine (heldSS_none _ _ _).mono ?_
  rintro e w15 ⟨rfl, b15⟩
  have B15 := B14.trans (b15.mono B14.size)
  go_wp2
  go_ret
  exact ⟨rfl, B15⟩

set_option maxHeartbeats 400000 in
theorem readLog_law (ao : Option Addr) (n cap : Nat) (f : Nat → Int) (w : World) (hr : Row w ao n f) (hm : n ≤ maxLen) :
    Calls Try.prog 5 #[.slice ao n cap] w fun e w' => e = .returned (.bool true) ∧ Below w.heap.size w w' := by
  by_cases hn : n ≤ 1048576
  · by_cases h : n ≤ 20000
    · exact readLog_law_yes ao n cap f w hr h
    · exact readLog_law_no ao n cap f w hr hn h
  · unfold maxLen at hm
    have hng : (1048576 : Int) < (n : Int) := by omega
    go_enter Try.func5, Try.ntmps5
    go_wp2
    go_ret
    exact ⟨rfl, Below.refl _ _⟩
end Go.Proofs.Ytimlggomjjkhlaa
