/- The law of LastTold, walked over what both texts are said to answer. -/
import Derived.Test.YtjdijikmdlklkaaYx
import Derived.Test.YtjdijikmdlklkaaTdA
namespace Go.Proofs.Ytjdijikmdlklkaa
open Go.RowKit
set_option linter.unusedSimpArgs false
set_option linter.unusedVariables false

/-- What the program answers: told ones of its own. -/
def LtAns (m : Nat) (T : Nat → Wn) (c : Bool) (w : World) (e : Ending) (w' : World) : Prop := ∃ lo lc, e = .returned (.tuple #[.slice lo m lc, .bool c]) ∧ TA w' w.heap.size w'.heap.size (.slice lo m lc) m T ∧ Below w.heap.size w w'
/-- What the model answers: told ones. -/
def LmAns (m : Nat) (T : Nat → Wn) (c : Bool) (w : World) (e : Ending) (w' : World) : Prop := ∃ lo lc, e = .returned (.tuple #[.slice lo m lc, .bool c]) ∧ ToRow w' lo m T ∧ Below w.heap.size w w'
/-- What is asked of an answer. -/
structure LtO (m : Nat) (T : Nat → Wn) : Prop where
  n : m ≤ 1048576
  z : ToSize m T
  b : ∀ i, i < m → TlB (T i)
  f : FBw m T
/-- Both answer the same of n told ones X. -/
def LtBoth (n : Nat) (X : Nat → Wn) : Prop := ∃ m T c, LtO m T ∧ (∀ b G0 G1 w, ToOwn w b n n X G0 G1 → Calls Try.prog 5 #[.slice (some ⟨b, 0, none⟩) n n] w fun e w' => LmAns m T c w e w') ∧
  (∀ b G0 G1 w, ToOwn w b n n X G0 G1 → Calls Try.prog 7 #[.slice (some ⟨b, 0, none⟩) n n] w fun e w' => LtAns m T c w e w')

set_option maxRecDepth 100000 in
set_option maxHeartbeats 16000000 in
theorem lastTold_walk (ao : Option Addr) (n cap : Nat) (X : Nat → Wn) (w : World) (hr : ToRow w ao n X) (hnx : n ≤ 9223372036854775807) (HL : Hid (n ≤ 1048576 → ToSize n X → FBw n X → (∀ i, i < n → TlB (X i)) → LtBoth n X)) :
    Calls Try.prog 3 #[.slice ao n cap] w fun e w' => e = .returned (.bool true) ∧ Below w.heap.size w w' := by
  have hsz := szToldS_any ao n cap X 1048576 w hr (by omega) hnx
  go_enter Try.func3, Try.ntmps3
  go_wp2_with fail
  refine hsz.mono ?_
  clear hsz
  rintro e w1 ⟨v, rfl, hv1, hv2, hv3, bw1⟩
  by_cases hv : v < 0
  · clear hv3
    go_wp2
    go_ret
    exact ⟨rfl, bw1⟩
  obtain ⟨hn, hz⟩ := hv3 (by omega)
  obtain ⟨m, T, c, hO, hS, hI⟩ := HL.out hn hz hr.fb hr.bd
  have HS : Hid (∀ b G0 G1 w, ToOwn w b n n X G0 G1 → Calls Try.prog 5 #[.slice (some ⟨b, 0, none⟩) n n] w fun e w' => LmAns m T c w e w') := hS
  have HI : Hid (∀ b G0 G1 w, ToOwn w b n n X G0 G1 → Calls Try.prog 7 #[.slice (some ⟨b, 0, none⟩) n n] w fun e w' => LtAns m T c w e w') := hI
  clear hS hI HL hv3 hnx
  have hbd := hr.bd
  have hmn := hO.n
  have hcc : (c != c) = false := by simp
  have t1 := toToldS_any ao n cap X w1 (hr.keep bw1) hn hz
  go_wp2_with fail
  refine t1.mono ?_
  clear t1
  rintro e w2 ⟨G0, G1, rfl, ho2, q2⟩
  have bw2 := bw1.trans (q2.mono bw1.size)
  clear q2
  have t2 := HS.out _ _ _ _ ho2
  go_wp2_with fail
  refine t2.mono ?_
  clear t2 HS ho2
  rintro e w3 ⟨wl, wc, rfl, L3, q3⟩
  have bw3 := bw2.trans (q3.mono bw2.size)
  clear q3
  obtain ⟨e3, he3⟩ : ∃ e, e = w3.heap.size := ⟨_, rfl⟩
  have HW : Hid (∀ u, Below e3 w3 u → ToRow u wl m T) := fun u hu => L3.keep (by rw [← he3]; exact hu)
  clear L3
  have t3 := toToldS_any ao n cap X w3 (hr.keep bw3) hn hz
  go_wp2_with fail
  refine t3.mono ?_
  clear t3
  rintro e w4 ⟨F0, F1, rfl, ho4, q4⟩
  have bw4 := bw3.trans (q4.mono bw3.size)
  have bx4 : Below e3 w3 w4 := by rw [he3]; exact q4
  have s4 := q4.size
  clear q4
  have t4 := HI.out _ _ _ _ ho4
  go_wp2_with fail
  refine t4.mono ?_
  clear t4
  rintro e w5 ⟨gl, gc, rfl, V5, q5⟩
  have bw5 := bw4.trans (q5.mono bw4.size)
  have bx5 := bx4.trans (q5.mono (by omega))
  have ho5 := ho4.keep q5
  have O5 := (ta_own ho4).keep q5
  have s5 := q5.size
  clear q5 ho4
  obtain ⟨e4, he4⟩ : ∃ e, e = w4.heap.size := ⟨_, rfl⟩
  obtain ⟨e5, he5⟩ : ∃ e, e = w5.heap.size := ⟨_, rfl⟩
  rw [← he4, ← he5] at V5
  rw [← he4] at O5
  have t5 := eqToldS_same gl wl m gc wc T w5 (V5.row hO.b hO.f).2 (HW.out w5 bx5) hmn hO.z
  go_wp2_with fail
  refine t5.mono ?_
  clear t5
  rintro e w6 ⟨rfl, q6⟩
  have bw6 := bw5.trans (q6.mono bw5.size)
  have bx6 := bx5.trans (q6.mono (by omega))
  have V6 := V5.keep q6
  have O6 := O5.keep q6
  have ho6 := ho5.keep q6
  have s6 := q6.size
  clear q6 V5 O5 ho5
  have t6 := toToldS_any ao n cap X w6 (hr.keep bw6) hn hz
  go_wp2_with fail
  refine t6.mono ?_
  clear t6
  rintro e w7 ⟨J0, J1, rfl, ho7, q7⟩
  have bw7 := bw6.trans (q7.mono bw6.size)
  have bx7 := bx6.trans (q7.mono (by omega))
  have V7 := V6.keep q7
  have O7 := O6.keep q7
  have hi7 := ho6.keep q7
  have s7 := q7.size
  clear q7 V6 O6 ho6
  have t7 := eqToldS_same _ _ n n n X w7 (hi7.row hbd) (ho7.row hbd) hn hz
  go_wp2_with fail
  refine t7.mono ?_
  clear t7 ho7 hi7
  rintro e w8 ⟨rfl, q8⟩
  have bw8 := bw7.trans (q8.mono bw7.size)
  have bx8 := bx7.trans (q8.mono (by omega))
  have V8 := V7.keep q8
  have O8 := O7.keep q8
  have s8 := q8.size
  clear q8 V7 O7
  have t8 := markTA _ _ _ n 1 X w8 O8 (by omega) (by omega) hz hn
  go_wp2_with fail
  refine t8.mono ?_
  clear t8 O8
  rintro e w9 ⟨rfl, _, R9⟩
  have V9 := V8.rng R9 (.inr (by omega))
  have bw9 : Below w.heap.size w w9 := bw8.trans (R9.below (by have := bw3.size; omega) bw8.size)
  have bx9 : Below e3 w3 w9 := bx8.trans (R9.below (by omega) (by have := bx8.size; omega))
  have s9 := R9.size
  clear R9 V8
  have hpos : decide (((kOTo X 1 n : Nat) : Int) < 0) = false := decide_eq_false (by omega)
  generalize ((kOTo X 1 n : Nat) : Int) = kk at *
  have t9 := eqToldS_same gl wl m gc wc T w9 (V9.row hO.b hO.f).2 (HW.out w9 bx9) hmn hO.z
  go_wp2_with fail
  refine t9.mono ?_
  clear t9
  rintro e w10 ⟨rfl, q10⟩
  have bw10 := bw9.trans (q10.mono bw9.size)
  have bx10 := bx9.trans (q10.mono (by omega))
  have V10 := V9.keep q10
  have s10 := q10.size
  clear q10 V9
  have t10 := markTA _ _ _ m 1 T w10 V10 (by omega) (by omega) hO.z hmn
  go_wp2_with fail
  refine t10.mono ?_
  clear t10 V10
  rintro e w11 ⟨rfl, V11, R11⟩
  have bw11 : Below w.heap.size w w11 := bw10.trans (R11.below (by have := bw3.size; omega) bw10.size)
  have bx11 : Below e3 w3 w11 := bx10.trans (R11.below (by omega) (by have := bx10.size; omega))
  have s11 := R11.size
  clear R11
  have hheld := fun W hh => heldTA (.slice gl m gc) e4 e5 m 1 T W hh (by omega) (by omega) hO.z hmn
  obtain ⟨k2, hk2⟩ : ∃ k, ((kOTo T 1 m : Nat) : Int) = k := ⟨_, rfl⟩
  rw [hk2] at hheld ⊢
  have hk2d : decide (k2 < 0) = false := decide_eq_false (by omega)
  have hk2n : (k2 != k2) = false := by simp
  clear hk2
  have t11 := hheld _ V11
  go_wp2_with fail
  refine t11.mono ?_
  clear t11
  rintro e w12 ⟨rfl, q12⟩
  have bw12 := bw11.trans (q12.mono bw11.size)
  have bx12 := bx11.trans (q12.mono (by omega))
  have V12 := V11.keep q12
  have s12 := q12.size
  clear q12 V11
  have t12 := toToldS_any ao n cap X w12 (hr.keep bw12) hn hz
  go_wp2_with fail
  refine t12.mono ?_
  clear t12
  rintro e w13 ⟨M0, M1, rfl, ho13, q13⟩
  have bw13 := bw12.trans (q13.mono bw12.size)
  have bx13 := bx12.trans (q13.mono (by omega))
  have V13 := V12.keep q13
  have s13 := q13.size
  clear q13 V12
  have t13 := HI.out _ _ _ _ ho13
  go_wp2_with fail
  refine t13.mono ?_
  clear t13 ho13 HI
  rintro e w14 ⟨pl, pc, rfl, P14, q14⟩
  have bw14 := bw13.trans (q14.mono bw13.size)
  have bx14 := bx13.trans (q14.mono (by omega))
  have V14 := V13.keep q14
  have s14 := q14.size
  clear q14 V13
  have t14 := eqToldS_same pl wl m pc wc T w14 (P14.row hO.b hO.f).2 (HW.out w14 bx14) hmn hO.z
  go_wp2_with fail
  refine t14.mono ?_
  clear t14 P14
  rintro e w15 ⟨rfl, q15⟩
  have bw15 := bw14.trans (q15.mono bw14.size)
  have V15 := V14.keep q15
  clear q15 V14
  have t15 := hheld _ V15
  go_wp2_with fail
  refine t15.mono ?_
  clear t15
  rintro e w16 ⟨rfl, q16⟩
  have bw16 := bw15.trans (q16.mono bw15.size)
  clear q16 V15 hheld
  go_wp2
  go_ret
  exact ⟨rfl, bw16⟩
end Go.Proofs.Ytjdijikmdlklkaa
