/- The model: a number in the readers' words; where its reading of an entry stops there is no good entry. -/
import Derived.Test.YtohjjigkfdhklaaGreatEa
import Derived.Test.YtohjjigkfdhklaaGreatDg
namespace Go.Proofs.YtohjjigkfdhklaaGreat
set_option maxRecDepth 100000
open Go.RowKit
set_option linter.unusedSimpArgs false
set_option linter.unusedVariables false

/-- A number as the model reads it. -/
def VarR (f : Nat → Int) (n q u r : Nat) : Prop := q < r ∧ r ≤ n ∧ rdNum f n q = if u ≤ 9223372036854775807 then some ((u : Int), r) else none
def VarO (f : Nat → Int) (n q : Nat) (w : World) (e : Ending) (w' : World) : Prop :=
  ∃ u r : Nat, e = .returned (.tuple #[.int .u64 (u : Nat), .int .i64 (r : Nat)]) ∧ Below w.heap.size w w' ∧ u ≤ 18446744073709551615 ∧ ((r = 0 ∧ rdNum f n q = none) ∨ VarR f n q u r)
theorem l1Var_o (b off n cap : Nat) (f : Nat → Int) (q : Nat) (w : World) (hr : Row w (some ⟨b, off, none⟩) n f) (hblt : b < w.heap.size) (hn : n ≤ 1048576) (hq : q ≤ n) :
    Calls Tryz.prog 96 #[.slice (some ⟨b, off, none⟩) n cap, .int .i64 q] w fun e w' => VarO f n q w e w' := by
  refine (l1Var_any b off n cap f q w hr hblt hn hq).mono ?_
  rintro e w' ⟨rfl, hb⟩
  have hub := rvAll_bd f n q
  have hnn := rvAll_nn f n q
  have hle := rvAll_le f n q
  have hrd := rdVar_rv (f := f) hq
  refine ⟨(rvAll f n q).1.toNat, (rvAll f n q).2.toNat, by rw [Int.toNat_of_nonneg hub.1, Int.toNat_of_nonneg hnn], hb, by omega, ?_⟩
  by_cases h : 0 < (rvAll f n q).2
  · have := hle h
    refine .inr ⟨by omega, by omega, ?_⟩
    unfold rdNum
    rw [hrd]
    simp only [h, decide_true, true_and]
    by_cases h2 : (rvAll f n q).1 ≤ 9223372036854775807
    · rw [if_pos h2, if_pos (by omega), Int.toNat_of_nonneg hub.1]
    · rw [if_neg h2, if_neg (by omega)]
  · refine .inl ⟨by omega, ?_⟩
    unfold rdNum
    rw [hrd]
    simp [h]
/-- No good entry is read at q behind ah. -/
def NoE (f : Nat → Int) (n q : Nat) (ah : ByteArray) : Prop := ∀ x q'', GoodE x → ¬ EY f n q ah x q''
/-- No m good entries are read. -/
def NoG (f : Nat → Int) (n m : Nat) : Prop := ∀ Y q', (∀ i, i < m → GoodE (Y i)) → ¬ RdK f n Y m q'
theorem rdK_stop {f : Nat → Int} {n m : Nat} {X : Nat → Ent} {k q : Nat} (h : RdK f n X k q) (hk : k < m) (hno : NoE f n q (ahR X k)) : NoG f n m := by
  intro Y q' hg hy
  obtain ⟨P, h0, hm, hP⟩ := hy
  obtain ⟨e, hs⟩ := rdK_det h (⟨P, h0, rfl, fun i hi => hP i (by omega)⟩ : RdK f n Y k (P k))
  have ha : ahR X k = ahR Y k := by
    unfold ahR
    split
    · rfl
    · next h4 => exact (hs (k - 1) (by omega)).1
  have := (hP k hk).2
  rw [← e, ← ha] at this
  exact hno _ _ (hg k hk) this
section
variable {f : Nat → Int} {n q u1 r1 u2 r2 u3 r3 u4 r4 : Nat} {ah : ByteArray}
theorem VarR.is (R : VarR f n q u1 r1) {a : Int} {b : Nat} (e : rdNum f n q = some (a, b)) : a = (u1 : Int) ∧ b = r1 := by
  rw [R.2.2] at e
  split at e
  · simp only [Option.some.injEq, Prod.mk.injEq] at e
    exact ⟨e.1.symm, e.2.symm⟩
  · cases e
theorem no_a (R1 : rdNum f n q = none) : NoE f n q ah := by
  rintro x q'' hg ⟨sh, rs, mn, q1, q2, q3, q5, e1, e2, e3, e4, e5, e6, e7, e8, e9, e10, e11⟩
  rw [R1] at e1; cases e1
theorem no_b (R1 : VarR f n q u1 r1) (R2 : rdNum f n r1 = none) : NoE f n q ah := by
  rintro x q'' hg ⟨sh, rs, mn, q1, q2, q3, q5, e1, e2, e3, e4, e5, e6, e7, e8, e9, e10, e11⟩
  obtain ⟨rfl, rfl⟩ := R1.is e1
  rw [R2] at e2; cases e2
theorem no_c (R1 : VarR f n q u1 r1) (R2 : VarR f n r1 u2 r2) (R3 : rdNum f n r2 = none) : NoE f n q ah := by
  rintro x q'' hg ⟨sh, rs, mn, q1, q2, q3, q5, e1, e2, e3, e4, e5, e6, e7, e8, e9, e10, e11⟩
  obtain ⟨rfl, rfl⟩ := R1.is e1
  obtain ⟨rfl, rfl⟩ := R2.is e2
  rw [R3] at e3; cases e3
theorem no_d (R1 : VarR f n q u1 r1) (R2 : VarR f n r1 u2 r2) (R3 : VarR f n r2 u3 r3) (h : n ≤ r3) : NoE f n q ah := by
  rintro x q'' hg ⟨sh, rs, mn, q1, q2, q3, q5, e1, e2, e3, e4, e5, e6, e7, e8, e9, e10, e11⟩
  obtain ⟨rfl, rfl⟩ := R1.is e1
  obtain ⟨rfl, rfl⟩ := R2.is e2
  obtain ⟨_, rfl⟩ := R3.is e3
  omega
theorem no_e (R1 : VarR f n q u1 r1) (R2 : VarR f n r1 u2 r2) (R3 : VarR f n r2 u3 r3) (R4 : rdNum f n (r3 + 1) = none) : NoE f n q ah := by
  rintro x q'' hg ⟨sh, rs, mn, q1, q2, q3, q5, e1, e2, e3, e4, e5, e6, e7, e8, e9, e10, e11⟩
  obtain ⟨rfl, rfl⟩ := R1.is e1
  obtain ⟨rfl, rfl⟩ := R2.is e2
  obtain ⟨_, rfl⟩ := R3.is e3
  rw [R4] at e6; cases e6
theorem no_f (R1 : VarR f n q u1 r1) (R2 : VarR f n r1 u2 r2) (R3 : VarR f n r2 u3 r3) (R4 : VarR f n (r3 + 1) u4 r4) (h : ah.size < u1 ∨ n < u2 ∨ n < u4 ∨ 1000000000 < u3 ∨ n < r4 + u2 + u4) : NoE f n q ah := by
  rintro x q'' hg ⟨sh, rs, mn, q1, q2, q3, q5, e1, e2, e3, e4, e5, e6, e7, e8, e9, e10, e11⟩
  obtain ⟨rfl, rfl⟩ := R1.is e1
  obtain ⟨rfl, rfl⟩ := R2.is e2
  obtain ⟨h3, rfl⟩ := R3.is e3
  obtain ⟨rfl, rfl⟩ := R4.is e6
  have hs := hg.2.1
  have h4 : (u4 : Int).toNat = u4 := by omega
  have h2 : (u2 : Int).toNat = u2 := by omega
  rw [h2] at e8 e10
  rw [h4] at e10
  have h10 : q5 + u2 + u4 ≤ n := by
    rcases e10 with ⟨a, _⟩ | ⟨a, N, ⟨b, _⟩, _⟩ <;> omega
  omega
theorem no_g (R1 : VarR f n q u1 r1) (R2 : VarR f n r1 u2 r2) (R3 : VarR f n r2 u3 r3) (R4 : VarR f n (r3 + 1) u4 r4) (h0 : 0 < u4) (h : ∀ N, ¬ RAg (fun i => f (r4 + u2 + i)) u4 N) : NoE f n q ah := by
  rintro x q'' hg ⟨sh, rs, mn, q1, q2, q3, q5, e1, e2, e3, e4, e5, e6, e7, e8, e9, e10, e11⟩
  obtain ⟨rfl, rfl⟩ := R1.is e1
  obtain ⟨rfl, rfl⟩ := R2.is e2
  obtain ⟨h3, rfl⟩ := R3.is e3
  obtain ⟨rfl, rfl⟩ := R4.is e6
  have h4 : (u4 : Int).toNat = u4 := by omega
  have h2 : (u2 : Int).toNat = u2 := by omega
  rw [h2, h4] at e10
  rcases e10 with ⟨a, _⟩ | ⟨a, N, ⟨_, b⟩, _⟩
  · omega
  · exact h N b
theorem ey_yes (hf : ∀ i, 0 ≤ f i ∧ f i ≤ 255) (R1 : VarR f n q u1 r1) (R2 : VarR f n r1 u2 r2) (R3 : VarR f n r2 u3 r3) (R4 : VarR f n (r3 + 1) u4 r4) (h1 : u1 ≤ ah.size) (hs : ah.size ≤ 1048576) (h2 : r3 + 1 ≤ n) (h3 : u3 ≤ 1099511627776) (h4 : r4 + u2 + u4 ≤ n) (hn : n ≤ 8000) (c s lo hi : Int) (nn : Nat) (g : Nat → Int) (fu : Bool)
    (hA : AgE f n (r4 + u2) u4 ⟨ah.extract 0 u1 ++ strOfNums (segL f r4 u2), u3, f r3, c, s, lo, hi, nn, g, fu⟩) : EY f n q ah ⟨ah.extract 0 u1 ++ strOfNums (segL f r4 u2), u3, f r3, c, s, lo, hi, nn, g, fu⟩ (r4 + u2 + u4) := by
  have b1 := R1.2.2
  have b2 := R2.2.2
  have b3 := R3.2.2
  have b4 := R4.2.2
  rw [if_pos (by omega)] at b1 b2 b3 b4
  refine ⟨u1, u2, u4, r1, r2, r3, r4, b1, b2, b3, h2, rfl, b4, by omega, by omega, ?_, ?_, by omega⟩
  · show bytesOf (ah.extract 0 u1 ++ strOfNums (segL f r4 u2)) = _
    rw [bytesOf_append, bytesOf_front, bytesOf_nums _ (segL_byt hf)]
    have h2 : (u2 : Int).toNat = u2 := by omega
    have h1 : (u1 : Int).toNat = u1 := by omega
    rw [h1, h2]
    rfl
  · have h2 : (u2 : Int).toNat = u2 := by omega
    have h4 : (u4 : Int).toNat = u4 := by omega
    rw [h2, h4]
    exact hA
end
end Go.Proofs.YtohjjigkfdhklaaGreat
