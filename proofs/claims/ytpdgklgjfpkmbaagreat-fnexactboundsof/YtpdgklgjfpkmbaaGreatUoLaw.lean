/- BoundsOf in both texts, and its law. -/
import Derived.Test.YtpdgklgjfpkmbaaGreatEe
import Derived.Test.YtpdgklgjfpkmbaaGreatDh
import Derived.BigQuiet
namespace Go.Proofs.YtpdgklgjfpkmbaaGreat
set_option maxRecDepth 100000
open Go.RowKit
set_option linter.unusedSimpArgs false
set_option linter.unusedVariables false

/-- What BoundsOf answers. -/
def UOk (f : Nat → Int) (n : Nat) (A B : ByteArray) (c : Int) : Prop :=
  (∃ X m p, IsTb f n X m p ∧ A = (X 0).key ∧ B = (X (m - 1)).key ∧ c = 0) ∨ ((∀ X m p, ¬ IsTb f n X m p) ∧ A = ⟨#[]⟩ ∧ B = ⟨#[]⟩ ∧ c = noC f n)
theorem uok_ex (f : Nat → Int) (n : Nat) : ∃ A B c, UOk f n A B c := by
  by_cases h : ∃ X m p, IsTb f n X m p
  · obtain ⟨X, m, p, h⟩ := h
    exact ⟨_, _, _, .inl ⟨X, m, p, h, rfl, rfl, rfl⟩⟩
  · exact ⟨_, _, noC f n, .inr ⟨fun X m p hh => h ⟨X, m, p, hh⟩, rfl, rfl, rfl⟩⟩
theorem UOk.yes {f : Nat → Int} {n : Nat} {A B : ByteArray} {c : Int} (h : UOk f n A B c) {X : Nat → Ent} {m : Nat} {p : Int} (hT : IsTb f n X m p) : A = (X 0).key ∧ B = (X (m - 1)).key ∧ c = 0 := by
  rcases h with ⟨X', m', p', h1, h2, h3, h4⟩ | ⟨h1, _⟩
  · obtain ⟨e, ha⟩ := hT.one h1
    subst e
    have hm := hT.1.1.1
    exact ⟨by rw [h2]; exact (ha 0 (by omega)).1.1.symm, by rw [h3]; exact (ha (m' - 1) (by omega)).1.1.symm, h4⟩
  · exact absurd hT (h1 X m p)
theorem UOk.no {f : Nat → Int} {n : Nat} {A B : ByteArray} {c : Int} (h : UOk f n A B c) (hno : ∀ X m p, ¬ IsTb f n X m p) : A = ⟨#[]⟩ ∧ B = ⟨#[]⟩ ∧ c = noC f n := by
  rcases h with ⟨X', m', p', h1, _⟩ | ⟨h1, h2, h3, h4⟩
  · exact absurd h1 (hno _ _ _)
  · exact ⟨h2, h3, h4⟩

set_option maxHeartbeats 3200000 in
theorem boundsOf_impl (A B : ByteArray) (c : Int) (bb bo n cap : Nat) (f : Nat → Int) (w : World) (hK : UOk f n A B c) (hr : Row w (some ⟨bb, bo, none⟩) n f) (hbb : bb < w.heap.size) (hn : n ≤ 1048576) (hcap : n ≤ cap) :
    Calls Tryz.prog 27 #[.slice (some ⟨bb, bo, none⟩) n cap] w fun e w' => e = .returned (.tuple #[.string A, .string B, .int .i64 c]) ∧ Below w.heap.size w w' := by
  have HKK : Hid (UOk f n A B c) := hK
  clear hK
  go_enter Tryz.func27, Tryz.ntmps27
  go_wp2_with fail
  refine (openTable_any bb bo n cap f w hr hbb hn hcap).mono ?_
  rintro e w1 (⟨X, m, p, v, V, fo, fc, hT, rfl, hO, hEB, hES, hrF, q1⟩ | ⟨hno, rfl, q1⟩)
  · have hm := hT.1.1.1
    obtain ⟨e1, e2, e3⟩ := HKK.out.yes hT
    obtain ⟨g, gc, rfl, hgc, hgb, er1⟩ := hO.erow hEB (by omega)
    have HE : Hid (A = (nrE (X 0)).key ∧ B = (nrE (X (m - 1))).key ∧ c = 0) := ⟨e1, e2, e3⟩
    have b2 := below_new w1 (.cells #[.slice (some ⟨g, 0, none⟩) m gc, .int .i64 (fwI p), .slice fo (fbN (fun i => nrE (X i)) m p) fc] 67)
    have T2 := TBx.new w1 (.slice (some ⟨g, 0, none⟩) m gc) (.int .i64 (fwI p)) (.slice fo (fbN (fun i => nrE (X i)) m p) fc) 67
    have bA := q1.trans (b2.mono q1.size)
    have er2 := er1.keep b2
    obtain ⟨b', o', e, hgl, hcc⟩ := er2.lies.resolve_left (by omega)
    injection e with e
    injection e with e1' e2' _
    subst e1' e2'
    obtain ⟨da, dc, hE0, _⟩ := hcc 0 (by omega)
    have k0 := hE0.c0
    simp only [Nat.zero_mul, Nat.add_zero] at k0
    have hla : Hid (∀ W, ERow W (some ⟨g, 0, none⟩) m (fun i => nrE (X i)) → Calls Tryz.prog 50 #[.slice (some ⟨g, 0, none⟩) m gc] W fun e w' => e = .returned (.string (nrE (X (m - 1))).key) ∧ w' = W) := fun W h => last_any g 0 m gc (fun i => nrE (X i)) W h ⟨by omega, by omega⟩
    have hmi : (0 : Int) < (m : Int) := by omega
    have hm0 : 0 < m := by omega
    clear e1 e2 e3 hT hO hEB hES hrF HKK hE0 hcc b2 er1
    generalize fbN (fun i => nrE (X i)) m p = fn at *
    generalize fwI p = y at *
    go_wp2
    generalize w1.alloc (.cells #[.slice (some ⟨g, 0, none⟩) m gc, .int .i64 y, .slice fo fn fc] 67) = w2 at *
    obtain ⟨_, t0, t1, t2, _⟩ := id T2
    have hlk : Hid (∀ k, Calls Tryz.prog 50 #[.slice (some ⟨g, 0, none⟩) m gc] (w2.drewN k) fun e w' => e = .returned (.string (nrE (X (m - 1))).key) ∧ w' = w2.drewN k) := fun k => hla.out _ (er2.keep (below_drewN (Below.refl _ _) k))
    generalize (nrE (X (m - 1))).key = KB at *
    generalize (nrE (X 0)).key = KA at *
    clear hla er2 T2
    go_quiet (first | (go_at_call 50; exact Calls.quiet_of_same (hlk.out _)))
    go_wp2
    exact bodyPost_ret (v := .tuple #[.string KA, .string KB, .int .i64 0]) (by simp [results, Tryz.results27, go_sem]) rfl ⟨by rw [HE.out.1, HE.out.2.1, HE.out.2.2], below_drewN bA _⟩
  · obtain ⟨e1, e2, e3⟩ := HKK.out.no hno
    have HE : Hid (A = ⟨#[]⟩ ∧ B = ⟨#[]⟩ ∧ c = noC f n) := ⟨e1, e2, e3⟩
    have hc0 : (noC f n != 0) = true := by have := noC_ne f n; simp [this]
    have bA := q1.trans ((below_new w1 (.cells #[.slice none 0 0, .int .i64 0, .slice none 0 0] 67)).mono q1.size)
    clear e1 e2 e3 hno HKK
    generalize noC f n = c' at *
    go_wp2
    exact bodyPost_ret (v := .tuple #[.string ⟨#[]⟩, .string ⟨#[]⟩, .int .i64 c']) (by simp [results, Tryz.results27, go_sem]) rfl ⟨by rw [HE.out.1, HE.out.2.1, HE.out.2.2], bA⟩
set_option maxHeartbeats 3200000 in
theorem boundsOf_spec (A B : ByteArray) (c : Int) (bb bo n cap : Nat) (f : Nat → Int) (w : World) (hK : UOk f n A B c) (hr : Row w (some ⟨bb, bo, none⟩) n f) (hbb : bb < w.heap.size) (hn : n ≤ 1048576) (hcap : n ≤ cap) :
    Calls Tryz.prog 26 #[.slice (some ⟨bb, bo, none⟩) n cap] w fun e w' => e = .returned (.tuple #[.string A, .string B, .int .i64 c]) ∧ Below w.heap.size w w' := by
  have HKK : Hid (UOk f n A B c) := hK
  clear hK
  go_enter Tryz.func26, Tryz.ntmps26
  go_wp2_with fail
  refine (l7Read_any bb bo n cap f w hr hbb hn hcap).mono ?_
  rintro e w1 (⟨X, m, p, v, V, hT, rfl, hO, hEB, hES, q1⟩ | ⟨hno, rfl, q1⟩)
  · have hm := hT.1.1.1
    obtain ⟨e1, e2, e3⟩ := HKK.out.yes hT
    obtain ⟨g, gc, rfl, hgc, hgb, er1⟩ := hO.erow hEB (by omega)
    have HE : Hid (A = (nrE (X 0)).key ∧ B = (nrE (X (m - 1))).key ∧ c = 0) := ⟨e1, e2, e3⟩
    obtain ⟨b', o', e, hgl, hcc⟩ := er1.lies.resolve_left (by omega)
    injection e with e
    injection e with e1' e2' _
    subst e1' e2'
    obtain ⟨da, dc, hE0, _⟩ := hcc 0 (by omega)
    have k0 := hE0.c0
    simp only [Nat.zero_mul, Nat.add_zero] at k0
    obtain ⟨j, hj⟩ : ∃ j, j = m - 1 := ⟨_, rfl⟩
    obtain ⟨da2, dc2, hE1, _⟩ := hcc j (by omega)
    have k1 := hE1.c0
    simp only [Nat.zero_add] at k1
    have hwj : IntKind.i64.wrap ((m : Int) - 1) = (j : Int) := by rw [IntKind.wrap_i64] <;> omega
    have hmi : (0 : Int) < (m : Int) := by omega
    have hm0 : 0 < m := by omega
    have hjm : j < m := by omega
    have hji : (j : Int) < (m : Int) := by omega
    rw [← hj] at HE
    clear e1 e2 e3 hT hO hEB hES HKK hE0 hE1 hcc er1 hj
    generalize (nrE (X j)).key = KB at *
    generalize (nrE (X 0)).key = KA at *
    go_wp2
    go_quiet (fail)
    go_wp2
    exact bodyPost_ret (v := .tuple #[.string KA, .string KB, .int .i64 0]) (by simp [results, Tryz.results26, go_sem]) rfl ⟨by rw [HE.out.1, HE.out.2.1, HE.out.2.2], below_drewN q1 _⟩
  · obtain ⟨e1, e2, e3⟩ := HKK.out.no hno
    have HE : Hid (A = ⟨#[]⟩ ∧ B = ⟨#[]⟩ ∧ c = noC f n) := ⟨e1, e2, e3⟩
    have hc0 : (noC f n != 0) = true := by have := noC_ne f n; simp [this]
    clear e1 e2 e3 hno HKK
    generalize noC f n = c' at *
    go_wp2
    exact bodyPost_ret (v := .tuple #[.string ⟨#[]⟩, .string ⟨#[]⟩, .int .i64 c']) (by simp [results, Tryz.results26, go_sem]) rfl ⟨by rw [HE.out.1, HE.out.2.1, HE.out.2.2], q1⟩

set_option maxHeartbeats 4000000 in
theorem boundsOf_law (ao : Option Addr) (n cap : Nat) (f : Nat → Int) (w : World) (hr : Row w ao n f) (hnx : n ≤ maxLen) :
    Calls Tryz.prog 7 #[.slice ao n cap] w fun e w' => e = .returned (.bool true) ∧ Below w.heap.size w w' := by
  by_cases hks : 1048576 < n
  · go_enter Tryz.func7, Tryz.ntmps7
    go_wp2
    go_ret
    exact ⟨rfl, Below.refl _ _⟩
  have hn : n ≤ 1048576 := by omega
  clear hnx
  obtain ⟨A, B, c, hK⟩ := uok_ex f n
  have hA1 : (A.toList == A.toList) = true := by simp
  have hB1 : (B.toList == B.toList) = true := by simp
  have hcc : (c != c) = false := by simp
  go_enter Tryz.func7, Tryz.ntmps7
  go_wp2_with fail
  refine (toByteS_any ao n cap f _ hr hn).mono ?_
  rintro e w1 ⟨rfl, o1, bw1⟩
  go_wp2_with fail
  refine (boundsOf_spec A B c _ 0 n n f _ hK o1.row o1.lt hn (Nat.le_refl _)).mono ?_
  rintro e w2 ⟨rfl, b2⟩
  have bw2 := bw1.trans (b2.mono bw1.size)
  clear o1 b2
  go_wp2_with fail
  refine (toByteS_any ao n cap f _ (hr.keep bw2) hn).mono ?_
  rintro e w3 ⟨rfl, o3, b3⟩
  have bw3 := bw2.trans (b3.mono bw2.size)
  clear b3
  go_wp2_with fail
  refine (boundsOf_impl A B c _ 0 n n f _ hK o3.row o3.lt hn (Nat.le_refl _)).mono ?_
  rintro e w4 ⟨rfl, b4⟩
  have bw4 := bw3.trans (b4.mono bw3.size)
  have o4 := o3.keep b4
  clear o3 b4
  go_wp2_with fail
  refine (toByteS_any ao n cap f _ (hr.keep bw4) hn).mono ?_
  rintro e w5 ⟨rfl, o5, b5⟩
  have bw5 := bw4.trans (b5.mono bw4.size)
  have o5' := o4.keep b5
  clear o4 b5
  go_wp2_with fail
  refine (eqByteS_same _ _ n n n f _ o5'.row o5.row hn).mono ?_
  rintro e w6 ⟨rfl, b6⟩
  have bw6 := bw5.trans (b6.mono bw5.size)
  go_wp2
  go_ret
  exact ⟨rfl, bw6⟩
end Go.Proofs.YtpdgklgjfpkmbaaGreat
