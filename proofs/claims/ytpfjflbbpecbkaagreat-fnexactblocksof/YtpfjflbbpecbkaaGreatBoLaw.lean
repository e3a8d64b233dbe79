/- BlocksOf in both texts, and its law. -/
import Derived.Test.YtpfjflbbpecbkaaGreatEe
import Derived.Test.YtpfjflbbpecbkaaGreatDh
namespace Go.Proofs.YtpfjflbbpecbkaaGreat
set_option maxRecDepth 100000
open Go.RowKit
set_option linter.unusedSimpArgs false
set_option linter.unusedVariables false

/-- What BlocksOf answers. -/
def BOk (f : Nat → Int) (n : Nat) (K c : Int) : Prop :=
  (∃ X m p, IsTb f n X m p ∧ K = ((m : Int) + 3) / 4 ∧ c = 0) ∨ ((∀ X m p, ¬ IsTb f n X m p) ∧ K = 0 ∧ c = noC f n)
theorem bok_ex (f : Nat → Int) (n : Nat) : ∃ K c, BOk f n K c := by
  by_cases h : ∃ X m p, IsTb f n X m p
  · obtain ⟨X, m, p, h⟩ := h
    exact ⟨_, _, .inl ⟨X, m, p, h, rfl, rfl⟩⟩
  · exact ⟨0, noC f n, .inr ⟨fun X m p hh => h ⟨X, m, p, hh⟩, rfl, rfl⟩⟩
theorem BOk.yes {f : Nat → Int} {n : Nat} {K c : Int} (h : BOk f n K c) {X : Nat → Ent} {m : Nat} {p : Int} (hT : IsTb f n X m p) : K = ((m : Int) + 3) / 4 ∧ c = 0 := by
  rcases h with ⟨X', m', p', h1, h2, h3⟩ | ⟨h1, _⟩
  · obtain ⟨e, _⟩ := hT.one h1
    subst e
    exact ⟨h2, h3⟩
  · exact absurd hT (h1 X m p)
theorem BOk.no {f : Nat → Int} {n : Nat} {K c : Int} (h : BOk f n K c) (hno : ∀ X m p, ¬ IsTb f n X m p) : K = 0 ∧ c = noC f n := by
  rcases h with ⟨X', m', p', h1, h2, h3⟩ | ⟨h1, h2, h3⟩
  · exact absurd h1 (hno _ _ _)
  · exact ⟨h2, h3⟩

set_option maxHeartbeats 1600000 in
theorem blocksOf_impl (K c : Int) (bb bo n cap : Nat) (f : Nat → Int) (w : World) (hK : BOk f n K c) (hr : Row w (some ⟨bb, bo, none⟩) n f) (hbb : bb < w.heap.size) (hn : n ≤ 1048576) (hcap : n ≤ cap) :
    Calls Tryz.prog 18 #[.slice (some ⟨bb, bo, none⟩) n cap] w fun e w' => e = .returned (.tuple #[.int .i64 K, .int .i64 c]) ∧ Below w.heap.size w w' := by
  have HKK : Hid (BOk f n K c) := hK
  clear hK
  go_enter Tryz.func18, Tryz.ntmps18
  go_wp2_with fail
  refine (openTable_any bb bo n cap f w hr hbb hn hcap).mono ?_
  rintro e w1 (⟨X, m, p, v, V, fo, fc, hT, rfl, hO, hEB, hES, hrF, q1⟩ | ⟨hno, rfl, q1⟩)
  · obtain ⟨lo, lc, rfl⟩ := ownsRow_form hO.own
    obtain ⟨e1, e2⟩ := HKK.out.yes hT
    have hm := hT.1.1.1
    have hw1 : IntKind.i64.wrap ((m : Int) + 4) = (m : Int) + 4 := by rw [IntKind.wrap_i64] <;> omega
    have hw2 : IntKind.i64.wrap ((m : Int) + 4 - 1) = (m : Int) + 3 := by rw [IntKind.wrap_i64] <;> omega
    have htd : ((m : Int) + 3).tdiv 4 = K := by rw [Int.tdiv_eq_ediv_of_nonneg (by omega), e1]
    have hwk : IntKind.i64.wrap K = K := by rw [IntKind.wrap_i64] <;> omega
    have HE : Hid (c = 0) := e2
    have bA := q1.trans ((below_new w1 (.cells #[.slice lo m lc, .int .i64 (fwI p), .slice fo (fbN (fun i => nrE (X i)) m p) fc] 42)).mono q1.size)
    clear e1 e2 hm hT hO hEB hES hrF HKK
    generalize fbN (fun i => nrE (X i)) m p = fn at *
    go_wp2
    exact bodyPost_ret (v := .tuple #[.int .i64 K, .int .i64 0]) (by simp [results, Tryz.results18, go_sem]) rfl ⟨by rw [HE.out], bA⟩
  · obtain ⟨e1, e2⟩ := HKK.out.no hno
    have HE : Hid (K = 0 ∧ c = noC f n) := ⟨e1, e2⟩
    have bA := q1.trans ((below_new w1 (.cells #[.slice none 0 0, .int .i64 0, .slice none 0 0] 42)).mono q1.size)
    clear e1 e2 hno HKK
    generalize noC f n = c' at *
    go_wp2
    exact bodyPost_ret (v := .tuple #[.int .i64 0, .int .i64 c']) (by simp [results, Tryz.results18, go_sem]) rfl ⟨by rw [HE.out.1, HE.out.2], bA⟩
set_option maxHeartbeats 1600000 in
theorem blocksOf_spec (K c : Int) (bb bo n cap : Nat) (f : Nat → Int) (w : World) (hK : BOk f n K c) (hr : Row w (some ⟨bb, bo, none⟩) n f) (hbb : bb < w.heap.size) (hn : n ≤ 1048576) (hcap : n ≤ cap) :
    Calls Tryz.prog 17 #[.slice (some ⟨bb, bo, none⟩) n cap] w fun e w' => e = .returned (.tuple #[.int .i64 K, .int .i64 c]) ∧ Below w.heap.size w w' := by
  have HKK : Hid (BOk f n K c) := hK
  clear hK
  go_enter Tryz.func17, Tryz.ntmps17
  go_wp2_with fail
  refine (l7Read_any bb bo n cap f w hr hbb hn hcap).mono ?_
  rintro e w1 (⟨X, m, p, v, V, hT, rfl, hO, hEB, hES, q1⟩ | ⟨hno, rfl, q1⟩)
  · obtain ⟨lo, lc, rfl⟩ := ownsRow_form hO.own
    obtain ⟨e1, e2⟩ := HKK.out.yes hT
    have hm := hT.1.1.1
    have hw1 : IntKind.i64.wrap ((m : Int) + 4) = (m : Int) + 4 := by rw [IntKind.wrap_i64] <;> omega
    have hw2 : IntKind.i64.wrap ((m : Int) + 4 - 1) = (m : Int) + 3 := by rw [IntKind.wrap_i64] <;> omega
    have htd : ((m : Int) + 3).tdiv 4 = K := by rw [Int.tdiv_eq_ediv_of_nonneg (by omega), e1]
    have hwk : IntKind.i64.wrap K = K := by rw [IntKind.wrap_i64] <;> omega
    have HE : Hid (c = 0) := e2
    clear e1 e2 hm hT hO hEB hES HKK
    go_wp2
    exact bodyPost_ret (v := .tuple #[.int .i64 K, .int .i64 0]) (by simp [results, Tryz.results17, go_sem]) rfl ⟨by rw [HE.out], q1⟩
  · obtain ⟨e1, e2⟩ := HKK.out.no hno
    have hc0 : (noC f n != 0) = true := by have := noC_ne f n; simp [this]
    have HE : Hid (K = 0 ∧ c = noC f n) := ⟨e1, e2⟩
    clear e1 e2 hno HKK
    generalize noC f n = c' at *
    go_wp2
    exact bodyPost_ret (v := .tuple #[.int .i64 0, .int .i64 c']) (by simp [results, Tryz.results17, go_sem]) rfl ⟨by rw [HE.out.1, HE.out.2], q1⟩

set_option maxHeartbeats 4000000 in
theorem blocksOf_law (ao : Option Addr) (n cap : Nat) (f : Nat → Int) (w : World) (hr : Row w ao n f) (hnx : n ≤ maxLen) :
    Calls Tryz.prog 5 #[.slice ao n cap] w fun e w' => e = .returned (.bool true) ∧ Below w.heap.size w w' := by
  by_cases hks : 1048576 < n
  · go_enter Tryz.func5, Tryz.ntmps5
    go_wp2
    go_ret
    exact ⟨rfl, Below.refl _ _⟩
  have hn : n ≤ 1048576 := by omega
  clear hnx
  obtain ⟨K, c, hK⟩ := bok_ex f n
  have hKK : (K != K) = false := by simp
  have hcc : (c != c) = false := by simp
  go_enter Tryz.func5, Tryz.ntmps5
  go_wp2_with fail
  refine (toByteS_any ao n cap f _ hr hn).mono ?_
  rintro e w1 ⟨rfl, o1, bw1⟩
  go_wp2_with fail
  refine (blocksOf_spec K c _ 0 n n f _ hK o1.row o1.lt hn (Nat.le_refl _)).mono ?_
  rintro e w2 ⟨rfl, b2⟩
  have bw2 := bw1.trans (b2.mono bw1.size)
  clear o1 b2
  go_wp2_with fail
  refine (toByteS_any ao n cap f _ (hr.keep bw2) hn).mono ?_
  rintro e w3 ⟨rfl, o3, b3⟩
  have bw3 := bw2.trans (b3.mono bw2.size)
  clear b3
  go_wp2_with fail
  refine (blocksOf_impl K c _ 0 n n f _ hK o3.row o3.lt hn (Nat.le_refl _)).mono ?_
  rintro e w4 ⟨rfl, b4⟩
  have bw4 := bw3.trans (b4.mono bw3.size)
  have o4 := o3.keep b4
  clear o3 b4
  go_wp2_with fail
  refine (toByteS_any ao n cap f _ (hr.keep bw4) hn).mono ?_
  rintro e w5 ⟨rfl, o5, b5⟩
  have bw5 := bw4.trans (b5.mono bw4.size)
  have o5' := o4.keep b5
  clear o4 b5
  go_wp2_with fail
  refine (eqByteS_same _ _ n n n f _ o5'.row o5.row hn).mono ?_
  rintro e w6 ⟨rfl, b6⟩
  have bw6 := bw5.trans (b6.mono bw5.size)
  go_wp2
  go_ret
  exact ⟨rfl, bw6⟩
end Go.Proofs.YtpfjflbbpecbkaaGreat
