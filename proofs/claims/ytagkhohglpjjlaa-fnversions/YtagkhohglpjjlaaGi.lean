/- Versions that are good: the program's text. -/
import Derived.Test.YtagkhohglpjjlaaLayP
import Derived.Test.YtagkhohglpjjlaaAl

import Derived.BigQuiet
namespace Go.Proofs.Ytagkhohglpjjlaa
open Go.RowKit
set_option linter.unusedSimpArgs false
set_option linter.unusedVariables false

/-- A level of good metas. -/
def GoodMs (X : Nat → Met) (n : Nat) : Prop := n ≤ 12 ∧ ∀ i, i < n → gm (X i) = true
/-- The Most of one less than the Least of the next. -/
def Apart (X : Nat → Met) (n : Nat) : Prop := ∀ i, i + 1 < n → Op.bytesLess (X i).most.toList (X (i + 1)).least.toList = true
/-- Levels that are good in themselves. -/
def GoodLv (R : Nat → Nat → Met) (M : Nat → Nat) (N : Nat) : Prop := N = 3 ∧ ∀ i, i < N → GoodMs (R i) (M i) ∧ (0 < i → Apart (R i) (M i))

set_option maxHeartbeats 800000 in
theorem goodMetas_any (ao : Option Addr) (n cap : Nat) (X : Nat → Met) (w : World) (hr : MRow w ao n X) (hn : n ≤ 1048576) :
    Calls Try.prog 44 #[.slice ao n cap] w fun e w' => Ans (GoodMs X n) w e w' := by
  obtain ⟨hbd, hlies⟩ := hr
  by_cases h12 : 12 < n
  · have H : Hid (¬ GoodMs X n) := fun h => by have := h.1; omega
    have hd : decide ((12 : Int) < (n : Int)) = true := decide_eq_true (by omega)
    go_enter Try.func44, Try.ntmps44
    go_wp2
    go_ret
    exact Ans.mk false (by have := H.out; simp [this]) (Below.refl _ _)
  have hd12 : decide ((12 : Int) < (n : Int)) = false := decide_eq_false (by omega)
  go_enter Try.func44, Try.ntmps44
  go_wp2
  go_loopw [10] (fun i wr => ∃ k : Nat, k ≤ n ∧ i = .int .i64 k ∧ Hid (∀ i, i < k → gm (X i) = true) ∧ Below w.heap.size w wr) (fun i _ => n - (intOf i).toNat)
  case atStart => exact ⟨0, Nat.zero_le _, rfl, fun i h => by omega, Below.refl _ _⟩
  case round =>
    obtain ⟨k, hk, rfl, HG, hbk⟩ := hrel
    by_cases hlt : k < n
    · obtain ⟨b, off, rfl, hblt, hc⟩ := hlies.resolve_left (by omega)
      obtain ⟨_, a0, a1, a2, a3⟩ := (hc k hlt).keep hbk
      have bn := below_new wr (.cells #[.int .i64 (X k).file, .string (X k).least, .string (X k).most, .int .i64 (X k).many] 52)
      have bwn := hbk.trans (bn.mono hbk.size)
      clear hc hlies
      go_wp2_with fail
      refine (goodMeta_any (X k) _).mono ?_
      rintro e w1 ⟨rfl, hb1⟩
      have bw1 := bwn.trans (hb1.mono bwn.size)
      clear hb1
      cases hg : gm (X k)
      · have H : Hid (¬ GoodMs X n) := fun h => by have := h.2 k hlt; rw [hg] at this; cases this
        go_wp2
        go_ret
        exact Ans.mk false (by have := H.out; simp [this]) bw1
      · have HG2 : Hid (∀ i, i < k + 1 → gm (X i) = true) := fun i hi => by
          rcases Nat.lt_succ_iff_lt_or_eq.1 hi with h | h
          · exact HG.out i h
          · subst h; exact hg
        go_wp2
        go_roundw
        case rel => exact ⟨k + 1, by omega, by go_num, HG2, bw1⟩
        case measure => simp [intOf]; omega
    · obtain rfl : k = n := by omega
      have H : Hid (GoodMs X k) := ⟨by omega, HG.out⟩
      clear HG
      go_wp2
      go_ret
      exact Ans.mk true (by have := H.out; simp [this]) hbk

set_option maxHeartbeats 800000 in
theorem keysApart_any (ao : Option Addr) (n cap : Nat) (X : Nat → Met) (w : World) (hr : MRow w ao n X) (hn : n ≤ 1048576) :
    Calls Try.prog 45 #[.slice ao n cap] w fun e w' => Ans (Apart X n) w e w' := by
  obtain ⟨hbd, hlies⟩ := hr
  go_enter Try.func45, Try.ntmps45
  go_wp2
  go_loopw [3] (fun i wr => ∃ k : Nat, k ≤ n + 1 ∧ i = .int .i64 ((k + 1 : Nat) : Int) ∧ Hid (∀ i, i < k → i + 1 < n → Op.bytesLess (X i).most.toList (X (i + 1)).least.toList = true) ∧ Below w.heap.size w wr) (fun i _ => n + 2 - (intOf i).toNat)
  case atStart => exact ⟨0, by omega, rfl, fun i h => by omega, Below.refl _ _⟩
  case round =>
    obtain ⟨k, hk, rfl, HG, hbk⟩ := hrel
    by_cases hlt : k + 1 < n
    · obtain ⟨b, off, rfl, hblt, hc⟩ := hlies.resolve_left (by omega)
      have ej := (hc k (by omega)).keep hbk
      have ek := (hc (k + 1) hlt).keep hbk
      have a2 := ej.c2
      have b1 := ek.c1
      have hw1 : IntKind.i64.wrap (((k + 1 : Nat) : Int) - 1) = (k : Int) := by rw [IntKind.wrap_i64] <;> omega
      have hw2 : IntKind.i64.wrap (((k + 1 : Nat) : Int) + 1) = ((k + 1 + 1 : Nat) : Int) := by rw [IntKind.wrap_i64] <;> omega
      have i0 : (0 : Int) ≤ (k : Int) := by omega
      have i1 : (k : Int) < (n : Int) := by omega
      have i2 : (0 : Int) ≤ ((k + 1 : Nat) : Int) := by omega
      have i3 : ((k + 1 : Nat) : Int) < (n : Int) := by omega
      clear hc hlies ej ek
      cases hg : Op.bytesLess (X k).most.toList (X (k + 1)).least.toList
      · have H : Hid (¬ Apart X n) := fun h => by have := h k hlt; rw [hg] at this; cases this
        clear HG hbd
        go_wp2
        go_quiet (fail)
        go_wp2
        go_ret
        exact Ans.mk false (by have := H.out; simp [this]) (below_drewN hbk _)
      · have HG2 : Hid (∀ i, i < k + 1 → i + 1 < n → Op.bytesLess (X i).most.toList (X (i + 1)).least.toList = true) := fun i hi hi2 => by
          rcases Nat.lt_succ_iff_lt_or_eq.1 hi with h | h
          · exact HG.out i h hi2
          · subst h; exact hg
        clear HG hbd
        go_wp2
        go_quiet (fail)
        go_wp2
        go_roundw
        case rel => exact ⟨k + 1, by omega, by go_num, HG2, below_drewN hbk _⟩
        case measure => simp [intOf]; omega
    · have H : Hid (Apart X n) := fun i hi => HG.out i (by omega) hi
      clear HG
      have i3 : ¬ ((k + 1 : Nat) : Int) < (n : Int) := by omega
      go_wp2
      go_ret
      exact Ans.mk true (by have := H.out; simp [this]) hbk

set_option maxHeartbeats 1600000 in
theorem goodLevels_any (ao : Option Addr) (N cap : Nat) (R : Nat → Nat → Met) (M : Nat → Nat) (w : World) (hr : VRow w ao N R M) (hN : N ≤ 1048576) (hM : ∀ i, i < N → M i ≤ 1048576) :
    Calls Try.prog 22 #[.slice ao N cap] w fun e w' => Ans (GoodLv R M N) w e w' := by
  obtain ⟨_, _, hlies⟩ := hr
  go_enter Try.func22, Try.ntmps22
  go_wp2
  go_loopw [7] (fun i wr => ∃ k : Nat, k ≤ N ∧ i = .int .i64 k ∧ Hid (∀ i, i < k → GoodMs (R i) (M i) ∧ (0 < i → Apart (R i) (M i))) ∧ Below w.heap.size w wr) (fun i _ => N - (intOf i).toNat)
  case atStart => exact ⟨0, Nat.zero_le _, rfl, fun i h => by omega, Below.refl _ _⟩
  case round =>
    obtain ⟨k, hk, rfl, HG, hbk⟩ := hrel
    by_cases hlt : k < N
    · obtain ⟨b, off, rfl, hblt, hc⟩ := hlies.resolve_left (by omega)
      obtain ⟨da, dc, ea, er⟩ := hc k hlt
      have a0 := (hbk.cell (p := ⟨b, off + k, none⟩) hblt).trans ea
      have erk := er.keep hbk
      have hmk := hM k hlt
      clear hc hlies ea er hM
      go_wp2_with fail
      refine (goodMetas_any da (M k) dc (R k) _ erk hmk).mono ?_
      rintro e w1 ⟨b1, rfl, g1, q1⟩
      have bw1 := hbk.trans (q1.mono hbk.size)
      have er1 := erk.keep q1
      clear q1 erk
      cases b1
      · have H : Hid (¬ GoodLv R M N) := fun h => by have := g1.2 (h.2 k hlt).1; cases this
        clear g1 HG
        go_wp2
        go_ret
        exact Ans.mk false (by have := H.out; simp [this]) bw1
      have HG1 : Hid (GoodMs (R k) (M k)) := g1.1 rfl
      clear g1
      by_cases hk0 : 0 < k
      · have hd : decide ((0 : Int) < (k : Int)) = true := decide_eq_true (by omega)
        go_wp2_with fail
        refine (keysApart_any da (M k) dc (R k) _ er1 hmk).mono ?_
        rintro e w2 ⟨b2, rfl, g2, q2⟩
        have bw2 := bw1.trans (q2.mono bw1.size)
        clear q2 er1
        cases b2
        · have H : Hid (¬ GoodLv R M N) := fun h => by have := g2.2 ((h.2 k hlt).2 hk0); cases this
          clear g2 HG HG1
          go_wp2
          go_ret
          exact Ans.mk false (by have := H.out; simp [this]) bw2
        have HG2 : Hid (∀ i, i < k + 1 → GoodMs (R i) (M i) ∧ (0 < i → Apart (R i) (M i))) := fun i hi => by
          rcases Nat.lt_succ_iff_lt_or_eq.1 hi with h | h
          · exact HG.out i h
          · subst h; exact ⟨HG1.out, fun _ => g2.1 rfl⟩
        clear g2 HG HG1
        go_wp2
        go_roundw
        case rel => exact ⟨k + 1, by omega, by go_num, HG2, bw2⟩
        case measure => simp [intOf]; omega
      · have hd : decide ((0 : Int) < (k : Int)) = false := decide_eq_false (by omega)
        have HG2 : Hid (∀ i, i < k + 1 → GoodMs (R i) (M i) ∧ (0 < i → Apart (R i) (M i))) := fun i hi => by
          obtain rfl : i = k := by omega
          exact ⟨HG1.out, fun h => absurd h hk0⟩
        clear HG HG1
        go_wp2
        go_roundw
        case rel => exact ⟨k + 1, by omega, by go_num, HG2, bw1⟩
        case measure => simp [intOf]; omega
    · obtain rfl : k = N := by omega
      by_cases h3 : k = 3
      · have H : Hid (GoodLv R M k) := ⟨h3, HG.out⟩
        have hd : ((k : Int) == 3) = true := beq_iff_eq.2 (by omega)
        clear HG h3
        go_wp2
        go_ret
        exact Ans.mk true (by have := H.out; simp [this]) hbk
      · have H : Hid (¬ GoodLv R M k) := fun h => h3 h.1
        have hd : ((k : Int) == 3) = false := beq_eq_false_iff_ne.2 (by omega)
        clear HG h3
        go_wp2
        go_ret
        exact Ans.mk false (by have := H.out; simp [this]) hbk

/-- The Files of a level, and of the first k levels. -/
def fls (X : Nat → Met) : Nat → List Int
  | 0 => []
  | n + 1 => fls X n ++ [(X n).file]
def flsR (R : Nat → Nat → Met) (M : Nat → Nat) : Nat → List Int
  | 0 => []
  | k + 1 => flsR R M k ++ fls (R k) (M k)
theorem fls_len (X : Nat → Met) : ∀ n, (fls X n).length = n
  | 0 => rfl
  | n + 1 => by simp [fls, fls_len X n]
theorem flsR_len (R : Nat → Nat → Met) (M : Nat → Nat) : ∀ k, (flsR R M k).length = sumM M k
  | 0 => rfl
  | k + 1 => by simp [flsR, sumM, flsR_len R M k, fls_len]

set_option maxHeartbeats 1600000 in
theorem files_any (nx lg sq : Int) (ao : Option Addr) (N cap : Nat) (R : Nat → Nat → Met) (M : Nat → Nat) (w : World) (hr : VRow w ao N R M) (hN : N ≤ 1048576) (hM : sumM M N ≤ 1048576) :
    Calls Try.prog 46 #[.agg #[.int .i64 nx, .int .i64 lg, .int .i64 sq, .slice ao N cap]] w fun e w' => ∃ v, e = .returned v ∧ OwnI w' w.heap.size v (flsR R M N) ∧ Below w.heap.size w w' := by
  obtain ⟨hbd, _, hlies⟩ := hr
  have hfile : Hid (∀ k, k < N → ∀ q, q < M k → -9223372036854775808 ≤ (R k q).file ∧ (R k q).file ≤ 9223372036854775807) := fun k hk q hq => (hbd k hk q hq).file
  have bn0 := below_new w (.cells #[.int .i64 nx, .int .i64 lg, .int .i64 sq, .slice ao N cap] 25)
  go_enter Try.func46, Try.ntmps46
  go_wp2
  go_loopw [3, 11] (fun v i wr => ∃ k : Nat, k ≤ N ∧ i = .int .i64 k ∧ OwnI wr w.heap.size v (flsR R M k) ∧ Below w.heap.size w wr) (fun _ i _ => N - (intOf i).toNat)
  case atStart => exact ⟨0, Nat.zero_le _, rfl, ownI_nil _ _, bn0⟩
  case round =>
    obtain ⟨k, hk, rfl, hO, hbk⟩ := hrel
    by_cases hlt : k < N
    rotate_left
    · obtain rfl : k = N := by omega
      obtain ⟨so, sc, rfl, hsc, _⟩ := hO.form
      go_wp2
      go_ret
      exact ⟨_, rfl, hO, hbk⟩
    obtain ⟨b, off, rfl, hblt, hc⟩ := hlies.resolve_left (by omega)
    obtain ⟨da, dc, ea, er⟩ := hc k hlt
    have a0 := (hbk.cell (p := ⟨b, off + k, none⟩) hblt).trans ea
    have hsk := sumM_mono (M := M) (show k + 1 ≤ N by omega)
    have hse : sumM M (k + 1) = sumM M k + M k := rfl
    have hmk : sumM M k + M k ≤ 1048576 := by omega
    have hln := flsR_len R M k
    obtain ⟨_, hel⟩ := er
    clear hc hlies ea bn0 hse hsk
    go_wp2
    go_loopw [3, 17] (fun v i W => ∃ q : Nat, q ≤ M k ∧ i = .int .i64 q ∧ OwnI W w.heap.size v (flsR R M k ++ fls (R k) q) ∧ Below w.heap.size w W) (fun _ i _ => M k - (intOf i).toNat)
    case atStart => exact ⟨0, Nat.zero_le _, rfl, by simpa [fls] using hO, hbk⟩
    case round =>
      obtain ⟨q, hq, rfl, hOq, hbq⟩ := hrel
      by_cases hql : q < M k
      · obtain ⟨b2, off2, rfl, hblt2, hc2⟩ := hel.resolve_left (by omega)
        have eq0 := hc2 q hql
        obtain ⟨_, x0, x1, x2, x3⟩ := eq0.keep hbq
        have N1 := MAt.new wr (R k q) 52
        have B1 := below_new wr (.cells #[.int .i64 (R k q).file, .string (R k q).least, .string (R k q).most, .int .i64 (R k q).many] 52)
        have bw1 := hbq.trans (B1.mono hbq.size)
        have hO1 := hOq.keep B1
        have hfb : -9223372036854775808 ≤ (R k q).file ∧ (R k q).file ≤ 9223372036854775807 := hfile.out k hlt q hql
        have hlq : (flsR R M k ++ fls (R k) q).length ≤ 1048576 := by rw [List.length_append, hln, fls_len]; omega
        have es : flsR R M k ++ fls (R k) (q + 1) = (flsR R M k ++ fls (R k) q) ++ [(R k q).file] := by simp [fls]
        have sz1 := bw1.size
        have z0 := N1.c0
        clear hO hOq N1 hc2 hel hln eq0
        generalize hL : flsR R M k ++ fls (R k) q = L at *
        go_wp2_with (at_builtin; refine wpList_pushI2 rfl (.tmp 21) (.tmp 24) rfl w.heap.size _ _ L (R k q).file rfl hO1 hfb rfl (by simp) hlq sz1 ?_; intro v8 w8 hO8 hg8)
        have bw8 : Below w.heap.size w w8 := (hO1.keep (below_new _ _)).below (bw1.alloc sz1 _) hg8 (Nat.le_refl _) (Nat.le_trans sz1 (by simp))
        go_roundw
        case rel => exact ⟨q + 1, by omega, by go_num, by rw [es]; exact hO8, bw8⟩
        case measure => simp [intOf]; omega
      · obtain rfl : q = M k := by omega
        go_wp2
        go_roundw
        case rel => exact ⟨k + 1, by omega, by go_num, hOq, hbq⟩
        case measure => simp [intOf]; omega
end Go.Proofs.Ytagkhohglpjjlaa
