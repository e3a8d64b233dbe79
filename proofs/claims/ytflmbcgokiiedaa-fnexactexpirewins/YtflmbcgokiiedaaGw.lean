/- GoodAgg, in the program. / Good windows, in the program. -/
import Derived.Test.YtflmbcgokiiedaaGd
import Derived.Test.YtflmbcgokiiedaaWr
import Derived.Test.YtflmbcgokiiedaaCompare
import Derived.Deep.RegionWith
namespace Go.Proofs.Ytflmbcgokiiedaa
open Go.RowKit
set_option linter.unusedSimpArgs false
set_option linter.unusedVariables false

set_option maxHeartbeats 800000 in
theorem goodAgg_impl (c s lo hi : Int) (ao : Option Addr) (n cap : Nat) (f : Nat → Int) (fu : Bool) (w : World) (hr : IRow w ao n f) (hn : n ≤ 1048576) (hs : -9223372036854775808 ≤ s ∧ s ≤ 9223372036854775807) :
    Calls Try.prog 106 #[.agg #[.int .i64 c, .int .i64 s, .int .i64 lo, .int .i64 hi, .slice ao n cap, .bool fu]] w fun e w' => Ans (GoodA c s lo hi n f fu) w e w' := by
  have hB := fun o => below_new w o
  cases hc : isC c
  · go_enter Try.func106, Try.ntmps106
    go_wp2_with fail
    refine (isCount_any c _).mono ?_
    rintro e w1 ⟨rfl, rfl⟩
    go_wp2
    exact bodyPost_ret (v := .bool false) (by simp [results, Try.results106, go_sem]) rfl (Ans.mk _ (by simp [GoodA, hc]) (hB _))
  · have hcb : 0 ≤ c ∧ c ≤ 1000000000 := by simpa [isC, btw] using hc
    go_enter Try.func106, Try.ntmps106
    go_wp2_with fail
    refine (isCount_any c _).mono ?_
    rintro e w1 ⟨rfl, rfl⟩
    go_wp2_with fail
    refine (goodHist_any ao n cap f _ (hr.keep (hB _)) hn).mono ?_
    rintro e w1 ⟨b1, rfl, h1, q1⟩
    obtain ⟨la, a0, a1, a2, a3, a4, a5⟩ := (AAt.new w c s lo hi (.slice ao n cap) fu 52).keep q1
    have r1 := (hr.keep (hB _)).keep q1
    have B1 : Below w.heap.size w w1 := (hB _).trans (q1.mono (by simp))
    clear q1
    cases b1
    · have H1 : Hid (¬ GoodA c s lo hi n f fu) := fun h => by
        have := h1.2 ⟨h.2.1, h.2.2.1⟩
        cases this
      clear h1
      go_wp2
      exact bodyPost_ret (v := .bool false) (by simp [results, Try.results106, go_sem]) rfl (Ans.mk _ (by have := H1.out; simp [this]) B1)
    · obtain ⟨h8, hall⟩ := h1.1 rfl
      subst h8
      have HA : Hid (∀ i, i < 8 → isC (f i) = true) := hall
      clear h1 hall
      cases fu
      · go_wp2_with fail
        refine (goodTotals_not c s lo hi ao cap f _ r1 hcb hs HA.out).mono ?_
        rintro e w2 ⟨b2, rfl, h2, q2⟩
        obtain ⟨la, a0, a1, a2, a3, a4, a5⟩ := AAt.keep ⟨la, a0, a1, a2, a3, a4, a5⟩ q2
        have B2 : Below w.heap.size w w2 := B1.trans (q2.mono B1.size)
        clear q2
        cases b2
        · have L2 : Hid (¬ GoodA c s lo hi 8 f false) := fun h => by
            have := h2.2 (h.2.2.2.1 rfl)
            cases this
          clear h2
          go_wp2
          exact bodyPost_ret (v := .bool false) (by simp [results, Try.results106, go_sem]) rfl (Ans.mk _ (by have := L2.out; simp [this]) B2)
        · have H2 : Hid (sumF f 8 = c ∧ -1000000000 * c ≤ s ∧ s ≤ 1000000000 * c) := h2.1 rfl
          clear h2
          go_wp2_with fail
          refine (goodBounds_any c s lo hi _ false _).mono ?_
          rintro e w3 ⟨b3, rfl, h3, q3⟩
          have B3 : Below w.heap.size w w3 := B2.trans (q3.mono B2.size)
          clear q3
          have H3 : Hid (b3 = true ↔ GoodA c s lo hi 8 f false) :=
            ⟨fun h => ⟨hc, rfl, HA.out, fun _ => H2.out, fun h => (by cases h), (h3.1 h).1, (h3.1 h).2⟩, fun h => h3.2 ⟨h.2.2.2.2.2.1, h.2.2.2.2.2.2⟩⟩
          clear h3
          go_wp2
          exact bodyPost_ret (v := .bool b3) (by simp [results, Try.results106, go_sem]) rfl (Ans.mk _ H3.out B3)
      · go_wp2_with fail
        refine (goodTotals_full c s lo hi _ _).mono ?_
        rintro e w2 ⟨b2, rfl, h2, q2⟩
        obtain ⟨la, a0, a1, a2, a3, a4, a5⟩ := AAt.keep ⟨la, a0, a1, a2, a3, a4, a5⟩ q2
        have B2 : Below w.heap.size w w2 := B1.trans (q2.mono B1.size)
        clear q2
        cases b2
        · have L2 : Hid (¬ GoodA c s lo hi 8 f true) := fun h => by
            have := h2.2 (h.2.2.2.2.1 rfl)
            cases this
          clear h2
          go_wp2
          exact bodyPost_ret (v := .bool false) (by simp [results, Try.results106, go_sem]) rfl (Ans.mk _ (by have := L2.out; simp [this]) B2)
        · have H2 : Hid (s = 0 ∧ 0 < c) := h2.1 rfl
          clear h2
          go_wp2_with fail
          refine (goodBounds_any c s lo hi _ true _).mono ?_
          rintro e w3 ⟨b3, rfl, h3, q3⟩
          have B3 : Below w.heap.size w w3 := B2.trans (q3.mono B2.size)
          clear q3
          have H3 : Hid (b3 = true ↔ GoodA c s lo hi 8 f true) :=
            ⟨fun h => ⟨hc, rfl, HA.out, fun h => (by cases h), fun _ => H2.out, (h3.1 h).1, (h3.1 h).2⟩, fun h => h3.2 ⟨h.2.2.2.2.2.1, h.2.2.2.2.2.2⟩⟩
          clear h3
          go_wp2
          exact bodyPost_ret (v := .bool b3) (by simp [results, Try.results106, go_sem]) rfl (Ans.mk _ H3.out B3)
end Go.Proofs.Ytflmbcgokiiedaa
namespace Go.Proofs.Ytflmbcgokiiedaa
open Go.RowKit
set_option linter.unusedSimpArgs false
set_option linter.unusedVariables false

/-- A good window's key. -/
def gK (x : Wn) : Bool := goodB x.m x.tn x.nm x.vl x.st
/-- A good window, by the board's size. -/
structure GW (z : Int) (x : Wn) : Prop where
  key : gK x = true
  mul : x.st % z = 0
  agg : GoodA x.c x.s x.lo x.hi x.n x.f x.fu
  cnt : x.c ≠ 0
  ver : btw 0 x.ver 1000000 = true
  dir : x.ver = 0 → x.di = true
/-- Two windows' keys compared. -/
def kc (x y : Wn) : Int := keyCmp x.m y.m x.st y.st x.tn y.tn x.nm x.vl y.nm y.vl
/-- Good windows: each good, and rising. -/
structure GWs (z : Int) (X : Nat → Wn) (n : Nat) : Prop where
  each : ∀ i, i < n → GW z (X i)
  rise : ∀ i, i + 1 < n → kc (X i) (X (i + 1)) < 0

theorem agg_nz {c s lo hi : Int} {n : Nat} {f : Nat → Int} {fu : Bool} (h : GoodA c s lo hi n f fu) : 0 ≤ c := by
  have := h.1
  simp [isC, btw] at this
  exact this.1

set_option maxHeartbeats 3200000 in
theorem goodWin_any (x : Wn) (a0 a1 : Option Addr) (c0 c1 : Nat) (z : Int) (w : World) (r0 : TRow w a0 x.tn x.nm x.vl) (r1 : IRow w a1 x.n x.f) (hS : WiS x) (hE : WiB x) (hz : 1 ≤ z ∧ z ≤ 100000) :
    Calls Try.prog 102 #[.agg #[.string x.m, .slice a0 x.tn c0, .int .i64 x.st, .int .i64 x.c, .int .i64 x.s, .int .i64 x.lo, .int .i64 x.hi, .slice a1 x.n c1, .bool x.fu, .int .i64 x.ver, .bool x.di], .int .i64 z] w fun e w' => Ans (GW z x) w e w' := by
  have hB := below_new w (.cells #[.string x.m, .slice a0 x.tn c0, .int .i64 x.st, .int .i64 x.c, .int .i64 x.s, .int .i64 x.lo, .int .i64 x.hi, .slice a1 x.n c1, .bool x.fu, .int .i64 x.ver, .bool x.di] 54)
  have A := WiAt.new w x a0 a1 c0 c1 54
  have k1 := goodKey_impl x.m x.st a0 x.tn c0 x.nm x.vl _ (r0.keep hB) hS.m hS.tn hS.ts
  have k2 := fun W h => goodAgg_impl x.c x.s x.lo x.hi a1 x.n c1 x.f x.fu W h hS.n hE.s
  have hz0 : ¬ z = 0 := by omega
  clear r0
  go_enter Try.func102, Try.ntmps102
  go_wp2_with fail
  refine k1.mono ?_
  clear k1
  rintro e w1 ⟨rfl, hb⟩
  have bw : Below w.heap.size w w1 := hB.trans (hb.mono (by simp))
  have A1 := A.keep hb
  have i1 := r1.keep bw
  clear hb A hB r1
  obtain ⟨_, d0, d1, d2, d3, d4, d5, d6, d7, d8, d9, d10⟩ := id A1
  simp only [Nat.zero_add] at d1 d2 d3 d4 d5 d6 d7 d8 d9 d10
  generalize hg : goodB x.m x.tn x.nm x.vl x.st = g
  have G : Hid (gK x = g) := hg
  cases g
  · have H : Hid (¬ GW z x) := fun h => by have := h.key; rw [G.out] at this; cases this
    clear hg
    go_wp2
    go_ret
    exact Ans.mk false (by have := H.out; simp [this]) bw
  have hst := goodB_st hg
  have m1 := Int.emod_lt_of_pos x.st (show 0 < z by omega)
  have m2 := Int.emod_nonneg x.st (show z ≠ 0 by omega)
  have hw : IntKind.i64.wrap (x.st % z) = x.st % z := by rw [IntKind.wrap_i64] <;> omega
  clear hg
  by_cases h2 : x.st % z = 0
  rotate_left
  · have H : Hid (¬ GW z x) := fun h => h2 h.mul
    have e1 : (x.st % z == 0) = false := beq_eq_false_iff_ne.2 h2
    have e2 : (x.st % z != 0) = true := by rw [bne, e1]; rfl
    clear h2
    go_wp2
    go_ret
    exact Ans.mk false (by have := H.out; simp [this]) bw
  have H2 : Hid (x.st % z = 0) := h2
  have e1 : (x.st % z == 0) = true := beq_iff_eq.2 h2
  have e2 : (x.st % z != 0) = false := by rw [bne, e1]; rfl
  clear h2
  go_wp2_with fail
  refine (k2 _ i1).mono ?_
  clear k2
  rintro e w2 ⟨b2, rfl, hb2, q2⟩
  have Hb2 : Hid (b2 = true ↔ GoodA x.c x.s x.lo x.hi x.n x.f x.fu) := hb2
  have A2 := A1.keep q2
  have bw2 : Below w.heap.size w w2 := bw.trans (q2.mono bw.size)
  clear q2 hb2 i1 A1 d0 d1 d2 d3 d4 d5 d6 d7 d8 d9 d10
  obtain ⟨_, d0, d1, d2, d3, d4, d5, d6, d7, d8, d9, d10⟩ := A2
  simp only [Nat.zero_add] at d1 d2 d3 d4 d5 d6 d7 d8 d9 d10
  cases b2
  · have H : Hid (¬ GW z x) := fun h => by have := Hb2.out.2 h.agg; cases this
    clear Hb2
    go_wp2
    go_ret
    exact Ans.mk false (by have := H.out; simp [this]) bw2
  have Hg : Hid (GoodA x.c x.s x.lo x.hi x.n x.f x.fu) := Hb2.out.1 rfl
  clear Hb2
  by_cases h3 : x.c = 0
  · have H : Hid (¬ GW z x) := fun h => h.cnt h3
    have e3 : (x.c == 0) = true := beq_iff_eq.2 h3
    have e4 : (x.c != 0) = false := by rw [bne, e3]; rfl
    clear h3
    go_wp2
    go_ret
    exact Ans.mk false (by have := H.out; simp [this]) bw2
  have H3 : Hid (x.c ≠ 0) := h3
  have e3 : (x.c == 0) = false := beq_eq_false_iff_ne.2 h3
  have e4 : (x.c != 0) = true := by rw [bne, e3]; rfl
  clear h3
  by_cases h4 : 0 ≤ x.ver
  rotate_left
  · have H : Hid (¬ GW z x) := fun h => by have := h.ver; simp [btw] at this; omega
    have e5 : decide (0 ≤ x.ver) = false := decide_eq_false h4
    clear h4
    go_wp2
    go_ret
    exact Ans.mk false (by have := H.out; simp [this]) bw2
  by_cases h5 : x.ver ≤ 1000000
  rotate_left
  · have H : Hid (¬ GW z x) := fun h => by have := h.ver; simp [btw] at this; omega
    have e5 : decide (x.ver ≤ 1000000) = false := decide_eq_false h5
    clear h5
    go_wp2
    go_ret
    exact Ans.mk false (by have := H.out; simp [this]) bw2
  have H5 : Hid (btw 0 x.ver 1000000 = true) := by simp [Hid, btw, h4, h5]
  generalize hdi : x.di = di at *
  have HD : Hid (x.di = di) := hdi
  clear hdi
  cases di
  · by_cases h6 : 0 < x.ver
    · have H : Hid (GW z x) := ⟨G.out, H2.out, Hg.out, H3.out, H5.out, fun h => by omega⟩
      go_wp2
      go_ret
      exact Ans.mk true (by have := H.out; simp [this]) bw2
    · have H : Hid (¬ GW z x) := fun h => by have := h.dir (by omega); rw [HD.out] at this; cases this
      have e6 : decide (0 < x.ver) = false := decide_eq_false h6
      clear h6
      go_wp2
      go_ret
      exact Ans.mk false (by have := H.out; simp [this]) bw2
  · have H : Hid (GW z x) := ⟨G.out, H2.out, Hg.out, H3.out, H5.out, fun _ => HD.out⟩
    go_wp2
    go_ret
    exact Ans.mk true (by have := H.out; simp [this]) bw2
end Go.Proofs.Ytflmbcgokiiedaa
