/- Good windows, in the program. -/
import Derived.Test.YtnkljicmiiffdaaWr
import Derived.Test.YtnkljicmiiffdaaSo
import Derived.Test.YtnkljicmiiffdaaCompareK
import Derived.Test.YtnkljicmiiffdaaGdI
import Derived.Deep.RegionWith
namespace Go.Proofs.Ytnkljicmiiffdaa
open Go.RowKit
set_option linter.unusedSimpArgs false
set_option linter.unusedVariables false

/-- A good window's key. -/
def gK (x : Wn) : Bool := goodB x.m x.tn x.nm x.vl x.st
/-- A good window, by the board's size. -/
structure GW (z : Int) (x : Wn) : Prop where
  key : gK x = true
  mul : x.st % z = 0
  agg : GoodA x.c x.s x.lo x.hi x.n x.f x.fu
  cnt : x.c ≠ 0
  ver : btw 0 x.ver 1000000 = true
  dir : x.ver = 0 → x.di = true
/-- Two windows' keys compared. -/
def kc (x y : Wn) : Int := keyCmp x.m y.m x.st y.st x.tn y.tn x.nm x.vl y.nm y.vl
/-- Good windows: each good, and rising. -/
structure GWs (z : Int) (X : Nat → Wn) (n : Nat) : Prop where
  each : ∀ i, i < n → GW z (X i)
  rise : ∀ i, i + 1 < n → kc (X i) (X (i + 1)) < 0

theorem agg_nz {c s lo hi : Int} {n : Nat} {f : Nat → Int} {fu : Bool} (h : GoodA c s lo hi n f fu) : 0 ≤ c := by
  have := h.1
  simp [isC, btw] at this
  exact this.1

set_option maxHeartbeats 3200000 in
theorem goodWin_any (x : Wn) (a0 a1 : Option Addr) (c0 c1 : Nat) (z : Int) (w : World) (r0 : TRow w a0 x.tn x.nm x.vl) (r1 : IRow w a1 x.n x.f) (hS : WiS x) (hE : WiB x) (hz : 1 ≤ z ∧ z ≤ 100000) :
    Calls Try.prog 94 #[.agg #[.string x.m, .slice a0 x.tn c0, .int .i64 x.st, .int .i64 x.c, .int .i64 x.s, .int .i64 x.lo, .int .i64 x.hi, .slice a1 x.n c1, .bool x.fu, .int .i64 x.ver, .bool x.di], .int .i64 z] w fun e w' => Ans (GW z x) w e w' := by
  have hB := below_new w (.cells #[.string x.m, .slice a0 x.tn c0, .int .i64 x.st, .int .i64 x.c, .int .i64 x.s, .int .i64 x.lo, .int .i64 x.hi, .slice a1 x.n c1, .bool x.fu, .int .i64 x.ver, .bool x.di] 61)
  have A := WiAt.new w x a0 a1 c0 c1 61
  have k1 := goodKey_impl x.m x.st a0 x.tn c0 x.nm x.vl _ (r0.keep hB) hS.m hS.tn hS.ts
  have k2 := fun W h => goodAgg_impl x.c x.s x.lo x.hi a1 x.n c1 x.f x.fu W h hS.n hE.s
  have hz0 : ¬ z = 0 := by omega
  clear r0
  go_enter Try.func94, Try.ntmps94
  go_wp2_with fail
  refine k1.mono ?_
  clear k1
  rintro e w1 ⟨rfl, hb⟩
  have bw : Below w.heap.size w w1 := hB.trans (hb.mono (by simp))
  have A1 := A.keep hb
  have i1 := r1.keep bw
  clear hb A hB r1
  obtain ⟨_, d0, d1, d2, d3, d4, d5, d6, d7, d8, d9, d10⟩ := id A1
  simp only [Nat.zero_add] at d1 d2 d3 d4 d5 d6 d7 d8 d9 d10
  generalize hg : goodB x.m x.tn x.nm x.vl x.st = g
  have G : Hid (gK x = g) := hg
  cases g
  · have H : Hid (¬ GW z x) := fun h => by have := h.key; rw [G.out] at this; cases this
    clear hg
    go_wp2
    go_ret
    exact Ans.mk false (by have := H.out; simp [this]) bw
  have hst := goodB_st hg
  have m1 := Int.emod_lt_of_pos x.st (show 0 < z by omega)
  have m2 := Int.emod_nonneg x.st (show z ≠ 0 by omega)
  have hw : IntKind.i64.wrap (x.st % z) = x.st % z := by rw [IntKind.wrap_i64] <;> omega
  clear hg
  by_cases h2 : x.st % z = 0
  rotate_left
  · have H : Hid (¬ GW z x) := fun h => h2 h.mul
    have e1 : (x.st % z == 0) = false := beq_eq_false_iff_ne.2 h2
    have e2 : (x.st % z != 0) = true := by rw [bne, e1]; rfl
    clear h2
    go_wp2
    go_ret
    exact Ans.mk false (by have := H.out; simp [this]) bw
  have H2 : Hid (x.st % z = 0) := h2
  have e1 : (x.st % z == 0) = true := beq_iff_eq.2 h2
  have e2 : (x.st % z != 0) = false := by rw [bne, e1]; rfl
  clear h2
  go_wp2_with fail
  refine (k2 _ i1).mono ?_
  clear k2
  rintro e w2 ⟨b2, rfl, hb2, q2⟩
  have Hb2 : Hid (b2 = true ↔ GoodA x.c x.s x.lo x.hi x.n x.f x.fu) := hb2
  have A2 := A1.keep q2
  have bw2 : Below w.heap.size w w2 := bw.trans (q2.mono bw.size)
  clear q2 hb2 i1 A1 d0 d1 d2 d3 d4 d5 d6 d7 d8 d9 d10
  obtain ⟨_, d0, d1, d2, d3, d4, d5, d6, d7, d8, d9, d10⟩ := A2
  simp only [Nat.zero_add] at d1 d2 d3 d4 d5 d6 d7 d8 d9 d10
  cases b2
  · have H : Hid (¬ GW z x) := fun h => by have := Hb2.out.2 h.agg; cases this
    clear Hb2
    go_wp2
    go_ret
    exact Ans.mk false (by have := H.out; simp [this]) bw2
  have Hg : Hid (GoodA x.c x.s x.lo x.hi x.n x.f x.fu) := Hb2.out.1 rfl
  clear Hb2
  by_cases h3 : x.c = 0
  · have H : Hid (¬ GW z x) := fun h => h.cnt h3
    have e3 : (x.c == 0) = true := beq_iff_eq.2 h3
    have e4 : (x.c != 0) = false := by rw [bne, e3]; rfl
    clear h3
    go_wp2
    go_ret
    exact Ans.mk false (by have := H.out; simp [this]) bw2
  have H3 : Hid (x.c ≠ 0) := h3
  have e3 : (x.c == 0) = false := beq_eq_false_iff_ne.2 h3
  have e4 : (x.c != 0) = true := by rw [bne, e3]; rfl
  clear h3
  by_cases h4 : 0 ≤ x.ver
  rotate_left
  · have H : Hid (¬ GW z x) := fun h => by have := h.ver; simp [btw] at this; omega
    have e5 : decide (0 ≤ x.ver) = false := decide_eq_false h4
    clear h4
    go_wp2
    go_ret
    exact Ans.mk false (by have := H.out; simp [this]) bw2
  by_cases h5 : x.ver ≤ 1000000
  rotate_left
  · have H : Hid (¬ GW z x) := fun h => by have := h.ver; simp [btw] at this; omega
    have e5 : decide (x.ver ≤ 1000000) = false := decide_eq_false h5
    clear h5
    go_wp2
    go_ret
    exact Ans.mk false (by have := H.out; simp [this]) bw2
  have H5 : Hid (btw 0 x.ver 1000000 = true) := by simp [Hid, btw, h4, h5]
  generalize hdi : x.di = di at *
  have HD : Hid (x.di = di) := hdi
  clear hdi
  cases di
  · by_cases h6 : 0 < x.ver
    · have H : Hid (GW z x) := ⟨G.out, H2.out, Hg.out, H3.out, H5.out, fun h => by omega⟩
      go_wp2
      go_ret
      exact Ans.mk true (by have := H.out; simp [this]) bw2
    · have H : Hid (¬ GW z x) := fun h => by have := h.dir (by omega); rw [HD.out] at this; cases this
      have e6 : decide (0 < x.ver) = false := decide_eq_false h6
      clear h6
      go_wp2
      go_ret
      exact Ans.mk false (by have := H.out; simp [this]) bw2
  · have H : Hid (GW z x) := ⟨G.out, H2.out, Hg.out, H3.out, H5.out, fun _ => HD.out⟩
    go_wp2
    go_ret
    exact Ans.mk true (by have := H.out; simp [this]) bw2
end Go.Proofs.Ytnkljicmiiffdaa
