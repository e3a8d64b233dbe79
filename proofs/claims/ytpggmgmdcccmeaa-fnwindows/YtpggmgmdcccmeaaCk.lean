/- CompareKeys, both texts, at all keys. / GoodAgg, in the program. / Good windows, in the program. / Good boards, in the program. / Good keys in their order have bytes in their order, so rising keys have unlike bytes. / Keys and aggs copied, in both texts. -/
import Derived.Test.YtpggmgmdcccmeaaCompareS
import Derived.Test.YtpggmgmdcccmeaaMs
import Derived.Test.YtpggmgmdcccmeaaWr
import Derived.Test.YtpggmgmdcccmeaaSo
import Derived.Deep.RegionWith
import Derived.Deep.RegionHeld3
import Derived.Laws.Strings
import Derived.Test.YtpggmgmdcccmeaaGoodKeys
namespace Go.Proofs.Ytpggmgmdcccmeaa
open Go.RowKit
set_option linter.unusedSimpArgs false
set_option linter.unusedVariables false

def cmpAns (m m' : ByteArray) (st st' : Int) (n n' : Nat) (nm vl nm' vl' : Nat → ByteArray) : Int :=
  if (goodB m n nm vl st && goodB m' n' nm' vl' st') = true then keyCmp m m' st st' n n' nm vl nm' vl' else 0

theorem goodB_st {m : ByteArray} {n : Nat} {nm vl : Nat → ByteArray} {st : Int} (h : goodB m n nm vl st = true) : 0 ≤ st ∧ st ≤ 1000000000 := by
  simp only [goodB, Bool.and_eq_true, decide_eq_true_eq] at h
  exact ⟨h.1.2, h.2⟩

set_option maxHeartbeats 1000000 in
theorem compareKeys_impl_bad (m m' : ByteArray) (st st' : Int) (ao bo : Option Addr) (n n' ca cb : Nat) (nm vl nm' vl' : Nat → ByteArray) (w : World) (hr : TRow w ao n nm vl) (hr' : TRow w bo n' nm' vl')
    (hm : m.size ≤ 1048576) (hm' : m'.size ≤ 1048576) (hn : n ≤ 1048576) (hn' : n' ≤ 1048576) (hs : TSize n nm vl 1048576) (hs' : TSize n' nm' vl' 1048576)
    (hG : goodB m n nm vl st = false ∨ (goodB m n nm vl st = true ∧ goodB m' n' nm' vl' st' = false)) :
    Calls Try.prog 67 #[.agg #[.string m, .slice ao n ca, .int .i64 st], .agg #[.string m', .slice bo n' cb, .int .i64 st']] w fun e w' => e = .returned (.int .i64 0) ∧ Below w.heap.size w w' := by
  have hB : Below w.heap.size w ((w.alloc (.cells #[.string m, .slice ao n ca, .int .i64 st] 32)).alloc (.cells #[.string m', .slice bo n' cb, .int .i64 st'] 32)) := ((Below.refl _ _).alloc (Nat.le_refl _) _).alloc (by simp) _
  have ka : KAt ((w.alloc (.cells #[.string m, .slice ao n ca, .int .i64 st] 32)).alloc (.cells #[.string m', .slice bo n' cb, .int .i64 st'] 32)) w.heap.size m (.slice ao n ca) st := (KAt.new w m (.slice ao n ca) st 32).keep ((Below.refl _ _).alloc (Nat.le_refl _) _)
  have kb : KAt ((w.alloc (.cells #[.string m, .slice ao n ca, .int .i64 st] 32)).alloc (.cells #[.string m', .slice bo n' cb, .int .i64 st'] 32)) (w.heap.size + 1) m' (.slice bo n' cb) st' := by
    have := KAt.new (w.alloc (.cells #[.string m, .slice ao n ca, .int .i64 st] 32)) m' (.slice bo n' cb) st' 32
    simpa using this
  rcases hG with hG | ⟨hG, hG'⟩
  · have HG : Hid (goodB m n nm vl st = false) := hG
    clear hG
    go_enter Try.func67, Try.ntmps67
    go_wp2_with fail
    refine (goodKey_impl m st ao n ca nm vl _ (hr.keep hB) hm hn hs).mono ?_
    rintro e w1 ⟨rfl, hb1⟩
    rw [HG.out]
    have hbw1 : Below w.heap.size w w1 := hB.trans (hb1.mono (by simp; omega))
    clear ka kb hB hb1
    go_wp2
    go_ret
    exact ⟨rfl, hbw1⟩
  · have HG : Hid (goodB m n nm vl st = true) := hG
    have HG' : Hid (goodB m' n' nm' vl' st' = false) := hG'
    clear hG hG'
    go_enter Try.func67, Try.ntmps67
    go_wp2_with fail
    refine (goodKey_impl m st ao n ca nm vl _ (hr.keep hB) hm hn hs).mono ?_
    rintro e w1 ⟨rfl, hb1⟩
    rw [HG.out]
    obtain ⟨la, a0, a1, a2⟩ := ka.keep hb1
    obtain ⟨lb, b0, b1, b2⟩ := kb.keep hb1
    have hbw1 : Below w.heap.size w w1 := hB.trans (hb1.mono (by simp; omega))
    clear ka kb hB hb1
    go_wp2_with fail
    refine (goodKey_impl m' st' bo n' cb nm' vl' _ (hr'.keep hbw1) hm' hn' hs').mono ?_
    rintro e w2 ⟨rfl, hb2⟩
    rw [HG'.out]
    have hbw2 : Below w.heap.size w w2 := hbw1.trans (hb2.mono hbw1.size)
    clear hb2 hbw1
    go_wp2
    go_ret
    exact ⟨rfl, hbw2⟩

theorem compareKeys_impl (m m' : ByteArray) (st st' : Int) (ao bo : Option Addr) (n n' ca cb : Nat) (nm vl nm' vl' : Nat → ByteArray) (w : World) (hr : TRow w ao n nm vl) (hr' : TRow w bo n' nm' vl')
    (hm : m.size ≤ 1048576) (hm' : m'.size ≤ 1048576) (hn : n ≤ 1048576) (hn' : n' ≤ 1048576) (hs : TSize n nm vl 1048576) (hs' : TSize n' nm' vl' 1048576) :
    Calls Try.prog 67 #[.agg #[.string m, .slice ao n ca, .int .i64 st], .agg #[.string m', .slice bo n' cb, .int .i64 st']] w fun e w' => e = .returned (.int .i64 (cmpAns m m' st st' n n' nm vl nm' vl')) ∧ Below w.heap.size w w' := by
  unfold cmpAns
  cases h1 : goodB m n nm vl st with
  | false => exact compareKeys_impl_bad m m' st st' ao bo n n' ca cb nm vl nm' vl' w hr hr' hm hm' hn hn' hs hs' (.inl h1)
  | true =>
    cases h2 : goodB m' n' nm' vl' st' with
    | false => exact compareKeys_impl_bad m m' st st' ao bo n n' ca cb nm vl nm' vl' w hr hr' hm hm' hn hn' hs hs' (.inr ⟨h1, h2⟩)
    | true => exact compareKeys_impl_good m m' st st' ao bo n n' ca cb nm vl nm' vl' w hr hr' hm hm' hn hn' hs hs' h1 h2

end Go.Proofs.Ytpggmgmdcccmeaa
namespace Go.Proofs.Ytpggmgmdcccmeaa
open Go.RowKit
set_option linter.unusedSimpArgs false
set_option linter.unusedVariables false

set_option maxHeartbeats 800000 in
theorem goodAgg_impl (c s lo hi : Int) (ao : Option Addr) (n cap : Nat) (f : Nat → Int) (fu : Bool) (w : World) (hr : IRow w ao n f) (hn : n ≤ 1048576) (hs : -9223372036854775808 ≤ s ∧ s ≤ 9223372036854775807) :
    Calls Try.prog 91 #[.agg #[.int .i64 c, .int .i64 s, .int .i64 lo, .int .i64 hi, .slice ao n cap, .bool fu]] w fun e w' => Ans (GoodA c s lo hi n f fu) w e w' := by
  have hB := fun o => below_new w o
  cases hc : isC c
  · go_enter Try.func91, Try.ntmps91
    go_wp2_with fail
    refine (isCount_any c _).mono ?_
    rintro e w1 ⟨rfl, rfl⟩
    go_wp2
    exact bodyPost_ret (v := .bool false) (by simp [results, Try.results91, go_sem]) rfl (Ans.mk _ (by simp [GoodA, hc]) (hB _))
  · have hcb : 0 ≤ c ∧ c ≤ 1000000000 := by simpa [isC, btw] using hc
    go_enter Try.func91, Try.ntmps91
    go_wp2_with fail
    refine (isCount_any c _).mono ?_
    rintro e w1 ⟨rfl, rfl⟩
    go_wp2_with fail
    refine (goodHist_any ao n cap f _ (hr.keep (hB _)) hn).mono ?_
    rintro e w1 ⟨b1, rfl, h1, q1⟩
    obtain ⟨la, a0, a1, a2, a3, a4, a5⟩ := (AAt.new w c s lo hi (.slice ao n cap) fu 35).keep q1
    have r1 := (hr.keep (hB _)).keep q1
    have B1 : Below w.heap.size w w1 := (hB _).trans (q1.mono (by simp))
    clear q1
    cases b1
    · have H1 : Hid (¬ GoodA c s lo hi n f fu) := fun h => by
        have := h1.2 ⟨h.2.1, h.2.2.1⟩
        cases this
      clear h1
      go_wp2
      exact bodyPost_ret (v := .bool false) (by simp [results, Try.results91, go_sem]) rfl (Ans.mk _ (by have := H1.out; simp [this]) B1)
    · obtain ⟨h8, hall⟩ := h1.1 rfl
      subst h8
      have HA : Hid (∀ i, i < 8 → isC (f i) = true) := hall
      clear h1 hall
      cases fu
      · go_wp2_with fail
        refine (goodTotals_not c s lo hi ao cap f _ r1 hcb hs HA.out).mono ?_
        rintro e w2 ⟨b2, rfl, h2, q2⟩
        obtain ⟨la, a0, a1, a2, a3, a4, a5⟩ := AAt.keep ⟨la, a0, a1, a2, a3, a4, a5⟩ q2
        have B2 : Below w.heap.size w w2 := B1.trans (q2.mono B1.size)
        clear q2
        cases b2
        · have L2 : Hid (¬ GoodA c s lo hi 8 f false) := fun h => by
            have := h2.2 (h.2.2.2.1 rfl)
            cases this
          clear h2
          go_wp2
          exact bodyPost_ret (v := .bool false) (by simp [results, Try.results91, go_sem]) rfl (Ans.mk _ (by have := L2.out; simp [this]) B2)
        · have H2 : Hid (sumF f 8 = c ∧ -1000000000 * c ≤ s ∧ s ≤ 1000000000 * c) := h2.1 rfl
          clear h2
          go_wp2_with fail
          refine (goodBounds_any c s lo hi _ false _).mono ?_
          rintro e w3 ⟨b3, rfl, h3, q3⟩
          have B3 : Below w.heap.size w w3 := B2.trans (q3.mono B2.size)
          clear q3
          have H3 : Hid (b3 = true ↔ GoodA c s lo hi 8 f false) :=
            ⟨fun h => ⟨hc, rfl, HA.out, fun _ => H2.out, fun h => (by cases h), (h3.1 h).1, (h3.1 h).2⟩, fun h => h3.2 ⟨h.2.2.2.2.2.1, h.2.2.2.2.2.2⟩⟩
          clear h3
          go_wp2
          exact bodyPost_ret (v := .bool b3) (by simp [results, Try.results91, go_sem]) rfl (Ans.mk _ H3.out B3)
      · go_wp2_with fail
        refine (goodTotals_full c s lo hi _ _).mono ?_
        rintro e w2 ⟨b2, rfl, h2, q2⟩
        obtain ⟨la, a0, a1, a2, a3, a4, a5⟩ := AAt.keep ⟨la, a0, a1, a2, a3, a4, a5⟩ q2
        have B2 : Below w.heap.size w w2 := B1.trans (q2.mono B1.size)
        clear q2
        cases b2
        · have L2 : Hid (¬ GoodA c s lo hi 8 f true) := fun h => by
            have := h2.2 (h.2.2.2.2.1 rfl)
            cases this
          clear h2
          go_wp2
          exact bodyPost_ret (v := .bool false) (by simp [results, Try.results91, go_sem]) rfl (Ans.mk _ (by have := L2.out; simp [this]) B2)
        · have H2 : Hid (s = 0 ∧ 0 < c) := h2.1 rfl
          clear h2
          go_wp2_with fail
          refine (goodBounds_any c s lo hi _ true _).mono ?_
          rintro e w3 ⟨b3, rfl, h3, q3⟩
          have B3 : Below w.heap.size w w3 := B2.trans (q3.mono B2.size)
          clear q3
          have H3 : Hid (b3 = true ↔ GoodA c s lo hi 8 f true) :=
            ⟨fun h => ⟨hc, rfl, HA.out, fun h => (by cases h), fun _ => H2.out, (h3.1 h).1, (h3.1 h).2⟩, fun h => h3.2 ⟨h.2.2.2.2.2.1, h.2.2.2.2.2.2⟩⟩
          clear h3
          go_wp2
          exact bodyPost_ret (v := .bool b3) (by simp [results, Try.results91, go_sem]) rfl (Ans.mk _ H3.out B3)
end Go.Proofs.Ytpggmgmdcccmeaa
namespace Go.Proofs.Ytpggmgmdcccmeaa
open Go.RowKit
set_option linter.unusedSimpArgs false
set_option linter.unusedVariables false

/-- A good window's key. -/
def gK (x : Wn) : Bool := goodB x.m x.tn x.nm x.vl x.st
/-- A good window, by the board's size. -/
structure GW (z : Int) (x : Wn) : Prop where
  key : gK x = true
  mul : x.st % z = 0
  agg : GoodA x.c x.s x.lo x.hi x.n x.f x.fu
  cnt : x.c ≠ 0
  ver : btw 0 x.ver 1000000 = true
  dir : x.ver = 0 → x.di = true
/-- Two windows' keys compared. -/
def kc (x y : Wn) : Int := keyCmp x.m y.m x.st y.st x.tn y.tn x.nm x.vl y.nm y.vl
/-- Good windows: each good, and rising. -/
structure GWs (z : Int) (X : Nat → Wn) (n : Nat) : Prop where
  each : ∀ i, i < n → GW z (X i)
  rise : ∀ i, i + 1 < n → kc (X i) (X (i + 1)) < 0

theorem agg_nz {c s lo hi : Int} {n : Nat} {f : Nat → Int} {fu : Bool} (h : GoodA c s lo hi n f fu) : 0 ≤ c := by
  have := h.1
  simp [isC, btw] at this
  exact this.1

set_option maxHeartbeats 3200000 in
theorem goodWin_any (x : Wn) (a0 a1 : Option Addr) (c0 c1 : Nat) (z : Int) (w : World) (r0 : TRow w a0 x.tn x.nm x.vl) (r1 : IRow w a1 x.n x.f) (hS : WiS x) (hE : WiB x) (hz : 1 ≤ z ∧ z ≤ 100000) :
    Calls Try.prog 85 #[.agg #[.string x.m, .slice a0 x.tn c0, .int .i64 x.st, .int .i64 x.c, .int .i64 x.s, .int .i64 x.lo, .int .i64 x.hi, .slice a1 x.n c1, .bool x.fu, .int .i64 x.ver, .bool x.di], .int .i64 z] w fun e w' => Ans (GW z x) w e w' := by
  have hB := below_new w (.cells #[.string x.m, .slice a0 x.tn c0, .int .i64 x.st, .int .i64 x.c, .int .i64 x.s, .int .i64 x.lo, .int .i64 x.hi, .slice a1 x.n c1, .bool x.fu, .int .i64 x.ver, .bool x.di] 39)
  have A := WiAt.new w x a0 a1 c0 c1 39
  have k1 := goodKey_impl x.m x.st a0 x.tn c0 x.nm x.vl _ (r0.keep hB) hS.m hS.tn hS.ts
  have k2 := fun W h => goodAgg_impl x.c x.s x.lo x.hi a1 x.n c1 x.f x.fu W h hS.n hE.s
  have hz0 : ¬ z = 0 := by omega
  clear r0
  go_enter Try.func85, Try.ntmps85
  go_wp2_with fail
  refine k1.mono ?_
  clear k1
  rintro e w1 ⟨rfl, hb⟩
  have bw : Below w.heap.size w w1 := hB.trans (hb.mono (by simp))
  have A1 := A.keep hb
  have i1 := r1.keep bw
  clear hb A hB r1
  obtain ⟨_, d0, d1, d2, d3, d4, d5, d6, d7, d8, d9, d10⟩ := id A1
  simp only [Nat.zero_add] at d1 d2 d3 d4 d5 d6 d7 d8 d9 d10
  generalize hg : goodB x.m x.tn x.nm x.vl x.st = g
  have G : Hid (gK x = g) := hg
  cases g
  · have H : Hid (¬ GW z x) := fun h => by have := h.key; rw [G.out] at this; cases this
    clear hg
    go_wp2
    go_ret
    exact Ans.mk false (by have := H.out; simp [this]) bw
  have hst := goodB_st hg
  have m1 := Int.emod_lt_of_pos x.st (show 0 < z by omega)
  have m2 := Int.emod_nonneg x.st (show z ≠ 0 by omega)
  have hw : IntKind.i64.wrap (x.st % z) = x.st % z := by rw [IntKind.wrap_i64] <;> omega
  clear hg
  by_cases h2 : x.st % z = 0
  rotate_left
  · have H : Hid (¬ GW z x) := fun h => h2 h.mul
    have e1 : (x.st % z == 0) = false := beq_eq_false_iff_ne.2 h2
    have e2 : (x.st % z != 0) = true := by rw [bne, e1]; rfl
    clear h2
    go_wp2
    go_ret
    exact Ans.mk false (by have := H.out; simp [this]) bw
  have H2 : Hid (x.st % z = 0) := h2
  have e1 : (x.st % z == 0) = true := beq_iff_eq.2 h2
  have e2 : (x.st % z != 0) = false := by rw [bne, e1]; rfl
  clear h2
  go_wp2_with fail
  refine (k2 _ i1).mono ?_
  clear k2
  rintro e w2 ⟨b2, rfl, hb2, q2⟩
  have Hb2 : Hid (b2 = true ↔ GoodA x.c x.s x.lo x.hi x.n x.f x.fu) := hb2
  have A2 := A1.keep q2
  have bw2 : Below w.heap.size w w2 := bw.trans (q2.mono bw.size)
  clear q2 hb2 i1 A1 d0 d1 d2 d3 d4 d5 d6 d7 d8 d9 d10
  obtain ⟨_, d0, d1, d2, d3, d4, d5, d6, d7, d8, d9, d10⟩ := A2
  simp only [Nat.zero_add] at d1 d2 d3 d4 d5 d6 d7 d8 d9 d10
  cases b2
  · have H : Hid (¬ GW z x) := fun h => by have := Hb2.out.2 h.agg; cases this
    clear Hb2
    go_wp2
    go_ret
    exact Ans.mk false (by have := H.out; simp [this]) bw2
  have Hg : Hid (GoodA x.c x.s x.lo x.hi x.n x.f x.fu) := Hb2.out.1 rfl
  clear Hb2
  by_cases h3 : x.c = 0
  · have H : Hid (¬ GW z x) := fun h => h.cnt h3
    have e3 : (x.c == 0) = true := beq_iff_eq.2 h3
    have e4 : (x.c != 0) = false := by rw [bne, e3]; rfl
    clear h3
    go_wp2
    go_ret
    exact Ans.mk false (by have := H.out; simp [this]) bw2
  have H3 : Hid (x.c ≠ 0) := h3
  have e3 : (x.c == 0) = false := beq_eq_false_iff_ne.2 h3
  have e4 : (x.c != 0) = true := by rw [bne, e3]; rfl
  clear h3
  by_cases h4 : 0 ≤ x.ver
  rotate_left
  · have H : Hid (¬ GW z x) := fun h => by have := h.ver; simp [btw] at this; omega
    have e5 : decide (0 ≤ x.ver) = false := decide_eq_false h4
    clear h4
    go_wp2
    go_ret
    exact Ans.mk false (by have := H.out; simp [this]) bw2
  by_cases h5 : x.ver ≤ 1000000
  rotate_left
  · have H : Hid (¬ GW z x) := fun h => by have := h.ver; simp [btw] at this; omega
    have e5 : decide (x.ver ≤ 1000000) = false := decide_eq_false h5
    clear h5
    go_wp2
    go_ret
    exact Ans.mk false (by have := H.out; simp [this]) bw2
  have H5 : Hid (btw 0 x.ver 1000000 = true) := by simp [Hid, btw, h4, h5]
  generalize hdi : x.di = di at *
  have HD : Hid (x.di = di) := hdi
  clear hdi
  cases di
  · by_cases h6 : 0 < x.ver
    · have H : Hid (GW z x) := ⟨G.out, H2.out, Hg.out, H3.out, H5.out, fun h => by omega⟩
      go_wp2
      go_ret
      exact Ans.mk true (by have := H.out; simp [this]) bw2
    · have H : Hid (¬ GW z x) := fun h => by have := h.dir (by omega); rw [HD.out] at this; cases this
      have e6 : decide (0 < x.ver) = false := decide_eq_false h6
      clear h6
      go_wp2
      go_ret
      exact Ans.mk false (by have := H.out; simp [this]) bw2
  · have H : Hid (GW z x) := ⟨G.out, H2.out, Hg.out, H3.out, H5.out, fun _ => HD.out⟩
    go_wp2
    go_ret
    exact Ans.mk true (by have := H.out; simp [this]) bw2
end Go.Proofs.Ytpggmgmdcccmeaa
namespace Go.Proofs.Ytpggmgmdcccmeaa
open Go.RowKit
set_option linter.unusedSimpArgs false
set_option linter.unusedVariables false

theorem cmp_kc (x y : Wn) (hx : gK x = true) (hy : gK y = true) : cmpAns x.m y.m x.st y.st x.tn y.tn x.nm x.vl y.nm y.vl = kc x y := by
  unfold cmpAns kc gK at *
  rw [hx, hy]
  rfl

theorem GWs.more {z : Int} {X : Nat → Wn} {k : Nat} (h : GWs z X k) (hk : GW z (X k)) (hr : ∀ j, j + 1 = k → kc (X j) (X k) < 0) : GWs z X (k + 1) :=
  ⟨fun i hi => by
    rcases Nat.lt_succ_iff_lt_or_eq.1 hi with h1 | rfl
    · exact h.each i h1
    · exact hk, fun i hi => by
    rcases Nat.lt_succ_iff_lt_or_eq.1 hi with h1 | h1
    · exact h.rise i h1
    · rw [h1]; exact hr i h1⟩

set_option maxHeartbeats 4000000 in
theorem goodWins_any (ao : Option Addr) (n cap : Nat) (X : Nat → Wn) (z : Int) (w : World) (hr : WiRow w ao n X) (hn : n ≤ 1048576) (hzS : WiSize n X) (hz : 1 ≤ z ∧ z ≤ 100000) :
    Calls Try.prog 68 #[.slice ao n cap, .int .i64 z] w fun e w' => Ans (GWs z X n) w e w' := by
  obtain ⟨hbd, hlies⟩ := hr
  go_enter Try.func68, Try.ntmps68
  go_wp2
  go_loopw [9] (fun i wr => ∃ k : Nat, k ≤ n ∧ i = .int .i64 k ∧ Hid (GWs z X k) ∧ Below w.heap.size w wr) (fun i _ => n - (intOf i).toNat)
  case atStart => exact ⟨0, Nat.zero_le _, rfl, ⟨fun i h => by omega, fun i h => by omega⟩, Below.refl _ _⟩
  case round =>
    obtain ⟨k, hk, rfl, HG, hbk⟩ := hrel
    by_cases hlt : k < n
    rotate_left
    · have e : k = n := by omega
      subst e
      go_wp2
      go_ret
      exact Ans.mk true (by have := HG.out; simp [this]) hbk
    obtain ⟨b, off, rfl, hblt, hc⟩ := hlies.resolve_left (by omega)
    obtain ⟨a0, a1, c0, c1, ea, r0, r1⟩ := hc k hlt
    have ea1 := ea.keep hbk
    obtain ⟨_, d0, d1, d2, d3, d4, d5, d6, d7, d8, d9, d10⟩ := id ea1
    have hB := below_new wr (.cells #[.string (X k).m, .slice a0 (X k).tn c0, .int .i64 (X k).st, .int .i64 (X k).c, .int .i64 (X k).s, .int .i64 (X k).lo, .int .i64 (X k).hi, .slice a1 (X k).n c1, .bool (X k).fu, .int .i64 (X k).ver, .bool (X k).di] 39)
    have A := WiAt.new wr (X k) a0 a1 c0 c1 39
    have r0 := (r0.keep hbk).keep hB
    have r1 := (r1.keep hbk).keep hB
    have bwk := hbk.trans (hB.mono hbk.size)
    have hcall := goodWin_any (X k) a0 a1 c0 c1 z _ r0 r1 (hzS k hlt) (hbd k hlt) hz
    have hC := hc
    clear hc hlies ea ea1 r1
    go_wp2_with fail
    refine hcall.mono ?_
    clear hcall
    rintro e w1 ⟨b1, rfl, h1, q1⟩
    have H1 : Hid (b1 = true ↔ GW z (X k)) := h1
    have A1 := A.keep q1
    have r0 := r0.keep q1
    have bw1 : Below w.heap.size w w1 := bwk.trans (q1.mono bwk.size)
    clear q1 h1 A hB bwk d0 d1 d2 d3 d4 d5 d6 d7 d8 d9 d10
    cases b1
    · have H : Hid (¬ GWs z X n) := fun h => by have := H1.out.2 (h.each k hlt); cases this
      clear H1 HG hC
      go_wp2
      go_ret
      exact Ans.mk false (by have := H.out; simp [this]) bw1
    have HW : Hid (GW z (X k)) := H1.out.1 rfl
    clear H1
    by_cases hk0 : k = 0
    · have HG' : Hid (GWs z X (k + 1)) := HG.out.more HW.out (fun j hj => by omega)
      have hd0 : decide (0 < k) = false := by simp; omega
      have hd1 : decide ((0 : Int) < (k : Int)) = false := by simp; omega
      clear hk0 hC
      go_wp2
      go_quiet (fail)
      go_wp2
      go_roundw
      case rel => exact ⟨k + 1, by omega, by go_num, HG', below_drewN bw1 _⟩
      case measure => simp [intOf]; omega
    have hpos : 0 < k := by omega
    have hpos2 : (0 : Int) < (k : Int) := by omega
    obtain ⟨j, hjk⟩ : ∃ j, k = j + 1 := ⟨k - 1, by omega⟩
    obtain ⟨p0, p1, u0, u1, ep, s0, s1⟩ := hC j (by omega)
    have ep1 := ep.keep bw1
    have s0 := s0.keep bw1
    obtain ⟨_, x0, x1, x2, _⟩ := id ep1
    obtain ⟨_, y0, y1, y2, _⟩ := id A1
    simp only [Nat.zero_add] at y1 y2
    have zk := hzS k hlt
    have zp := hzS j (by omega)
    have hcmp := fun W h h' => compareKeys_impl (X j).m (X k).m (X j).st (X k).st p0 a0 (X j).tn (X k).tn u0 c0 (X j).nm (X j).vl (X k).nm (X k).vl W h h' zp.m zk.m zp.tn zk.tn zp.ts zk.ts
    rw [cmp_kc (X j) (X k) (HG.out.each j (by omega)).key HW.out.key] at hcmp
    have hj : IntKind.i64.wrap ((k : Int) - 1) = (j : Int) := by rw [IntKind.wrap_i64] <;> omega
    have hj0 : (0 : Int) ≤ (j : Int) := by omega
    have hj1 : (j : Int) < (n : Int) := by omega
    have hk0' : (0 : Int) ≤ (k : Int) := by omega
    have HJ : Hid (k = j + 1) := hjk
    clear hjk
    generalize hkc : kc (X j) (X k) = C at hcmp
    have HC : Hid (kc (X j) (X k) = C) := hkc
    have t0 := r0.keep (Below.refl _ w1).drew
    have t1 := s0.keep (Below.refl _ w1).drew
    clear hkc ep s1 hC s0 r0 zk zp
    by_cases hneg : C < 0
    · have HG' : Hid (GWs z X (k + 1)) := HG.out.more HW.out (fun i hj => by
        have e : i = j := by have := HJ.out; omega
        subst e
        rw [HC.out]
        exact hneg)
      have hdc : decide (0 ≤ C) = false := decide_eq_false (by omega)
      clear HG HW HC
      go_wp2
      go_region_held3 (fun w' => w'.cell? ⟨b, off + j * 11, none⟩ = some (.string (X j).m) ∧ w'.cell? ⟨b, off + j * 11 + 1, none⟩ = some (.slice p0 (X j).tn u0) ∧ w'.cell? ⟨b, off + j * 11 + 2, none⟩ = some (.int .i64 (X j).st) ∧ w'.cell? ⟨wr.heap.size, 0, none⟩ = some (.string (X k).m) ∧ w'.cell? ⟨wr.heap.size, 1, none⟩ = some (.slice a0 (X k).tn c0) ∧ w'.cell? ⟨wr.heap.size, 2, none⟩ = some (.int .i64 (X k).st)) (go_keep) (first | (go_at_call 67; refine (hcmp _ t1 t0).mono ?_; rintro e w6 ⟨rfl, hb6⟩; have hb6' := (Below.refl _ w1).drew.trans hb6; obtain ⟨_, g0, g1, g2, _⟩ := ep1.keep hb6'; obtain ⟨_, l0, l1, l2, _⟩ := A1.keep hb6'; simp only [Nat.zero_add] at l1 l2; have bw6 := bw1.trans (hb6'.mono bw1.size); clear hb6 hb6'))
      go_wp2
      go_roundw
      case rel => exact ⟨k + 1, by omega, by go_num, HG', bw6⟩
      case measure => simp [intOf]; omega
    · have H : Hid (¬ GWs z X n) := fun h => by
        have h3 := h.rise j (by have := HJ.out; omega)
        rw [← HJ.out, HC.out] at h3
        exact hneg h3
      have hdc : decide (0 ≤ C) = true := decide_eq_true (by omega)
      clear HG HW HC
      go_wp2
      go_region_held3 (fun w' => w'.cell? ⟨b, off + j * 11, none⟩ = some (.string (X j).m) ∧ w'.cell? ⟨b, off + j * 11 + 1, none⟩ = some (.slice p0 (X j).tn u0) ∧ w'.cell? ⟨b, off + j * 11 + 2, none⟩ = some (.int .i64 (X j).st) ∧ w'.cell? ⟨wr.heap.size, 0, none⟩ = some (.string (X k).m) ∧ w'.cell? ⟨wr.heap.size, 1, none⟩ = some (.slice a0 (X k).tn c0) ∧ w'.cell? ⟨wr.heap.size, 2, none⟩ = some (.int .i64 (X k).st)) (go_keep) (first | (go_at_call 67; refine (hcmp _ t1 t0).mono ?_; rintro e w6 ⟨rfl, hb6⟩; have hb6' := (Below.refl _ w1).drew.trans hb6; obtain ⟨_, g0, g1, g2, _⟩ := ep1.keep hb6'; obtain ⟨_, l0, l1, l2, _⟩ := A1.keep hb6'; simp only [Nat.zero_add] at l1 l2; have bw6 := bw1.trans (hb6'.mono bw1.size); clear hb6 hb6'))
      go_wp2
      go_ret
      exact Ans.mk false (by have := H.out; simp [this]) bw6

/-- A good board, in the document's words. -/
structure GBd (z h mk : Int) (n : Nat) (X : Nat → Wn) : Prop where
  size : isSz z = true
  hor : btw 0 h 1000000 = true
  mark : isTm mk = true
  few : n ≤ 40
  wins : GWs z X n

set_option maxHeartbeats 3200000 in
theorem goodBoard_impl (z h mk : Int) (ao : Option Addr) (n cap : Nat) (X : Nat → Wn) (w : World) (hr : WiRow w ao n X) (hn : n ≤ 1048576) (hzS : WiSize n X) :
    Calls Try.prog 41 #[.agg #[.int .i64 z, .int .i64 h, .int .i64 mk, .slice ao n cap]] w fun e w' => Ans (GBd z h mk n X) w e w' := by
  have hB := below_new w (.cells #[.int .i64 z, .int .i64 h, .int .i64 mk, .slice ao n cap] 25)
  have hr0 := hr.keep hB
  clear hr
  go_enter Try.func41, Try.ntmps41
  go_wp2_with fail
  refine (isSize_any z _).mono ?_
  rintro e w1 ⟨rfl, rfl⟩
  cases h1 : isSz z
  · have H : Hid (¬ GBd z h mk n X) := fun g => by have := g.size; rw [h1] at this; cases this
    clear h1
    go_wp2
    go_ret
    exact Ans.mk false (by have := H.out; simp [this]) hB
  have Z1 : Hid (isSz z = true) := h1
  have hz : 1 ≤ z ∧ z ≤ 100000 := by simpa [isSz, btw] using h1
  clear h1
  by_cases h2 : 0 ≤ h
  rotate_left
  · have H : Hid (¬ GBd z h mk n X) := fun g => by have := g.hor; simp [btw] at this; omega
    have h2' : h < 0 := by omega
    clear h2
    go_wp2
    go_ret
    exact Ans.mk false (by have := H.out; simp [this]) hB
  by_cases h3 : h ≤ 1000000
  rotate_left
  · have H : Hid (¬ GBd z h mk n X) := fun g => by have := g.hor; simp [btw] at this; omega
    have h3' : 1000000 < h := by omega
    have h2' : ¬ h < 0 := by omega
    clear h3
    go_wp2
    go_ret
    exact Ans.mk false (by have := H.out; simp [this]) hB
  have Z2 : Hid (btw 0 h 1000000 = true) := by simp [Hid, btw, h2, h3]
  have h2' : ¬ h < 0 := by omega
  have h3' : ¬ 1000000 < h := by omega
  go_wp2_with fail
  refine (isTime_any mk _).mono ?_
  rintro e w1 ⟨rfl, rfl⟩
  cases h4 : isTm mk
  · have H : Hid (¬ GBd z h mk n X) := fun g => by have := g.mark; rw [h4] at this; cases this
    clear h4
    go_wp2
    go_ret
    exact Ans.mk false (by have := H.out; simp [this]) hB
  have Z4 : Hid (isTm mk = true) := h4
  clear h4
  by_cases h5 : n ≤ 40
  rotate_left
  · have H : Hid (¬ GBd z h mk n X) := fun g => h5 g.few
    have h5' : decide ((n : Int) ≤ 40) = false := decide_eq_false (by omega)
    clear h5
    go_wp2
    go_ret
    exact Ans.mk false (by have := H.out; simp [this]) hB
  have h5' : (n : Int) ≤ 40 := by omega
  have hcall := goodWins_any ao n cap X z _ hr0 hn hzS hz
  go_wp2_with fail
  refine hcall.mono ?_
  rintro e w2 ⟨b2, rfl, hb2, q2⟩
  have bw2 : Below w.heap.size w w2 := hB.trans (q2.mono (by simp))
  have H : Hid (b2 = true ↔ GBd z h mk n X) := ⟨fun g => ⟨Z1.out, Z2.out, Z4.out, h5, hb2.1 g⟩, fun g => hb2.2 g.wins⟩
  clear hcall hb2 q2
  go_wp2
  go_ret
  exact Ans.mk b2 H.out bw2
end Go.Proofs.Ytpggmgmdcccmeaa
namespace Go.Proofs.Ytpggmgmdcccmeaa
open Go.RowKit
set_option linter.unusedSimpArgs false
set_option linter.unusedVariables false

/-- One list is ahead of another: at the first place where they differ, or where it ends. -/
def ltL : List Int → List Int → Prop
  | [], [] => False
  | [], _ :: _ => True
  | _ :: _, [] => False
  | a :: l, b :: r => a < b ∨ (a = b ∧ ltL l r)
theorem ltL_irr : ∀ l, ¬ ltL l l
  | [], h => h
  | a :: l, h => by
    rcases h with h | ⟨_, h⟩
    · omega
    · exact ltL_irr l h
theorem ltL_trans : ∀ a b c, ltL a b → ltL b c → ltL a c
  | [], [], _, h, _ => h.elim
  | [], _ :: _, [], _, h => h.elim
  | [], _ :: _, _ :: _, _, _ => trivial
  | _ :: _, [], _, h, _ => h.elim
  | _ :: _, _ :: _, [], _, h => h.elim
  | x :: a, y :: b, z :: c, h, g => by
    rcases h with h | ⟨h1, h⟩ <;> rcases g with g | ⟨g1, g⟩
    · exact .inl (by omega)
    · exact .inl (by omega)
    · exact .inl (by omega)
    · exact .inr ⟨by omega, ltL_trans a b c h g⟩
theorem ltL_app : ∀ (p x y : List Int), ltL x y → ltL (p ++ x) (p ++ y)
  | [], _, _, h => h
  | _ :: p, x, y, h => .inr ⟨rfl, ltL_app p x y h⟩

/-- A name ahead of another, each with a sign behind it that is less than a letter. -/
theorem ltL_bytes : ∀ (s t : List UInt8) (c c' : Int) (r r' : List Int), Op.bytesLess s t = true → (∀ x ∈ t, c < (x.toNat : Int)) → ltL (s.map (fun b => (b.toNat : Int)) ++ c :: r) (t.map (fun b => (b.toNat : Int)) ++ c' :: r')
  | _, [], _, _, _, _, h, _ => by simp [Op.bytesLess] at h
  | [], y :: t, c, c', r, r', _, hl => .inl (hl y (by simp))
  | x :: s, y :: t, c, c', r, r', h, hl => by
    simp only [Op.bytesLess, Bool.or_eq_true, Bool.and_eq_true, decide_eq_true_eq, beq_iff_eq] at h
    rcases h with h | ⟨rfl, h⟩
    · have h1 : x.toNat < y.toNat := UInt8.lt_iff_toNat_lt.1 h
      exact .inl (by show (x.toNat : Int) < (y.toNat : Int); omega)
    · exact .inr ⟨rfl, ltL_bytes s t c c' r r' h (fun z hz => hl z (by simp [hz]))⟩
theorem nmB_let {s : ByteArray} (h : nmB s = true) : ∀ x ∈ s.data.toList, (2 : Int) < (x.toNat : Int) := by
  intro x hx
  simp only [nmB, Bool.and_eq_true, List.all_eq_true, decide_eq_true_eq] at h
  have := h.2 x hx
  omega
theorem cmpT_neg {a b : ByteArray} (h : cmpT a b < 0) : Op.bytesLess a.toList b.toList = true := by
  unfold cmpT at h
  by_cases h1 : Op.bytesLess a.toList b.toList = true
  · exact h1
  · rw [if_neg h1] at h
    split at h <;> omega
theorem cmpT_zero {a b : ByteArray} (h : cmpT a b = 0) : a = b := by
  unfold cmpT at h
  by_cases h1 : Op.bytesLess a.toList b.toList = true
  · rw [if_pos h1] at h; omega
  · rw [if_neg h1] at h
    by_cases h2 : (a.toList == b.toList) = true
    · have h3 := beq_iff_eq.1 h2
      rw [ByteArray.toList_eq, ByteArray.toList_eq] at h3
      exact ByteArray.ext (Array.toList_inj.1 h3)
    · rw [if_neg h2] at h; omega
theorem ltL_name {a b : ByteArray} (h : cmpT a b < 0) (hb : nmB b = true) (c c' : Int) (hc : c ≤ 2) (r r' : List Int) : ltL (bytesOf a ++ c :: r) (bytesOf b ++ c' :: r') := by
  have h1 := cmpT_neg h
  rw [ByteArray.toList_eq, ByteArray.toList_eq] at h1
  exact ltL_bytes _ _ c c' r r' h1 (fun x hx => by have := nmB_let hb x hx; omega)

/-- Tags that are good. -/
def TgOk (n : Nat) (nm vl : Nat → ByteArray) : Prop := ∀ i, i < n → nmB (nm i) = true ∧ nmB (vl i) = true
theorem goodB_tags {m : ByteArray} {n : Nat} {nm vl : Nat → ByteArray} {st : Int} (h : goodB m n nm vl st = true) : TgOk n nm vl ∧ nmB m = true := by
  simp only [goodB, goodTagsB, Bool.and_eq_true, tagsOk, List.all_eq_true, List.mem_range, tagOk] at h
  exact ⟨fun i hi => (h.1.1.2.2 i hi).1, h.1.1.1⟩

/-- The bytes of tags from the k-th on. -/
def ktf (nm vl : Nat → ByteArray) : Nat → Nat → List Int
  | 0, _ => []
  | t + 1, k => tagB (nm k) (vl k) ++ ktf nm vl t (k + 1)
theorem ktf_end (nm vl : Nat → ByteArray) : ∀ (t k : Nat), ktf nm vl (t + 1) k = ktf nm vl t k ++ tagB (nm (k + t)) (vl (k + t))
  | 0, k => by simp [ktf]
  | t + 1, k => by
    rw [ktf, ktf_end nm vl t (k + 1), ktf, List.append_assoc, show k + 1 + t = k + (t + 1) from by omega]
theorem ktags_ktf (nm vl : Nat → ByteArray) : ∀ n, ktags nm vl n = ktf nm vl n 0
  | 0 => rfl
  | n + 1 => by rw [ktags, ktags_ktf nm vl n, ktf_end, Nat.zero_add]

theorem ltL_tag {a b a' b' : ByteArray} (h : cmpTag a b a' b' < 0) (ha : nmB a' = true) (hb : nmB b' = true) (r r' : List Int) : ltL (tagB a b ++ r) (tagB a' b' ++ r') := by
  rw [cmpTag_eq] at h
  have e1 : tagB a b ++ r = [2] ++ (bytesOf a ++ 1 :: (bytesOf b ++ 0 :: r)) := by simp [tagB]
  have e2 : tagB a' b' ++ r' = [2] ++ (bytesOf a' ++ 1 :: (bytesOf b' ++ 0 :: r')) := by simp [tagB]
  rw [e1, e2]
  refine ltL_app _ _ _ ?_
  by_cases h0 : cmpT a a' = 0
  · rw [if_pos h0] at h
    obtain rfl := cmpT_zero h0
    refine ltL_app _ _ _ (.inr ⟨rfl, ?_⟩)
    exact ltL_name h hb 0 0 (by omega) _ _
  · rw [if_neg h0] at h
    exact ltL_name h ha 1 1 (by omega) _ _
theorem cmpTag_zero {a b a' b' : ByteArray} (h : cmpTag a b a' b' = 0) : tagB a b = tagB a' b' := by
  rw [cmpTag_eq] at h
  by_cases h0 : cmpT a a' = 0
  · rw [if_pos h0] at h
    rw [cmpT_zero h0, cmpT_zero h]
  · rw [if_neg h0] at h; exact absurd h h0

/-- Two lists of tags, from the k-th on. -/
theorem ltL_tags (nm vl nm' vl' : Nat → ByteArray) (n n' : Nat) (hg : TgOk n' nm' vl') (s s' : List Int) : ∀ (d k : Nat), k + d = min n n' →
    (tc (fun k => cmpTag (nm k) (vl k) (nm' k) (vl' k)) d k < 0 → ltL (ktf nm vl (n - k) k ++ 1 :: s) (ktf nm' vl' (n' - k) k ++ 1 :: s')) ∧
    (tc (fun k => cmpTag (nm k) (vl k) (nm' k) (vl' k)) d k = 0 → (n < n' → ltL (ktf nm vl (n - k) k ++ 1 :: s) (ktf nm' vl' (n' - k) k ++ 1 :: s')) ∧ (n = n' → ltL s s' → ltL (ktf nm vl (n - k) k ++ 1 :: s) (ktf nm' vl' (n' - k) k ++ 1 :: s')))
  | 0, k, hk => by
    refine ⟨fun h => by simp [tc] at h, fun _ => ⟨fun hl => ?_, fun he hs => ?_⟩⟩
    · have e1 : n - k = 0 := by omega
      obtain ⟨j, hj⟩ : ∃ j, n' - k = j + 1 := ⟨n' - k - 1, by omega⟩
      rw [e1, hj]
      simp only [ktf, List.nil_append, tagB, List.append_assoc, List.singleton_append, List.cons_append]
      exact .inl (by omega)
    · have e1 : n - k = 0 := by omega
      have e2 : n' - k = 0 := by omega
      rw [e1, e2]
      exact .inr ⟨rfl, hs⟩
  | d + 1, k, hk => by
    obtain ⟨i1, i2⟩ := ltL_tags nm vl nm' vl' n n' hg s s' d (k + 1) (by omega)
    obtain ⟨j, hj⟩ : ∃ j, n - k = j + 1 := ⟨n - k - 1, by omega⟩
    obtain ⟨j', hj'⟩ : ∃ j', n' - k = j' + 1 := ⟨n' - k - 1, by omega⟩
    rw [show n - (k + 1) = j from by omega, show n' - (k + 1) = j' from by omega] at i1 i2
    rw [hj, hj']
    simp only [ktf, List.append_assoc]
    by_cases h0 : cmpTag (nm k) (vl k) (nm' k) (vl' k) = 0
    · have et : tc (fun k => cmpTag (nm k) (vl k) (nm' k) (vl' k)) (d + 1) k = tc (fun k => cmpTag (nm k) (vl k) (nm' k) (vl' k)) d (k + 1) := by simp [tc, h0]
      rw [et, cmpTag_zero h0]
      exact ⟨fun h => ltL_app _ _ _ (i1 h), fun h => ⟨fun hl => ltL_app _ _ _ ((i2 h).1 hl), fun he hs => ltL_app _ _ _ ((i2 h).2 he hs)⟩⟩
    · have et : tc (fun k => cmpTag (nm k) (vl k) (nm' k) (vl' k)) (d + 1) k = cmpTag (nm k) (vl k) (nm' k) (vl' k) := by simp [tc, h0]
      rw [et]
      have hk' := hg k (by omega)
      exact ⟨fun h => ltL_tag h hk'.1 hk'.2 _ _, fun h => absurd h h0⟩

/-- Digits to the base 256, the highest first. -/
def dg (x : Nat) : Nat → List Int
  | 0 => []
  | j + 1 => ((x / 256 ^ j % 256 : Nat) : Int) :: dg x j
theorem dg_lt (x y : Nat) : ∀ j, x % 256 ^ j < y % 256 ^ j → ltL (dg x j) (dg y j)
  | 0, h => by simp [Nat.mod_one] at h
  | j + 1, h => by
    rw [Nat.pow_succ, Nat.mod_mul, Nat.mod_mul] at h
    have hp : 0 < 256 ^ j := Nat.pow_pos (by omega)
    have hx := Nat.mod_lt x hp
    have hy := Nat.mod_lt y hp
    show _ < _ ∨ _ = _ ∧ _
    rcases Nat.lt_trichotomy (x / 256 ^ j % 256) (y / 256 ^ j % 256) with q | q | q
    · exact .inl (by omega)
    · rw [q] at h ⊢
      exact .inr ⟨rfl, dg_lt x y j (by omega)⟩
    · exfalso
      have h1 : 256 ^ j * (y / 256 ^ j % 256 + 1) ≤ 256 ^ j * (x / 256 ^ j % 256) := Nat.mul_le_mul_left _ q
      rw [Nat.mul_add, Nat.mul_one] at h1
      omega
theorem pfl_dg (x : Nat) : pfl (x : Int) = dg x 8 := by
  have e : ∀ i : Nat, (((x / 256 ^ i % 256 : Nat)) : Int) = (x : Int) / 2 ^ (8 * i) % 256 := fun i => by
    rw [show (256 : Nat) ^ i = 2 ^ (8 * i) from by rw [Nat.pow_mul]]
    simp
  simp only [pfl, dg, e]
  simp [List.range_succ, pf]
theorem pfl_lt {a b : Int} (ha : 0 ≤ a) (hab : a < b) (hb : b ≤ 1000000000) : ltL (pfl a) (pfl b) := by
  obtain ⟨x, rfl⟩ := Int.eq_ofNat_of_zero_le ha
  obtain ⟨y, rfl⟩ := Int.eq_ofNat_of_zero_le (show 0 ≤ b by omega)
  have hp : (256 : Nat) ^ 8 = 18446744073709551616 := by decide
  rw [pfl_dg, pfl_dg]
  refine dg_lt x y 8 ?_
  rw [hp, Nat.mod_eq_of_lt (by omega), Nat.mod_eq_of_lt (by omega)]
  omega

/-- The bytes of a window's key. -/
def kbW (x : Wn) : List Int := kbytes x.m x.tn x.nm x.vl x.st
theorem kb_lt {x y : Wn} (hx : gK x = true) (hy : gK y = true) (h : kc x y < 0) : ltL (kbW x) (kbW y) := by
  have gx := goodB_tags hx
  have gy := goodB_tags hy
  have sx := goodB_st hx
  have sy := goodB_st hy
  have f : ∀ z : Wn, kbW z = bytesOf z.m ++ 0 :: (ktf z.nm z.vl (z.tn - 0) 0 ++ 1 :: pfl z.st) := fun z => by
    unfold kbW kbytes
    rw [ktags_ktf]
    simp
  rw [f x, f y]
  unfold kc keyCmp at h
  by_cases h0 : cmpT x.m y.m = 0
  rotate_left
  · have e : tc (keyC x.m y.m x.st y.st (tagsC (fun k => cmpTag (x.nm k) (x.vl k) (y.nm k) (y.vl k)) x.tn y.tn)) 3 0 = cmpT x.m y.m := by simp [tc, keyC, h0]
    rw [e] at h
    exact ltL_name h gy.2 0 0 (by omega) _ _
  rw [cmpT_zero h0]
  refine ltL_app _ _ _ (.inr ⟨rfl, ?_⟩)
  obtain ⟨i1, i2⟩ := ltL_tags x.nm x.vl y.nm y.vl x.tn y.tn gy.1 (pfl x.st) (pfl y.st) (min x.tn y.tn) 0 (by omega)
  have e1 : tc (keyC x.m y.m x.st y.st (tagsC (fun k => cmpTag (x.nm k) (x.vl k) (y.nm k) (y.vl k)) x.tn y.tn)) 3 0 = if tagsC (fun k => cmpTag (x.nm k) (x.vl k) (y.nm k) (y.vl k)) x.tn y.tn = 0 then cmpI x.st y.st else tagsC (fun k => cmpTag (x.nm k) (x.vl k) (y.nm k) (y.vl k)) x.tn y.tn := by
    by_cases ht : tagsC (fun k => cmpTag (x.nm k) (x.vl k) (y.nm k) (y.vl k)) x.tn y.tn = 0
    · rw [if_pos ht]
      simp only [tc, keyC, h0, ht, if_true, show ¬ (0 : Nat) + 1 = 0 from by omega, show (0 : Nat) + 1 = 1 from rfl, if_false]
      by_cases hs : cmpI x.st y.st = 0 <;> simp [hs]
    · rw [if_neg ht]
      simp [tc, keyC, h0, ht]
  rw [e1] at h
  by_cases hz : tc (fun k => cmpTag (x.nm k) (x.vl k) (y.nm k) (y.vl k)) (min x.tn y.tn) 0 = 0
  · rw [tagsC_zero hz] at h
    by_cases hn : cmpI x.tn y.tn = 0
    · rw [if_pos hn] at h
      have en : x.tn = y.tn := by unfold cmpI at hn; split at hn <;> (try split at hn) <;> omega
      have es : x.st < y.st := by unfold cmpI at h; split at h <;> (try split at h) <;> omega
      exact (i2 hz).2 en (pfl_lt sx.1 es sy.2)
    · rw [if_neg hn] at h
      have el : x.tn < y.tn := by unfold cmpI at h; split at h <;> (try split at h) <;> omega
      exact (i2 hz).1 el
  · rw [tagsC_some hz, if_neg hz] at h
    exact i1 h
theorem kb_rise {z : Int} {X : Nat → Wn} {n : Nat} (h : GWs z X n) : ∀ d i, i + (d + 1) < n → ltL (kbW (X i)) (kbW (X (i + (d + 1))))
  | 0, i, hi => kb_lt (h.each i (by omega)).key (h.each (i + 1) hi).key (h.rise i hi)
  | d + 1, i, hi => ltL_trans _ _ _ (kb_rise h d i (by omega)) (kb_lt (h.each (i + (d + 1)) (by omega)).key (h.each _ hi).key (h.rise (i + (d + 1)) hi))
theorem kb_ne {z : Int} {X : Nat → Wn} {n : Nat} (h : GWs z X n) {i j : Nat} (hi : i < n) (hj : j < n) (hne : i ≠ j) : kbW (X i) ≠ kbW (X j) := by
  intro e
  rcases Nat.lt_or_gt_of_ne hne with q | q
  · have := kb_rise h (j - i - 1) i (by omega)
    rw [show i + (j - i - 1 + 1) = j from by omega, e] at this
    exact ltL_irr _ this
  · have := kb_rise h (i - j - 1) j (by omega)
    rw [show j + (i - j - 1 + 1) = i from by omega, e] at this
    exact ltL_irr _ this
end Go.Proofs.Ytpggmgmdcccmeaa
namespace Go.Proofs.Ytpggmgmdcccmeaa
open Go.RowKit
set_option linter.unusedSimpArgs false
set_option linter.unusedVariables false

theorem Try.infoTag : (Try.prog.info? 92).map (fun i => (i.zero, i.size, i.bytes)) = some (some (.agg #[.string ByteArray.empty, .string ByteArray.empty]), 2, 32) := by kernel_rfl

/-- Tags copied behind what is empty. -/
theorem wpList_copyT {w : World} {ops : Array Oper} {rest : List Oper} {o : Oper} {a : Act} {Q : Exit → Act → World → Prop} (hgd : o.guard = none) (s y : Operand)
    (ho : o.op = .call { callee := .builtin .append, args := #[s, y], argTypes := #[30, 30] })
    (base : Nat) (v0 : Value) (hs : a.eval s = v0) (h0 : w.ownsRow base 92 2 v0 0 []) (ao : Option Addr) (n hc : Nat) (nm vl : Nat → ByteArray) (hy : a.eval y = .slice ao n hc) (hr : TRow w ao n nm vl) (hn : n ≤ 1048576) (hbase : base ≤ w.heap.size)
    (hk : ∀ hv w', w'.ownsRow base 92 2 hv n (tcells nm vl n) → w.grownBy w' v0.ownBlock → wpList Try.prog ops Q rest (a.put o.dst hv) w') : wpList Try.prog ops Q (o :: rest) a w := by
  obtain ⟨i0, hi, hz0, hz1, hz2⟩ := info_parts Try.infoTag
  obtain ⟨hv, w', hrun, h1, h2, h3⟩ := copy_any (P := Try.prog) w base 30 92 i0 _ 2 32 Try.underlying30 hi hz0 hz1 hz2 rfl (by decide) (by decide) v0 h0 ao n hc (tcells nm vl n) (tcells_len _ _ _) (tcells_read hr) (tcells_one _ _ _) hn hbase o.type
  exact wpList_append_eq w hgd s y 30 o.type ho rfl v0 (.slice ao n hc) hv hs hy w' hrun (hk hv w' h1 h2)
/-- Ints copied behind what is empty. -/
theorem wpList_copyI {w : World} {ops : Array Oper} {rest : List Oper} {o : Oper} {a : Act} {Q : Exit → Act → World → Prop} (hgd : o.guard = none) (s y : Operand)
    (ho : o.op = .call { callee := .builtin .append, args := #[s, y], argTypes := #[33, 33] })
    (base : Nat) (v0 : Value) (hs : a.eval s = v0) (h0 : w.ownsRow base 3 1 v0 0 []) (ao : Option Addr) (n hc : Nat) (f : Nat → Int) (hy : a.eval y = .slice ao n hc) (hr : IRow w ao n f) (hn : n ≤ 1048576) (hbase : base ≤ w.heap.size)
    (hk : ∀ hv w', w'.ownsRow base 3 1 hv n (icells f n) → w.grownBy w' v0.ownBlock → wpList Try.prog ops Q rest (a.put o.dst hv) w') : wpList Try.prog ops Q (o :: rest) a w := by
  obtain ⟨i0, hi, hz0, hz1, hz2⟩ := info_parts Try.infoInt
  obtain ⟨hv, w', hrun, h1, h2, h3⟩ := copy_any (P := Try.prog) w base 33 3 i0 _ 1 8 Try.underlying33 hi hz0 hz1 hz2 rfl (by decide) (by decide) v0 h0 ao n hc (icells f n) (by simp [icells]) (icells_read hr) (icells_one _ _) hn hbase o.type
  exact wpList_append_eq w hgd s y 33 o.type ho rfl v0 (.slice ao n hc) hv hs hy w' hrun (hk hv w' h1 h2)

/-- What a copied key is. -/
def KCo (m : ByteArray) (st : Int) (n : Nat) (nm vl : Nat → ByteArray) (w : World) (e : Ending) (w' : World) : Prop :=
  ∃ hv, e = .returned (.agg #[.string m, hv, .int .i64 st]) ∧ w'.ownsRow w.heap.size 92 2 hv n (tcells nm vl n) ∧ Below w.heap.size w w'
/-- What a copied agg is. -/
def ACo (c s lo hi : Int) (n : Nat) (f : Nat → Int) (fu : Bool) (w : World) (e : Ending) (w' : World) : Prop :=
  ∃ hv, e = .returned (.agg #[.int .i64 c, .int .i64 s, .int .i64 lo, .int .i64 hi, hv, .bool fu]) ∧ w'.ownsRow w.heap.size 3 1 hv n (icells f n) ∧ Below w.heap.size w w'

theorem grown_none {w w' : World} (h : w.grownBy w' none) : Below w.heap.size w w' := (Below.refl _ _).grown h (Nat.le_refl _) (fun k hk => by cases hk)
theorem grown_old {w w' : World} {B d : Nat} (h : w.grownBy w' (some d)) (hd : B ≤ d) (hB : B ≤ w.heap.size) : Below B w w' := (Below.refl _ _).grown h hB (fun k hk => by injection hk with hk; omega)

set_option maxHeartbeats 1600000 in
theorem copyKey_any (m : ByteArray) (st : Int) (ao : Option Addr) (n cap : Nat) (nm vl : Nat → ByteArray) (w : World) (hr : TRow w ao n nm vl) (hn : n ≤ 1048576) :
    Calls Try.prog 43 #[.agg #[.string m, .slice ao n cap, .int .i64 st]] w fun e w' => KCo m st n nm vl w e w' := by
  go_enter Try.func43, Try.ntmps43
  go_wp2_with (at_builtin; refine wpList_copyT rfl _ _ rfl (w.heap.size + 2) (.slice none 0 0) rfl (World.ownsRow_nil _ _ _ _) ao n cap nm vl rfl (hr.keep (((Below.refl _ _).alloc (Nat.le_refl _) _).alloc (by simp) _)) hn (by simp) ?_; intro hv w1 hown hg; obtain ⟨ha, hcp, rfl⟩ := ownsRow_form hown; have hb1 := grown_none hg; have c0 := hb1.cell (p := ⟨w.heap.size, 0, none⟩) (by first | (simp; done) | (simp; omega)); have c1 := hb1.cell (p := ⟨w.heap.size, 1, none⟩) (by first | (simp; done) | (simp; omega)); have c2 := hb1.cell (p := ⟨w.heap.size, 2, none⟩) (by first | (simp; done) | (simp; omega)); have f1 := hb1.frozen (p := ⟨w.heap.size, 1, none⟩) (by first | (simp; done) | (simp; omega)); have d0 := hb1.cell (p := ⟨w.heap.size + 1, 0, none⟩) (by first | (simp; done) | (simp; omega)); have d1 := hb1.cell (p := ⟨w.heap.size + 1, 1, none⟩) (by first | (simp; done) | (simp; omega)); have d2 := hb1.cell (p := ⟨w.heap.size + 1, 2, none⟩) (by first | (simp; done) | (simp; omega)); have g : ∀ j, w1.frozen? ⟨w.heap.size + 1, j, none⟩ = false := fun j => (hb1.frozen (p := ⟨w.heap.size + 1, j, none⟩) (by first | (simp; done) | (simp; omega))).trans (by simp [go_sem]); simp [go_sem] at c0 c1 c2 f1 d0 d1 d2; have bw : Below w.heap.size w w1 := (((Below.refl _ _).alloc (Nat.le_refl _) _).alloc (by simp) _).trans (hb1.mono (by first | (simp; done) | (simp; omega))); clear hb1 hg)
  have hne : ∀ d, d < w.heap.size + 2 → (Value.slice ha n hcp).ownBlock ≠ some d := fun d hd hk => by have := (hown.lt d hk).1; omega
  refine bodyPost_ret (v := .agg #[.string m, .slice ha n hcp, .int .i64 st]) (by simp [results, Try.results43, go_sem, c0, c1, c2, d0, d1, d2]) rfl ⟨.slice ha n hcp, rfl, ownsRow_mono ?_ (by omega : w.heap.size ≤ w.heap.size + 2), ?_⟩
  · repeat' refine ownsRow_others ?_ (Others.setCell _ _ _ _) (hne _ (by omega))
    exact hown
  · repeat' refine Below.setCell ?_ (by first | (simp; done) | (simp; omega)) _
    exact bw

set_option maxHeartbeats 1600000 in
theorem copyAgg_any (c s lo hi : Int) (ao : Option Addr) (n cap : Nat) (f : Nat → Int) (fu : Bool) (w : World) (hr : IRow w ao n f) (hn : n ≤ 1048576) :
    Calls Try.prog 44 #[.agg #[.int .i64 c, .int .i64 s, .int .i64 lo, .int .i64 hi, .slice ao n cap, .bool fu]] w fun e w' => ACo c s lo hi n f fu w e w' := by
  go_enter Try.func44, Try.ntmps44
  go_wp2_with (at_builtin; refine wpList_copyI rfl _ _ rfl (w.heap.size + 2) (.slice none 0 0) rfl (World.ownsRow_nil _ _ _ _) ao n cap f rfl (hr.keep (((Below.refl _ _).alloc (Nat.le_refl _) _).alloc (by simp) _)) hn (by simp) ?_; intro hv w1 hown hg; obtain ⟨ha, hcp, rfl⟩ := ownsRow_form hown; have hb1 := grown_none hg; have c0 := hb1.cell (p := ⟨w.heap.size, 0, none⟩) (by first | (simp; done) | (simp; omega)); have c1 := hb1.cell (p := ⟨w.heap.size, 1, none⟩) (by first | (simp; done) | (simp; omega)); have c2 := hb1.cell (p := ⟨w.heap.size, 2, none⟩) (by first | (simp; done) | (simp; omega)); have c3 := hb1.cell (p := ⟨w.heap.size, 3, none⟩) (by first | (simp; done) | (simp; omega)); have c4 := hb1.cell (p := ⟨w.heap.size, 4, none⟩) (by first | (simp; done) | (simp; omega)); have c5 := hb1.cell (p := ⟨w.heap.size, 5, none⟩) (by first | (simp; done) | (simp; omega)); have f4 := hb1.frozen (p := ⟨w.heap.size, 4, none⟩) (by first | (simp; done) | (simp; omega)); have d0 := hb1.cell (p := ⟨w.heap.size + 1, 0, none⟩) (by first | (simp; done) | (simp; omega)); have d1 := hb1.cell (p := ⟨w.heap.size + 1, 1, none⟩) (by first | (simp; done) | (simp; omega)); have d2 := hb1.cell (p := ⟨w.heap.size + 1, 2, none⟩) (by first | (simp; done) | (simp; omega)); have d3 := hb1.cell (p := ⟨w.heap.size + 1, 3, none⟩) (by first | (simp; done) | (simp; omega)); have d4 := hb1.cell (p := ⟨w.heap.size + 1, 4, none⟩) (by first | (simp; done) | (simp; omega)); have d5 := hb1.cell (p := ⟨w.heap.size + 1, 5, none⟩) (by first | (simp; done) | (simp; omega)); have g : ∀ j, w1.frozen? ⟨w.heap.size + 1, j, none⟩ = false := fun j => (hb1.frozen (p := ⟨w.heap.size + 1, j, none⟩) (by first | (simp; done) | (simp; omega))).trans (by simp [go_sem]); simp [go_sem] at c0 c1 c2 c3 c4 c5 f4 d0 d1 d2 d3 d4 d5; have bw : Below w.heap.size w w1 := (((Below.refl _ _).alloc (Nat.le_refl _) _).alloc (by simp) _).trans (hb1.mono (by first | (simp; done) | (simp; omega))); clear hb1 hg)
  have hne : ∀ d, d < w.heap.size + 2 → (Value.slice ha n hcp).ownBlock ≠ some d := fun d hd hk => by have := (hown.lt d hk).1; omega
  refine bodyPost_ret (v := .agg #[.int .i64 c, .int .i64 s, .int .i64 lo, .int .i64 hi, .slice ha n hcp, .bool fu]) (by simp [results, Try.results44, go_sem, c0, c1, c2, c3, c4, c5, d0, d1, d2, d3, d4, d5]) rfl ⟨.slice ha n hcp, rfl, ownsRow_mono ?_ (by omega : w.heap.size ≤ w.heap.size + 2), ?_⟩
  · repeat' refine ownsRow_others ?_ (Others.setCell _ _ _ _) (hne _ (by omega))
    exact hown
  · repeat' refine Below.setCell ?_ (by first | (simp; done) | (simp; omega)) _
    exact bw
end Go.Proofs.Ytpggmgmdcccmeaa
