/- CompareKeys, both texts, at all keys. / GoodAgg, in the program. / Good windows, in the program. / Good boards, in the program. -/
import Derived.Test.YtaiigpffhcofpaaGreatCompareS
import Derived.Test.YtaiigpffhcofpaaGreatMs
import Derived.Test.YtaiigpffhcofpaaGreatWr
import Derived.Test.YtaiigpffhcofpaaGreatSo
import Derived.Deep.RegionWith
import Derived.Deep.RegionHeld3
namespace Go.Proofs.YtaiigpffhcofpaaGreat
set_option maxRecDepth 100000
open Go.RowKit
set_option linter.unusedSimpArgs false
set_option linter.unusedVariables false

def cmpAns (m m' : ByteArray) (st st' : Int) (n n' : Nat) (nm vl nm' vl' : Nat → ByteArray) : Int :=
  if (goodB m n nm vl st && goodB m' n' nm' vl' st') = true then keyCmp m m' st st' n n' nm vl nm' vl' else 0

theorem goodB_st {m : ByteArray} {n : Nat} {nm vl : Nat → ByteArray} {st : Int} (h : goodB m n nm vl st = true) : 0 ≤ st ∧ st ≤ 1000000000 := by
  simp only [goodB, Bool.and_eq_true, decide_eq_true_eq] at h
  exact ⟨h.1.2, h.2⟩

set_option maxHeartbeats 1000000 in
theorem compareKeys_impl_bad (m m' : ByteArray) (st st' : Int) (ao bo : Option Addr) (n n' ca cb : Nat) (nm vl nm' vl' : Nat → ByteArray) (w : World) (hr : TRow w ao n nm vl) (hr' : TRow w bo n' nm' vl')
    (hm : m.size ≤ 1048576) (hm' : m'.size ≤ 1048576) (hn : n ≤ 1048576) (hn' : n' ≤ 1048576) (hs : TSize n nm vl 1048576) (hs' : TSize n' nm' vl' 1048576)
    (hG : goodB m n nm vl st = false ∨ (goodB m n nm vl st = true ∧ goodB m' n' nm' vl' st' = false)) :
    Calls Tryz.prog 78 #[.agg #[.string m, .slice ao n ca, .int .i64 st], .agg #[.string m', .slice bo n' cb, .int .i64 st']] w fun e w' => e = .returned (.int .i64 0) ∧ Below w.heap.size w w' := by
  have hB : Below w.heap.size w ((w.alloc (.cells #[.string m, .slice ao n ca, .int .i64 st] 38)).alloc (.cells #[.string m', .slice bo n' cb, .int .i64 st'] 38)) := ((Below.refl _ _).alloc (Nat.le_refl _) _).alloc (by simp) _
  have ka : KAt ((w.alloc (.cells #[.string m, .slice ao n ca, .int .i64 st] 38)).alloc (.cells #[.string m', .slice bo n' cb, .int .i64 st'] 38)) w.heap.size m (.slice ao n ca) st := (KAt.new w m (.slice ao n ca) st 38).keep ((Below.refl _ _).alloc (Nat.le_refl _) _)
  have kb : KAt ((w.alloc (.cells #[.string m, .slice ao n ca, .int .i64 st] 38)).alloc (.cells #[.string m', .slice bo n' cb, .int .i64 st'] 38)) (w.heap.size + 1) m' (.slice bo n' cb) st' := by
    have := KAt.new (w.alloc (.cells #[.string m, .slice ao n ca, .int .i64 st] 38)) m' (.slice bo n' cb) st' 38
    simpa using this
  rcases hG with hG | ⟨hG, hG'⟩
  · have HG : Hid (goodB m n nm vl st = false) := hG
    clear hG
    go_enter Tryz.func78, Tryz.ntmps78
    go_wp2_with fail
    refine (goodKey_impl m st ao n ca nm vl _ (hr.keep hB) hm hn hs).mono ?_
    rintro e w1 ⟨rfl, hb1⟩
    rw [HG.out]
    have hbw1 : Below w.heap.size w w1 := hB.trans (hb1.mono (by simp; omega))
    clear ka kb hB hb1
    go_wp2
    go_ret
    exact ⟨rfl, hbw1⟩
  · have HG : Hid (goodB m n nm vl st = true) := hG
    have HG' : Hid (goodB m' n' nm' vl' st' = false) := hG'
    clear hG hG'
    go_enter Tryz.func78, Tryz.ntmps78
    go_wp2_with fail
    refine (goodKey_impl m st ao n ca nm vl _ (hr.keep hB) hm hn hs).mono ?_
    rintro e w1 ⟨rfl, hb1⟩
    rw [HG.out]
    obtain ⟨la, a0, a1, a2⟩ := ka.keep hb1
    obtain ⟨lb, b0, b1, b2⟩ := kb.keep hb1
    have hbw1 : Below w.heap.size w w1 := hB.trans (hb1.mono (by simp; omega))
    clear ka kb hB hb1
    go_wp2_with fail
    refine (goodKey_impl m' st' bo n' cb nm' vl' _ (hr'.keep hbw1) hm' hn' hs').mono ?_
    rintro e w2 ⟨rfl, hb2⟩
    rw [HG'.out]
    have hbw2 : Below w.heap.size w w2 := hbw1.trans (hb2.mono hbw1.size)
    clear hb2 hbw1
    go_wp2
    go_ret
    exact ⟨rfl, hbw2⟩

theorem compareKeys_impl (m m' : ByteArray) (st st' : Int) (ao bo : Option Addr) (n n' ca cb : Nat) (nm vl nm' vl' : Nat → ByteArray) (w : World) (hr : TRow w ao n nm vl) (hr' : TRow w bo n' nm' vl')
    (hm : m.size ≤ 1048576) (hm' : m'.size ≤ 1048576) (hn : n ≤ 1048576) (hn' : n' ≤ 1048576) (hs : TSize n nm vl 1048576) (hs' : TSize n' nm' vl' 1048576) :
    Calls Tryz.prog 78 #[.agg #[.string m, .slice ao n ca, .int .i64 st], .agg #[.string m', .slice bo n' cb, .int .i64 st']] w fun e w' => e = .returned (.int .i64 (cmpAns m m' st st' n n' nm vl nm' vl')) ∧ Below w.heap.size w w' := by
  unfold cmpAns
  cases h1 : goodB m n nm vl st with
  | false => exact compareKeys_impl_bad m m' st st' ao bo n n' ca cb nm vl nm' vl' w hr hr' hm hm' hn hn' hs hs' (.inl h1)
  | true =>
    cases h2 : goodB m' n' nm' vl' st' with
    | false => exact compareKeys_impl_bad m m' st st' ao bo n n' ca cb nm vl nm' vl' w hr hr' hm hm' hn hn' hs hs' (.inr ⟨h1, h2⟩)
    | true => exact compareKeys_impl_good m m' st st' ao bo n n' ca cb nm vl nm' vl' w hr hr' hm hm' hn hn' hs hs' h1 h2

end Go.Proofs.YtaiigpffhcofpaaGreat
namespace Go.Proofs.YtaiigpffhcofpaaGreat
set_option maxRecDepth 100000
open Go.RowKit
set_option linter.unusedSimpArgs false
set_option linter.unusedVariables false

set_option maxHeartbeats 800000 in
theorem goodAgg_impl (c s lo hi : Int) (ao : Option Addr) (n cap : Nat) (f : Nat → Int) (fu : Bool) (w : World) (hr : IRow w ao n f) (hn : n ≤ 1048576) (hs : -9223372036854775808 ≤ s ∧ s ≤ 9223372036854775807) :
    Calls Tryz.prog 96 #[.agg #[.int .i64 c, .int .i64 s, .int .i64 lo, .int .i64 hi, .slice ao n cap, .bool fu]] w fun e w' => Ans (GoodA c s lo hi n f fu) w e w' := by
  have hB := fun o => below_new w o
  cases hc : isC c
  · go_enter Tryz.func96, Tryz.ntmps96
    go_wp2_with fail
    refine (isCount_any c _).mono ?_
    rintro e w1 ⟨rfl, rfl⟩
    go_wp2
    exact bodyPost_ret (v := .bool false) (by simp [results, Tryz.results96, go_sem]) rfl (Ans.mk _ (by simp [GoodA, hc]) (hB _))
  · have hcb : 0 ≤ c ∧ c ≤ 1000000000 := by simpa [isC, btw] using hc
    go_enter Tryz.func96, Tryz.ntmps96
    go_wp2_with fail
    refine (isCount_any c _).mono ?_
    rintro e w1 ⟨rfl, rfl⟩
    go_wp2_with fail
    refine (goodHist_any ao n cap f _ (hr.keep (hB _)) hn).mono ?_
    rintro e w1 ⟨b1, rfl, h1, q1⟩
    obtain ⟨la, a0, a1, a2, a3, a4, a5⟩ := (AAt.new w c s lo hi (.slice ao n cap) fu 56).keep q1
    have r1 := (hr.keep (hB _)).keep q1
    have B1 : Below w.heap.size w w1 := (hB _).trans (q1.mono (by simp))
    clear q1
    cases b1
    · have H1 : Hid (¬ GoodA c s lo hi n f fu) := fun h => by
        have := h1.2 ⟨h.2.1, h.2.2.1⟩
        cases this
      clear h1
      go_wp2
      exact bodyPost_ret (v := .bool false) (by simp [results, Tryz.results96, go_sem]) rfl (Ans.mk _ (by have := H1.out; simp [this]) B1)
    · obtain ⟨h8, hall⟩ := h1.1 rfl
      subst h8
      have HA : Hid (∀ i, i < 8 → isC (f i) = true) := hall
      clear h1 hall
      cases fu
      · go_wp2_with fail
        refine (goodTotals_not c s lo hi ao cap f _ r1 hcb hs HA.out).mono ?_
        rintro e w2 ⟨b2, rfl, h2, q2⟩
        obtain ⟨la, a0, a1, a2, a3, a4, a5⟩ := AAt.keep ⟨la, a0, a1, a2, a3, a4, a5⟩ q2
        have B2 : Below w.heap.size w w2 := B1.trans (q2.mono B1.size)
        clear q2
        cases b2
        · have L2 : Hid (¬ GoodA c s lo hi 8 f false) := fun h => by
            have := h2.2 (h.2.2.2.1 rfl)
            cases this
          clear h2
          go_wp2
          exact bodyPost_ret (v := .bool false) (by simp [results, Tryz.results96, go_sem]) rfl (Ans.mk _ (by have := L2.out; simp [this]) B2)
        · have H2 : Hid (sumF f 8 = c ∧ -1000000000 * c ≤ s ∧ s ≤ 1000000000 * c) := h2.1 rfl
          clear h2
          go_wp2_with fail
          refine (goodBounds_any c s lo hi _ false _).mono ?_
          rintro e w3 ⟨b3, rfl, h3, q3⟩
          have B3 : Below w.heap.size w w3 := B2.trans (q3.mono B2.size)
          clear q3
          have H3 : Hid (b3 = true ↔ GoodA c s lo hi 8 f false) :=
            ⟨fun h => ⟨hc, rfl, HA.out, fun _ => H2.out, fun h => (by cases h), (h3.1 h).1, (h3.1 h).2⟩, fun h => h3.2 ⟨h.2.2.2.2.2.1, h.2.2.2.2.2.2⟩⟩
          clear h3
          go_wp2
          exact bodyPost_ret (v := .bool b3) (by simp [results, Tryz.results96, go_sem]) rfl (Ans.mk _ H3.out B3)
      · go_wp2_with fail
        refine (goodTotals_full c s lo hi _ _).mono ?_
        rintro e w2 ⟨b2, rfl, h2, q2⟩
        obtain ⟨la, a0, a1, a2, a3, a4, a5⟩ := AAt.keep ⟨la, a0, a1, a2, a3, a4, a5⟩ q2
        have B2 : Below w.heap.size w w2 := B1.trans (q2.mono B1.size)
        clear q2
        cases b2
        · have L2 : Hid (¬ GoodA c s lo hi 8 f true) := fun h => by
            have := h2.2 (h.2.2.2.2.1 rfl)
            cases this
          clear h2
          go_wp2
          exact bodyPost_ret (v := .bool false) (by simp [results, Tryz.results96, go_sem]) rfl (Ans.mk _ (by have := L2.out; simp [this]) B2)
        · have H2 : Hid (s = 0 ∧ 0 < c) := h2.1 rfl
          clear h2
          go_wp2_with fail
          refine (goodBounds_any c s lo hi _ true _).mono ?_
          rintro e w3 ⟨b3, rfl, h3, q3⟩
          have B3 : Below w.heap.size w w3 := B2.trans (q3.mono B2.size)
          clear q3
          have H3 : Hid (b3 = true ↔ GoodA c s lo hi 8 f true) :=
            ⟨fun h => ⟨hc, rfl, HA.out, fun h => (by cases h), fun _ => H2.out, (h3.1 h).1, (h3.1 h).2⟩, fun h => h3.2 ⟨h.2.2.2.2.2.1, h.2.2.2.2.2.2⟩⟩
          clear h3
          go_wp2
          exact bodyPost_ret (v := .bool b3) (by simp [results, Tryz.results96, go_sem]) rfl (Ans.mk _ H3.out B3)
end Go.Proofs.YtaiigpffhcofpaaGreat
namespace Go.Proofs.YtaiigpffhcofpaaGreat
set_option maxRecDepth 100000
open Go.RowKit
set_option linter.unusedSimpArgs false
set_option linter.unusedVariables false

/-- A good window's key. -/
def gK (x : Wn) : Bool := goodB x.m x.tn x.nm x.vl x.st
/-- A good window, by the board's size. -/
structure GW (z : Int) (x : Wn) : Prop where
  key : gK x = true
  mul : x.st % z = 0
  agg : GoodA x.c x.s x.lo x.hi x.n x.f x.fu
  cnt : x.c ≠ 0
  ver : btw 0 x.ver 1000000 = true
  dir : x.ver = 0 → x.di = true
/-- Two windows' keys compared. -/
def kc (x y : Wn) : Int := keyCmp x.m y.m x.st y.st x.tn y.tn x.nm x.vl y.nm y.vl
/-- Good windows: each good, and rising. -/
structure GWs (z : Int) (X : Nat → Wn) (n : Nat) : Prop where
  each : ∀ i, i < n → GW z (X i)
  rise : ∀ i, i + 1 < n → kc (X i) (X (i + 1)) < 0

theorem agg_nz {c s lo hi : Int} {n : Nat} {f : Nat → Int} {fu : Bool} (h : GoodA c s lo hi n f fu) : 0 ≤ c := by
  have := h.1
  simp [isC, btw] at this
  exact this.1

set_option maxHeartbeats 3200000 in
theorem goodWin_any (x : Wn) (a0 a1 : Option Addr) (c0 c1 : Nat) (z : Int) (w : World) (r0 : TRow w a0 x.tn x.nm x.vl) (r1 : IRow w a1 x.n x.f) (hS : WiS x) (hE : WiB x) (hz : 1 ≤ z ∧ z ≤ 100000) :
    Calls Tryz.prog 85 #[.agg #[.string x.m, .slice a0 x.tn c0, .int .i64 x.st, .int .i64 x.c, .int .i64 x.s, .int .i64 x.lo, .int .i64 x.hi, .slice a1 x.n c1, .bool x.fu, .int .i64 x.ver, .bool x.di], .int .i64 z] w fun e w' => Ans (GW z x) w e w' := by
  have hB := below_new w (.cells #[.string x.m, .slice a0 x.tn c0, .int .i64 x.st, .int .i64 x.c, .int .i64 x.s, .int .i64 x.lo, .int .i64 x.hi, .slice a1 x.n c1, .bool x.fu, .int .i64 x.ver, .bool x.di] 59)
  have A := WiAt.new w x a0 a1 c0 c1 59
  have k1 := goodKey_impl x.m x.st a0 x.tn c0 x.nm x.vl _ (r0.keep hB) hS.m hS.tn hS.ts
  have k2 := fun W h => goodAgg_impl x.c x.s x.lo x.hi a1 x.n c1 x.f x.fu W h hS.n hE.s
  have hz0 : ¬ z = 0 := by omega
  clear r0
  go_enter Tryz.func85, Tryz.ntmps85
  go_wp2_with fail
  refine k1.mono ?_
  clear k1
  rintro e w1 ⟨rfl, hb⟩
  have bw : Below w.heap.size w w1 := hB.trans (hb.mono (by simp))
  have A1 := A.keep hb
  have i1 := r1.keep bw
  clear hb A hB r1
  obtain ⟨_, d0, d1, d2, d3, d4, d5, d6, d7, d8, d9, d10⟩ := id A1
  simp only [Nat.zero_add] at d1 d2 d3 d4 d5 d6 d7 d8 d9 d10
  generalize hg : goodB x.m x.tn x.nm x.vl x.st = g
  have G : Hid (gK x = g) := hg
  cases g
  · have H : Hid (¬ GW z x) := fun h => by have := h.key; rw [G.out] at this; cases this
    clear hg
    go_wp2
    go_ret
    exact Ans.mk false (by have := H.out; simp [this]) bw
  have hst := goodB_st hg
  have m1 := Int.emod_lt_of_pos x.st (show 0 < z by omega)
  have m2 := Int.emod_nonneg x.st (show z ≠ 0 by omega)
  have hw : IntKind.i64.wrap (x.st % z) = x.st % z := by rw [IntKind.wrap_i64] <;> omega
  clear hg
  by_cases h2 : x.st % z = 0
  rotate_left
  · have H : Hid (¬ GW z x) := fun h => h2 h.mul
    have e1 : (x.st % z == 0) = false := beq_eq_false_iff_ne.2 h2
    have e2 : (x.st % z != 0) = true := by rw [bne, e1]; rfl
    clear h2
    go_wp2
    go_ret
    exact Ans.mk false (by have := H.out; simp [this]) bw
  have H2 : Hid (x.st % z = 0) := h2
  have e1 : (x.st % z == 0) = true := beq_iff_eq.2 h2
  have e2 : (x.st % z != 0) = false := by rw [bne, e1]; rfl
  clear h2
  go_wp2_with fail
  refine (k2 _ i1).mono ?_
  clear k2
  rintro e w2 ⟨b2, rfl, hb2, q2⟩
  have Hb2 : Hid (b2 = true ↔ GoodA x.c x.s x.lo x.hi x.n x.f x.fu) := hb2
  have A2 := A1.keep q2
  have bw2 : Below w.heap.size w w2 := bw.trans (q2.mono bw.size)
  clear q2 hb2 i1 A1 d0 d1 d2 d3 d4 d5 d6 d7 d8 d9 d10
  obtain ⟨_, d0, d1, d2, d3, d4, d5, d6, d7, d8, d9, d10⟩ := A2
  simp only [Nat.zero_add] at d1 d2 d3 d4 d5 d6 d7 d8 d9 d10
  cases b2
  · have H : Hid (¬ GW z x) := fun h => by have := Hb2.out.2 h.agg; cases this
    clear Hb2
    go_wp2
    go_ret
    exact Ans.mk false (by have := H.out; simp [this]) bw2
  have Hg : Hid (GoodA x.c x.s x.lo x.hi x.n x.f x.fu) := Hb2.out.1 rfl
  clear Hb2
  by_cases h3 : x.c = 0
  · have H : Hid (¬ GW z x) := fun h => h.cnt h3
    have e3 : (x.c == 0) = true := beq_iff_eq.2 h3
    have e4 : (x.c != 0) = false := by rw [bne, e3]; rfl
    clear h3
    go_wp2
    go_ret
    exact Ans.mk false (by have := H.out; simp [this]) bw2
  have H3 : Hid (x.c ≠ 0) := h3
  have e3 : (x.c == 0) = false := beq_eq_false_iff_ne.2 h3
  have e4 : (x.c != 0) = true := by rw [bne, e3]; rfl
  clear h3
  by_cases h4 : 0 ≤ x.ver
  rotate_left
  · have H : Hid (¬ GW z x) := fun h => by have := h.ver; simp [btw] at this; omega
    have e5 : decide (0 ≤ x.ver) = false := decide_eq_false h4
    clear h4
    go_wp2
    go_ret
    exact Ans.mk false (by have := H.out; simp [this]) bw2
  by_cases h5 : x.ver ≤ 1000000
  rotate_left
  · have H : Hid (¬ GW z x) := fun h => by have := h.ver; simp [btw] at this; omega
    have e5 : decide (x.ver ≤ 1000000) = false := decide_eq_false h5
    clear h5
    go_wp2
    go_ret
    exact Ans.mk false (by have := H.out; simp [this]) bw2
  have H5 : Hid (btw 0 x.ver 1000000 = true) := by simp [Hid, btw, h4, h5]
  generalize hdi : x.di = di at *
  have HD : Hid (x.di = di) := hdi
  clear hdi
  cases di
  · by_cases h6 : 0 < x.ver
    · have H : Hid (GW z x) := ⟨G.out, H2.out, Hg.out, H3.out, H5.out, fun h => by omega⟩
      go_wp2
      go_ret
      exact Ans.mk true (by have := H.out; simp [this]) bw2
    · have H : Hid (¬ GW z x) := fun h => by have := h.dir (by omega); rw [HD.out] at this; cases this
      have e6 : decide (0 < x.ver) = false := decide_eq_false h6
      clear h6
      go_wp2
      go_ret
      exact Ans.mk false (by have := H.out; simp [this]) bw2
  · have H : Hid (GW z x) := ⟨G.out, H2.out, Hg.out, H3.out, H5.out, fun _ => HD.out⟩
    go_wp2
    go_ret
    exact Ans.mk true (by have := H.out; simp [this]) bw2
end Go.Proofs.YtaiigpffhcofpaaGreat
namespace Go.Proofs.YtaiigpffhcofpaaGreat
set_option maxRecDepth 100000
open Go.RowKit
set_option linter.unusedSimpArgs false
set_option linter.unusedVariables false

theorem cmp_kc (x y : Wn) (hx : gK x = true) (hy : gK y = true) : cmpAns x.m y.m x.st y.st x.tn y.tn x.nm x.vl y.nm y.vl = kc x y := by
  unfold cmpAns kc gK at *
  rw [hx, hy]
  rfl

theorem GWs.more {z : Int} {X : Nat → Wn} {k : Nat} (h : GWs z X k) (hk : GW z (X k)) (hr : ∀ j, j + 1 = k → kc (X j) (X k) < 0) : GWs z X (k + 1) :=
  ⟨fun i hi => by
    rcases Nat.lt_succ_iff_lt_or_eq.1 hi with h1 | rfl
    · exact h.each i h1
    · exact hk, fun i hi => by
    rcases Nat.lt_succ_iff_lt_or_eq.1 hi with h1 | h1
    · exact h.rise i h1
    · rw [h1]; exact hr i h1⟩

set_option maxHeartbeats 4000000 in
theorem goodWins_any (ao : Option Addr) (n cap : Nat) (X : Nat → Wn) (z : Int) (w : World) (hr : WiRow w ao n X) (hn : n ≤ 1048576) (hzS : WiSize n X) (hz : 1 ≤ z ∧ z ≤ 100000) :
    Calls Tryz.prog 69 #[.slice ao n cap, .int .i64 z] w fun e w' => Ans (GWs z X n) w e w' := by
  obtain ⟨hbd, hlies⟩ := hr
  go_enter Tryz.func69, Tryz.ntmps69
  go_wp2
  go_loopw [9] (fun i wr => ∃ k : Nat, k ≤ n ∧ i = .int .i64 k ∧ Hid (GWs z X k) ∧ Below w.heap.size w wr) (fun i _ => n - (intOf i).toNat)
  case atStart => exact ⟨0, Nat.zero_le _, rfl, ⟨fun i h => by omega, fun i h => by omega⟩, Below.refl _ _⟩
  case round =>
    obtain ⟨k, hk, rfl, HG, hbk⟩ := hrel
    by_cases hlt : k < n
    rotate_left
    · have e : k = n := by omega
      subst e
      go_wp2
      go_ret
      exact Ans.mk true (by have := HG.out; simp [this]) hbk
    obtain ⟨b, off, rfl, hblt, hc⟩ := hlies.resolve_left (by omega)
    obtain ⟨a0, a1, c0, c1, ea, r0, r1⟩ := hc k hlt
    have ea1 := ea.keep hbk
    obtain ⟨_, d0, d1, d2, d3, d4, d5, d6, d7, d8, d9, d10⟩ := id ea1
    have hB := below_new wr (.cells #[.string (X k).m, .slice a0 (X k).tn c0, .int .i64 (X k).st, .int .i64 (X k).c, .int .i64 (X k).s, .int .i64 (X k).lo, .int .i64 (X k).hi, .slice a1 (X k).n c1, .bool (X k).fu, .int .i64 (X k).ver, .bool (X k).di] 59)
    have A := WiAt.new wr (X k) a0 a1 c0 c1 59
    have r0 := (r0.keep hbk).keep hB
    have r1 := (r1.keep hbk).keep hB
    have bwk := hbk.trans (hB.mono hbk.size)
    have hcall := goodWin_any (X k) a0 a1 c0 c1 z _ r0 r1 (hzS k hlt) (hbd k hlt) hz
    have hC := hc
    clear hc hlies ea ea1 r1
    go_wp2_with fail
    refine hcall.mono ?_
    clear hcall
    rintro e w1 ⟨b1, rfl, h1, q1⟩
    have H1 : Hid (b1 = true ↔ GW z (X k)) := h1
    have A1 := A.keep q1
    have r0 := r0.keep q1
    have bw1 : Below w.heap.size w w1 := bwk.trans (q1.mono bwk.size)
    clear q1 h1 A hB bwk d0 d1 d2 d3 d4 d5 d6 d7 d8 d9 d10
    cases b1
    · have H : Hid (¬ GWs z X n) := fun h => by have := H1.out.2 (h.each k hlt); cases this
      clear H1 HG hC
      go_wp2
      go_ret
      exact Ans.mk false (by have := H.out; simp [this]) bw1
    have HW : Hid (GW z (X k)) := H1.out.1 rfl
    clear H1
    by_cases hk0 : k = 0
    · have HG' : Hid (GWs z X (k + 1)) := HG.out.more HW.out (fun j hj => by omega)
      have hd0 : decide (0 < k) = false := by simp; omega
      have hd1 : decide ((0 : Int) < (k : Int)) = false := by simp; omega
      clear hk0 hC
      go_wp2
      go_quiet (fail)
      go_wp2
      go_roundw
      case rel => exact ⟨k + 1, by omega, by go_num, HG', below_drewN bw1 _⟩
      case measure => simp [intOf]; omega
    have hpos : 0 < k := by omega
    have hpos2 : (0 : Int) < (k : Int) := by omega
    obtain ⟨j, hjk⟩ : ∃ j, k = j + 1 := ⟨k - 1, by omega⟩
    obtain ⟨p0, p1, u0, u1, ep, s0, s1⟩ := hC j (by omega)
    have ep1 := ep.keep bw1
    have s0 := s0.keep bw1
    obtain ⟨_, x0, x1, x2, _⟩ := id ep1
    obtain ⟨_, y0, y1, y2, _⟩ := id A1
    simp only [Nat.zero_add] at y1 y2
    have zk := hzS k hlt
    have zp := hzS j (by omega)
    have hcmp := fun W h h' => compareKeys_impl (X j).m (X k).m (X j).st (X k).st p0 a0 (X j).tn (X k).tn u0 c0 (X j).nm (X j).vl (X k).nm (X k).vl W h h' zp.m zk.m zp.tn zk.tn zp.ts zk.ts
    rw [cmp_kc (X j) (X k) (HG.out.each j (by omega)).key HW.out.key] at hcmp
    have hj : IntKind.i64.wrap ((k : Int) - 1) = (j : Int) := by rw [IntKind.wrap_i64] <;> omega
    have hj0 : (0 : Int) ≤ (j : Int) := by omega
    have hj1 : (j : Int) < (n : Int) := by omega
    have hk0' : (0 : Int) ≤ (k : Int) := by omega
    have HJ : Hid (k = j + 1) := hjk
    clear hjk
    generalize hkc : kc (X j) (X k) = C at hcmp
    have HC : Hid (kc (X j) (X k) = C) := hkc
    have t0 := r0.keep (Below.refl _ w1).drew
    have t1 := s0.keep (Below.refl _ w1).drew
    clear hkc ep s1 hC s0 r0 zk zp
    by_cases hneg : C < 0
    · have HG' : Hid (GWs z X (k + 1)) := HG.out.more HW.out (fun i hj => by
        have e : i = j := by have := HJ.out; omega
        subst e
        rw [HC.out]
        exact hneg)
      have hdc : decide (0 ≤ C) = false := decide_eq_false (by omega)
      clear HG HW HC
      go_wp2
      go_region_held3 (fun w' => w'.cell? ⟨b, off + j * 11, none⟩ = some (.string (X j).m) ∧ w'.cell? ⟨b, off + j * 11 + 1, none⟩ = some (.slice p0 (X j).tn u0) ∧ w'.cell? ⟨b, off + j * 11 + 2, none⟩ = some (.int .i64 (X j).st) ∧ w'.cell? ⟨wr.heap.size, 0, none⟩ = some (.string (X k).m) ∧ w'.cell? ⟨wr.heap.size, 1, none⟩ = some (.slice a0 (X k).tn c0) ∧ w'.cell? ⟨wr.heap.size, 2, none⟩ = some (.int .i64 (X k).st)) (go_keep) (first | (go_at_call 78; refine (hcmp _ t1 t0).mono ?_; rintro e w6 ⟨rfl, hb6⟩; have hb6' := (Below.refl _ w1).drew.trans hb6; obtain ⟨_, g0, g1, g2, _⟩ := ep1.keep hb6'; obtain ⟨_, l0, l1, l2, _⟩ := A1.keep hb6'; simp only [Nat.zero_add] at l1 l2; have bw6 := bw1.trans (hb6'.mono bw1.size); clear hb6 hb6'))
      go_wp2
      go_roundw
      case rel => exact ⟨k + 1, by omega, by go_num, HG', bw6⟩
      case measure => simp [intOf]; omega
    · have H : Hid (¬ GWs z X n) := fun h => by
        have h3 := h.rise j (by have := HJ.out; omega)
        rw [← HJ.out, HC.out] at h3
        exact hneg h3
      have hdc : decide (0 ≤ C) = true := decide_eq_true (by omega)
      clear HG HW HC
      go_wp2
      go_region_held3 (fun w' => w'.cell? ⟨b, off + j * 11, none⟩ = some (.string (X j).m) ∧ w'.cell? ⟨b, off + j * 11 + 1, none⟩ = some (.slice p0 (X j).tn u0) ∧ w'.cell? ⟨b, off + j * 11 + 2, none⟩ = some (.int .i64 (X j).st) ∧ w'.cell? ⟨wr.heap.size, 0, none⟩ = some (.string (X k).m) ∧ w'.cell? ⟨wr.heap.size, 1, none⟩ = some (.slice a0 (X k).tn c0) ∧ w'.cell? ⟨wr.heap.size, 2, none⟩ = some (.int .i64 (X k).st)) (go_keep) (first | (go_at_call 78; refine (hcmp _ t1 t0).mono ?_; rintro e w6 ⟨rfl, hb6⟩; have hb6' := (Below.refl _ w1).drew.trans hb6; obtain ⟨_, g0, g1, g2, _⟩ := ep1.keep hb6'; obtain ⟨_, l0, l1, l2, _⟩ := A1.keep hb6'; simp only [Nat.zero_add] at l1 l2; have bw6 := bw1.trans (hb6'.mono bw1.size); clear hb6 hb6'))
      go_wp2
      go_ret
      exact Ans.mk false (by have := H.out; simp [this]) bw6

/-- A good board, in the document's words. -/
structure GBd (z h mk : Int) (n : Nat) (X : Nat → Wn) : Prop where
  size : isSz z = true
  hor : btw 0 h 1000000 = true
  mark : isTm mk = true
  few : n ≤ 40
  wins : GWs z X n

set_option maxHeartbeats 3200000 in
theorem goodBoard_impl (z h mk : Int) (ao : Option Addr) (n cap : Nat) (X : Nat → Wn) (w : World) (hr : WiRow w ao n X) (hn : n ≤ 1048576) (hzS : WiSize n X) :
    Calls Tryz.prog 46 #[.agg #[.int .i64 z, .int .i64 h, .int .i64 mk, .slice ao n cap]] w fun e w' => Ans (GBd z h mk n X) w e w' := by
  have hB := below_new w (.cells #[.int .i64 z, .int .i64 h, .int .i64 mk, .slice ao n cap] 32)
  have hr0 := hr.keep hB
  clear hr
  go_enter Tryz.func46, Tryz.ntmps46
  go_wp2_with fail
  refine (isSize_any z _).mono ?_
  rintro e w1 ⟨rfl, rfl⟩
  cases h1 : isSz z
  · have H : Hid (¬ GBd z h mk n X) := fun g => by have := g.size; rw [h1] at this; cases this
    clear h1
    go_wp2
    go_ret
    exact Ans.mk false (by have := H.out; simp [this]) hB
  have Z1 : Hid (isSz z = true) := h1
  have hz : 1 ≤ z ∧ z ≤ 100000 := by simpa [isSz, btw] using h1
  clear h1
  by_cases h2 : 0 ≤ h
  rotate_left
  · have H : Hid (¬ GBd z h mk n X) := fun g => by have := g.hor; simp [btw] at this; omega
    have h2' : h < 0 := by omega
    clear h2
    go_wp2
    go_ret
    exact Ans.mk false (by have := H.out; simp [this]) hB
  by_cases h3 : h ≤ 1000000
  rotate_left
  · have H : Hid (¬ GBd z h mk n X) := fun g => by have := g.hor; simp [btw] at this; omega
    have h3' : 1000000 < h := by omega
    have h2' : ¬ h < 0 := by omega
    clear h3
    go_wp2
    go_ret
    exact Ans.mk false (by have := H.out; simp [this]) hB
  have Z2 : Hid (btw 0 h 1000000 = true) := by simp [Hid, btw, h2, h3]
  have h2' : ¬ h < 0 := by omega
  have h3' : ¬ 1000000 < h := by omega
  go_wp2_with fail
  refine (isTime_any mk _).mono ?_
  rintro e w1 ⟨rfl, rfl⟩
  cases h4 : isTm mk
  · have H : Hid (¬ GBd z h mk n X) := fun g => by have := g.mark; rw [h4] at this; cases this
    clear h4
    go_wp2
    go_ret
    exact Ans.mk false (by have := H.out; simp [this]) hB
  have Z4 : Hid (isTm mk = true) := h4
  clear h4
  by_cases h5 : n ≤ 40
  rotate_left
  · have H : Hid (¬ GBd z h mk n X) := fun g => h5 g.few
    have h5' : decide ((n : Int) ≤ 40) = false := decide_eq_false (by omega)
    clear h5
    go_wp2
    go_ret
    exact Ans.mk false (by have := H.out; simp [this]) hB
  have h5' : (n : Int) ≤ 40 := by omega
  have hcall := goodWins_any ao n cap X z _ hr0 hn hzS hz
  go_wp2_with fail
  refine hcall.mono ?_
  rintro e w2 ⟨b2, rfl, hb2, q2⟩
  have bw2 : Below w.heap.size w w2 := hB.trans (q2.mono (by simp))
  have H : Hid (b2 = true ↔ GBd z h mk n X) := ⟨fun g => ⟨Z1.out, Z2.out, Z4.out, h5, hb2.1 g⟩, fun g => hb2.2 g.wins⟩
  clear hcall hb2 q2
  go_wp2
  go_ret
  exact Ans.mk b2 H.out bw2
end Go.Proofs.YtaiigpffhcofpaaGreat
