/- Good boards, in the program. -/
import Derived.Test.YtflmbcgokiiedaaGw
import Derived.Deep.RegionHeld3
namespace Go.Proofs.Ytflmbcgokiiedaa
open Go.RowKit
set_option linter.unusedSimpArgs false
set_option linter.unusedVariables false

theorem cmp_kc (x y : Wn) (hx : gK x = true) (hy : gK y = true) : cmpAns x.m y.m x.st y.st x.tn y.tn x.nm x.vl y.nm y.vl = kc x y := by
  unfold cmpAns kc gK at *
  rw [hx, hy]
  rfl

theorem GWs.more {z : Int} {X : Nat → Wn} {k : Nat} (h : GWs z X k) (hk : GW z (X k)) (hr : ∀ j, j + 1 = k → kc (X j) (X k) < 0) : GWs z X (k + 1) :=
  ⟨fun i hi => by
    rcases Nat.lt_succ_iff_lt_or_eq.1 hi with h1 | rfl
    · exact h.each i h1
    · exact hk, fun i hi => by
    rcases Nat.lt_succ_iff_lt_or_eq.1 hi with h1 | h1
    · exact h.rise i h1
    · rw [h1]; exact hr i h1⟩

set_option maxHeartbeats 4000000 in
theorem goodWins_any (ao : Option Addr) (n cap : Nat) (X : Nat → Wn) (z : Int) (w : World) (hr : WiRow w ao n X) (hn : n ≤ 1048576) (hzS : WiSize n X) (hz : 1 ≤ z ∧ z ≤ 100000) :
    Calls Try.prog 91 #[.slice ao n cap, .int .i64 z] w fun e w' => Ans (GWs z X n) w e w' := by
  obtain ⟨hbd, hlies⟩ := hr
  go_enter Try.func91, Try.ntmps91
  go_wp2
  go_loopw [9] (fun i wr => ∃ k : Nat, k ≤ n ∧ i = .int .i64 k ∧ Hid (GWs z X k) ∧ Below w.heap.size w wr) (fun i _ => n - (intOf i).toNat)
  case atStart => exact ⟨0, Nat.zero_le _, rfl, ⟨fun i h => by omega, fun i h => by omega⟩, Below.refl _ _⟩
  case round =>
    obtain ⟨k, hk, rfl, HG, hbk⟩ := hrel
    by_cases hlt : k < n
    rotate_left
    · have e : k = n := by omega
      subst e
      go_wp2
      go_ret
      exact Ans.mk true (by have := HG.out; simp [this]) hbk
    obtain ⟨b, off, rfl, hblt, hc⟩ := hlies.resolve_left (by omega)
    obtain ⟨a0, a1, c0, c1, ea, r0, r1⟩ := hc k hlt
    have ea1 := ea.keep hbk
    obtain ⟨_, d0, d1, d2, d3, d4, d5, d6, d7, d8, d9, d10⟩ := id ea1
    have hB := below_new wr (.cells #[.string (X k).m, .slice a0 (X k).tn c0, .int .i64 (X k).st, .int .i64 (X k).c, .int .i64 (X k).s, .int .i64 (X k).lo, .int .i64 (X k).hi, .slice a1 (X k).n c1, .bool (X k).fu, .int .i64 (X k).ver, .bool (X k).di] 54)
    have A := WiAt.new wr (X k) a0 a1 c0 c1 54
    have r0 := (r0.keep hbk).keep hB
    have r1 := (r1.keep hbk).keep hB
    have bwk := hbk.trans (hB.mono hbk.size)
    have hcall := goodWin_any (X k) a0 a1 c0 c1 z _ r0 r1 (hzS k hlt) (hbd k hlt) hz
    have hC := hc
    clear hc hlies ea ea1 r1
    go_wp2_with fail
    refine hcall.mono ?_
    clear hcall
    rintro e w1 ⟨b1, rfl, h1, q1⟩
    have H1 : Hid (b1 = true ↔ GW z (X k)) := h1
    have A1 := A.keep q1
    have r0 := r0.keep q1
    have bw1 : Below w.heap.size w w1 := bwk.trans (q1.mono bwk.size)
    clear q1 h1 A hB bwk d0 d1 d2 d3 d4 d5 d6 d7 d8 d9 d10
    cases b1
    · have H : Hid (¬ GWs z X n) := fun h => by have := H1.out.2 (h.each k hlt); cases this
      clear H1 HG hC
      go_wp2
      go_ret
      exact Ans.mk false (by have := H.out; simp [this]) bw1
    have HW : Hid (GW z (X k)) := H1.out.1 rfl
    clear H1
    by_cases hk0 : k = 0
    · have HG' : Hid (GWs z X (k + 1)) := HG.out.more HW.out (fun j hj => by omega)
      have hd0 : decide (0 < k) = false := by simp; omega
      have hd1 : decide ((0 : Int) < (k : Int)) = false := by simp; omega
      clear hk0 hC
      go_wp2
      go_quiet (fail)
      go_wp2
      go_roundw
      case rel => exact ⟨k + 1, by omega, by go_num, HG', below_drewN bw1 _⟩
      case measure => simp [intOf]; omega
    have hpos : 0 < k := by omega
    have hpos2 : (0 : Int) < (k : Int) := by omega
    obtain ⟨j, hjk⟩ : ∃ j, k = j + 1 := ⟨k - 1, by omega⟩
    obtain ⟨p0, p1, u0, u1, ep, s0, s1⟩ := hC j (by omega)
    have ep1 := ep.keep bw1
    have s0 := s0.keep bw1
    obtain ⟨_, x0, x1, x2, _⟩ := id ep1
    obtain ⟨_, y0, y1, y2, _⟩ := id A1
    simp only [Nat.zero_add] at y1 y2
    have zk := hzS k hlt
    have zp := hzS j (by omega)
    have hcmp := fun W h h' => compareKeys_impl (X j).m (X k).m (X j).st (X k).st p0 a0 (X j).tn (X k).tn u0 c0 (X j).nm (X j).vl (X k).nm (X k).vl W h h' zp.m zk.m zp.tn zk.tn zp.ts zk.ts
    rw [cmp_kc (X j) (X k) (HG.out.each j (by omega)).key HW.out.key] at hcmp
    have hj : IntKind.i64.wrap ((k : Int) - 1) = (j : Int) := by rw [IntKind.wrap_i64] <;> omega
    have hj0 : (0 : Int) ≤ (j : Int) := by omega
    have hj1 : (j : Int) < (n : Int) := by omega
    have hk0' : (0 : Int) ≤ (k : Int) := by omega
    have HJ : Hid (k = j + 1) := hjk
    clear hjk
    generalize hkc : kc (X j) (X k) = C at hcmp
    have HC : Hid (kc (X j) (X k) = C) := hkc
    have t0 := r0.keep (Below.refl _ w1).drew
    have t1 := s0.keep (Below.refl _ w1).drew
    clear hkc ep s1 hC s0 r0 zk zp
    by_cases hneg : C < 0
    · have HG' : Hid (GWs z X (k + 1)) := HG.out.more HW.out (fun i hj => by
        have e : i = j := by have := HJ.out; omega
        subst e
        rw [HC.out]
        exact hneg)
      have hdc : decide (0 ≤ C) = false := decide_eq_false (by omega)
      clear HG HW HC
      go_wp2
      go_region_held3 (fun w' => w'.cell? ⟨b, off + j * 11, none⟩ = some (.string (X j).m) ∧ w'.cell? ⟨b, off + j * 11 + 1, none⟩ = some (.slice p0 (X j).tn u0) ∧ w'.cell? ⟨b, off + j * 11 + 2, none⟩ = some (.int .i64 (X j).st) ∧ w'.cell? ⟨wr.heap.size, 0, none⟩ = some (.string (X k).m) ∧ w'.cell? ⟨wr.heap.size, 1, none⟩ = some (.slice a0 (X k).tn c0) ∧ w'.cell? ⟨wr.heap.size, 2, none⟩ = some (.int .i64 (X k).st)) (go_keep) (first | (go_at_call 82; refine (hcmp _ t1 t0).mono ?_; rintro e w6 ⟨rfl, hb6⟩; have hb6' := (Below.refl _ w1).drew.trans hb6; obtain ⟨_, g0, g1, g2, _⟩ := ep1.keep hb6'; obtain ⟨_, l0, l1, l2, _⟩ := A1.keep hb6'; simp only [Nat.zero_add] at l1 l2; have bw6 := bw1.trans (hb6'.mono bw1.size); clear hb6 hb6'))
      go_wp2
      go_roundw
      case rel => exact ⟨k + 1, by omega, by go_num, HG', bw6⟩
      case measure => simp [intOf]; omega
    · have H : Hid (¬ GWs z X n) := fun h => by
        have h3 := h.rise j (by have := HJ.out; omega)
        rw [← HJ.out, HC.out] at h3
        exact hneg h3
      have hdc : decide (0 ≤ C) = true := decide_eq_true (by omega)
      clear HG HW HC
      go_wp2
      go_region_held3 (fun w' => w'.cell? ⟨b, off + j * 11, none⟩ = some (.string (X j).m) ∧ w'.cell? ⟨b, off + j * 11 + 1, none⟩ = some (.slice p0 (X j).tn u0) ∧ w'.cell? ⟨b, off + j * 11 + 2, none⟩ = some (.int .i64 (X j).st) ∧ w'.cell? ⟨wr.heap.size, 0, none⟩ = some (.string (X k).m) ∧ w'.cell? ⟨wr.heap.size, 1, none⟩ = some (.slice a0 (X k).tn c0) ∧ w'.cell? ⟨wr.heap.size, 2, none⟩ = some (.int .i64 (X k).st)) (go_keep) (first | (go_at_call 82; refine (hcmp _ t1 t0).mono ?_; rintro e w6 ⟨rfl, hb6⟩; have hb6' := (Below.refl _ w1).drew.trans hb6; obtain ⟨_, g0, g1, g2, _⟩ := ep1.keep hb6'; obtain ⟨_, l0, l1, l2, _⟩ := A1.keep hb6'; simp only [Nat.zero_add] at l1 l2; have bw6 := bw1.trans (hb6'.mono bw1.size); clear hb6 hb6'))
      go_wp2
      go_ret
      exact Ans.mk false (by have := H.out; simp [this]) bw6

/-- A good board, in the document's words. -/
structure GBd (z h mk : Int) (n : Nat) (X : Nat → Wn) : Prop where
  size : isSz z = true
  hor : btw 0 h 1000000 = true
  mark : isTm mk = true
  few : n ≤ 40
  wins : GWs z X n

set_option maxHeartbeats 3200000 in
theorem goodBoard_impl (z h mk : Int) (ao : Option Addr) (n cap : Nat) (X : Nat → Wn) (w : World) (hr : WiRow w ao n X) (hn : n ≤ 1048576) (hzS : WiSize n X) :
    Calls Try.prog 68 #[.agg #[.int .i64 z, .int .i64 h, .int .i64 mk, .slice ao n cap]] w fun e w' => Ans (GBd z h mk n X) w e w' := by
  have hB := below_new w (.cells #[.int .i64 z, .int .i64 h, .int .i64 mk, .slice ao n cap] 28)
  have hr0 := hr.keep hB
  clear hr
  go_enter Try.func68, Try.ntmps68
  go_wp2_with fail
  refine (isSize_any z _).mono ?_
  rintro e w1 ⟨rfl, rfl⟩
  cases h1 : isSz z
  · have H : Hid (¬ GBd z h mk n X) := fun g => by have := g.size; rw [h1] at this; cases this
    clear h1
    go_wp2
    go_ret
    exact Ans.mk false (by have := H.out; simp [this]) hB
  have Z1 : Hid (isSz z = true) := h1
  have hz : 1 ≤ z ∧ z ≤ 100000 := by simpa [isSz, btw] using h1
  clear h1
  by_cases h2 : 0 ≤ h
  rotate_left
  · have H : Hid (¬ GBd z h mk n X) := fun g => by have := g.hor; simp [btw] at this; omega
    have h2' : h < 0 := by omega
    clear h2
    go_wp2
    go_ret
    exact Ans.mk false (by have := H.out; simp [this]) hB
  by_cases h3 : h ≤ 1000000
  rotate_left
  · have H : Hid (¬ GBd z h mk n X) := fun g => by have := g.hor; simp [btw] at this; omega
    have h3' : 1000000 < h := by omega
    have h2' : ¬ h < 0 := by omega
    clear h3
    go_wp2
    go_ret
    exact Ans.mk false (by have := H.out; simp [this]) hB
  have Z2 : Hid (btw 0 h 1000000 = true) := by simp [Hid, btw, h2, h3]
  have h2' : ¬ h < 0 := by omega
  have h3' : ¬ 1000000 < h := by omega
  go_wp2_with fail
  refine (isTime_any mk _).mono ?_
  rintro e w1 ⟨rfl, rfl⟩
  cases h4 : isTm mk
  · have H : Hid (¬ GBd z h mk n X) := fun g => by have := g.mark; rw [h4] at this; cases this
    clear h4
    go_wp2
    go_ret
    exact Ans.mk false (by have := H.out; simp [this]) hB
  have Z4 : Hid (isTm mk = true) := h4
  clear h4
  by_cases h5 : n ≤ 40
  rotate_left
  · have H : Hid (¬ GBd z h mk n X) := fun g => h5 g.few
    have h5' : decide ((n : Int) ≤ 40) = false := decide_eq_false (by omega)
    clear h5
    go_wp2
    go_ret
    exact Ans.mk false (by have := H.out; simp [this]) hB
  have h5' : (n : Int) ≤ 40 := by omega
  have hcall := goodWins_any ao n cap X z _ hr0 hn hzS hz
  go_wp2_with fail
  refine hcall.mono ?_
  rintro e w2 ⟨b2, rfl, hb2, q2⟩
  have bw2 : Below w.heap.size w w2 := hB.trans (q2.mono (by simp))
  have H : Hid (b2 = true ↔ GBd z h mk n X) := ⟨fun g => ⟨Z1.out, Z2.out, Z4.out, h5, hb2.1 g⟩, fun g => hb2.2 g.wins⟩
  clear hcall hb2 q2
  go_wp2
  go_ret
  exact Ans.mk b2 H.out bw2
end Go.Proofs.Ytflmbcgokiiedaa
