/- GoodAgg, in the model. / Good boards, in the model. -/
import Derived.Test.YtpggmgmdcccmeaaMs
import Derived.Test.YtpggmgmdcccmeaaCk
import Derived.Deep.RegionHeld3
namespace Go.Proofs.Ytpggmgmdcccmeaa
open Go.RowKit
set_option linter.unusedSimpArgs false
set_option linter.unusedVariables false

set_option maxHeartbeats 2000000 in
theorem goodAgg_spec (c s lo hi : Int) (ao : Option Addr) (n cap : Nat) (f : Nat → Int) (fu : Bool) (w : World) (hr : IRow w ao n f) (hn : n ≤ 1048576) (hs : -9223372036854775808 ≤ s ∧ s ≤ 9223372036854775807) :
    Calls Try.prog 49 #[.agg #[.int .i64 c, .int .i64 s, .int .i64 lo, .int .i64 hi, .slice ao n cap, .bool fu]] w fun e w' => Ans (GoodA c s lo hi n f fu) w e w' := by
  have hB := fun o => below_new w o
  cases hc : isC c
  · go_enter Try.func49, Try.ntmps49
    go_wp2_with fail
    refine (l1In_any c 0 1000000000 _).mono ?_
    rintro e w1 ⟨rfl, rfl⟩
    have hc' : btw 0 c 1000000000 = false := hc
    go_wp2
    exact bodyPost_ret (v := .bool false) (by simp [results, Try.results49, go_sem]) rfl (Ans.mk _ (by simp [GoodA, hc]) (hB _))
  · have hcb : 0 ≤ c ∧ c ≤ 1000000000 := by simpa [isC, btw] using hc
    have hc' : btw 0 c 1000000000 = true := hc
    have HC : Hid (isC c = true) := hc
    clear hc
    by_cases h8 : n = 8
    · subst h8
      obtain ⟨b, off, rfl, hblt, hcell⟩ := hr.lies.resolve_left (by omega)
      have hal : ∀ O i, i < 8 → (w.alloc O).cell? ⟨b, off + i, none⟩ = some (.int .i64 (f i)) := fun O i hi => (World.cell?_alloc_old _ _ _ (Nat.ne_of_lt hblt)).trans (hcell i hi)
      have hw : IntKind.i64.wrap (1000000000 * c) = 1000000000 * c := by rw [IntKind.wrap_i64] <;> omega
      have hwn : IntKind.i64.wrap (-1000000000 * c) = -1000000000 * c := by rw [IntKind.wrap_i64] <;> omega
      clear hcell hr
      generalize hO : (Obj.cells #[Value.int .i64 c, .int .i64 s, .int .i64 lo, .int .i64 hi, .slice (some ⟨b, off, none⟩) 8 cap, .bool fu] 35) = O
      have A := AAt.new w c s lo hi (.slice (some ⟨b, off, none⟩) 8 cap) fu 35
      rw [hO] at A
      obtain ⟨la, a0, a1, a2, a3, a4, a5⟩ := A
      go_enter Try.func49, Try.ntmps49
      go_wp2_with fail
      refine (l1In_any c 0 1000000000 _).mono ?_
      rintro e w1 ⟨rfl, rfl⟩
      go_wp2
      go_loopw [3, 19] (fun q i wr => ∃ k : Nat, k ≤ 8 ∧ i = .int .i64 k ∧ q = .int .i64 (sumF f k) ∧ Hid (∀ i, i < k → isC (f i) = true) ∧ wr = w.alloc O) (fun _ i _ => 8 - (intOf i).toNat)
      case atStart => exact ⟨0, Nat.zero_le _, rfl, rfl, fun i h => by omega, rfl⟩
      case round =>
        obtain ⟨k, hk, rfl, rfl, HA, rfl⟩ := hrel
        have hsb := sumF_bd (f := f) (k := k) HA.out
        by_cases hlt : k < 8
        · have h1 := hal O k hlt
          clear hal hO
          go_wp2_with fail
          refine (l1In_any (f k) 0 1000000000 _).mono ?_
          rintro e w1 ⟨rfl, rfl⟩
          cases hx : isC (f k)
          · have hx' : btw 0 (f k) 1000000000 = false := hx
            have HX : Hid (isC (f k) = false) := hx
            clear hx
            go_wp2
            exact bodyPost_ret (v := .bool false) (by simp [results, Try.results49, go_sem]) rfl (Ans.mk _ (by
              simp only [Bool.false_eq_true, false_iff]
              intro h
              have := h.2.2.1 k hlt
              rw [HX.out] at this
              cases this) (hB _))
          · have hx' : btw 0 (f k) 1000000000 = true := hx
            have HX : Hid (isC (f k) = true) := hx
            have h2 : 0 ≤ f k ∧ f k ≤ 1000000000 := by simpa [isC, btw] using hx
            clear hx
            go_wp2
            go_roundw
            case rel =>
              refine ⟨k + 1, by omega, by go_num, by go_num, ?_, by first | rfl | trivial⟩
              intro i hi
              rcases Nat.lt_succ_iff_lt_or_eq.1 hi with h | rfl
              · exact HA.out i h
              · exact HX.out
            case measure => simp [intOf]; omega
        · have e : k = 8 := by omega
          subst e
          clear hal hO
          by_cases c0 : c = 0
          · subst c0
            by_cases e1 : sumF f 8 = 0
            · have E1 : Hid (sumF f 8 = 0) := e1
              by_cases e2 : lo = 0
              · subst e2
                by_cases e3 : hi = 0
                · subst e3
                  by_cases e4 : s = 0
                  · subst e4
                    go_wp2
                    exact bodyPost_ret (v := .bool (!fu)) (by simp [results, Try.results49, go_sem]) rfl (Ans.mk _ (by cases fu <;> simp [GoodA, HC.out, HA.out, E1.out] <;> exact HA.out) (hB _))
                  · have E4 : Hid (¬ s = 0) := e4
                    go_wp2
                    exact bodyPost_ret (v := .bool false) (by simp [results, Try.results49, go_sem]) rfl (Ans.mk _ (by have h4 := E4.out; cases fu <;> simp [GoodA] <;> omega) (hB _))
                · have E3 : Hid (¬ hi = 0) := e3
                  go_wp2
                  exact bodyPost_ret (v := .bool false) (by simp [results, Try.results49, go_sem]) rfl (Ans.mk _ (by have h3 := E3.out; simp [GoodA, h3]) (hB _))
              · have E2 : Hid (¬ lo = 0) := e2
                go_wp2
                exact bodyPost_ret (v := .bool false) (by simp [results, Try.results49, go_sem]) rfl (Ans.mk _ (by have h3 := E2.out; simp [GoodA, h3]) (hB _))
            · have E1 : Hid (¬ sumF f 8 = 0) := e1
              go_wp2
              exact bodyPost_ret (v := .bool false) (by simp [results, Try.results49, go_sem]) rfl (Ans.mk _ (by have h3 := E1.out; cases fu <;> simp [GoodA, h3]) (hB _))
          · have C0 : Hid (¬ c = 0) := c0
            cases hl : isV lo
            · have HL : Hid (isV lo = false) := hl
              go_wp2_with fail
              refine (l4Value_any lo _).mono ?_
              rintro e w1 ⟨rfl, rfl⟩
              go_wp2
              exact bodyPost_ret (v := .bool false) (by simp [results, Try.results49, go_sem]) rfl (Ans.mk _ (by simp [GoodA, HL.out, C0.out]) (hB _))
            · have HL : Hid (isV lo = true) := hl
              cases hh : isV hi
              · have HH : Hid (isV hi = false) := hh
                go_wp2_with fail
                refine (l4Value_any lo _).mono ?_
                rintro e w1 ⟨rfl, rfl⟩
                go_wp2_with fail
                refine (l4Value_any hi _).mono ?_
                rintro e w1 ⟨rfl, rfl⟩
                go_wp2
                exact bodyPost_ret (v := .bool false) (by simp [results, Try.results49, go_sem]) rfl (Ans.mk _ (by simp [GoodA, HH.out, C0.out]) (hB _))
              · have HH : Hid (isV hi = true) := hh
                by_cases hlh : lo ≤ hi
                · have HLH : Hid (lo ≤ hi) := hlh
                  cases fu
                  · by_cases e1 : sumF f 8 = c
                    · have K : Hid (btw (-1000000000 * c) s (1000000000 * c) = true ↔ GoodA c s lo hi 8 f false) := by
                        have hbt : btw (-1000000000 * c) s (1000000000 * c) = true ↔ (-1000000000 * c ≤ s ∧ s ≤ 1000000000 * c) := by simp [btw]
                        unfold Hid
                        rw [hbt]
                        exact ⟨fun h => ⟨HC.out, rfl, HA.out, fun _ => ⟨e1, h⟩, fun h => (by cases h), fun h => absurd h C0.out, fun _ => ⟨HL.out, HH.out, HLH.out⟩⟩, fun h => (h.2.2.2.1 rfl).2⟩
                      go_wp2_with fail
                      refine (l4Value_any lo _).mono ?_
                      rintro e w1 ⟨rfl, rfl⟩
                      go_wp2_with fail
                      refine (l4Value_any hi _).mono ?_
                      rintro e w1 ⟨rfl, rfl⟩
                      go_wp2_with fail
                      refine (l1In_any s (-1000000000 * c) (1000000000 * c) _).mono ?_
                      rintro e w1 ⟨rfl, rfl⟩
                      go_wp2
                      exact bodyPost_ret (v := .bool (btw (-1000000000 * c) s (1000000000 * c))) (by simp [results, Try.results49, go_sem]) rfl (Ans.mk _ K.out (hB _))
                    · have E1 : Hid (¬ sumF f 8 = c) := e1
                      go_wp2_with fail
                      refine (l4Value_any lo _).mono ?_
                      rintro e w1 ⟨rfl, rfl⟩
                      go_wp2_with fail
                      refine (l4Value_any hi _).mono ?_
                      rintro e w1 ⟨rfl, rfl⟩
                      go_wp2
                      exact bodyPost_ret (v := .bool false) (by simp [results, Try.results49, go_sem]) rfl (Ans.mk _ (by have h3 := E1.out; simp [GoodA, h3]) (hB _))
                  · have K : Hid ((s == 0) = true ↔ GoodA c s lo hi 8 f true) := by
                      have h4 : 0 < c := by omega
                      unfold Hid
                      rw [beq_iff_eq]
                      exact ⟨fun h => ⟨HC.out, rfl, HA.out, fun h => (by cases h), fun _ => ⟨h, h4⟩, fun h => absurd h C0.out, fun _ => ⟨HL.out, HH.out, HLH.out⟩⟩, fun h => (h.2.2.2.2.1 rfl).1⟩
                    go_wp2_with fail
                    refine (l4Value_any lo _).mono ?_
                    rintro e w1 ⟨rfl, rfl⟩
                    go_wp2_with fail
                    refine (l4Value_any hi _).mono ?_
                    rintro e w1 ⟨rfl, rfl⟩
                    go_wp2
                    exact bodyPost_ret (v := .bool (s == 0)) (by simp [results, Try.results49, go_sem]) rfl (Ans.mk _ K.out (hB _))
                · have HLH : Hid (¬ lo ≤ hi) := hlh
                  go_wp2_with fail
                  refine (l4Value_any lo _).mono ?_
                  rintro e w1 ⟨rfl, rfl⟩
                  go_wp2_with fail
                  refine (l4Value_any hi _).mono ?_
                  rintro e w1 ⟨rfl, rfl⟩
                  go_wp2
                  exact bodyPost_ret (v := .bool false) (by simp [results, Try.results49, go_sem]) rfl (Ans.mk _ (by have h3 := HLH.out; simp [GoodA, C0.out, h3]) (hB _))
    · have H8 : Hid (¬ n = 8) := h8
      have h8' : ((n : Int) == 8) = false := by simp; omega
      go_enter Try.func49, Try.ntmps49
      go_wp2_with fail
      refine (l1In_any c 0 1000000000 _).mono ?_
      rintro e w1 ⟨rfl, rfl⟩
      go_wp2
      exact bodyPost_ret (v := .bool false) (by simp [results, Try.results49, go_sem]) rfl (Ans.mk _ (by have h3 := H8.out; simp [GoodA, h3]) (hB _))
end Go.Proofs.Ytpggmgmdcccmeaa
namespace Go.Proofs.Ytpggmgmdcccmeaa
open Go.RowKit
set_option linter.unusedSimpArgs false
set_option linter.unusedVariables false

set_option maxRecDepth 10000 in
set_option maxHeartbeats 8000000 in
theorem goodBoard_spec (z h mk : Int) (ao : Option Addr) (n cap : Nat) (X : Nat → Wn) (w : World) (hr : WiRow w ao n X) (hn : n ≤ 1048576) (hzS : WiSize n X) :
    Calls Try.prog 20 #[.agg #[.int .i64 z, .int .i64 h, .int .i64 mk, .slice ao n cap]] w fun e w' => Ans (GBd z h mk n X) w e w' := by
  have hB := below_new w (.cells #[.int .i64 z, .int .i64 h, .int .i64 mk, .slice ao n cap] 25)
  have hr0 := hr.keep hB
  have hx : (w.alloc (.cells #[.int .i64 z, .int .i64 h, .int .i64 mk, .slice ao n cap] 25)).cell? ⟨w.heap.size, 0, none⟩ = some (.int .i64 z) ∧ (w.alloc (.cells #[.int .i64 z, .int .i64 h, .int .i64 mk, .slice ao n cap] 25)).cell? ⟨w.heap.size, 3, none⟩ = some (.slice ao n cap) ∧ w.heap.size < (w.alloc (.cells #[.int .i64 z, .int .i64 h, .int .i64 mk, .slice ao n cap] 25)).heap.size := by
    refine ⟨?_, ?_, ?_⟩ <;> simp [go_sem]
  clear hr
  generalize h1 : btw 1 z 100000 = b1
  have Z1 : Hid (isSz z = b1) := h1
  clear h1
  generalize h2 : btw 0 h 1000000 = b2
  have Z2 : Hid (btw 0 h 1000000 = b2) := h2
  clear h2
  generalize h4 : isTm mk = b4
  have Z4 : Hid (isTm mk = b4) := h4
  clear h4
  go_enter Try.func20, Try.ntmps20
  go_wp2_with fail
  refine (l1In_is z 1 100000 b1 Z1 _).mono ?_
  rintro e w1 ⟨rfl, rfl⟩
  cases b1
  · have H : Hid (¬ GBd z h mk n X) := fun g => by have := g.size; rw [Z1.out] at this; cases this
    clear Z1 Z2 Z4
    go_wp2
    go_ret
    exact Ans.mk false (by have := H.out; simp [this]) hB
  have hz : 1 ≤ z ∧ z ≤ 100000 := by have := Z1.out; simpa [isSz, btw] using this
  go_wp2_with fail
  refine (l1In_is h 0 1000000 b2 Z2 _).mono ?_
  rintro e w1 ⟨rfl, rfl⟩
  cases b2
  · have H : Hid (¬ GBd z h mk n X) := fun g => by have := g.hor; rw [Z2.out] at this; cases this
    clear Z1 Z2 Z4
    go_wp2
    go_ret
    exact Ans.mk false (by have := H.out; simp [this]) hB
  go_wp2_with fail
  refine (l11Time_any mk _).mono ?_
  rintro e w1 ⟨rfl, rfl⟩
  rw [Z4.out]
  cases b4
  · have H : Hid (¬ GBd z h mk n X) := fun g => by have := g.mark; rw [Z4.out] at this; cases this
    clear Z1 Z2 Z4
    go_wp2
    go_ret
    exact Ans.mk false (by have := H.out; simp [this]) hB
  by_cases h5 : n ≤ 40
  rotate_left
  · have H : Hid (¬ GBd z h mk n X) := fun g => h5 g.few
    have h5' : (40 : Int) < (n : Int) := by omega
    clear h5 Z1 Z2 Z4
    go_wp2
    go_ret
    exact Ans.mk false (by have := H.out; simp [this]) hB
  have h5' : ¬ (40 : Int) < (n : Int) := by omega
  obtain ⟨x0, x3, hvl⟩ := hx
  obtain ⟨hbd, hlies⟩ := hr0
  have hz0 : ¬ z = 0 := by omega
  go_wp2
  generalize w.alloc (.cells #[.int .i64 z, .int .i64 h, .int .i64 mk, .slice ao n cap] 25) = w0 at *
  go_loopw [30] (fun i wr => ∃ k : Nat, k ≤ n ∧ i = .int .i64 k ∧ Hid (GWs z X k) ∧ Below w0.heap.size w0 wr) (fun i _ => n - (intOf i).toNat)
  case atStart => exact ⟨0, Nat.zero_le _, rfl, ⟨fun i h => by omega, fun i h => by omega⟩, Below.refl _ _⟩
  case round =>
    obtain ⟨k, hk, rfl, HG, hbk⟩ := hrel
    by_cases hlt : k < n
    rotate_left
    · have e : k = n := by omega
      subst e
      have H : Hid (GBd z h mk k X) := ⟨Z1.out, Z2.out, Z4.out, h5, HG.out⟩
      have bw := hB.trans (hbk.mono hB.size)
      clear HG Z1 Z2 Z4
      go_wp2
      go_ret
      exact Ans.mk true (by have := H.out; simp [this]) bw
    obtain ⟨b, off, rfl, hblt, hc⟩ := hlies.resolve_left (by omega)
    obtain ⟨a0, a1, c0, c1, ea, r0, r1⟩ := hc k hlt
    have ea1 := ea.keep hbk
    obtain ⟨_, d0, d1, d2, d3, d4, d5, d6, d7, d8, d9, d10⟩ := id ea1
    obtain ⟨W1, hW1⟩ : ∃ W1, W1 = wr.alloc (.cells #[.string (X k).m, .slice a0 (X k).tn c0, .int .i64 (X k).st, .int .i64 (X k).c, .int .i64 (X k).s, .int .i64 (X k).lo, .int .i64 (X k).hi, .slice a1 (X k).n c1, .bool (X k).fu, .int .i64 (X k).ver, .bool (X k).di] 39) := ⟨_, rfl⟩
    have hB1 : Below wr.heap.size wr W1 := by rw [hW1]; exact below_new _ _
    have A : WiAt W1 wr.heap.size 0 (X k) a0 a1 c0 c1 := by rw [hW1]; exact WiAt.new wr (X k) a0 a1 c0 c1 39
    have bw1 := hbk.trans (hB1.mono hbk.size)
    have r0 := (r0.keep hbk).keep hB1
    have r1 := (r1.keep hbk).keep hB1
    have zk := hzS k hlt
    have ek := hbd k hlt
    have k1 := goodKey_spec (X k).m (X k).st a0 (X k).tn c0 (X k).nm (X k).vl _ r0 zk.m zk.tn zk.ts
    have k2 := fun W h => goodAgg_spec (X k).c (X k).s (X k).lo (X k).hi a1 (X k).n c1 (X k).f (X k).fu W h zk.n ek.s
    have s0 := (bw1.cell (p := ⟨w.heap.size, 0, none⟩) hvl).trans x0
    have s3 := (bw1.cell (p := ⟨w.heap.size, 3, none⟩) hvl).trans x3
    have hvl1 : w.heap.size < W1.heap.size := Nat.lt_of_lt_of_le hvl bw1.size
    have hC := hc
    have HF : Hid (¬ GWs z X n → ¬ GBd z h mk n X) := fun f g => f g.wins
    clear hc hlies ea ea1 hB1
    obtain ⟨_, y0, y1, y2, y3, y4, y5, y6, y7, y8, y9, y10⟩ := id A
    simp only [Nat.zero_add] at y1 y2 y3 y4 y5 y6 y7 y8 y9 y10
    go_wp2_with fail
    rw [← hW1]
    clear hW1
    refine k1.mono ?_
    clear k1
    rintro e w2 ⟨rfl, q2⟩
    have A2 := A.keep q2
    have r0 := r0.keep q2
    have r1 := r1.keep q2
    have bw2 := bw1.trans (q2.mono bw1.size)
    have s0 := (q2.cell (p := ⟨w.heap.size, 0, none⟩) hvl1).trans s0
    have s3 := (q2.cell (p := ⟨w.heap.size, 3, none⟩) hvl1).trans s3
    have hvl2 : w.heap.size < w2.heap.size := Nat.lt_of_lt_of_le hvl1 q2.size
    clear A q2 y0 y1 y2 y3 y4 y5 y6 y7 y8 y9 y10 d0 d1 d2 d3 d4 d5 d6 d7 d8 d9 d10
    obtain ⟨_, y0, y1, y2, y3, y4, y5, y6, y7, y8, y9, y10⟩ := id A2
    simp only [Nat.zero_add] at y1 y2 y3 y4 y5 y6 y7 y8 y9 y10
    generalize hg : goodB (X k).m (X k).tn (X k).nm (X k).vl (X k).st = g
    have G : Hid (gK (X k) = g) := hg
    cases g
    · have H : Hid (¬ GBd z h mk n X) := HF.out fun g => by have := (g.each k hlt).key; rw [G.out] at this; cases this
      clear HG HF Z1 Z2 Z4 hC
      go_wp2
      go_ret
      exact Ans.mk false (by have := H.out; simp [this]) (hB.trans (bw2.mono hB.size))
    have hst := goodB_st hg
    have m1 := Int.emod_lt_of_pos (X k).st (show 0 < z by omega)
    have m2 := Int.emod_nonneg (X k).st (show z ≠ 0 by omega)
    have hw : IntKind.i64.wrap ((X k).st % z) = (X k).st % z := by rw [IntKind.wrap_i64] <;> omega
    clear hg
    by_cases h2 : (X k).st % z = 0
    rotate_left
    · have e1 : ((X k).st % z == 0) = false := beq_eq_false_iff_ne.2 h2
      have e2 : ((X k).st % z != 0) = true := by rw [bne, e1]; rfl
      have H : Hid (¬ GBd z h mk n X) := HF.out fun g => h2 (g.each k hlt).mul
      clear HG HF Z1 Z2 Z4 hC h2
      go_wp2
      go_ret
      exact Ans.mk false (by have := H.out; simp [this]) (hB.trans (bw2.mono hB.size))
    have H2 : Hid ((X k).st % z = 0) := h2
    have e1 : ((X k).st % z == 0) = true := beq_iff_eq.2 h2
    have e2 : ((X k).st % z != 0) = false := by rw [bne, e1]; rfl
    clear h2
    go_wp2_with fail
    refine (k2 _ r1).mono ?_
    clear k2
    rintro e w3 ⟨b3, rfl, hb3, q3⟩
    have Hb3 : Hid (b3 = true ↔ GoodA (X k).c (X k).s (X k).lo (X k).hi (X k).n (X k).f (X k).fu) := hb3
    have A3 := A2.keep q3
    have r0 := r0.keep q3
    have bw3 := bw2.trans (q3.mono bw2.size)
    have s0 := (q3.cell (p := ⟨w.heap.size, 0, none⟩) hvl2).trans s0
    have s3 := (q3.cell (p := ⟨w.heap.size, 3, none⟩) hvl2).trans s3
    clear A2 q3 hb3 r1 y0 y1 y2 y3 y4 y5 y6 y7 y8 y9 y10
    obtain ⟨_, y0, y1, y2, y3, y4, y5, y6, y7, y8, y9, y10⟩ := id A3
    simp only [Nat.zero_add] at y1 y2 y3 y4 y5 y6 y7 y8 y9 y10
    cases b3
    · have H : Hid (¬ GBd z h mk n X) := HF.out fun g => by have := Hb3.out.2 (g.each k hlt).agg; cases this
      clear HG HF Z1 Z2 Z4 hC
      go_wp2
      go_ret
      exact Ans.mk false (by have := H.out; simp [this]) (hB.trans (bw3.mono hB.size))
    have Hg : Hid (GoodA (X k).c (X k).s (X k).lo (X k).hi (X k).n (X k).f (X k).fu) := Hb3.out.1 rfl
    clear Hb3
    by_cases h3 : (X k).c = 0
    · have e3 : ((X k).c == 0) = true := beq_iff_eq.2 h3
      have H : Hid (¬ GBd z h mk n X) := HF.out fun g => (g.each k hlt).cnt h3
      clear HG HF Z1 Z2 Z4 hC h3
      go_wp2
      go_ret
      exact Ans.mk false (by have := H.out; simp [this]) (hB.trans (bw3.mono hB.size))
    have H3 : Hid ((X k).c ≠ 0) := h3
    have e3 : ((X k).c == 0) = false := beq_eq_false_iff_ne.2 h3
    have e4 : ((X k).c != 0) = true := by rw [bne, e3]; rfl
    clear h3
    generalize h6 : btw 0 (X k).ver 1000000 = b6
    have H6 : Hid (btw 0 (X k).ver 1000000 = b6) := h6
    clear h6
    go_wp2_with fail
    refine (l1In_is (X k).ver 0 1000000 b6 H6 _).mono ?_
    rintro e w4 ⟨rfl, rfl⟩
    cases b6
    · have H : Hid (¬ GBd z h mk n X) := HF.out fun g => by have := (g.each k hlt).ver; rw [H6.out] at this; cases this
      clear HG HF Z1 Z2 Z4 hC
      go_wp2
      go_ret
      exact Ans.mk false (by have := H.out; simp [this]) (hB.trans (bw3.mono hB.size))
    generalize hdi : (X k).di = di at *
    have HD : Hid ((X k).di = di) := hdi
    clear hdi
    have HV : Hid (di = false → (X k).ver = 0 → ¬ GBd z h mk n X) := fun e e' => HF.out fun g => by have := (g.each k hlt).dir e'; rw [HD.out, e] at this; cases this
    have HW' : Hid ((di = false → (X k).ver ≠ 0) → GW z (X k)) := fun f => ⟨G.out, H2.out, Hg.out, H3.out, H6.out, fun e => by rw [HD.out]; cases di with | true => rfl | false => exact absurd e (f rfl)⟩
    by_cases h7 : (X k).ver = 0
    · have e7 : ((X k).ver == 0) = true := beq_iff_eq.2 h7
      have H7 : Hid ((X k).ver = 0) := h7
      clear h7
      cases di
      · have H : Hid (¬ GBd z h mk n X) := HV.out rfl H7.out
        clear HG HF HV HW' Z1 Z2 Z4 hC
        go_wp2
        go_ret
        exact Ans.mk false (by have := H.out; simp [this]) (hB.trans (bw3.mono hB.size))
      have HW : Hid (GW z (X k)) := HW'.out (fun e => nomatch e)
      clear HV HW' Hg H2 H3 G H6
      have hvl3 : w.heap.size < w4.heap.size := Nat.lt_of_lt_of_le hvl bw3.size
      by_cases hk0 : k = 0
      · have HG' : Hid (GWs z X (k + 1)) := HG.out.more HW.out (fun j hj => by omega)
        have hd0 : decide (0 < k) = false := by simp; omega
        have hd1 : decide ((0 : Int) < (k : Int)) = false := by simp; omega
        clear hk0 hC HF HG HW
        go_wp2
        go_quiet (fail)
        go_wp2
        go_roundw
        case rel => exact ⟨k + 1, by omega, by go_num, HG', below_drewN bw3 _⟩
        case measure => simp [intOf]; omega
      have hpos : 0 < k := by omega
      have hpos2 : (0 : Int) < (k : Int) := by omega
      obtain ⟨j, hjk⟩ : ∃ j, k = j + 1 := ⟨k - 1, by omega⟩
      obtain ⟨p0, p1, u0, u1, ep, t1, s1⟩ := hC j (by omega)
      have ep1 := ep.keep bw3
      have t1 := (t1.keep bw3).keep (Below.refl _ w4).drew
      have t0 := r0.keep (Below.refl _ w4).drew
      obtain ⟨_, v0, v1, v2, _⟩ := id ep1
      have zp := hzS j (by omega)
      have gj := (HG.out.each j (by omega)).key
      have gk := HW.out.key
      unfold gK at gj gk
      have hcmp := fun W h h' => l1Compare_any (X j).m (X k).m (X j).st (X k).st p0 a0 (X j).tn (X k).tn u0 c0 (X j).nm (X j).vl (X k).nm (X k).vl W h h' zp.tn zk.tn (goodB_st gj) (goodB_st gk)
      have hj : IntKind.i64.wrap ((k : Int) - 1) = (j : Int) := by rw [IntKind.wrap_i64] <;> omega
      have hj0 : (0 : Int) ≤ (j : Int) := by omega
      have hj1 : (j : Int) < (n : Int) := by omega
      have hk0' : (0 : Int) ≤ (k : Int) := by omega
      have HJ : Hid (k = j + 1) := hjk
      clear hjk
      rw [show keyCmp (X j).m (X k).m (X j).st (X k).st (X j).tn (X k).tn (X j).nm (X j).vl (X k).nm (X k).vl = kc (X j) (X k) from rfl] at hcmp
      generalize hkc : kc (X j) (X k) = C at hcmp
      have HC : Hid (kc (X j) (X k) = C) := hkc
      clear hkc ep s1 hC r0 zk zp gj gk
      by_cases hneg : C < 0
      · have HG' : Hid (GWs z X (k + 1)) := HG.out.more HW.out (fun i hj => by
          have e : i = j := by have := HJ.out; omega
          subst e
          rw [HC.out]
          exact hneg)
        have hdc : decide (0 ≤ C) = false := decide_eq_false (by omega)
        clear HG HW HC HF
        go_wp2
        go_region_held3 (fun w' => w'.cell? ⟨w.heap.size, 3, none⟩ = some (.slice (some ⟨b, off, none⟩) n cap) ∧ w'.cell? ⟨b, off + j * 11, none⟩ = some (.string (X j).m) ∧ w'.cell? ⟨b, off + j * 11 + 1, none⟩ = some (.slice p0 (X j).tn u0) ∧ w'.cell? ⟨b, off + j * 11 + 2, none⟩ = some (.int .i64 (X j).st) ∧ w'.cell? ⟨wr.heap.size, 0, none⟩ = some (.string (X k).m) ∧ w'.cell? ⟨wr.heap.size, 1, none⟩ = some (.slice a0 (X k).tn c0) ∧ w'.cell? ⟨wr.heap.size, 2, none⟩ = some (.int .i64 (X k).st)) (go_keep) (first | (go_at_call 50; refine (hcmp _ t1 t0).mono ?_; rintro e w6 ⟨rfl, hb6⟩; have hb6' := (Below.refl _ w4).drew.trans hb6; obtain ⟨_, g0, g1, g2, _⟩ := ep1.keep hb6'; obtain ⟨_, l0, l1, l2, _⟩ := A3.keep hb6'; have s6 := (hb6'.cell (p := ⟨w.heap.size, 3, none⟩) hvl3).trans s3; simp only [Nat.zero_add] at l1 l2; have bw6 := bw3.trans (hb6'.mono bw3.size); clear hb6 hb6'))
        go_wp2
        go_roundw
        case rel => exact ⟨k + 1, by omega, by go_num, HG', bw6⟩
        case measure => simp [intOf]; omega
      · have H : Hid (¬ GBd z h mk n X) := HF.out fun g => by
          have h3 := g.rise j (by have := HJ.out; omega)
          rw [← HJ.out, HC.out] at h3
          exact hneg h3
        have hdc : decide (0 ≤ C) = true := decide_eq_true (by omega)
        clear HG HW HC HF
        go_wp2
        go_region_held3 (fun w' => w'.cell? ⟨w.heap.size, 3, none⟩ = some (.slice (some ⟨b, off, none⟩) n cap) ∧ w'.cell? ⟨b, off + j * 11, none⟩ = some (.string (X j).m) ∧ w'.cell? ⟨b, off + j * 11 + 1, none⟩ = some (.slice p0 (X j).tn u0) ∧ w'.cell? ⟨b, off + j * 11 + 2, none⟩ = some (.int .i64 (X j).st) ∧ w'.cell? ⟨wr.heap.size, 0, none⟩ = some (.string (X k).m) ∧ w'.cell? ⟨wr.heap.size, 1, none⟩ = some (.slice a0 (X k).tn c0) ∧ w'.cell? ⟨wr.heap.size, 2, none⟩ = some (.int .i64 (X k).st)) (go_keep) (first | (go_at_call 50; refine (hcmp _ t1 t0).mono ?_; rintro e w6 ⟨rfl, hb6⟩; have hb6' := (Below.refl _ w4).drew.trans hb6; obtain ⟨_, g0, g1, g2, _⟩ := ep1.keep hb6'; obtain ⟨_, l0, l1, l2, _⟩ := A3.keep hb6'; have s6 := (hb6'.cell (p := ⟨w.heap.size, 3, none⟩) hvl3).trans s3; simp only [Nat.zero_add] at l1 l2; have bw6 := bw3.trans (hb6'.mono bw3.size); clear hb6 hb6'))
        go_wp2
        go_ret
        exact Ans.mk false (by have := H.out; simp [this]) (hB.trans (bw6.mono hB.size))
    have e7 : ((X k).ver == 0) = false := beq_eq_false_iff_ne.2 h7
    have HW : Hid (GW z (X k)) := HW'.out fun _ => h7
    clear HV HW' Hg H2 H3 G H6 h7
    have hvl3 : w.heap.size < w4.heap.size := Nat.lt_of_lt_of_le hvl bw3.size
    by_cases hk0 : k = 0
    · have HG' : Hid (GWs z X (k + 1)) := HG.out.more HW.out (fun j hj => by omega)
      have hd0 : decide (0 < k) = false := by simp; omega
      have hd1 : decide ((0 : Int) < (k : Int)) = false := by simp; omega
      clear hk0 hC HF HG HW
      go_wp2
      go_quiet (fail)
      go_wp2
      go_roundw
      case rel => exact ⟨k + 1, by omega, by go_num, HG', below_drewN bw3 _⟩
      case measure => simp [intOf]; omega
    have hpos : 0 < k := by omega
    have hpos2 : (0 : Int) < (k : Int) := by omega
    obtain ⟨j, hjk⟩ : ∃ j, k = j + 1 := ⟨k - 1, by omega⟩
    obtain ⟨p0, p1, u0, u1, ep, t1, s1⟩ := hC j (by omega)
    have ep1 := ep.keep bw3
    have t1 := (t1.keep bw3).keep (Below.refl _ w4).drew
    have t0 := r0.keep (Below.refl _ w4).drew
    obtain ⟨_, v0, v1, v2, _⟩ := id ep1
    have zp := hzS j (by omega)
    have gj := (HG.out.each j (by omega)).key
    have gk := HW.out.key
    unfold gK at gj gk
    have hcmp := fun W h h' => l1Compare_any (X j).m (X k).m (X j).st (X k).st p0 a0 (X j).tn (X k).tn u0 c0 (X j).nm (X j).vl (X k).nm (X k).vl W h h' zp.tn zk.tn (goodB_st gj) (goodB_st gk)
    have hj : IntKind.i64.wrap ((k : Int) - 1) = (j : Int) := by rw [IntKind.wrap_i64] <;> omega
    have hj0 : (0 : Int) ≤ (j : Int) := by omega
    have hj1 : (j : Int) < (n : Int) := by omega
    have hk0' : (0 : Int) ≤ (k : Int) := by omega
    have HJ : Hid (k = j + 1) := hjk
    clear hjk
    rw [show keyCmp (X j).m (X k).m (X j).st (X k).st (X j).tn (X k).tn (X j).nm (X j).vl (X k).nm (X k).vl = kc (X j) (X k) from rfl] at hcmp
    generalize hkc : kc (X j) (X k) = C at hcmp
    have HC : Hid (kc (X j) (X k) = C) := hkc
    clear hkc ep s1 hC r0 zk zp gj gk
    by_cases hneg : C < 0
    · have HG' : Hid (GWs z X (k + 1)) := HG.out.more HW.out (fun i hj => by
        have e : i = j := by have := HJ.out; omega
        subst e
        rw [HC.out]
        exact hneg)
      have hdc : decide (0 ≤ C) = false := decide_eq_false (by omega)
      clear HG HW HC HF
      go_wp2
      go_region_held3 (fun w' => w'.cell? ⟨w.heap.size, 3, none⟩ = some (.slice (some ⟨b, off, none⟩) n cap) ∧ w'.cell? ⟨b, off + j * 11, none⟩ = some (.string (X j).m) ∧ w'.cell? ⟨b, off + j * 11 + 1, none⟩ = some (.slice p0 (X j).tn u0) ∧ w'.cell? ⟨b, off + j * 11 + 2, none⟩ = some (.int .i64 (X j).st) ∧ w'.cell? ⟨wr.heap.size, 0, none⟩ = some (.string (X k).m) ∧ w'.cell? ⟨wr.heap.size, 1, none⟩ = some (.slice a0 (X k).tn c0) ∧ w'.cell? ⟨wr.heap.size, 2, none⟩ = some (.int .i64 (X k).st)) (go_keep) (first | (go_at_call 50; refine (hcmp _ t1 t0).mono ?_; rintro e w6 ⟨rfl, hb6⟩; have hb6' := (Below.refl _ w4).drew.trans hb6; obtain ⟨_, g0, g1, g2, _⟩ := ep1.keep hb6'; obtain ⟨_, l0, l1, l2, _⟩ := A3.keep hb6'; have s6 := (hb6'.cell (p := ⟨w.heap.size, 3, none⟩) hvl3).trans s3; simp only [Nat.zero_add] at l1 l2; have bw6 := bw3.trans (hb6'.mono bw3.size); clear hb6 hb6'))
      go_wp2
      go_roundw
      case rel => exact ⟨k + 1, by omega, by go_num, HG', bw6⟩
      case measure => simp [intOf]; omega
    · have H : Hid (¬ GBd z h mk n X) := HF.out fun g => by
        have h3 := g.rise j (by have := HJ.out; omega)
        rw [← HJ.out, HC.out] at h3
        exact hneg h3
      have hdc : decide (0 ≤ C) = true := decide_eq_true (by omega)
      clear HG HW HC HF
      go_wp2
      go_region_held3 (fun w' => w'.cell? ⟨w.heap.size, 3, none⟩ = some (.slice (some ⟨b, off, none⟩) n cap) ∧ w'.cell? ⟨b, off + j * 11, none⟩ = some (.string (X j).m) ∧ w'.cell? ⟨b, off + j * 11 + 1, none⟩ = some (.slice p0 (X j).tn u0) ∧ w'.cell? ⟨b, off + j * 11 + 2, none⟩ = some (.int .i64 (X j).st) ∧ w'.cell? ⟨wr.heap.size, 0, none⟩ = some (.string (X k).m) ∧ w'.cell? ⟨wr.heap.size, 1, none⟩ = some (.slice a0 (X k).tn c0) ∧ w'.cell? ⟨wr.heap.size, 2, none⟩ = some (.int .i64 (X k).st)) (go_keep) (first | (go_at_call 50; refine (hcmp _ t1 t0).mono ?_; rintro e w6 ⟨rfl, hb6⟩; have hb6' := (Below.refl _ w4).drew.trans hb6; obtain ⟨_, g0, g1, g2, _⟩ := ep1.keep hb6'; obtain ⟨_, l0, l1, l2, _⟩ := A3.keep hb6'; have s6 := (hb6'.cell (p := ⟨w.heap.size, 3, none⟩) hvl3).trans s3; simp only [Nat.zero_add] at l1 l2; have bw6 := bw3.trans (hb6'.mono bw3.size); clear hb6 hb6'))
      go_wp2
      go_ret
      exact Ans.mk false (by have := H.out; simp [this]) (hB.trans (bw6.mono hB.size))
end Go.Proofs.Ytpggmgmdcccmeaa
