/- GoodAgg, in the model. -/
import Derived.Test.YtmeckcaekkangaaGreatGdI
namespace Go.Proofs.YtmeckcaekkangaaGreat
set_option maxRecDepth 100000
open Go.RowKit
set_option linter.unusedSimpArgs false
set_option linter.unusedVariables false

set_option maxHeartbeats 2000000 in
theorem goodAgg_spec (c s lo hi : Int) (ao : Option Addr) (n cap : Nat) (f : Nat → Int) (fu : Bool) (w : World) (hr : IRow w ao n f) (hn : n ≤ 1048576) (hs : -9223372036854775808 ≤ s ∧ s ≤ 9223372036854775807) :
    Calls Tryz.prog 50 #[.agg #[.int .i64 c, .int .i64 s, .int .i64 lo, .int .i64 hi, .slice ao n cap, .bool fu]] w fun e w' => Ans (GoodA c s lo hi n f fu) w e w' := by
  have hB := fun o => below_new w o
  cases hc : isC c
  · go_enter Tryz.func50, Tryz.ntmps50
    go_wp2_with fail
    refine (l1In_any c 0 1000000000 _).mono ?_
    rintro e w1 ⟨rfl, rfl⟩
    have hc' : btw 0 c 1000000000 = false := hc
    go_wp2
    exact bodyPost_ret (v := .bool false) (by simp [results, Tryz.results50, go_sem]) rfl (Ans.mk _ (by simp [GoodA, hc]) (hB _))
  · have hcb : 0 ≤ c ∧ c ≤ 1000000000 := by simpa [isC, btw] using hc
    have hc' : btw 0 c 1000000000 = true := hc
    have HC : Hid (isC c = true) := hc
    clear hc
    by_cases h8 : n = 8
    · subst h8
      obtain ⟨b, off, rfl, hblt, hcell⟩ := hr.lies.resolve_left (by omega)
      have hal : ∀ O i, i < 8 → (w.alloc O).cell? ⟨b, off + i, none⟩ = some (.int .i64 (f i)) := fun O i hi => (World.cell?_alloc_old _ _ _ (Nat.ne_of_lt hblt)).trans (hcell i hi)
      have hw : IntKind.i64.wrap (1000000000 * c) = 1000000000 * c := by rw [IntKind.wrap_i64] <;> omega
      have hwn : IntKind.i64.wrap (-1000000000 * c) = -1000000000 * c := by rw [IntKind.wrap_i64] <;> omega
      clear hcell hr
      generalize hO : (Obj.cells #[Value.int .i64 c, .int .i64 s, .int .i64 lo, .int .i64 hi, .slice (some ⟨b, off, none⟩) 8 cap, .bool fu] 46) = O
      have A := AAt.new w c s lo hi (.slice (some ⟨b, off, none⟩) 8 cap) fu 46
      rw [hO] at A
      obtain ⟨la, a0, a1, a2, a3, a4, a5⟩ := A
      go_enter Tryz.func50, Tryz.ntmps50
      go_wp2_with fail
      refine (l1In_any c 0 1000000000 _).mono ?_
      rintro e w1 ⟨rfl, rfl⟩
      go_wp2
      go_loopw [3, 19] (fun q i wr => ∃ k : Nat, k ≤ 8 ∧ i = .int .i64 k ∧ q = .int .i64 (sumF f k) ∧ Hid (∀ i, i < k → isC (f i) = true) ∧ wr = w.alloc O) (fun _ i _ => 8 - (intOf i).toNat)
      case atStart => exact ⟨0, Nat.zero_le _, rfl, rfl, fun i h => by omega, rfl⟩
      case round =>
        obtain ⟨k, hk, rfl, rfl, HA, rfl⟩ := hrel
        have hsb := sumF_bd (f := f) (k := k) HA.out
        by_cases hlt : k < 8
        · have h1 := hal O k hlt
          clear hal hO
          go_wp2_with fail
          refine (l1In_any (f k) 0 1000000000 _).mono ?_
          rintro e w1 ⟨rfl, rfl⟩
          cases hx : isC (f k)
          · have hx' : btw 0 (f k) 1000000000 = false := hx
            have HX : Hid (isC (f k) = false) := hx
            clear hx
            go_wp2
            exact bodyPost_ret (v := .bool false) (by simp [results, Tryz.results50, go_sem]) rfl (Ans.mk _ (by
              simp only [Bool.false_eq_true, false_iff]
              intro h
              have := h.2.2.1 k hlt
              rw [HX.out] at this
              cases this) (hB _))
          · have hx' : btw 0 (f k) 1000000000 = true := hx
            have HX : Hid (isC (f k) = true) := hx
            have h2 : 0 ≤ f k ∧ f k ≤ 1000000000 := by simpa [isC, btw] using hx
            clear hx
            go_wp2
            go_roundw
            case rel =>
              refine ⟨k + 1, by omega, by go_num, by go_num, ?_, by first | rfl | trivial⟩
              intro i hi
              rcases Nat.lt_succ_iff_lt_or_eq.1 hi with h | rfl
              · exact HA.out i h
              · exact HX.out
            case measure => simp [intOf]; omega
        · have e : k = 8 := by omega
          subst e
          clear hal hO
          by_cases c0 : c = 0
          · subst c0
            by_cases e1 : sumF f 8 = 0
            · have E1 : Hid (sumF f 8 = 0) := e1
              by_cases e2 : lo = 0
              · subst e2
                by_cases e3 : hi = 0
                · subst e3
                  by_cases e4 : s = 0
                  · subst e4
                    go_wp2
                    exact bodyPost_ret (v := .bool (!fu)) (by simp [results, Tryz.results50, go_sem]) rfl (Ans.mk _ (by cases fu <;> simp [GoodA, HC.out, HA.out, E1.out] <;> exact HA.out) (hB _))
                  · have E4 : Hid (¬ s = 0) := e4
                    go_wp2
                    exact bodyPost_ret (v := .bool false) (by simp [results, Tryz.results50, go_sem]) rfl (Ans.mk _ (by have h4 := E4.out; cases fu <;> simp [GoodA] <;> omega) (hB _))
                · have E3 : Hid (¬ hi = 0) := e3
                  go_wp2
                  exact bodyPost_ret (v := .bool false) (by simp [results, Tryz.results50, go_sem]) rfl (Ans.mk _ (by have h3 := E3.out; simp [GoodA, h3]) (hB _))
              · have E2 : Hid (¬ lo = 0) := e2
                go_wp2
                exact bodyPost_ret (v := .bool false) (by simp [results, Tryz.results50, go_sem]) rfl (Ans.mk _ (by have h3 := E2.out; simp [GoodA, h3]) (hB _))
            · have E1 : Hid (¬ sumF f 8 = 0) := e1
              go_wp2
              exact bodyPost_ret (v := .bool false) (by simp [results, Tryz.results50, go_sem]) rfl (Ans.mk _ (by have h3 := E1.out; cases fu <;> simp [GoodA, h3]) (hB _))
          · have C0 : Hid (¬ c = 0) := c0
            cases hl : isV lo
            · have HL : Hid (isV lo = false) := hl
              go_wp2_with fail
              refine (l4Value_any lo _).mono ?_
              rintro e w1 ⟨rfl, rfl⟩
              go_wp2
              exact bodyPost_ret (v := .bool false) (by simp [results, Tryz.results50, go_sem]) rfl (Ans.mk _ (by simp [GoodA, HL.out, C0.out]) (hB _))
            · have HL : Hid (isV lo = true) := hl
              cases hh : isV hi
              · have HH : Hid (isV hi = false) := hh
                go_wp2_with fail
                refine (l4Value_any lo _).mono ?_
                rintro e w1 ⟨rfl, rfl⟩
                go_wp2_with fail
                refine (l4Value_any hi _).mono ?_
                rintro e w1 ⟨rfl, rfl⟩
                go_wp2
                exact bodyPost_ret (v := .bool false) (by simp [results, Tryz.results50, go_sem]) rfl (Ans.mk _ (by simp [GoodA, HH.out, C0.out]) (hB _))
              · have HH : Hid (isV hi = true) := hh
                by_cases hlh : lo ≤ hi
                · have HLH : Hid (lo ≤ hi) := hlh
                  cases fu
                  · by_cases e1 : sumF f 8 = c
                    · have K : Hid (btw (-1000000000 * c) s (1000000000 * c) = true ↔ GoodA c s lo hi 8 f false) := by
                        have hbt : btw (-1000000000 * c) s (1000000000 * c) = true ↔ (-1000000000 * c ≤ s ∧ s ≤ 1000000000 * c) := by simp [btw]
                        unfold Hid
                        rw [hbt]
                        exact ⟨fun h => ⟨HC.out, rfl, HA.out, fun _ => ⟨e1, h⟩, fun h => (by cases h), fun h => absurd h C0.out, fun _ => ⟨HL.out, HH.out, HLH.out⟩⟩, fun h => (h.2.2.2.1 rfl).2⟩
                      go_wp2_with fail
                      refine (l4Value_any lo _).mono ?_
                      rintro e w1 ⟨rfl, rfl⟩
                      go_wp2_with fail
                      refine (l4Value_any hi _).mono ?_
                      rintro e w1 ⟨rfl, rfl⟩
                      go_wp2_with fail
                      refine (l1In_any s (-1000000000 * c) (1000000000 * c) _).mono ?_
                      rintro e w1 ⟨rfl, rfl⟩
                      go_wp2
                      exact bodyPost_ret (v := .bool (btw (-1000000000 * c) s (1000000000 * c))) (by simp [results, Tryz.results50, go_sem]) rfl (Ans.mk _ K.out (hB _))
                    · have E1 : Hid (¬ sumF f 8 = c) := e1
                      go_wp2_with fail
                      refine (l4Value_any lo _).mono ?_
                      rintro e w1 ⟨rfl, rfl⟩
                      go_wp2_with fail
                      refine (l4Value_any hi _).mono ?_
                      rintro e w1 ⟨rfl, rfl⟩
                      go_wp2
                      exact bodyPost_ret (v := .bool false) (by simp [results, Tryz.results50, go_sem]) rfl (Ans.mk _ (by have h3 := E1.out; simp [GoodA, h3]) (hB _))
                  · have K : Hid ((s == 0) = true ↔ GoodA c s lo hi 8 f true) := by
                      have h4 : 0 < c := by omega
                      unfold Hid
                      rw [beq_iff_eq]
                      exact ⟨fun h => ⟨HC.out, rfl, HA.out, fun h => (by cases h), fun _ => ⟨h, h4⟩, fun h => absurd h C0.out, fun _ => ⟨HL.out, HH.out, HLH.out⟩⟩, fun h => (h.2.2.2.2.1 rfl).1⟩
                    go_wp2_with fail
                    refine (l4Value_any lo _).mono ?_
                    rintro e w1 ⟨rfl, rfl⟩
                    go_wp2_with fail
                    refine (l4Value_any hi _).mono ?_
                    rintro e w1 ⟨rfl, rfl⟩
                    go_wp2
                    exact bodyPost_ret (v := .bool (s == 0)) (by simp [results, Tryz.results50, go_sem]) rfl (Ans.mk _ K.out (hB _))
                · have HLH : Hid (¬ lo ≤ hi) := hlh
                  go_wp2_with fail
                  refine (l4Value_any lo _).mono ?_
                  rintro e w1 ⟨rfl, rfl⟩
                  go_wp2_with fail
                  refine (l4Value_any hi _).mono ?_
                  rintro e w1 ⟨rfl, rfl⟩
                  go_wp2
                  exact bodyPost_ret (v := .bool false) (by simp [results, Tryz.results50, go_sem]) rfl (Ans.mk _ (by have h3 := HLH.out; simp [GoodA, C0.out, h3]) (hB _))
    · have H8 : Hid (¬ n = 8) := h8
      have h8' : ((n : Int) == 8) = false := by simp; omega
      go_enter Tryz.func50, Tryz.ntmps50
      go_wp2_with fail
      refine (l1In_any c 0 1000000000 _).mono ?_
      rintro e w1 ⟨rfl, rfl⟩
      go_wp2
      exact bodyPost_ret (v := .bool false) (by simp [results, Tryz.results50, go_sem]) rfl (Ans.mk _ (by have h3 := H8.out; simp [GoodA, h3]) (hB _))
end Go.Proofs.YtmeckcaekkangaaGreat
