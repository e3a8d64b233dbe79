/- GoodAgg, in the model. / GoodAgg, in the program. / Good entries: one of them, in both texts. -/
import Derived.Test.YtfdbhkjmkpgomaaGreatGd
import Derived.Test.YtfdbhkjmkpgomaaGreatEn
namespace Go.Proofs.YtfdbhkjmkpgomaaGreat
set_option maxRecDepth 100000
open Go.RowKit
set_option linter.unusedSimpArgs false
set_option linter.unusedVariables false

set_option maxHeartbeats 2000000 in
theorem goodAgg_spec (c s lo hi : Int) (ao : Option Addr) (n cap : Nat) (f : Nat → Int) (fu : Bool) (w : World) (hr : IRow w ao n f) (hn : n ≤ 1048576) (hs : -9223372036854775808 ≤ s ∧ s ≤ 9223372036854775807) :
    Calls Tryz.prog 64 #[.agg #[.int .i64 c, .int .i64 s, .int .i64 lo, .int .i64 hi, .slice ao n cap, .bool fu]] w fun e w' => Ans (GoodA c s lo hi n f fu) w e w' := by
  have hB := fun o => below_new w o
  cases hc : isC c
  · go_enter Tryz.func64, Tryz.ntmps64
    go_wp2_with fail
    refine (l1In_any c 0 1000000000 _).mono ?_
    rintro e w1 ⟨rfl, rfl⟩
    have hc' : btw 0 c 1000000000 = false := hc
    go_wp2
    exact bodyPost_ret (v := .bool false) (by simp [results, Tryz.results64, go_sem]) rfl (Ans.mk _ (by simp [GoodA, hc]) (hB _))
  · have hcb : 0 ≤ c ∧ c ≤ 1000000000 := by simpa [isC, btw] using hc
    have hc' : btw 0 c 1000000000 = true := hc
    have HC : Hid (isC c = true) := hc
    clear hc
    by_cases h8 : n = 8
    · subst h8
      obtain ⟨b, off, rfl, hblt, hcell⟩ := hr.lies.resolve_left (by omega)
      have hal : ∀ O i, i < 8 → (w.alloc O).cell? ⟨b, off + i, none⟩ = some (.int .i64 (f i)) := fun O i hi => (World.cell?_alloc_old _ _ _ (Nat.ne_of_lt hblt)).trans (hcell i hi)
      have hw : IntKind.i64.wrap (1000000000 * c) = 1000000000 * c := by rw [IntKind.wrap_i64] <;> omega
      have hwn : IntKind.i64.wrap (-1000000000 * c) = -1000000000 * c := by rw [IntKind.wrap_i64] <;> omega
      clear hcell hr
      generalize hO : (Obj.cells #[Value.int .i64 c, .int .i64 s, .int .i64 lo, .int .i64 hi, .slice (some ⟨b, off, none⟩) 8 cap, .bool fu] 46) = O
      have A := AAt.new w c s lo hi (.slice (some ⟨b, off, none⟩) 8 cap) fu 46
      rw [hO] at A
      obtain ⟨la, a0, a1, a2, a3, a4, a5⟩ := A
      go_enter Tryz.func64, Tryz.ntmps64
      go_wp2_with fail
      refine (l1In_any c 0 1000000000 _).mono ?_
      rintro e w1 ⟨rfl, rfl⟩
      go_wp2
      go_loopw [3, 19] (fun q i wr => ∃ k : Nat, k ≤ 8 ∧ i = .int .i64 k ∧ q = .int .i64 (sumF f k) ∧ Hid (∀ i, i < k → isC (f i) = true) ∧ wr = w.alloc O) (fun _ i _ => 8 - (intOf i).toNat)
      case atStart => exact ⟨0, Nat.zero_le _, rfl, rfl, fun i h => by omega, rfl⟩
      case round =>
        obtain ⟨k, hk, rfl, rfl, HA, rfl⟩ := hrel
        have hsb := sumF_bd (f := f) (k := k) HA.out
        by_cases hlt : k < 8
        · have h1 := hal O k hlt
          clear hal hO
          go_wp2_with fail
          refine (l1In_any (f k) 0 1000000000 _).mono ?_
          rintro e w1 ⟨rfl, rfl⟩
          cases hx : isC (f k)
          · have hx' : btw 0 (f k) 1000000000 = false := hx
            have HX : Hid (isC (f k) = false) := hx
            clear hx
            go_wp2
            exact bodyPost_ret (v := .bool false) (by simp [results, Tryz.results64, go_sem]) rfl (Ans.mk _ (by
              simp only [Bool.false_eq_true, false_iff]
              intro h
              have := h.2.2.1 k hlt
              rw [HX.out] at this
              cases this) (hB _))
          · have hx' : btw 0 (f k) 1000000000 = true := hx
            have HX : Hid (isC (f k) = true) := hx
            have h2 : 0 ≤ f k ∧ f k ≤ 1000000000 := by simpa [isC, btw] using hx
            clear hx
            go_wp2
            go_roundw
            case rel =>
              refine ⟨k + 1, by omega, by go_num, by go_num, ?_, by first | rfl | trivial⟩
              intro i hi
              rcases Nat.lt_succ_iff_lt_or_eq.1 hi with h | rfl
              · exact HA.out i h
              · exact HX.out
            case measure => simp [intOf]; omega
        · have e : k = 8 := by omega
          subst e
          clear hal hO
          by_cases c0 : c = 0
          · subst c0
            by_cases e1 : sumF f 8 = 0
            · have E1 : Hid (sumF f 8 = 0) := e1
              by_cases e2 : lo = 0
              · subst e2
                by_cases e3 : hi = 0
                · subst e3
                  by_cases e4 : s = 0
                  · subst e4
                    go_wp2
                    exact bodyPost_ret (v := .bool (!fu)) (by simp [results, Tryz.results64, go_sem]) rfl (Ans.mk _ (by cases fu <;> simp [GoodA, HC.out, HA.out, E1.out] <;> exact HA.out) (hB _))
                  · have E4 : Hid (¬ s = 0) := e4
                    go_wp2
                    exact bodyPost_ret (v := .bool false) (by simp [results, Tryz.results64, go_sem]) rfl (Ans.mk _ (by have h4 := E4.out; cases fu <;> simp [GoodA] <;> omega) (hB _))
                · have E3 : Hid (¬ hi = 0) := e3
                  go_wp2
                  exact bodyPost_ret (v := .bool false) (by simp [results, Tryz.results64, go_sem]) rfl (Ans.mk _ (by have h3 := E3.out; simp [GoodA, h3]) (hB _))
              · have E2 : Hid (¬ lo = 0) := e2
                go_wp2
                exact bodyPost_ret (v := .bool false) (by simp [results, Tryz.results64, go_sem]) rfl (Ans.mk _ (by have h3 := E2.out; simp [GoodA, h3]) (hB _))
            · have E1 : Hid (¬ sumF f 8 = 0) := e1
              go_wp2
              exact bodyPost_ret (v := .bool false) (by simp [results, Tryz.results64, go_sem]) rfl (Ans.mk _ (by have h3 := E1.out; cases fu <;> simp [GoodA, h3]) (hB _))
          · have C0 : Hid (¬ c = 0) := c0
            cases hl : isV lo
            · have HL : Hid (isV lo = false) := hl
              go_wp2_with fail
              refine (l4Value_any lo _).mono ?_
              rintro e w1 ⟨rfl, rfl⟩
              go_wp2
              exact bodyPost_ret (v := .bool false) (by simp [results, Tryz.results64, go_sem]) rfl (Ans.mk _ (by simp [GoodA, HL.out, C0.out]) (hB _))
            · have HL : Hid (isV lo = true) := hl
              cases hh : isV hi
              · have HH : Hid (isV hi = false) := hh
                go_wp2_with fail
                refine (l4Value_any lo _).mono ?_
                rintro e w1 ⟨rfl, rfl⟩
                go_wp2_with fail
                refine (l4Value_any hi _).mono ?_
                rintro e w1 ⟨rfl, rfl⟩
                go_wp2
                exact bodyPost_ret (v := .bool false) (by simp [results, Tryz.results64, go_sem]) rfl (Ans.mk _ (by simp [GoodA, HH.out, C0.out]) (hB _))
              · have HH : Hid (isV hi = true) := hh
                by_cases hlh : lo ≤ hi
                · have HLH : Hid (lo ≤ hi) := hlh
                  cases fu
                  · by_cases e1 : sumF f 8 = c
                    · have K : Hid (btw (-1000000000 * c) s (1000000000 * c) = true ↔ GoodA c s lo hi 8 f false) := by
                        have hbt : btw (-1000000000 * c) s (1000000000 * c) = true ↔ (-1000000000 * c ≤ s ∧ s ≤ 1000000000 * c) := by simp [btw]
                        unfold Hid
                        rw [hbt]
                        exact ⟨fun h => ⟨HC.out, rfl, HA.out, fun _ => ⟨e1, h⟩, fun h => (by cases h), fun h => absurd h C0.out, fun _ => ⟨HL.out, HH.out, HLH.out⟩⟩, fun h => (h.2.2.2.1 rfl).2⟩
                      go_wp2_with fail
                      refine (l4Value_any lo _).mono ?_
                      rintro e w1 ⟨rfl, rfl⟩
                      go_wp2_with fail
                      refine (l4Value_any hi _).mono ?_
                      rintro e w1 ⟨rfl, rfl⟩
                      go_wp2_with fail
                      refine (l1In_any s (-1000000000 * c) (1000000000 * c) _).mono ?_
                      rintro e w1 ⟨rfl, rfl⟩
                      go_wp2
                      exact bodyPost_ret (v := .bool (btw (-1000000000 * c) s (1000000000 * c))) (by simp [results, Tryz.results64, go_sem]) rfl (Ans.mk _ K.out (hB _))
                    · have E1 : Hid (¬ sumF f 8 = c) := e1
                      go_wp2_with fail
                      refine (l4Value_any lo _).mono ?_
                      rintro e w1 ⟨rfl, rfl⟩
                      go_wp2_with fail
                      refine (l4Value_any hi _).mono ?_
                      rintro e w1 ⟨rfl, rfl⟩
                      go_wp2
                      exact bodyPost_ret (v := .bool false) (by simp [results, Tryz.results64, go_sem]) rfl (Ans.mk _ (by have h3 := E1.out; simp [GoodA, h3]) (hB _))
                  · have K : Hid ((s == 0) = true ↔ GoodA c s lo hi 8 f true) := by
                      have h4 : 0 < c := by omega
                      unfold Hid
                      rw [beq_iff_eq]
                      exact ⟨fun h => ⟨HC.out, rfl, HA.out, fun h => (by cases h), fun _ => ⟨h, h4⟩, fun h => absurd h C0.out, fun _ => ⟨HL.out, HH.out, HLH.out⟩⟩, fun h => (h.2.2.2.2.1 rfl).1⟩
                    go_wp2_with fail
                    refine (l4Value_any lo _).mono ?_
                    rintro e w1 ⟨rfl, rfl⟩
                    go_wp2_with fail
                    refine (l4Value_any hi _).mono ?_
                    rintro e w1 ⟨rfl, rfl⟩
                    go_wp2
                    exact bodyPost_ret (v := .bool (s == 0)) (by simp [results, Tryz.results64, go_sem]) rfl (Ans.mk _ K.out (hB _))
                · have HLH : Hid (¬ lo ≤ hi) := hlh
                  go_wp2_with fail
                  refine (l4Value_any lo _).mono ?_
                  rintro e w1 ⟨rfl, rfl⟩
                  go_wp2_with fail
                  refine (l4Value_any hi _).mono ?_
                  rintro e w1 ⟨rfl, rfl⟩
                  go_wp2
                  exact bodyPost_ret (v := .bool false) (by simp [results, Tryz.results64, go_sem]) rfl (Ans.mk _ (by have h3 := HLH.out; simp [GoodA, C0.out, h3]) (hB _))
    · have H8 : Hid (¬ n = 8) := h8
      have h8' : ((n : Int) == 8) = false := by simp; omega
      go_enter Tryz.func64, Tryz.ntmps64
      go_wp2_with fail
      refine (l1In_any c 0 1000000000 _).mono ?_
      rintro e w1 ⟨rfl, rfl⟩
      go_wp2
      exact bodyPost_ret (v := .bool false) (by simp [results, Tryz.results64, go_sem]) rfl (Ans.mk _ (by have h3 := H8.out; simp [GoodA, h3]) (hB _))
end Go.Proofs.YtfdbhkjmkpgomaaGreat

namespace Go.Proofs.YtfdbhkjmkpgomaaGreat
set_option maxRecDepth 100000
open Go.RowKit
set_option linter.unusedSimpArgs false
set_option linter.unusedVariables false

set_option maxHeartbeats 800000 in
theorem goodAgg_impl (c s lo hi : Int) (ao : Option Addr) (n cap : Nat) (f : Nat → Int) (fu : Bool) (w : World) (hr : IRow w ao n f) (hn : n ≤ 1048576) (hs : -9223372036854775808 ≤ s ∧ s ≤ 9223372036854775807) :
    Calls Tryz.prog 80 #[.agg #[.int .i64 c, .int .i64 s, .int .i64 lo, .int .i64 hi, .slice ao n cap, .bool fu]] w fun e w' => Ans (GoodA c s lo hi n f fu) w e w' := by
  have hB := fun o => below_new w o
  cases hc : isC c
  · go_enter Tryz.func80, Tryz.ntmps80
    go_wp2_with fail
    refine (isCount_any c _).mono ?_
    rintro e w1 ⟨rfl, rfl⟩
    go_wp2
    exact bodyPost_ret (v := .bool false) (by simp [results, Tryz.results80, go_sem]) rfl (Ans.mk _ (by simp [GoodA, hc]) (hB _))
  · have hcb : 0 ≤ c ∧ c ≤ 1000000000 := by simpa [isC, btw] using hc
    go_enter Tryz.func80, Tryz.ntmps80
    go_wp2_with fail
    refine (isCount_any c _).mono ?_
    rintro e w1 ⟨rfl, rfl⟩
    go_wp2_with fail
    refine (goodHist_any ao n cap f _ (hr.keep (hB _)) hn).mono ?_
    rintro e w1 ⟨b1, rfl, h1, q1⟩
    obtain ⟨la, a0, a1, a2, a3, a4, a5⟩ := (AAt.new w c s lo hi (.slice ao n cap) fu 46).keep q1
    have r1 := (hr.keep (hB _)).keep q1
    have B1 : Below w.heap.size w w1 := (hB _).trans (q1.mono (by simp))
    clear q1
    cases b1
    · have H1 : Hid (¬ GoodA c s lo hi n f fu) := fun h => by
        have := h1.2 ⟨h.2.1, h.2.2.1⟩
        cases this
      clear h1
      go_wp2
      exact bodyPost_ret (v := .bool false) (by simp [results, Tryz.results80, go_sem]) rfl (Ans.mk _ (by have := H1.out; simp [this]) B1)
    · obtain ⟨h8, hall⟩ := h1.1 rfl
      subst h8
      have HA : Hid (∀ i, i < 8 → isC (f i) = true) := hall
      clear h1 hall
      cases fu
      · go_wp2_with fail
        refine (goodTotals_not c s lo hi ao cap f _ r1 hcb hs HA.out).mono ?_
        rintro e w2 ⟨b2, rfl, h2, q2⟩
        obtain ⟨la, a0, a1, a2, a3, a4, a5⟩ := AAt.keep ⟨la, a0, a1, a2, a3, a4, a5⟩ q2
        have B2 : Below w.heap.size w w2 := B1.trans (q2.mono B1.size)
        clear q2
        cases b2
        · have L2 : Hid (¬ GoodA c s lo hi 8 f false) := fun h => by
            have := h2.2 (h.2.2.2.1 rfl)
            cases this
          clear h2
          go_wp2
          exact bodyPost_ret (v := .bool false) (by simp [results, Tryz.results80, go_sem]) rfl (Ans.mk _ (by have := L2.out; simp [this]) B2)
        · have H2 : Hid (sumF f 8 = c ∧ -1000000000 * c ≤ s ∧ s ≤ 1000000000 * c) := h2.1 rfl
          clear h2
          go_wp2_with fail
          refine (goodBounds_any c s lo hi _ false _).mono ?_
          rintro e w3 ⟨b3, rfl, h3, q3⟩
          have B3 : Below w.heap.size w w3 := B2.trans (q3.mono B2.size)
          clear q3
          have H3 : Hid (b3 = true ↔ GoodA c s lo hi 8 f false) :=
            ⟨fun h => ⟨hc, rfl, HA.out, fun _ => H2.out, fun h => (by cases h), (h3.1 h).1, (h3.1 h).2⟩, fun h => h3.2 ⟨h.2.2.2.2.2.1, h.2.2.2.2.2.2⟩⟩
          clear h3
          go_wp2
          exact bodyPost_ret (v := .bool b3) (by simp [results, Tryz.results80, go_sem]) rfl (Ans.mk _ H3.out B3)
      · go_wp2_with fail
        refine (goodTotals_full c s lo hi _ _).mono ?_
        rintro e w2 ⟨b2, rfl, h2, q2⟩
        obtain ⟨la, a0, a1, a2, a3, a4, a5⟩ := AAt.keep ⟨la, a0, a1, a2, a3, a4, a5⟩ q2
        have B2 : Below w.heap.size w w2 := B1.trans (q2.mono B1.size)
        clear q2
        cases b2
        · have L2 : Hid (¬ GoodA c s lo hi 8 f true) := fun h => by
            have := h2.2 (h.2.2.2.2.1 rfl)
            cases this
          clear h2
          go_wp2
          exact bodyPost_ret (v := .bool false) (by simp [results, Tryz.results80, go_sem]) rfl (Ans.mk _ (by have := L2.out; simp [this]) B2)
        · have H2 : Hid (s = 0 ∧ 0 < c) := h2.1 rfl
          clear h2
          go_wp2_with fail
          refine (goodBounds_any c s lo hi _ true _).mono ?_
          rintro e w3 ⟨b3, rfl, h3, q3⟩
          have B3 : Below w.heap.size w w3 := B2.trans (q3.mono B2.size)
          clear q3
          have H3 : Hid (b3 = true ↔ GoodA c s lo hi 8 f true) :=
            ⟨fun h => ⟨hc, rfl, HA.out, fun h => (by cases h), fun _ => H2.out, (h3.1 h).1, (h3.1 h).2⟩, fun h => h3.2 ⟨h.2.2.2.2.2.1, h.2.2.2.2.2.2⟩⟩
          clear h3
          go_wp2
          exact bodyPost_ret (v := .bool b3) (by simp [results, Tryz.results80, go_sem]) rfl (Ans.mk _ H3.out B3)
end Go.Proofs.YtfdbhkjmkpgomaaGreat

namespace Go.Proofs.YtfdbhkjmkpgomaaGreat
set_option maxRecDepth 100000
open Go.RowKit
set_option linter.unusedSimpArgs false
set_option linter.unusedVariables false

/-- An agg that is zero. -/
def ZeroA (c s lo hi : Int) (n : Nat) (fu : Bool) : Prop := c = 0 ∧ s = 0 ∧ lo = 0 ∧ hi = 0 ∧ n = 0 ∧ fu = false
/-- An agg that fits its entry's kind. -/
def FitK (kind : Int) (c s lo hi : Int) (n : Nat) (f : Nat → Int) (fu : Bool) : Prop :=
  (kind = 1 ∨ kind = 3) ∧ GoodA c s lo hi n f fu ∨ kind = 2 ∧ ZeroA c s lo hi n fu
/-- A key's text. -/
def KeyOk (k : ByteArray) : Prop := 1 ≤ (k.size : Int) ∧ (k.size : Int) ≤ 140
/-- A good entry, in the document's words. -/
def GoodE (x : Ent) : Prop := KeyOk x.key ∧ (1 ≤ x.seq ∧ x.seq ≤ 1000000000) ∧ FitK x.kind x.c x.s x.lo x.hi x.n x.f x.fu

/-- An answer that says whether p; nothing is changed. -/
def AnsW (p : Prop) (w : World) (e : Ending) (w' : World) : Prop := ∃ b : Bool, e = .returned (.bool b) ∧ (b = true ↔ p) ∧ w' = w

theorem isKeyText_any (k : ByteArray) (w : World) :
    Calls Tryz.prog 70 #[.string k] w fun e w' => AnsW (KeyOk k) w e w' := by
  by_cases h1 : 1 ≤ (k.size : Int)
  · go_enter Tryz.func70, Tryz.ntmps70
    go_wp2
    refine bodyPost_ret (v := .bool (decide ((k.size : Int) ≤ 140))) (by simp [results, Tryz.results70, go_sem]) rfl ⟨_, rfl, ?_, rfl⟩
    simp [KeyOk]
    omega
  · have hd : decide (1 ≤ (k.size : Int)) = false := by simpa using h1
    have H1 : Hid (¬ 1 ≤ (k.size : Int)) := h1
    clear h1
    go_enter Tryz.func70, Tryz.ntmps70
    go_wp2
    refine bodyPost_ret (v := .bool false) (by simp [results, Tryz.results70, go_sem]) rfl ⟨_, rfl, ?_, rfl⟩
    have := H1.out
    simp [KeyOk]
    omega

set_option maxHeartbeats 1600000 in
theorem isBare_any (c s lo hi : Int) (ao : Option Addr) (n cap : Nat) (fu : Bool) (w : World) :
    Calls Tryz.prog 81 #[.agg #[.int .i64 c, .int .i64 s, .int .i64 lo, .int .i64 hi, .slice ao n cap, .bool fu]] w fun e w' => Ans (ZeroA c s lo hi n fu) w e w' := by
  have hB := fun o => below_new w o
  by_cases hc : c = 0
  rotate_left
  · have H : Hid (¬ c = 0) := hc
    go_enter Tryz.func81, Tryz.ntmps81
    go_wp2
    refine bodyPost_ret (v := .bool false) (by simp [results, Tryz.results81, go_sem]) rfl (Ans.mk _ ?_ (hB _))
    have := H.out
    simp only [ZeroA, Bool.false_eq_true, false_iff]
    omega
  subst hc
  by_cases hs : s = 0
  rotate_left
  · have H : Hid (¬ s = 0) := hs
    go_enter Tryz.func81, Tryz.ntmps81
    go_wp2
    refine bodyPost_ret (v := .bool false) (by simp [results, Tryz.results81, go_sem]) rfl (Ans.mk _ ?_ (hB _))
    have := H.out
    simp only [ZeroA, Bool.false_eq_true, false_iff]
    omega
  subst hs
  by_cases hlo : lo = 0
  rotate_left
  · have H : Hid (¬ lo = 0) := hlo
    go_enter Tryz.func81, Tryz.ntmps81
    go_wp2
    refine bodyPost_ret (v := .bool false) (by simp [results, Tryz.results81, go_sem]) rfl (Ans.mk _ ?_ (hB _))
    have := H.out
    simp only [ZeroA, Bool.false_eq_true, false_iff]
    omega
  subst hlo
  by_cases hhi : hi = 0
  rotate_left
  · have H : Hid (¬ hi = 0) := hhi
    go_enter Tryz.func81, Tryz.ntmps81
    go_wp2
    refine bodyPost_ret (v := .bool false) (by simp [results, Tryz.results81, go_sem]) rfl (Ans.mk _ ?_ (hB _))
    have := H.out
    simp only [ZeroA, Bool.false_eq_true, false_iff]
    omega
  subst hhi
  by_cases hn : (n : Int) = 0
  rotate_left
  · have H : Hid (¬ (n : Int) = 0) := hn
    go_enter Tryz.func81, Tryz.ntmps81
    go_wp2
    refine bodyPost_ret (v := .bool false) (by simp [results, Tryz.results81, go_sem]) rfl (Ans.mk _ ?_ (hB _))
    have := H.out
    simp only [ZeroA, Bool.false_eq_true, false_iff]
    omega
  obtain rfl : n = 0 := by omega
  clear hn
  cases fu
  all_goals
    go_enter Tryz.func81, Tryz.ntmps81
    go_wp2
  · exact bodyPost_ret (v := .bool true) (by simp [results, Tryz.results81, go_sem]) rfl (Ans.mk _ (by simp [ZeroA]) (hB _))
  · exact bodyPost_ret (v := .bool false) (by simp [results, Tryz.results81, go_sem]) rfl (Ans.mk _ (by simp [ZeroA]) (hB _))

set_option maxHeartbeats 1600000 in
theorem l5Zero_any (c s lo hi : Int) (ao : Option Addr) (n cap : Nat) (fu : Bool) (w : World) :
    Calls Tryz.prog 65 #[.agg #[.int .i64 c, .int .i64 s, .int .i64 lo, .int .i64 hi, .slice ao n cap, .bool fu]] w fun e w' => Ans (ZeroA c s lo hi n fu) w e w' := by
  have hB := fun o => below_new w o
  by_cases hc : c = 0
  rotate_left
  · have H : Hid (¬ c = 0) := hc
    go_enter Tryz.func65, Tryz.ntmps65
    go_wp2
    refine bodyPost_ret (v := .bool false) (by simp [results, Tryz.results65, go_sem]) rfl (Ans.mk _ ?_ (hB _))
    have := H.out
    simp only [ZeroA, Bool.false_eq_true, false_iff]
    omega
  subst hc
  by_cases hs : s = 0
  rotate_left
  · have H : Hid (¬ s = 0) := hs
    go_enter Tryz.func65, Tryz.ntmps65
    go_wp2
    refine bodyPost_ret (v := .bool false) (by simp [results, Tryz.results65, go_sem]) rfl (Ans.mk _ ?_ (hB _))
    have := H.out
    simp only [ZeroA, Bool.false_eq_true, false_iff]
    omega
  subst hs
  by_cases hlo : lo = 0
  rotate_left
  · have H : Hid (¬ lo = 0) := hlo
    go_enter Tryz.func65, Tryz.ntmps65
    go_wp2
    refine bodyPost_ret (v := .bool false) (by simp [results, Tryz.results65, go_sem]) rfl (Ans.mk _ ?_ (hB _))
    have := H.out
    simp only [ZeroA, Bool.false_eq_true, false_iff]
    omega
  subst hlo
  by_cases hhi : hi = 0
  rotate_left
  · have H : Hid (¬ hi = 0) := hhi
    go_enter Tryz.func65, Tryz.ntmps65
    go_wp2
    refine bodyPost_ret (v := .bool false) (by simp [results, Tryz.results65, go_sem]) rfl (Ans.mk _ ?_ (hB _))
    have := H.out
    simp only [ZeroA, Bool.false_eq_true, false_iff]
    omega
  subst hhi
  by_cases hn : (n : Int) = 0
  rotate_left
  · have H : Hid (¬ (n : Int) = 0) := hn
    go_enter Tryz.func65, Tryz.ntmps65
    go_wp2
    refine bodyPost_ret (v := .bool false) (by simp [results, Tryz.results65, go_sem]) rfl (Ans.mk _ ?_ (hB _))
    have := H.out
    simp only [ZeroA, Bool.false_eq_true, false_iff]
    omega
  obtain rfl : n = 0 := by omega
  clear hn
  cases fu
  all_goals
    go_enter Tryz.func65, Tryz.ntmps65
    go_wp2
  · exact bodyPost_ret (v := .bool true) (by simp [results, Tryz.results65, go_sem]) rfl (Ans.mk _ (by simp [ZeroA]) (hB _))
  · exact bodyPost_ret (v := .bool false) (by simp [results, Tryz.results65, go_sem]) rfl (Ans.mk _ (by simp [ZeroA]) (hB _))

set_option maxHeartbeats 1600000 in
theorem fitsKind_any (kind c s lo hi : Int) (ao : Option Addr) (n cap : Nat) (f : Nat → Int) (fu : Bool) (w : World) (hr : IRow w ao n f) (hn : n ≤ 1048576) (hs : -9223372036854775808 ≤ s ∧ s ≤ 9223372036854775807) :
    Calls Tryz.prog 71 #[.int .i64 kind, .agg #[.int .i64 c, .int .i64 s, .int .i64 lo, .int .i64 hi, .slice ao n cap, .bool fu]] w fun e w' => Ans (FitK kind c s lo hi n f fu) w e w' := by
  have hB := fun o => below_new w o
  by_cases k1 : kind = 1
  · subst k1
    go_enter Tryz.func71, Tryz.ntmps71
    go_wp2_with fail
    refine (goodAgg_impl c s lo hi ao n cap f fu _ (hr.keep (hB _)) hn hs).mono ?_
    rintro e w1 ⟨b1, rfl, h1, q1⟩
    have bw : Below w.heap.size w w1 := (hB _).trans (q1.mono (by simp))
    have HH : Hid (b1 = true ↔ FitK 1 c s lo hi n f fu) := by simpa [FitK, Hid] using h1
    clear h1 q1
    go_wp2
    exact bodyPost_ret (v := .bool b1) (by simp [results, Tryz.results71, go_sem]) rfl (Ans.mk _ HH.out bw)
  by_cases k3 : kind = 3
  · subst k3
    go_enter Tryz.func71, Tryz.ntmps71
    go_wp2_with fail
    refine (goodAgg_impl c s lo hi ao n cap f fu _ (hr.keep (hB _)) hn hs).mono ?_
    rintro e w1 ⟨b1, rfl, h1, q1⟩
    have bw : Below w.heap.size w w1 := (hB _).trans (q1.mono (by simp))
    have HH : Hid (b1 = true ↔ FitK 3 c s lo hi n f fu) := by simpa [FitK, Hid] using h1
    clear h1 q1
    go_wp2
    exact bodyPost_ret (v := .bool b1) (by simp [results, Tryz.results71, go_sem]) rfl (Ans.mk _ HH.out bw)
  by_cases k2 : kind = 2
  · subst k2
    go_enter Tryz.func71, Tryz.ntmps71
    go_wp2_with fail
    refine (isBare_any c s lo hi ao n cap fu _).mono ?_
    rintro e w1 ⟨b1, rfl, h1, q1⟩
    have bw : Below w.heap.size w w1 := (hB _).trans (q1.mono (by simp))
    have HH : Hid (b1 = true ↔ FitK 2 c s lo hi n f fu) := by simpa [FitK, Hid] using h1
    clear h1 q1
    go_wp2
    exact bodyPost_ret (v := .bool b1) (by simp [results, Tryz.results71, go_sem]) rfl (Ans.mk _ HH.out bw)
  have H : Hid (¬ FitK kind c s lo hi n f fu) := by simp [Hid, FitK, k1, k2, k3]
  go_enter Tryz.func71, Tryz.ntmps71
  go_wp2
  exact bodyPost_ret (v := .bool false) (by simp [results, Tryz.results71, go_sem]) rfl (Ans.mk _ (by have := H.out; simp [this]) (hB _))

set_option maxHeartbeats 1600000 in
theorem goodEntry_impl (x : Ent) (ao : Option Addr) (cap : Nat) (w : World) (hr : IRow w ao x.n x.f) (hn : x.n ≤ 1048576) (hs : -9223372036854775808 ≤ x.s ∧ x.s ≤ 9223372036854775807) :
    Calls Tryz.prog 50 #[.agg #[.string x.key, .int .i64 x.seq, .int .i64 x.kind, .int .i64 x.c, .int .i64 x.s, .int .i64 x.lo, .int .i64 x.hi, .slice ao x.n cap, .bool x.fu]] w fun e w' => Ans (GoodE x) w e w' := by
  have hB := fun o => below_new w o
  by_cases hk : KeyOk x.key
  rotate_left
  · have H : Hid (¬ GoodE x) := fun h => hk h.1
    go_enter Tryz.func50, Tryz.ntmps50
    go_wp2_with fail
    refine (isKeyText_any x.key _).mono ?_
    rintro e w1 ⟨b1, rfl, h1, rfl⟩
    obtain rfl : b1 = false := by cases b1 with | false => rfl | true => exact absurd (h1.1 rfl) hk
    clear h1 hk
    go_wp2
    exact bodyPost_ret (v := .bool false) (by simp [results, Tryz.results50, go_sem]) rfl (Ans.mk _ (by have := H.out; simp [this]) (hB _))
  by_cases h1 : 1 ≤ x.seq
  rotate_left
  · have H : Hid (¬ GoodE x) := fun h => h1 h.2.1.1
    have hd : decide (1 ≤ x.seq) = false := by simpa using h1
    go_enter Tryz.func50, Tryz.ntmps50
    go_wp2_with fail
    refine (isKeyText_any x.key _).mono ?_
    rintro e w1 ⟨b1, rfl, h1, rfl⟩
    obtain rfl := h1.2 hk
    clear h1 hk
    go_wp2
    exact bodyPost_ret (v := .bool false) (by simp [results, Tryz.results50, go_sem]) rfl (Ans.mk _ (by have := H.out; simp [this]) (hB _))
  by_cases h2 : x.seq ≤ 1000000000
  rotate_left
  · have H : Hid (¬ GoodE x) := fun h => h2 h.2.1.2
    have hd : decide (x.seq ≤ 1000000000) = false := by simpa using h2
    go_enter Tryz.func50, Tryz.ntmps50
    go_wp2_with fail
    refine (isKeyText_any x.key _).mono ?_
    rintro e w1 ⟨b1, rfl, h1, rfl⟩
    obtain rfl := h1.2 hk
    clear h1 hk
    go_wp2
    exact bodyPost_ret (v := .bool false) (by simp [results, Tryz.results50, go_sem]) rfl (Ans.mk _ (by have := H.out; simp [this]) (hB _))
  have H2 : Hid (KeyOk x.key ∧ 1 ≤ x.seq ∧ x.seq ≤ 1000000000) := ⟨hk, h1, h2⟩
  go_enter Tryz.func50, Tryz.ntmps50
  go_wp2_with fail
  refine (isKeyText_any x.key _).mono ?_
  rintro e w1 ⟨b1, rfl, h3, rfl⟩
  obtain rfl := h3.2 hk
  clear h3 hk
  go_wp2_with fail
  refine (fitsKind_any _ _ _ _ _ ao _ cap x.f _ _ (hr.keep (hB _)) hn hs).mono ?_
  rintro e w1 ⟨b1, rfl, h3, q1⟩
  have bw : Below w.heap.size w w1 := (hB _).trans (q1.mono (by simp))
  have HH : Hid (b1 = true ↔ GoodE x) := ⟨fun h => ⟨H2.out.1, H2.out.2, h3.1 h⟩, fun h => h3.2 h.2.2⟩
  clear h3 q1 H2
  go_wp2
  exact bodyPost_ret (v := .bool b1) (by simp [results, Tryz.results50, go_sem]) rfl (Ans.mk _ HH.out bw)

theorem btw_iff {lo n hi : Int} : btw lo n hi = true ↔ lo ≤ n ∧ n ≤ hi := by simp [btw]
set_option maxHeartbeats 1600000 in
theorem goodEntry_spec (x : Ent) (ao : Option Addr) (cap : Nat) (w : World) (hr : IRow w ao x.n x.f) (hn : x.n ≤ 1048576) (hs : -9223372036854775808 ≤ x.s ∧ x.s ≤ 9223372036854775807) :
    Calls Tryz.prog 45 #[.agg #[.string x.key, .int .i64 x.seq, .int .i64 x.kind, .int .i64 x.c, .int .i64 x.s, .int .i64 x.lo, .int .i64 x.hi, .slice ao x.n cap, .bool x.fu]] w fun e w' => Ans (GoodE x) w e w' := by
  have hB := fun o => below_new w o
  cases hk : btw 1 (x.key.size : Int) 140
  · have H : Hid (¬ GoodE x) := fun h => by have := btw_iff.2 h.1; rw [hk] at this; cases this
    go_enter Tryz.func45, Tryz.ntmps45
    go_wp2_with fail
    refine (l1In_any _ 1 140 _).mono ?_
    rintro e w1 ⟨rfl, rfl⟩
    go_wp2
    exact bodyPost_ret (v := .bool false) (by simp [results, Tryz.results45, go_sem]) rfl (Ans.mk _ (by have := H.out; simp [this]) (hB _))
  cases hq : btw 1 x.seq 1000000000
  · have H : Hid (¬ GoodE x) := fun h => by have := btw_iff.2 h.2.1; rw [hq] at this; cases this
    go_enter Tryz.func45, Tryz.ntmps45
    go_wp2_with fail
    refine (l1In_any _ 1 140 _).mono ?_
    rintro e w1 ⟨rfl, rfl⟩
    go_wp2_with fail
    refine (l1In_any _ 1 1000000000 _).mono ?_
    rintro e w1 ⟨rfl, rfl⟩
    go_wp2
    exact bodyPost_ret (v := .bool false) (by simp [results, Tryz.results45, go_sem]) rfl (Ans.mk _ (by have := H.out; simp [this]) (hB _))
  have H2 : Hid (KeyOk x.key ∧ 1 ≤ x.seq ∧ x.seq ≤ 1000000000) := ⟨btw_iff.1 hk, btw_iff.1 hq⟩
  obtain ⟨key, seq, kind, c, s, lo, hi, n, f, fu⟩ := x
  dsimp only at *
  by_cases k1 : kind = 1
  · subst k1
    go_enter Tryz.func45, Tryz.ntmps45
    go_wp2_with fail
    refine (l1In_any _ 1 140 _).mono ?_
    rintro e w1 ⟨rfl, rfl⟩
    go_wp2_with fail
    refine (l1In_any _ 1 1000000000 _).mono ?_
    rintro e w1 ⟨rfl, rfl⟩
    go_wp2_with fail
    refine (goodAgg_spec c s lo hi ao n cap f fu _ (hr.keep (hB _)) hn hs).mono ?_
    rintro e w1 ⟨b1, rfl, h1, q1⟩
    have bw : Below w.heap.size w w1 := (hB _).trans (q1.mono (by simp))
    have HH : Hid (b1 = true ↔ GoodE ⟨key, seq, 1, c, s, lo, hi, n, f, fu⟩) := by
      have := H2.out
      simp only [Hid, GoodE]
      rw [h1]
      simp [FitK, this]
    clear h1 q1 H2
    go_wp2
    exact bodyPost_ret (v := .bool b1) (by simp [results, Tryz.results45, go_sem]) rfl (Ans.mk _ HH.out bw)
  by_cases k3 : kind = 3
  · subst k3
    go_enter Tryz.func45, Tryz.ntmps45
    go_wp2_with fail
    refine (l1In_any _ 1 140 _).mono ?_
    rintro e w1 ⟨rfl, rfl⟩
    go_wp2_with fail
    refine (l1In_any _ 1 1000000000 _).mono ?_
    rintro e w1 ⟨rfl, rfl⟩
    go_wp2_with fail
    refine (goodAgg_spec c s lo hi ao n cap f fu _ (hr.keep (hB _)) hn hs).mono ?_
    rintro e w1 ⟨b1, rfl, h1, q1⟩
    have bw : Below w.heap.size w w1 := (hB _).trans (q1.mono (by simp))
    have HH : Hid (b1 = true ↔ GoodE ⟨key, seq, 3, c, s, lo, hi, n, f, fu⟩) := by
      have := H2.out
      simp only [Hid, GoodE]
      rw [h1]
      simp [FitK, this]
    clear h1 q1 H2
    go_wp2
    exact bodyPost_ret (v := .bool b1) (by simp [results, Tryz.results45, go_sem]) rfl (Ans.mk _ HH.out bw)
  by_cases k2 : kind = 2
  · subst k2
    go_enter Tryz.func45, Tryz.ntmps45
    go_wp2_with fail
    refine (l1In_any _ 1 140 _).mono ?_
    rintro e w1 ⟨rfl, rfl⟩
    go_wp2_with fail
    refine (l1In_any _ 1 1000000000 _).mono ?_
    rintro e w1 ⟨rfl, rfl⟩
    go_wp2_with fail
    refine (l5Zero_any c s lo hi ao n cap fu _).mono ?_
    rintro e w1 ⟨b1, rfl, h1, q1⟩
    have bw : Below w.heap.size w w1 := (hB _).trans (q1.mono (by simp))
    have HH : Hid (b1 = true ↔ GoodE ⟨key, seq, 2, c, s, lo, hi, n, f, fu⟩) := by
      have := H2.out
      simp only [Hid, GoodE]
      rw [h1]
      simp [FitK, this]
    clear h1 q1 H2
    go_wp2
    exact bodyPost_ret (v := .bool b1) (by simp [results, Tryz.results45, go_sem]) rfl (Ans.mk _ HH.out bw)
  have H : Hid (¬ GoodE ⟨key, seq, kind, c, s, lo, hi, n, f, fu⟩) := by simp [Hid, GoodE, FitK, k1, k2, k3]
  clear H2
  go_enter Tryz.func45, Tryz.ntmps45
  go_wp2_with fail
  refine (l1In_any _ 1 140 _).mono ?_
  rintro e w1 ⟨rfl, rfl⟩
  go_wp2_with fail
  refine (l1In_any _ 1 1000000000 _).mono ?_
  rintro e w1 ⟨rfl, rfl⟩
  go_wp2
  exact bodyPost_ret (v := .bool false) (by simp [results, Tryz.results45, go_sem]) rfl (Ans.mk _ (by have := H.out; simp [this]) (hB _))
end Go.Proofs.YtfdbhkjmkpgomaaGreat
