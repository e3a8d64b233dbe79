/- Rows of entries, drawn. -/
import Derived.Test.YtmeckcaekkangaaGreatDh
import Derived.Deep.CutBlock
import Derived.Deep.DeepCutAuto
namespace Go.Proofs.YtmeckcaekkangaaGreat
set_option maxRecDepth 100000
open Go.RowKit
set_option linter.unusedSimpArgs false
set_option linter.unusedVariables false
section
variable {w : World} {CB : Nat} {ao : Option Addr} {n cap : Nat} {f : Nat → Int} {A : Nat}
/-- Drawn rows. -/
def RwO (w : World) (CB : Nat) (ao : Option Addr) (n cap : Nat) (f : Nat → Int) (A : Nat) (e : Ending) (w' : World) : Prop :=
  ∃ rv N R, e = .returned rv ∧ N ≤ 16 ∧ (∀ i, i < N → (R i).m ≤ 6) ∧ RL w' w.heap.size rv N R ∧ CS w w' CB ao n cap f (A + 1000)

set_option maxRecDepth 100000 in
set_option maxHeartbeats 8000000 in
theorem rows_any (h : CS w w CB ao n cap f A) (hA : A ≤ 1000) :
    Calls Tryz.prog 11 #[.pointer (some ⟨CB, 0, none⟩)] w fun e w' => RwO w CB ao n cap f A e w' := by
  have hcb := h.lt
  go_enter Tryz.func11, Tryz.ntmps11
  go_wp2_with fail
  refine (pick_s 5 (by omega) h (by omega)).mono ?_
  rintro e w1 ⟨x, rfl, x0, x1, K1⟩
  obtain ⟨q, rfl⟩ := Int.eq_ofNat_of_zero_le x0
  have hq : q < 5 := by omega
  clear x0 x1
  go_upto_block 0 with fail
  go_cut [3] from 11 to 35 (fun s3 wx => ∃ N R, N ≤ 4 ∧ (∀ i, i < N → (R i).m ≤ 6) ∧ RL wx w.heap.size s3 N R ∧ CS w wx CB ao n cap f (A + 800))
  case first =>
    go_wp2_with fail
    go_loopw [3, 4, 5] (fun s3 s4 s5 wr => ∃ (k N sq : Nat) (R : Nat → Rw1), s5 = .int .i64 k ∧ s4 = .int .i64 (sq : Int) ∧ N + k = q ∧ 1 ≤ sq ∧ sq ≤ 1 + 6 * N ∧ (∀ i, i < N → (R i).m ≤ 6) ∧ RL wr w.heap.size s3 N R ∧ CS w wr CB ao n cap f (A + 1 + N * 190)) (fun _ _ s5 _ => (intOf s5).toNat)
    case atStart => exact ⟨q, 0, 1, fun _ => nilR, rfl, rfl, by omega, by omega, by omega, fun i hi => by omega, rl_nil _ _ _, K1.mono (by omega)⟩
    case round =>
      obtain ⟨k, N, sq, R, rfl, rfl, hNk, hs1, hs2, hR6, hRL, hC⟩ := hrel
      by_cases hk : 0 < k
      · obtain ⟨ro, rc, rfl⟩ := hRL.form
        go_wp2_with fail
        refine (pick_s 7 (by omega) hC.self (by omega)).mono ?_
        rintro e w2 ⟨y, rfl, y0, y1, K2⟩
        obtain ⟨q2, rfl⟩ := Int.eq_ofNat_of_zero_le y0
        have hq2 : q2 < 7 := by omega
        have hRL2 := hRL.draw K2.gr hcb
        have hC2 := hC.trans K2
        have hws := hC2.gr.size
        have hlN := hRL2.own.lt
        generalize hA2 : A + 1 + N * 190 + 1 = A2 at *
        clear y0 y1 hRL hC K2
        go_upto_block 2 with fail
        go_cut [4, 6] from 17 to 31 (fun s4 s6 wx => ∃ (sq' mm : Nat) (X : Nat → Ent) (V : Nat → Value), s4 = .int .i64 (sq' : Int) ∧ 1 ≤ sq' ∧ sq' ≤ sq + 6 ∧ mm ≤ 6 ∧ GL wx w2.heap.size s6 mm X V ∧ CS w2 wx CB ao n cap f (A2 + 187))
        case first =>
          go_wp2_with fail
          go_loopw [4, 6, 7] (fun s4 s6 s7 wi => ∃ (j mm sq' : Nat) (X : Nat → Ent) (V : Nat → Value), s7 = .int .i64 j ∧ s4 = .int .i64 (sq' : Int) ∧ j ≤ q2 ∧ mm + j ≤ q2 ∧ 1 ≤ sq' ∧ sq' + j ≤ sq + q2 ∧ GL wi w2.heap.size s6 mm X V ∧ CS w2 wi CB ao n cap f (A2 + (q2 - j) * 31)) (fun _ _ s7 _ => (intOf s7).toNat)
          case atStart => exact ⟨q2, 0, sq, fun _ => dE, fun _ => .slice none 0 0, rfl, rfl, by omega, by omega, by omega, by omega, gl_nil _ _ _ _, hC2.self.mono (by omega)⟩
          case round =>
            obtain ⟨j, mm, sq', X, V, rfl, rfl, hj, hmm, hq1, hq3, hGL, hK⟩ := hrel
            by_cases hj0 : 0 < j
            · obtain ⟨vo, vc, rfl, _⟩ := hGL.erow
              go_wp2_with fail
              refine (entry_any hK.self (by omega)).mono ?_
              rintro e w3 ⟨x, xo, xc, rfl, hH, hSm, K3⟩
              have hcb2 := hC2.ltw
              have hGL3 := hGL.kept K3.gr (hGL.below (by omega))
              have hK3 := hK.trans K3
              have z3 := hK3.gr.size
              have zi := hK.gr.size
              have hH2 := hH.mono zi
              have hwq : IntKind.i64.wrap ((sq' : Int) + 1) = ((sq' + 1 : Nat) : Int) := by rw [IntKind.wrap_i64] <;> omega
              clear hGL K3 hK hH
              have hbx := below_new w3 (.cells #[.string x.key, .int .i64 (sq' : Int), .int .i64 x.kind, .int .i64 x.c, .int .i64 x.s, .int .i64 x.lo, .int .i64 x.hi, .slice xo x.n xc, .bool x.fu] 48)
              have hEX := EAt.new w3 { x with seq := (sq' : Int) } xo xc 48
              have hSm' : SmD { x with seq := (sq' : Int) } := ⟨⟨by show (-9223372036854775808 : Int) ≤ (sq' : Int) ∧ (sq' : Int) ≤ 9223372036854775807; omega, hSm.1.s, hSm.1.key, hSm.1.n⟩, hSm.2⟩
              have hGL4 := hGL3.keep hbx
              have hK4 := hK3.keep hbx
              have hH4 := hH2.keep hbx
              have z4 := hbx.size
              clear hGL3 hK3 hH2
              go_wp2_with fail
              generalize w3.alloc (.cells #[.string x.key, .int .i64 (sq' : Int), .int .i64 x.kind, .int .i64 x.c, .int .i64 x.s, .int .i64 x.lo, .int .i64 x.hi, .slice xo x.n xc, .bool x.fu] 48) = w4 at *
              refine (goodEntry_spec { x with seq := (sq' : Int) } xo xc w4 hH4.row (by have := hSm.2.2; show x.n ≤ _; omega) hSm.1.s).mono ?_
              rintro e w5 ⟨b5, rfl, _, hb5⟩
              have hGL5 := hGL4.keep hb5
              have hK5 := hK4.keep hb5
              have hH5 := hH4.keep hb5
              have z5 := hb5.size
              have hEX5 := hEX.keep hb5
              obtain ⟨_, e0, e1, e2, e3, e4, e5, e6, e7, e8⟩ := hEX5.z
              clear hGL4 hK4 hH4 hEX hbx hb5
              cases b5
              · go_wp2
                go_roundw
                case rel => exact ⟨j - 1, mm, sq' + 1, X, V, by go_num, by go_num, by omega, by omega, by omega, by omega, hGL5, hK5.mono (by omega)⟩
                case measure => simp [intOf]; omega
              · go_wp2_with fail
                refine (hGL5.put { x with seq := (sq' : Int) } xo xc hH5 hSm' (by omega) (by omega)).mono ?_
                rintro e w6 ⟨v6, X6, V6, rfl, hGL6, hb6, _⟩
                have hK6 := hK5.keep hb6
                clear e0 e1 e2 e3 e4 e5 e6 e7 e8
                go_wp2
                go_roundw
                case rel => exact ⟨j - 1, mm + 1, sq' + 1, X6, V6, by go_num, by go_num, by omega, by omega, by omega, by omega, hGL6, hK6.mono (by omega)⟩
                case measure => simp [intOf]; omega
            · obtain rfl : j = 0 := by omega
              go_wp2
              go_meet
              exact ⟨sq', mm, X, V, rfl, by omega, by omega, by omega, hGL, hK.mono (by omega)⟩
        case rest =>
          obtain ⟨sq', mm, X, V, rfl, h1, h2, hmm, hGL, hK⟩ := hcut
          have hK2 := hC2.trans hK
          have zc := hK.gr.size
          have hRL3 := hRL2.draw hK.gr hcb
          have hoff : Off u6 mm X V (Value.slice ro N rc).ownBlock := by
            cases hb : (Value.slice ro N rc).ownBlock with
            | none => exact off_none
            | some g => exact hGL.below (hlN g hb).2
          have hGLm := hGL.mono hws
          obtain ⟨vo, vc, rfl, _⟩ := hGL.erow
          obtain ⟨rv', w7, hrun, hRL7, hg7⟩ := hRL3.push ⟨.slice vo mm vc, mm, X, V⟩ hGLm hoff (by omega) (by omega) 23
          have hK3 := hK2.keep (below_new wc (.cells #[.slice vo mm vc] 26))
          have hK7 := hK3.far hg7 (fun g e => (hRL3.own.lt g e).1)
          have hR7 : ∀ i, i < N + 1 → ((fun i => if i = N then (⟨.slice vo mm vc, mm, X, V⟩ : Rw1) else R i) i).m ≤ 6 := fun i hi => by
            by_cases e : i = N
            · simp only [e, if_true]; exact hmm
            · simp only [e, if_false]; exact hR6 i (by omega)
          clear hRL3 hK3 hK2 hK hGL hGLm hoff hC2 hRL2
          go_wp2_with (at_builtin; refine wpList_append_eq _ rfl (.tmp 32) (.tmp 34) 23 23 rfl rfl (.slice ro N rc) (.slice (some ⟨wc.heap.size, 0, none⟩) 1 1) rv' rfl rfl w7 hrun ?_)
          go_roundw
          case rel => exact ⟨k - 1, N + 1, sq', _, by go_num, rfl, by omega, by omega, by omega, hR7, hRL7, hK7.mono (by omega)⟩
          case measure => simp [intOf]; omega
      · obtain rfl : k = 0 := by omega
        go_wp2
        go_meet
        exact ⟨N, R, by omega, hR6, hRL, hC.mono (by omega)⟩
  case rest =>
    obtain ⟨N, R, hN4, hR6, hRL, hC⟩ := hcut
    obtain ⟨ro, rc, rfl⟩ := hRL.form
    clear K1
    go_wp2_with fail
    refine (pick_s 40 (by omega) hC.self (by omega)).mono ?_
    rintro e w2 ⟨z, rfl, z0, z1, K2⟩
    have hRL2 := hRL.draw K2.gr hcb
    have hC2 := hC.trans K2
    have hws := hC2.gr.size
    clear hRL hC K2
    by_cases e0 : z = 0
    · subst e0
      go_wp2_with fail
      refine (entry_any hC2.self (by omega)).mono ?_
      rintro e w3 ⟨x, xo, xc, rfl, hH, hSm, K3⟩
      have hC3 := hC2.trans K3
      have hRL3 := hRL2.draw K3.gr hcb
      have z3 := K3.gr.size
      have bx := below_new w3 (.cells #[.string x.key, .int .i64 x.seq, .int .i64 x.kind, .int .i64 x.c, .int .i64 x.s, .int .i64 x.lo, .int .i64 x.hi, .slice xo x.n xc, .bool x.fu] 48)
      have hGL : GL (w3.alloc (.cells #[.string x.key, .int .i64 x.seq, .int .i64 x.kind, .int .i64 x.c, .int .i64 x.s, .int .i64 x.lo, .int .i64 x.hi, .slice xo x.n xc, .bool x.fu] 48)) w2.heap.size (.slice (some ⟨w3.heap.size, 0, none⟩) 1 1) 1 (fun _ => x) (fun _ => .slice xo x.n xc) := by
        refine ⟨?_, fun i hi => ⟨xo, xc, rfl, hH.keep bx⟩, fun i hi => hSm⟩
        have := World.ownsRow_lit (base := w2.heap.size) (e := 48) (size := 9) w3 (ecells x (.slice xo x.n xc)).toArray 1 z3 (by unfold maxLen; omega) rfl
        simpa [List.range_succ, ecells] using this
      have hRL4 := hRL3.keep bx
      have hC4 := hC3.keep bx
      have z4 : w3.heap.size < (w3.alloc (.cells #[.string x.key, .int .i64 x.seq, .int .i64 x.kind, .int .i64 x.c, .int .i64 x.s, .int .i64 x.lo, .int .i64 x.hi, .slice xo x.n xc, .bool x.fu] 48)).heap.size := by simp
      have hoff : Off (.slice (some ⟨w3.heap.size, 0, none⟩) 1 1) 1 (fun _ => x) (fun _ => .slice xo x.n xc) (Value.slice ro N rc).ownBlock := by
        cases hb : (Value.slice ro N rc).ownBlock with
        | none => exact off_none
        | some g => exact hGL.below (hRL2.own.lt g hb).2
      obtain ⟨rv', w7, hrun, hRL7, hg7⟩ := hRL4.push ⟨.slice (some ⟨w3.heap.size, 0, none⟩) 1 1, 1, fun _ => x, fun _ => .slice xo x.n xc⟩ (hGL.mono hws) hoff (by omega) (by omega) 23
      have hC5 := hC4.keep (below_new (w3.alloc (.cells #[.string x.key, .int .i64 x.seq, .int .i64 x.kind, .int .i64 x.c, .int .i64 x.s, .int .i64 x.lo, .int .i64 x.hi, .slice xo x.n xc, .bool x.fu] 48)) (.cells #[.slice (some ⟨w3.heap.size, 0, none⟩) 1 1] 26))
      have hC7 := hC5.far hg7 (fun g e => (hRL4.own.lt g e).1)
      have hR7 : ∀ i, i < N + 1 → ((fun i => if i = N then (⟨.slice (some ⟨w3.heap.size, 0, none⟩) 1 1, 1, fun _ => x, fun _ => .slice xo x.n xc⟩ : Rw1) else R i) i).m ≤ 6 := fun i hi => by
        by_cases e : i = N
        · simp only [e, if_true]; omega
        · simp only [e, if_false]; exact hR6 i (by omega)
      clear hRL4 hRL3 hRL2 hC5 hC4 hC3 hC2 hGL hoff bx
      rw [World.size_alloc] at hrun
      go_wp2_with (at_builtin; refine wpList_append_eq _ rfl (.tmp 40) (.tmp 44) 23 23 rfl rfl (.slice ro N rc) (.slice (some ⟨w3.heap.size + 1, 0, none⟩) 1 1) rv' rfl rfl w7 hrun ?_)
      go_ret
      exact ⟨rv', N + 1, _, rfl, by omega, hR7, hRL7, hC7.mono (by omega)⟩
    · have n0 : (z == 0) = false := by simp [e0]
      by_cases e1 : z = 1
      · subst e1
        obtain ⟨rv', w7, hrun, hRL7, hg7⟩ := hRL2.zeros (by omega) hws 23
        have hC7 := hC2.far hg7 (fun g e => (hRL2.own.lt g e).1)
        have hR7 : ∀ i, i < N + 12 → ((fun i => if i < N then R i else nilR) i).m ≤ 6 := fun i hi => by
          by_cases e : i < N
          · simp only [e, if_true]; exact hR6 i e
          · simp only [e, if_false]; exact Nat.zero_le _
        clear hRL2 hC2
        go_wp2_with (at_builtin; refine Lib.wpList_append_run _ rfl (.tmp 48) (.const (.int .i64 12)) 23 3 rfl (.slice ro N rc) (.int .i64 12) rfl rfl rv' w7 hrun ?_)
        go_ret
        exact ⟨rv', N + 12, _, rfl, by omega, hR7, hRL7, hC7.mono (by omega)⟩
      · have n1 : (z == 1) = false := by simp [e1]
        go_wp2
        go_ret
        exact ⟨_, N, R, rfl, by omega, hR6, hRL2, hC2.mono (by omega)⟩
end
end Go.Proofs.YtmeckcaekkangaaGreat
