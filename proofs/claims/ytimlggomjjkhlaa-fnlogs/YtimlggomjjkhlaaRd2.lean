/- Reading a log: noughts, a piece. -/
import Derived.Test.YtimlggomjjkhlaaRd1
import Derived.Test.YtimlggomjjkhlaaRdM
namespace Go.Proofs.Ytimlggomjjkhlaa
open Go.RowKit
set_option linter.unusedSimpArgs false
set_option linter.unusedVariables false

theorem Bx.grown {w w' : World} {RB : Nat} {lg : Value} {a : Nat} {rv : Value} {wh : Nat} (h : Bx w RB lg a rv wh) (hb : Below w.heap.size w w') : w.grownBy w' (some RB) ∧ Bx w' RB lg a rv wh := ⟨grown_of_below hb _, h.keep hb⟩

/-- It gave up; the reader's box is as it was but for the place. -/
def Gave (RB : Nat) (lg rv : Value) (wh : Nat) (w : World) (e : Ending) (w' : World) : Prop := Torn e ∧ ∃ a', Bx w' RB lg a' rv wh ∧ w.grownBy w' (some RB)
theorem Gave.after {RB : Nat} {lg rv : Value} {wh : Nat} {w w1 : World} {e : Ending} {w' : World} (hg : w.grownBy w1 (some RB)) (h : Gave RB lg rv wh w1 e w') : Gave RB lg rv wh w e w' := by
  obtain ⟨ht, a', hx, hg'⟩ := h
  exact ⟨ht, a', hx, hg.trans hg'⟩

set_option maxHeartbeats 1000000 in
theorem passN_ok (RB lb lo lc a : Nat) (rv : Value) (wh : Nat) (B : List Int) (w : World) (hX : Bx w RB (.slice (some ⟨lb, lo, none⟩) B.length lc) a rv wh) (hL : Lg w RB lb lo lc B) (ha : a ≤ B.length) (h : NogOk B a) :
    Calls Try.prog 50 #[.pointer (some ⟨RB, 0, none⟩)] w fun e w' => e = .returned (.tuple #[]) ∧ Bx w' RB (.slice (some ⟨lb, lo, none⟩) B.length lc) (a + nog a) rv wh ∧ w.grownBy w' (some RB) := by
  have hsm := hL.small
  have hfit : a + nog a ≤ B.length := by
    rcases h with h | h
    · rw [nog_zero h]; exact ha
    · unfold nog; split
      · exact h.1
      · exact ha
  have hz : Hid (∀ i, i < nog a → fl B (a + i) = 0) := fun i hi => by
    rcases h with h | h
    · rw [nog_zero h] at hi; omega
    · unfold nog at hi; split at hi
      · exact h.2 i hi
      · omega
  have hng := nog_lt a
  have c1 := hX.c1
  clear h
  go_enter Try.func50, Try.ntmps50
  go_wp2_with fail
  refine (noughtsAt_any a _ (by omega)).mono ?_
  rintro e w0 ⟨rfl, rfl⟩
  go_wp2_with fail
  refine (take_yes RB lb lo lc a (nog a) rv wh B _ hX hL hfit).mono ?_
  rintro e w1 ⟨o, c, rfl, hmc, hA, hX1, hg1⟩
  generalize hNN : nog a = N at *
  have HNN : Hid (nog a = N) := hNN
  clear hNN
  go_wp2
  go_loopw [12] (fun i wr => ∃ k : Nat, k ≤ N ∧ i = .int .i64 k ∧ wr = w1) (fun i _ => N - (intOf i).toNat)
  case atStart => exact ⟨0, Nat.zero_le _, rfl, rfl⟩
  case round =>
    obtain ⟨k, hk, rfl, rfl⟩ := hrel
    by_cases hlt : k < N
    · have hck := hA.cell k (by rw [List.length_take, List.length_drop]; omega)
      rw [fl_take hlt, fl_drop, hz.out k hlt] at hck
      go_wp2_with fail
      refine (giveUp_no _).mono ?_
      rintro e w' ⟨rfl, rfl⟩
      go_wp2
      go_roundw
      case rel => exact ⟨k + 1, by omega, by go_num, by trivial⟩
      case measure => simp [intOf]; omega
    · go_wp2
      go_end0
      rw [HNN.out]
      exact ⟨rfl, hX1, hg1⟩

set_option maxHeartbeats 1000000 in
theorem passN_no (RB lb lo lc a : Nat) (rv : Value) (wh : Nat) (B : List Int) (w : World) (hX : Bx w RB (.slice (some ⟨lb, lo, none⟩) B.length lc) a rv wh) (hL : Lg w RB lb lo lc B) (ha : a ≤ B.length) (h : ¬ NogOk B a) :
    Calls Try.prog 50 #[.pointer (some ⟨RB, 0, none⟩)] w fun e w' => Gave RB (.slice (some ⟨lb, lo, none⟩) B.length lc) rv wh w e w' := by
  have hsm := hL.small
  have h6 : lft a < 6 := by
    rcases Nat.lt_or_ge (lft a) 6 with h6 | h6
    · exact h6
    · exact absurd (.inl h6) h
  have hnz : ¬ zeros B a := fun hz => h (.inr hz)
  have HN : Hid (nog a = lft a) := nog_some h6
  have hlb := lft_bd a
  have c1 := hX.c1
  clear h
  by_cases hfit : a + lft a ≤ B.length
  · have hex : Hid (¬ ∀ i, i < lft a → fl B (a + i) = 0) := fun hh => hnz ⟨hfit, hh⟩
    have hbd := hL.at'.bd
    go_enter Try.func50, Try.ntmps50
    go_wp2_with fail
    refine (noughtsAt_any a _ (by omega)).mono ?_
    rintro e w0 ⟨rfl, rfl⟩
    rw [HN.out]
    go_wp2_with fail
    refine (take_yes RB lb lo lc a (lft a) rv wh B _ hX hL hfit).mono ?_
    rintro e w1 ⟨o, c, rfl, hmc, hA, hX1, hg1⟩
    generalize lft a = N at *
    go_wp2
    go_loopw [12] (fun i wr => ∃ k : Nat, k ≤ N ∧ i = .int .i64 k ∧ wr = w1 ∧ Hid (∀ i, i < k → fl B (a + i) = 0)) (fun i _ => N - (intOf i).toNat)
    case atStart => exact ⟨0, Nat.zero_le _, rfl, rfl, fun i hi => absurd hi (Nat.not_lt_zero _)⟩
    case round =>
      obtain ⟨k, hk, rfl, rfl, hpre⟩ := hrel
      have hlt : k < N := by
        rcases Nat.lt_or_ge k N with hlt | hlt
        · exact hlt
        · obtain rfl : k = N := by omega
          exact absurd hpre.out hex.out
      have hck := hA.cell k (by rw [List.length_take, List.length_drop]; omega)
      rw [fl_take hlt, fl_drop] at hck
      have hb := hbd.fl (a + k)
      by_cases hz : fl B (a + k) = 0
      · rw [hz] at hck
        have hpre' : Hid (∀ i, i < k + 1 → fl B (a + i) = 0) := fun i hi => by
          by_cases e : i = k
          · subst e; exact hz
          · exact hpre.out i (by omega)
        clear hz hb
        go_wp2_with fail
        refine (giveUp_no _).mono ?_
        rintro e w' ⟨rfl, rfl⟩
        go_wp2
        go_roundw
        case rel => exact ⟨k + 1, by omega, by go_num, by trivial, hpre'⟩
        case measure => simp [intOf]; omega
      · have hbe : (fl B (a + k) == 0) = false := by simpa using hz
        clear hz
        generalize fl B (a + k) = x at *
        go_wp2_with fail
        refine (giveUp_yes _).mono ?_
        rintro e w' ⟨⟨t, v, rfl⟩, rfl⟩
        exact ⟨rfl, ⟨t, v, rfl⟩, _, hX1, hg1⟩
  · go_enter Try.func50, Try.ntmps50
    go_wp2_with fail
    refine (noughtsAt_any a _ (by omega)).mono ?_
    rintro e w0 ⟨rfl, rfl⟩
    rw [HN.out]
    go_wp2_with fail
    refine (take_no RB lb lo lc a (lft a) rv wh B _ hX hsm ha (by omega) hfit).mono ?_
    rintro e w1 ⟨⟨t, v, rfl⟩, hX1, hg1⟩
    exact ⟨rfl, ⟨t, v, rfl⟩, _, hX1, hg1⟩

theorem readFixed_head (o c : Nat) (H : List Int) (lb : Nat) (w : World) (hA : At w lb o H) (hl : H.length = 6) (hc : 6 ≤ c) :
    Calls Try.prog 52 #[.slice (some ⟨lb, o, none⟩) 6 c, .int .i64 0, .int .i64 4] w fun e w' => e = .returned (.tuple #[.int .i64 (num (fl H) 0 4), .bool true]) ∧ Below w.heap.size w w' := by
  have hr := hA.row
  rw [hl] at hr
  have hb := num4_bd H hA.bd 0
  have e1 : rfAns (num (fl H) 0 4) = (num (fl H) 0 4, true) := rfAns_yes (by omega)
  have := readFixed_impl_yes (some ⟨lb, o, none⟩) 6 c (fl H) 0 4 w hr (by omega) hc (by omega) (by omega) (by omega)
  rw [e1] at this
  exact this

/-- What readPiece answers: a piece, or it gives up. -/
def PieceOut (RB lb lo lc a : Nat) (B : List Int) (rv : Value) (wh : Nat) (w : World) (e : Ending) (w' : World) : Prop :=
  (NogOk B a ∧ Pc B (a + nog a) ∧ ∃ o c, e = .returned (.tuple #[.int .u8 (pk B (a + nog a)), .slice (some ⟨lb, o, none⟩) (pn B (a + nog a)) c]) ∧ At w' lb o (pD B (a + nog a)) ∧
    Bx w' RB (.slice (some ⟨lb, lo, none⟩) B.length lc) (a + nog a + 6 + pn B (a + nog a)) rv wh ∧ w.grownBy w' (some RB)) ∨
  (¬ (NogOk B a ∧ Pc B (a + nog a)) ∧ Gave RB (.slice (some ⟨lb, lo, none⟩) B.length lc) rv wh w e w')

theorem chunk_len (B : List Int) (a m : Nat) (h : a + m ≤ B.length) : ((B.drop a).take m).length = m := by rw [List.length_take, List.length_drop]; omega

set_option maxHeartbeats 2000000 in
theorem readPiece_any (RB lb lo lc a : Nat) (rv : Value) (wh : Nat) (B : List Int) (w : World) (hX : Bx w RB (.slice (some ⟨lb, lo, none⟩) B.length lc) a rv wh) (hL : Lg w RB lb lo lc B) (ha : a ≤ B.length) :
    Calls Try.prog 45 #[.pointer (some ⟨RB, 0, none⟩)] w fun e w' => PieceOut RB lb lo lc a B rv wh w e w' := by
  have hsm := hL.small
  have hbd := hL.at'.bd
  by_cases hN : NogOk B a
  · have hpk := pk_bd B hbd (a + nog a)
    have hpn := pn_bd B hbd (a + nog a)
    have e4 := pn_head B hbd (a + nog a)
    have e5 := pk_head B (a + nog a)
    have e6 := num_head B (a + nog a)
    have hlb := lft_bd (a + nog a)
    have hnm := num4_bd B hbd (a + nog a)
    have hng := nog_lt a
    have HO : ∀ e w', PieceOut RB lb lo lc a B rv wh w e w' = PieceOut RB lb lo lc a B rv wh w e w' := fun _ _ => rfl
    have HP : Hid (∀ (e : Ending) (w' : World), Pc B (a + nog a) → (∃ o c, e = .returned (.tuple #[.int .u8 (pk B (a + nog a)), .slice (some ⟨lb, o, none⟩) (pn B (a + nog a)) c]) ∧ At w' lb o (pD B (a + nog a)) ∧
      Bx w' RB (.slice (some ⟨lb, lo, none⟩) B.length lc) (a + nog a + 6 + pn B (a + nog a)) rv wh ∧ w.grownBy w' (some RB)) → PieceOut RB lb lo lc a B rv wh w e w') := fun e w' h1 h2 => .inl ⟨hN, h1, h2⟩
    have HQ : Hid (∀ (e : Ending) (w' : World), ¬ Pc B (a + nog a) → Gave RB (.slice (some ⟨lb, lo, none⟩) B.length lc) rv wh w e w' → PieceOut RB lb lo lc a B rv wh w e w') := fun e w' h1 h2 => .inr ⟨fun h => h1 h.2, h2⟩
    have hcall := passN_ok RB lb lo lc a rv wh B w hX hL ha hN
    have HPc : Hid (Pc B (a + nog a) ↔ (a + nog a + 6 ≤ B.length ∧ 6 + pn B (a + nog a) ≤ lft (a + nog a) ∧ a + nog a + 6 + pn B (a + nog a) ≤ B.length ∧ crcL (pk B (a + nog a) :: pD B (a + nog a)) = num (fl B) (a + nog a) 4)) := ⟨fun h => ⟨h.head, h.fit, h.all, h.sum⟩, fun h => ⟨h.1, h.2.1, h.2.2.1, h.2.2.2⟩⟩
    have HD : Hid (pD B (a + nog a) = (B.drop (a + nog a + 6)).take (pn B (a + nog a))) := rfl
    have ha1 : a + nog a ≤ B.length := by
      rcases hN with h | h
      · rw [nog_zero h]; exact ha
      · unfold nog; split
        · exact h.1
        · exact ha
    clear HO hN hX ha
    generalize hA1 : a + nog a = A at *
    generalize hPKe : pk B A = K at *
    generalize hPNe : pn B A = M at *
    clear hA1 hPKe hPNe
    have HE4 : Hid (fl ((B.drop A).take 6) 4 = (M : Int)) := e4
    have HE5 : Hid (fl ((B.drop A).take 6) 5 = K) := e5
    have HE6 : Hid (num (fl ((B.drop A).take 6)) 0 4 = num (fl B) A 4) := e6
    clear e4 e5 e6
    have HC : Hid (Calls Try.prog 50 #[.pointer (some ⟨RB, 0, none⟩)] w fun e w' => e = .returned (.tuple #[]) ∧ Bx w' RB (.slice (some ⟨lb, lo, none⟩) B.length lc) A rv wh ∧ w.grownBy w' (some RB)) := hcall
    clear hcall
    go_enter Try.func45, Try.ntmps45
    go_wp2_with fail
    refine HC.out.mono ?_
    rintro e w1 ⟨rfl, hX1, hg1⟩
    have hL1 := hL.grown hg1
    have c1 := hX1.c1
    go_wp2_with fail
    refine (leftInBlock_any A _ (by omega)).mono ?_
    rintro e w0 ⟨rfl, rfl⟩
    generalize lft A = Z at *
    go_wp2_with fail
    by_cases h6 : A + 6 ≤ B.length
    · refine (take_yes RB lb lo lc A 6 rv wh B _ hX1 hL1 h6).mono ?_
      rintro e w2 ⟨o2, c2, rfl, hc2, hA2, hX2, hg2⟩
      have hl2 := chunk_len B A 6 h6
      have k4 := hA2.cell 4 (by rw [hl2]; omega)
      have k5 := hA2.cell 5 (by rw [hl2]; omega)
      rw [HE4.out] at k4
      rw [HE5.out] at k5
      have g12 := hg1.trans hg2
      have hL2 := hL.grown g12
      clear HC c1 hL1 hg1
      go_wp2
      go_quiet (fail)
      have hX3 := hX2.drewN nq
      have hA3 := hA2.drewN nq
      have g3 : w.grownBy (w2.drewN nq) (some RB) := g12.trans (grown_of_below (below_drewN (Below.refl _ _) nq) _)
      have hL3 := hL.grown g3
      generalize w2.drewN nq = w3 at *
      clear hX2 hA2 g12 hL2 hg2 k4 k5
      by_cases hf : 6 + M ≤ Z
      · have hf' : (6 : Int) + (M : Int) ≤ (Z : Int) := by omega
        go_wp2_with fail
        refine (giveUp_no _).mono ?_
        rintro e w0 ⟨rfl, rfl⟩
        go_wp2_with fail
        by_cases hall : A + 6 + M ≤ B.length
        · refine (take_yes RB lb lo lc (A + 6) M rv wh B _ hX3 hL3 hall).mono ?_
          rintro e w4 ⟨o4, c4, rfl, hc4, hA4, hX4, hg4⟩
          have hA3' := hA3.grown hg4 (fun e => hL.ne (Option.some.inj e).symm)
          have g4 := g3.trans hg4
          have hl4 := chunk_len B (A + 6) M hall
          rw [← HD.out] at hA4 hl4
          go_wp2_with fail
          refine (readFixed_head o2 c2 _ lb _ hA3' hl2 hc2).mono ?_
          rintro e w5 ⟨rfl, b5⟩
          rw [HE6.out]
          have hX5 := hX4.keep b5
          have hA5 := hA4.keep b5
          have g5 := g4.trans (grown_of_below b5 _)
          go_wp2_with fail
          refine (pieceSum_any K lb o4 M c4 _ _ hA5 hl4.symm hpk (by omega)).mono ?_
          rintro e w6 ⟨rfl, b6⟩
          have hX6 := hX5.keep b6
          have hA6 := hA5.keep b6
          have g6 := g5.trans (grown_of_below b6 _)
          have hcb := crcL_bd (K :: pD B A)
          clear hX5 hX4 hX3 hA3 hA3' hA4 hA5 hL3 g5 g4 g3 b5 b6 hg4 HE4 HE5 HE6
          by_cases hs : crcL (K :: pD B A) = num (fl B) A 4
          · have HPP : Hid (Pc B A) := HPc.out.2 ⟨h6, hf, hall, hs⟩
            rw [hs]
            clear hs hcb
            generalize num (fl B) A 4 = Y at *
            have hbe : (Y == Y) = true := by simp
            go_wp2_with fail
            refine (giveUp_no _).mono ?_
            rintro e w7 ⟨rfl, rfl⟩
            go_wp2
            go_ret2
            exact HP.out _ _ HPP.out ⟨o4, c4, rfl, hA6, hX6, g6⟩
          · have HPP : Hid (¬ Pc B A) := fun h => hs (HPc.out.1 h).2.2.2
            have hbe : (num (fl B) A 4 == crcL (K :: pD B A)) = false := by simp; exact fun e => hs e.symm
            clear hs
            generalize num (fl B) A 4 = Y at *
            generalize crcL (K :: pD B A) = X at *
            go_wp2_with fail
            refine (giveUp_yes _).mono ?_
            rintro e w7 ⟨⟨t, v, rfl⟩, rfl⟩
            exact ⟨rfl, HQ.out _ _ HPP.out ⟨⟨t, v, rfl⟩, _, hX6, g6⟩⟩
        · refine (take_no RB lb lo lc (A + 6) M rv wh B _ hX3 hsm h6 hpn hall).mono ?_
          rintro e w4 ⟨⟨t, v, rfl⟩, hX4, hg4⟩
          exact ⟨rfl, HQ.out _ _ (fun h => hall (HPc.out.1 h).2.2.1) ⟨⟨t, v, rfl⟩, _, hX4, g3.trans hg4⟩⟩
      · have hf' : decide ((6 : Int) + (M : Int) ≤ (Z : Int)) = false := by simp; omega
        go_wp2_with fail
        refine (giveUp_yes _).mono ?_
        rintro e w4 ⟨⟨t, v, rfl⟩, rfl⟩
        exact ⟨rfl, HQ.out _ _ (fun h => hf (HPc.out.1 h).2.1) ⟨⟨t, v, rfl⟩, _, hX3, g3⟩⟩
    · refine (take_no RB lb lo lc A 6 rv wh B _ hX1 hsm ha1 (by omega) h6).mono ?_
      rintro e w2 ⟨⟨t, v, rfl⟩, hX2, hg2⟩
      exact ⟨rfl, HQ.out _ _ (fun h => h6 (HPc.out.1 h).1) ⟨⟨t, v, rfl⟩, _, hX2, hg1.trans hg2⟩⟩
  · have hcall := passN_no RB lb lo lc a rv wh B w hX hL ha hN
    have HQ : Hid (∀ (e : Ending) (w' : World), Gave RB (.slice (some ⟨lb, lo, none⟩) B.length lc) rv wh w e w' → PieceOut RB lb lo lc a B rv wh w e w') := fun e w' h2 => .inr ⟨fun h => hN h.1, h2⟩
    clear hN
    go_enter Try.func45, Try.ntmps45
    go_wp2_with fail
    refine hcall.mono ?_
    rintro e w1 hg
    obtain ⟨⟨t, v, rfl⟩, hrest⟩ := id hg
    exact ⟨rfl, HQ.out _ _ hg⟩
end Go.Proofs.Ytimlggomjjkhlaa
