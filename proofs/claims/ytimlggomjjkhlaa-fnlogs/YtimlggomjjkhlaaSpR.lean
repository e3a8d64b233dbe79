/- The model's reading of a piece. -/
import Derived.Test.YtimlggomjjkhlaaRdM
import Derived.Test.YtimlggomjjkhlaaIn
namespace Go.Proofs.Ytimlggomjjkhlaa
open Go.RowKit
set_option linter.unusedSimpArgs false
set_option linter.unusedVariables false

set_option maxHeartbeats 400000 in
theorem crc_same (ao : Option Addr) (n cap : Nat) (f : Nat → Int) (w : World) (hr : Row w ao n f) (hn : n ≤ 1048576) :
    Calls Try.prog 35 #[.slice ao n cap] w fun e w' => e = .returned (.int .u32 (crcOf f n)) ∧ w' = w := by
  obtain ⟨hbd, hl⟩ := hr
  go_enter Try.func35, Try.ntmps35
  go_wp2
  go_loopw [3, 9] (fun s i wr => ∃ k : Nat, k ≤ n ∧ i = .int .i64 k ∧ s = .int .u32 (crcTo f k) ∧ wr = w) (fun _ i _ => n - (intOf i).toNat)
  case atStart => exact ⟨0, Nat.zero_le _, rfl, rfl, rfl⟩
  case round =>
    obtain ⟨k, hk, rfl, rfl, hbk⟩ := hrel
    subst hbk
    by_cases hlt : k < n
    · obtain ⟨b, off, rfl, hblt, hc⟩ := hl.resolve_left (by omega)
      have h1 : wr.cell? ⟨b, off + k, none⟩ = some (.int .u8 (f k)) := hc k hlt
      have hb := hbd k
      clear hc hl
      go_wp2
      go_loopw [3, 6] (fun s i ws => ∃ j : Nat, j ≤ 8 ∧ i = .int .i64 j ∧ s = .int .u32 (cbits j (bits .xor .u32 (crcTo f k) (f k))) ∧ ws = wr) (fun _ i _ => 8 - (intOf i).toNat)
      case atStart => exact ⟨0, by omega, rfl, rfl, rfl⟩
      case round =>
        obtain ⟨j, hj, rfl, rfl, rfl⟩ := hrel
        have hx := cbits_bd j _ (xor_bd (crcTo f k) (f k))
        have hsu : Hid (cbits (j + 1) (bits .xor .u32 (crcTo f k) (f k)) = cbit (cbits j (bits .xor .u32 (crcTo f k) (f k)))) := rfl
        have hs8 : Hid (j = 8 → cbits j (bits .xor .u32 (crcTo f k) (f k)) = crcTo f (k + 1)) := fun h => by subst h; rfl
        generalize bits .xor .u32 (crcTo f k) (f k) = y at *
        generalize cbits j y = c1 at *
        by_cases hlt8 : j < 8
        · go_wp2
          all_goals go_roundw
          all_goals first
            | (case rel => exact ⟨j + 1, by omega, by go_num, by rw [hsu.out]; first | rw [cbit_yes _ ‹_›] | rw [cbit_no _ ‹_›], by trivial⟩)
            | skip
          all_goals (case measure => simp [intOf]; omega)
        · go_wp2
          go_roundw
          case rel => exact ⟨k + 1, by omega, by go_num, by rw [hs8.out (by omega)], by trivial⟩
          case measure => simp [intOf]; omega
    · go_wp2
      go_ret
      have : k = n := by omega
      subst this
      exact ⟨rfl, rfl⟩

set_option maxHeartbeats 400000 in
theorem l1Number_same (b off m cap : Nat) (f : Nat → Int) (q : Nat) (w : World) (hbd : ∀ i, 0 ≤ f i ∧ f i ≤ 255) (hblt : b < w.heap.size) (hc : ∀ i, i < m → w.cell? ⟨b, off + i, none⟩ = some (.int .u8 (f (q + i)))) (hm : m ≤ 8) :
    Calls Try.prog 49 #[.slice (some ⟨b, off, none⟩) m cap] w fun e w' => e = .returned (.int .i64 (wrap64 (num f q m))) ∧ w' = w := by
  go_enter Try.func49, Try.ntmps49
  go_wp2
  go_loopw [3, 8] (fun s i wr => ∃ k : Nat, ∃ c : Int, k ≤ m ∧ i = .int .i64 k ∧ s = .int .i64 c ∧ Hid (c = wrap64 (num f q k)) ∧ wr = w) (fun _ i _ => m - (intOf i).toNat)
  case atStart => exact ⟨0, 0, by omega, rfl, rfl, (by unfold Hid wrap64; simp [num]), rfl⟩
  case round =>
    obtain ⟨k, c, hk, rfl, rfl, HC, hbk⟩ := hrel
    subst hbk
    by_cases hlt : k < m
    · have h1 : wr.cell? ⟨b, off + k, none⟩ = some (.int .u8 (f (q + k))) := hc k hlt
      have hb := hbd (q + k)
      have HS : Hid (bits .or .i64 (wrap64 (c * 256)) (f (q + k)) = wrap64 (num f q (k + 1))) := by
        unfold Hid; rw [HC.out, or_step_i _ _ (num_bd7 f hbd q k (by omega)) hb]; rfl
      clear hc
      go_wp2
      go_roundw
      case rel => exact ⟨k + 1, _, by omega, by go_num, rfl, HS, by trivial⟩
      case measure => simp [intOf]; omega
    · have e : k = m := by omega
      subst e
      go_wp2
      go_ret
      rw [HC.out]
      exact ⟨rfl, rfl⟩


/-- What l3Piece answers. -/
def SPOut (lb a : Nat) (B : List Int) (w : World) (e : Ending) (w' : World) : Prop :=
  (Pc B a ∧ (1 ≤ pk B a ∧ pk B a ≤ 4) ∧ ∃ o c, e = .returned (.tuple #[.int .i64 (pk B a), .slice (some ⟨lb, o, none⟩) (pn B a) c, .int .i64 ((a + 6 + pn B a : Nat) : Int)]) ∧ At w' lb o (pD B a) ∧ Below w.heap.size w w') ∨
  (¬ (Pc B a ∧ (1 ≤ pk B a ∧ pk B a ≤ 4)) ∧ e = .returned (.tuple #[.int .i64 0, .slice none 0 0, .int .i64 0]) ∧ Below w.heap.size w w')

theorem body_eq (B : List Int) (a : Nat) (h : a + 6 + pn B a ≤ B.length) : (B.drop (a + 5)).take (pn B a + 1) = pk B a :: pD B a := by
  have h5 : a + 5 < B.length := by omega
  rw [List.drop_eq_getElem_cons h5, List.take_succ_cons]
  congr 1
  simp [pk, fl, h5]

theorem crcQ_at (g off m c : Nat) (L : List Int) (w : World) (h : At w g off L) (hm : m = L.length) (hn : L.length ≤ 65536) :
    Calls Try.prog 35 #[.slice (some ⟨g, off, none⟩) m c] w fun e w' => e = .returned (.int .u32 (crcL L)) ∧ w' = w := by
  subst hm
  exact crc_same _ _ c (fl L) _ h.row (by omega)
theorem numQ_at (lb lo a c : Nat) (B : List Int) (w : World) (h : At w lb lo B) (ha : a + 4 ≤ B.length) :
    Calls Try.prog 49 #[.slice (some ⟨lb, lo + a, none⟩) 4 c] w fun e w' => e = .returned (.int .i64 (num (fl B) a 4)) ∧ w' = w := by
  have hb := num4_bd B h.bd a
  have := l1Number_same lb (lo + a) 4 c (fl B) a w h.bd.fl h.lt (fun i hi => by rw [Nat.add_assoc]; exact h.cell (a + i) (by omega)) (by omega)
  have e : wrap64 (num (fl B) a 4) = num (fl B) a 4 := by unfold wrap64; omega
  rw [e] at this
  exact this

set_option maxHeartbeats 2000000 in
theorem l3Piece_any (lb lo lc n a : Nat) (B : List Int) (w : World) (hA : At w lb lo B) (hn : n = B.length) (hc : n ≤ lc) (hs : B.length ≤ 20000) (ha : a < B.length) :
    Calls Try.prog 42 #[.slice (some ⟨lb, lo, none⟩) n lc, .int .i64 a] w fun e w' => SPOut lb a B w e w' := by
  subst hn
  have hbd := hA.bd
  have HPc : Hid (Pc B a ↔ (a + 6 ≤ B.length ∧ 6 + pn B a ≤ lft a ∧ a + 6 + pn B a ≤ B.length ∧ crcL (pk B a :: pD B a) = num (fl B) a 4)) := ⟨fun h => ⟨h.head, h.fit, h.all, h.sum⟩, fun h => ⟨h.1, h.2.1, h.2.2.1, h.2.2.2⟩⟩
  have HS : Hid (∀ e w', ¬ (Pc B a ∧ (1 ≤ pk B a ∧ pk B a ≤ 4)) → e = .returned (.tuple #[.int .i64 0, .slice none 0 0, .int .i64 0]) → Below w.heap.size w w' → SPOut lb a B w e w') := fun e w' h1 h2 h3 => .inr ⟨h1, h2, h3⟩
  have HE : Hid ((64 : Int) - (a : Int) % 64 = (lft a : Int)) := by unfold Hid lft; omega
  have hlb := lft_bd a
  by_cases h6 : a + 6 ≤ B.length
  · have hk4 := hA.cell (a + 4) (by omega)
    have hk5 := hA.cell (a + 5) (by omega)
    have hpn := pn_bd B hbd a
    have hpk := pk_bd B hbd a
    have e4 : fl B (a + 4) = (pn B a : Int) := by have := hbd.fl (a + 4); unfold pn; omega
    rw [e4] at hk4
    have e5 : fl B (a + 5) = pk B a := rfl
    rw [e5] at hk5
    have hb := body_eq B a
    generalize hM : pn B a = M at *
    generalize hK : pk B a = K at *
    have he : (64 : Int) - (a : Int) % 64 = (lft a : Int) := HE.out
    have h6' : ¬ (B.length : Int) < (a : Int) + 6 := by omega
    by_cases hf : 6 + M ≤ lft a
    · by_cases hall : a + 6 + M ≤ B.length
      · have hf' : decide ((lft a : Int) < 6 + (M : Int)) = false := by simp; omega
        have hf2 : decide ((B.length : Int) < (a : Int) + 6 + (M : Int)) = false := by simp; omega
        clear e4 e5
        have hz1 : a + 6 + M - (a + 5) = M + 1 := by omega
        have hz2 : a + 4 - a = 4 := by omega
        have hlc1 : a + 6 + M ≤ lc := by omega
        have hlc2 : a + 4 ≤ lc := by omega
        have hBody : At w lb (lo + (a + 5)) (K :: pD B a) := by have := (hA.drop (a + 5)).take (M + 1); rw [hb hall] at this; exact this
        have hDl : (pD B a).length = M := by unfold pD; rw [hM, List.length_take, List.length_drop]; omega
        have hcrc : Hid (∀ n, Calls Try.prog 35 #[.slice (some ⟨lb, lo + (a + 5), none⟩) (M + 1) (lc - (a + 5))] (w.drewN n) fun e w' => e = .returned (.int .u32 (crcL (K :: pD B a))) ∧ w' = w.drewN n) := fun n => crcQ_at _ _ _ _ _ _ (hBody.keep (below_drewN (Below.refl _ _) n)) (by rw [List.length_cons, hDl]) (by rw [List.length_cons, hDl]; omega)
        have hnum : Hid (∀ n, Calls Try.prog 49 #[.slice (some ⟨lb, lo + a, none⟩) 4 (lc - a)] (w.drewN n) fun e w' => e = .returned (.int .i64 (num (fl B) a 4)) ∧ w' = w.drewN n) := fun n => numQ_at _ _ _ _ _ _ (hA.keep (below_drewN (Below.refl _ _) n)) (by omega)
        have hcb := crcL_bd (K :: pD B a)
        have hnb := num4_bd B hbd a
        have hAD : Hid (∀ n, At (w.drewN n) lb (lo + (a + 6)) (pD B a)) := fun n => by
          have := ((hA.drop (a + 6)).take M).keep (below_drewN (Below.refl _ _) n)
          unfold pD; rw [hM]; exact this
        have HR : Hid (∀ e w', Pc B a → (1 ≤ K ∧ K ≤ 4) → (∃ o c, e = .returned (.tuple #[.int .i64 K, .slice (some ⟨lb, o, none⟩) M c, .int .i64 ((a + 6 + M : Nat) : Int)]) ∧ At w' lb o (pD B a)) → Below w.heap.size w w' → SPOut lb a B w e w') := fun e w' h1 h2 h3 h4 => by
          obtain ⟨o, c, h5, h6⟩ := h3
          exact .inl ⟨h1, by rw [hK]; exact h2, o, c, by rw [hK, hM]; exact h5, h6, h4⟩
        by_cases hsum : crcL (K :: pD B a) = num (fl B) a 4
        · have HPP : Hid (Pc B a) := HPc.out.2 ⟨h6, hf, hall, hsum⟩
          rw [hsum] at hcrc
          clear hsum hcb hBody hM hK
          generalize num (fl B) a 4 = Y at *
          have hYY : (Y != Y) = false := by simp
          by_cases hk : 1 ≤ K ∧ K ≤ 4
          · have hin : Hid (∀ n, Calls Try.prog 27 #[.int .i64 K, .int .i64 1, .int .i64 4] (w.drewN n) fun e w' => e = .returned (.bool true) ∧ w' = w.drewN n) := fun n => l1In_yes _ _ _ _ hk.1 hk.2
            have HK : Hid (1 ≤ K ∧ K ≤ 4) := hk
            clear hk
            go_enter Try.func42, Try.ntmps42
            go_wp2
            go_quiet (first | (go_at_call 35; exact Calls.quiet_of_same (hcrc.out _)) | (go_at_call 49; exact Calls.quiet_of_same (hnum.out _)) | (go_at_call 27; exact Calls.quiet_of_same (hin.out _)))
            by_cases hcap : lc - (a + 5) = 1
            · have hM0 : M = 0 := by omega
              have HM : Hid (M = 0) := hM0
              clear hM0
              go_wp2
              go_quiet (fail)
              go_wp2
              refine bodyPost_ret (v := .tuple #[.int .i64 K, .slice (some ⟨lb, lo + (a + 5), none⟩) M 0, .int .i64 ((a : Int) + 6 + (M : Int))]) (by simp [results, Try.results42, go_sem]) rfl (HR.out _ _ HPP.out HK.out ⟨_, _, by rw [show ((a + 6 + M : Nat) : Int) = (a : Int) + 6 + (M : Int) from by omega], ?_⟩ (below_drewN (below_drewN (Below.refl _ _) _) _))
              exact ⟨(hAD.out 0).bd, by simpa using hA.lt, fun i hi => by rw [hDl, HM.out] at hi; omega⟩
            · go_wp2
              go_quiet (fail)
              go_wp2
              refine bodyPost_ret (v := .tuple #[.int .i64 K, .slice (some ⟨lb, lo + (a + 5) + 1, none⟩) M (lc - (a + 5) - 1), .int .i64 ((a : Int) + 6 + (M : Int))]) (by simp [results, Try.results42, go_sem]) rfl (HR.out _ _ HPP.out HK.out ⟨_, _, by rw [show ((a + 6 + M : Nat) : Int) = (a : Int) + 6 + (M : Int) from by omega], ?_⟩ (below_drewN (below_drewN (Below.refl _ _) _) _))
              exact (hAD.out _).keep (below_drewN (Below.refl _ _) _)
          · have hin : Hid (∀ n, Calls Try.prog 27 #[.int .i64 K, .int .i64 1, .int .i64 4] (w.drewN n) fun e w' => e = .returned (.bool false) ∧ w' = w.drewN n) := fun n => l1In_no _ _ _ _ hk
            have HK : Hid (¬ (Pc B a ∧ (1 ≤ K ∧ K ≤ 4))) := fun h => hk h.2
            clear hk
            go_enter Try.func42, Try.ntmps42
            go_wp2
            go_quiet (first | (go_at_call 35; exact Calls.quiet_of_same (hcrc.out _)) | (go_at_call 49; exact Calls.quiet_of_same (hnum.out _)) | (go_at_call 27; exact Calls.quiet_of_same (hin.out _)))
            go_wp2
            exact bodyPost_ret (v := .tuple #[.int .i64 0, .slice none 0 0, .int .i64 0]) (by simp [results, Try.results42, go_sem]) rfl (HS.out _ _ HK.out rfl (below_drewN (Below.refl _ _) _))
        · have HPP : Hid (¬ (Pc B a ∧ (1 ≤ K ∧ K ≤ 4))) := fun h => hsum (HPc.out.1 h.1).2.2.2
          have hne : (crcL (K :: pD B a) != num (fl B) a 4) = true := by simpa using hsum
          clear hsum hBody hM hK
          generalize num (fl B) a 4 = Y at *
          generalize crcL (K :: pD B a) = X at *
          go_enter Try.func42, Try.ntmps42
          go_wp2
          go_quiet (first | (go_at_call 35; exact Calls.quiet_of_same (hcrc.out _)) | (go_at_call 49; exact Calls.quiet_of_same (hnum.out _)))
          go_wp2
          exact bodyPost_ret (v := .tuple #[.int .i64 0, .slice none 0 0, .int .i64 0]) (by simp [results, Try.results42, go_sem]) rfl (HS.out _ _ HPP.out rfl (below_drewN (Below.refl _ _) _))
      · have HPP : Hid (¬ (Pc B a ∧ (1 ≤ K ∧ K ≤ 4))) := fun h => hall (HPc.out.1 h.1).2.2.1
        have hf' : decide ((lft a : Int) < 6 + (M : Int)) = false := by simp; omega
        have hf2 : decide ((B.length : Int) < (a : Int) + 6 + (M : Int)) = true := by simp; omega
        clear e4 e5 hM hK
        go_enter Try.func42, Try.ntmps42
        go_wp2
        exact bodyPost_ret (v := .tuple #[.int .i64 0, .slice none 0 0, .int .i64 0]) (by simp [results, Try.results42, go_sem]) rfl (HS.out _ _ HPP.out rfl (Below.refl _ _))
    · have HPP : Hid (¬ (Pc B a ∧ (1 ≤ K ∧ K ≤ 4))) := fun h => hf (HPc.out.1 h.1).2.1
      have hf' : decide ((lft a : Int) < 6 + (M : Int)) = true := by simp; omega
      clear e4 e5 hM hK
      go_enter Try.func42, Try.ntmps42
      go_wp2
      exact bodyPost_ret (v := .tuple #[.int .i64 0, .slice none 0 0, .int .i64 0]) (by simp [results, Try.results42, go_sem]) rfl (HS.out _ _ HPP.out rfl (Below.refl _ _))
  · have HPP : Hid (¬ (Pc B a ∧ (1 ≤ pk B a ∧ pk B a ≤ 4))) := fun h => h6 (HPc.out.1 h.1).1
    have h6' : (B.length : Int) < (a : Int) + 6 := by omega
    go_enter Try.func42, Try.ntmps42
    go_wp2
    exact bodyPost_ret (v := .tuple #[.int .i64 0, .slice none 0 0, .int .i64 0]) (by simp [results, Try.results42, go_sem]) rfl (HS.out _ _ HPP.out rfl (Below.refl _ _))
end Go.Proofs.Ytimlggomjjkhlaa
