/- TellDirty: both texts' outcome in one form; boards and told windows marked, each by itself. -/
import Derived.Test.YtflmbcgokiiedaaTs
import Derived.Test.YtflmbcgokiiedaaHx
namespace Go.Proofs.Ytflmbcgokiiedaa
open Go.RowKit
set_option linter.unusedSimpArgs false
set_option linter.unusedVariables false

theorem BdAt.rng {w w' : World} {b lo hi : Nat} {z h mk : Int} {sv : Value} (H : BdAt w b z h mk sv) (hr : Rng lo hi w w') (hb : b < lo ∨ hi ≤ b) : BdAt w' b z h mk sv :=
  have k : ∀ j, w'.cell? ⟨b, j, none⟩ = w.cell? ⟨b, j, none⟩ := fun j => World.cell?_of_block (w := w) (a := ⟨b, j, none⟩) (hr.block b H.lt hb)
  ⟨Nat.lt_of_lt_of_le H.lt hr.size, (k _).trans H.c0, (k _).trans H.c1, (k _).trans H.c2, (k _).trans H.c3⟩
theorem BA.rng {w w' : World} {base top lo hi n : Nat} {v : Value} {X : Nat → Wn} (h : BA w base top v n X) (hr : Rng lo hi w w') (hd : top ≤ lo ∨ hi ≤ base) : BA w' base top v n X :=
  h.same hr.size (fun c h1 h2 => hr.block c (by have := h.1; omega) (by omega))
theorem TA.rng {w w' : World} {base top lo hi n : Nat} {v : Value} {X : Nat → Wn} (h : TA w base top v n X) (hr : Rng lo hi w w') (hd : top ≤ lo ∨ hi ≤ base) : TA w' base top v n X :=
  h.same hr.size (fun c h1 h2 => hr.block c (by have := h.1; omega) (by omega))

theorem mAWi_len (X : Nat → Wn) (k0 m i : Nat) : (mAWi X k0 m i).tn = (X i).tn ∧ (mAWi X k0 m i).n = (X i).n := by unfold mAWi; split <;> exact ⟨rfl, rfl⟩
theorem mATo_len (X : Nat → Wn) (k0 m i : Nat) : (mATo X k0 m i).tn = (X i).tn ∧ (mATo X k0 m i).n = (X i).n := by unfold mATo; split <;> exact ⟨rfl, rfl⟩
theorem markBA2 (v : Value) (base top n k0 : Nat) (X : Nat → Wn) (w : World) (h : BA w base top v n X) (hk0 : 1 ≤ k0) (hk1 : k0 ≤ 4398046511104) (hz : WiSize n X) (hn : n ≤ 1048576) :
    Calls Try.prog 43 #[v, .int .i64 k0] w fun e w' => e = .returned (.int .i64 (kOWi X k0 n : Int)) ∧ BA w' base top v n (mAWi X k0 n) ∧ Rng base top w w' := by
  have ht := h.1
  rcases h.2 with ⟨rfl, lo, lc, rfl⟩ | ⟨g, cap, A0, A1, K0, K1, G, rfl, h1, h2, h3, h4, h5⟩
  · refine (markW_zero lo lc k0 w).mono ?_
    rintro e w' ⟨rfl, rfl⟩
    exact ⟨rfl, ⟨ht, .inl ⟨rfl, lo, lc, rfl⟩⟩, Rng.refl _ _ _⟩
  · refine (markWinS_any g n cap k0 X A0 A1 K0 K1 G base top w h3 ⟨h1, h2⟩ h4 h5 hk0 hk1 hz hn).mono ?_
    rintro e w' ⟨rfl, hc, hr⟩
    exact ⟨rfl, ⟨Nat.le_trans ht hr.size, .inr ⟨g, cap, A0, A1, K0, K1, G, rfl, h1, h2, hc, fun i hi hp => h4 i hi (by rw [(mAWi_len _ _ _ _).1] at hp; exact hp), fun i hi hp => h5 i hi (by rw [(mAWi_len _ _ _ _).2] at hp; exact hp)⟩⟩, hr⟩
theorem heldBA (v : Value) (base top n k0 : Nat) (X : Nat → Wn) (w : World) (h : BA w base top v n (mAWi X k0 n)) (hk0 : 1 ≤ k0) (hk1 : k0 ≤ 4398046511104) (hz : WiSize n X) (hn : n ≤ 1048576) :
    Calls Try.prog 47 #[v, .int .i64 k0] w fun e w' => e = .returned (.int .i64 (kOWi X k0 n : Int)) ∧ Below w.heap.size w w' := by
  rcases h.2 with ⟨rfl, lo, lc, rfl⟩ | ⟨g, cap, A0, A1, K0, K1, G, rfl, h1, h2, h3, h4, h5⟩
  · refine (heldW_zero lo lc k0 w).mono ?_
    rintro e w' ⟨rfl, rfl⟩
    exact ⟨rfl, Below.refl _ _⟩
  · exact heldWinS_yes g n cap k0 X A0 A1 K0 K1 G w h3 hk0 hk1 hz hn
theorem markT_none (ao : Option Addr) (cap : Nat) (q : Int) (w : World) :
    Calls Try.prog 13 #[.slice ao 0 cap, .int .i64 q] w fun e w' => e = .returned (.int .i64 q) ∧ w' = w := by
  go_enter Try.func13, Try.ntmps13
  go_wp2
  go_loopw [1, 5] (fun p i wr => i = .int .i64 0 ∧ p = .int .i64 q ∧ wr = w) (fun _ _ _ => 0)
  case atStart => exact ⟨rfl, rfl, rfl⟩
  case round =>
    obtain ⟨rfl, rfl, rfl⟩ := hrel
    go_wp2
    go_ret
    exact ⟨rfl, rfl⟩
theorem heldT_none (ao : Option Addr) (cap : Nat) (q : Int) (w : World) :
    Calls Try.prog 15 #[.slice ao 0 cap, .int .i64 q] w fun e w' => e = .returned (.int .i64 q) ∧ w' = w := by
  go_enter Try.func15, Try.ntmps15
  go_wp2
  go_loopw [1, 5] (fun p i wr => i = .int .i64 0 ∧ p = .int .i64 q ∧ wr = w) (fun _ _ _ => 0)
  case atStart => exact ⟨rfl, rfl, rfl⟩
  case round =>
    obtain ⟨rfl, rfl, rfl⟩ := hrel
    go_wp2
    go_ret
    exact ⟨rfl, rfl⟩
theorem markTA (v : Value) (base top n k0 : Nat) (X : Nat → Wn) (w : World) (h : TA w base top v n X) (hk0 : 1 ≤ k0) (hk1 : k0 ≤ 4398046511104) (hz : ToSize n X) (hn : n ≤ 1048576) :
    Calls Try.prog 13 #[v, .int .i64 k0] w fun e w' => e = .returned (.int .i64 (kOTo X k0 n : Int)) ∧ TA w' base top v n (mATo X k0 n) ∧ Rng base top w w' := by
  have ht := h.1
  rcases h.2 with ⟨rfl, lo, lc, rfl⟩ | ⟨g, cap, A0, A1, K0, K1, G, rfl, h1, h2, h3, h4, h5⟩
  · refine (markT_none lo lc k0 w).mono ?_
    rintro e w' ⟨rfl, rfl⟩
    exact ⟨rfl, ⟨ht, .inl ⟨rfl, lo, lc, rfl⟩⟩, Rng.refl _ _ _⟩
  · refine (markToldS_any g n cap k0 X A0 A1 K0 K1 G base top w h3 ⟨h1, h2⟩ h4 h5 hk0 hk1 hz hn).mono ?_
    rintro e w' ⟨rfl, hc, hr⟩
    exact ⟨rfl, ⟨Nat.le_trans ht hr.size, .inr ⟨g, cap, A0, A1, K0, K1, G, rfl, h1, h2, hc, fun i hi hp => h4 i hi (by rw [(mATo_len _ _ _ _).1] at hp; exact hp), fun i hi hp => h5 i hi (by rw [(mATo_len _ _ _ _).2] at hp; exact hp)⟩⟩, hr⟩
theorem heldTA (v : Value) (base top n k0 : Nat) (X : Nat → Wn) (w : World) (h : TA w base top v n (mATo X k0 n)) (hk0 : 1 ≤ k0) (hk1 : k0 ≤ 4398046511104) (hz : ToSize n X) (hn : n ≤ 1048576) :
    Calls Try.prog 15 #[v, .int .i64 k0] w fun e w' => e = .returned (.int .i64 (kOTo X k0 n : Int)) ∧ Below w.heap.size w w' := by
  rcases h.2 with ⟨rfl, lo, lc, rfl⟩ | ⟨g, cap, A0, A1, K0, K1, G, rfl, h1, h2, h3, h4, h5⟩
  · refine (heldT_none lo lc k0 w).mono ?_
    rintro e w' ⟨rfl, rfl⟩
    exact ⟨rfl, Below.refl _ _⟩
  · exact heldToldS_yes g n cap k0 X A0 A1 K0 K1 G w h3 hk0 hk1 hz hn
set_option maxHeartbeats 800000 in
theorem markBoard2 (z h mk : Int) (v : Value) (base top n k0 : Nat) (X : Nat → Wn) (w : World) (hA : BA w base top v n X) (hk0 : 1 ≤ k0) (hk1 : k0 ≤ 4398046511104) (hz : WiSize n X) (hn : n ≤ 1048576) :
    Calls Try.prog 12 #[.agg #[.int .i64 z, .int .i64 h, .int .i64 mk, v], .int .i64 k0] w fun e w' => e = .returned (.int .i64 (kOWi X k0 n : Int)) ∧ BA w' base top v n (mAWi X k0 n) ∧ Rng base top w w' := by
  have hB := below_new w (.cells #[.int .i64 z, .int .i64 h, .int .i64 mk, v] 28)
  have hm := markBA2 v base top n k0 X _ (hA.keep hB) hk0 hk1 hz hn
  obtain ⟨lo, lc, rfl⟩ := hA.form
  go_enter Try.func12, Try.ntmps12
  go_wp2_with fail
  refine hm.mono ?_
  rintro e w1 ⟨rfl, h1, h2⟩
  have H1 : Hid (BA w1 base top (.slice lo n lc) n (mAWi X k0 n)) := h1
  have h3 := (Rng.of_below (lo := base) (hi := top) hB).trans h2
  clear h1 h2 hm
  go_wp2
  go_ret
  exact ⟨rfl, H1.out, h3⟩
set_option maxHeartbeats 800000 in
theorem heldBoard2 (z h mk : Int) (v : Value) (base top n k0 : Nat) (X : Nat → Wn) (W : World) (hA : BA W base top v n (mAWi X k0 n)) (hk0 : 1 ≤ k0) (hk1 : k0 ≤ 4398046511104) (hz : WiSize n X) (hn : n ≤ 1048576) :
    Calls Try.prog 14 #[.agg #[.int .i64 z, .int .i64 h, .int .i64 mk, v], .int .i64 k0] W fun e w' => e = .returned (.int .i64 (kOWi X k0 n : Int)) ∧ Below W.heap.size W w' := by
  have hB := below_new W (.cells #[.int .i64 z, .int .i64 h, .int .i64 mk, v] 28)
  have hh := heldBA v base top n k0 X _ (hA.keep hB) hk0 hk1 hz hn
  obtain ⟨lo, lc, rfl⟩ := hA.form
  have hneg : decide (((kOWi X k0 n : Nat) : Int) < 0) = false := decide_eq_false (by omega)
  generalize ((kOWi X k0 n : Nat) : Int) = q at *
  go_enter Try.func14, Try.ntmps14
  go_wp2_with fail
  refine hh.mono ?_
  rintro e w1 ⟨rfl, h1⟩
  have bw : Below W.heap.size W w1 := hB.trans (h1.mono (by simp))
  clear h1 hh
  go_wp2
  go_ret
  exact ⟨rfl, bw⟩

/-- What is told and what tells it is no greater than the board. -/
structure TdO (n : Nat) (n' : Nat) (X' : Nat → Wn) (m' : Nat) (T' : Nat → Wn) : Prop where
  n1 : n' ≤ 1048576
  b1 : ∀ i, i < n' → WiB (X' i)
  f1 : FBw n' X'
  z1 : WiSize n' X'
  n2 : m' ≤ 1048576
  b2 : ∀ i, i < m' → TlB (T' i)
  f2 : FBw m' T'
  z2 : ToSize m' T'
theorem td_out (z h mk : Int) (n : Nat) (X : Nat → Wn) (hn : n ≤ 1048576) (hb : ∀ i, i < n → WiB (X i)) (hf : FBw n X) (hz : WiSize n X) : ∃ (z' h' mk' : Int) (n' : Nat) (X' : Nat → Wn) (m' : Nat) (T' : Nat → Wn) (c : Int), TdO n n' X' m' T' ∧
    (∀ (ao : Option Addr) (cap : Nat) (w : World), WiRow w ao n X → Calls Try.prog 7 #[.agg #[.int .i64 z, .int .i64 h, .int .i64 mk, .slice ao n cap]] w fun e w' => TAns z' h' mk' n' X' m' T' c w e w') ∧
    (∀ (ao : Option Addr) (cap : Nat) (w : World), WiRow w ao n X → Calls Try.prog 9 #[.agg #[.int .i64 z, .int .i64 h, .int .i64 mk, .slice ao n cap]] w fun e w' => TAns z' h' mk' n' X' m' T' c w e w') := by
  have nil : ∀ (Y : Nat → Wn), (∀ i, i < 0 → TlB (Y i)) ∧ FBw 0 Y ∧ ToSize 0 Y := fun Y => ⟨fun i hi => absurd hi (Nat.not_lt_zero _), fun i hi => absurd hi (Nat.not_lt_zero _), fun i hi => absurd hi (Nat.not_lt_zero _)⟩
  by_cases hG : GBd z h mk n X
  · by_cases hw : Worn (cln X) n (dS X n)
    · exact ⟨z, h, mk, n, X, 0, X, 1, ⟨hn, hb, hf, hz, Nat.zero_le _, (nil X).1, (nil X).2.1, (nil X).2.2⟩, fun ao cap w hr => (tellDirty_spec_good z h mk ao n cap X X w hr hn hz hG (fun i => (X i).di) rfl).mono (fun _ _ hh => hh.1 hw), fun ao cap w hr => tellDirty_impl_worn z h mk ao n cap X X w hr hn hz hG hw⟩
    · refine ⟨z, h, mk, n, tdX X, tN (fun i => (X i).di) n, tL (cln X) (fun i => (X i).di) n, 0, ⟨hn, fun i hi => ?_, fun i hi => ?_, fun i hi => ?_, by have := tN_le (fun i => (X i).di) n; omega, fun j hj => ?_, tL_fb (Y := cln X) hf (Nat.le_refl _), fun j hj => ?_⟩, fun ao cap w hr => (tellDirty_spec_good z h mk ao n cap X X w hr hn hz hG (fun i => (X i).di) rfl).mono (fun _ _ hh => hh.2 hw), fun ao cap w hr => tellDirty_impl_good z h mk ao n cap X w hr hn hz hG hw (fun i => (X i).di) rfl⟩
      · have hv : btw 0 (X i).ver 1000000 = true := (hG.wins.each i hi).ver
        have hv' : 0 ≤ (X i).ver ∧ (X i).ver ≤ 1000000 := by simpa [btw] using hv
        have h9 := hb i hi
        unfold tdX
        split
        · exact ⟨h9.st, h9.c, h9.s, by show _ ≤ (X i).ver + 1 ∧ (X i).ver + 1 ≤ _; omega, h9.m, h9.tn, h9.ts, h9.n⟩
        · exact h9
      · unfold tdX
        split
        · exact hf i hi
        · exact hf i hi
      · have h9 := hz i hi
        unfold tdX
        split
        · exact ⟨h9.m, h9.tn, h9.ts, h9.n⟩
        · exact h9
      · obtain ⟨i, h1, _, h3⟩ := tL_of (cln X) (fun i => (X i).di) n j hj
        rw [h3]
        have hv : btw 0 (X i).ver 1000000 = true := (hG.wins.each i h1).ver
        have hv' : 0 ≤ (X i).ver ∧ (X i).ver ≤ 1000000 := by simpa [btw] using hv
        have h9 := hb i h1
        show WiB (vInc (cln X i))
        exact ⟨h9.st, h9.c, h9.s, by show _ ≤ (X i).ver + 1 ∧ (X i).ver + 1 ≤ _; omega, h9.m, h9.tn, h9.ts, h9.n⟩
      · obtain ⟨i, h1, _, h3⟩ := tL_of (cln X) (fun i => (X i).di) n j hj
        rw [h3]
        have h9 := hz i h1
        show WiS (vInc (cln X i))
        exact ⟨h9.m, h9.tn, h9.ts, h9.n⟩
  · exact ⟨0, 0, 0, 0, X, 0, X, 1, ⟨Nat.zero_le _, fun i hi => absurd hi (Nat.not_lt_zero _), fun i hi => absurd hi (Nat.not_lt_zero _), fun i hi => absurd hi (Nat.not_lt_zero _), Nat.zero_le _, (nil X).1, (nil X).2.1, (nil X).2.2⟩, fun ao cap w hr => tellDirty_spec_bad z h mk ao n cap X X w hr hn hz hG, fun ao cap w hr => tellDirty_impl_bad z h mk ao n cap X X w hr hn hz hG⟩
end Go.Proofs.Ytflmbcgokiiedaa
