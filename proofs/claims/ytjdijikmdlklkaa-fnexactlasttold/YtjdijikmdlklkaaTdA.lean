/- Marks of told windows looked for. / TellDirty: both texts' outcome in one form; boards and told windows marked, each by itself. -/
import Derived.Test.YtjdijikmdlklkaaMx
import Derived.Deep.RegionHeld3
import Derived.Test.YtjdijikmdlklkaaTs
namespace Go.Proofs.Ytjdijikmdlklkaa
open Go.RowKit
set_option linter.unusedSimpArgs false
set_option linter.unusedVariables false

set_option maxRecDepth 100000 in
set_option maxHeartbeats 8000000 in
theorem heldToldS_yes (b n cap k0 : Nat) (X : Nat → Wn) (A0 A1 : Nat → Option Addr) (K0 K1 : Nat → Nat) (G : Nat → Nat) (w : World) (h : ToC w b n (mATo X k0 n) A0 A1 K0 K1 G) (hk0 : 1 ≤ k0) (hk1 : k0 ≤ 4398046511104) (hz : ToSize n X) (hn : n ≤ 1048576) :
    Calls Try.prog 10 #[.slice (some ⟨b, 0, none⟩) n cap, .int .i64 k0] w fun e w' => e = .returned (.int .i64 (kOTo X k0 n : Int)) ∧ Below w.heap.size w w' := by
  go_enter Try.func10, Try.ntmps10
  go_wp2
  go_loopw [1, 5] (fun q i wr => ∃ k : Nat, k ≤ n ∧ i = .int .i64 k ∧ q = .int .i64 (kOTo X k0 k : Int) ∧ Below w.heap.size w wr) (fun _ i _ => n - (intOf i).toNat)
  case atStart => exact ⟨0, Nat.zero_le _, rfl, rfl, Below.refl _ _⟩
  case round =>
    obtain ⟨k, hk, rfl, rfl, hbk⟩ := hrel
    by_cases hlt : k < n
    rotate_left
    · have e : k = n := by omega
      subst e
      go_wp2
      go_ret
      exact ⟨rfl, hbk⟩
    have hkb := kOTo_mono X k0 (show k + 1 ≤ n by omega)
    have hkn := kOTo_le X k0 n hz
    have hkg := kOTo_ge X k0 k
    have hks : kOTo X k0 (k + 1) = kOTo X k0 k + spTo (X k) := rfl
    have hzk := hz k hlt
    have hCk := h.keep hbk
    have e9 := hCk.ent k hlt
    have g0 := hCk.l0 k hlt
    have g1 := hCk.l1 k hlt
    have hMk : mATo X k0 n k = mkTo (kOTo X k0 k) (X k) := by simp [mATo, hlt]
    rw [hMk] at e9 g0 g1
    obtain ⟨kk, hkk⟩ : ∃ kk, kk = kOTo X k0 k := ⟨_, rfl⟩
    rw [← hkk] at hkg hks e9 g0 g1 ⊢
    have HKS : Hid (kOTo X k0 (k + 1) = kk + spTo (X k)) := hks
    have hkt : kk + spTo (X k) ≤ 8796093022208 := by omega
    unfold spTo at hkt
    clear hkk hks hkb hkn hMk hCk h
    have hq0 : (0 : Int) ≤ (k : Int) := by omega
    have hq1 : (k : Int) < (n : Int) := by omega
    have hw_kk_1 : IntKind.i64.wrap ((kk : Int) + 1) = ((kk : Int) + 1) := by rw [IntKind.wrap_i64] <;> omega
    obtain ⟨p1, hp1⟩ : ∃ p1 : Nat, p1 = kk + 1 + 2 * (X k).tn := ⟨_, rfl⟩
    have Hp1 : Hid (p1 = kk + 1 + 2 * (X k).tn) := hp1
    have bp1 : p1 ≤ kk + 1 + 2 * (X k).tn := by omega
    have Bp1 : kk + 1 + 2 * (X k).tn ≤ p1 := by omega
    have hw_p1_1 : IntKind.i64.wrap ((p1 : Int) + 1) = ((p1 : Int) + 1) := by rw [IntKind.wrap_i64] <;> omega
    have hw_p1_2 : IntKind.i64.wrap (((p1 : Int) + 1) + 1) = ((p1 : Int) + 2) := by rw [IntKind.wrap_i64] <;> omega
    have hw_p1_3 : IntKind.i64.wrap (((p1 : Int) + 2) + 1) = ((p1 : Int) + 3) := by rw [IntKind.wrap_i64] <;> omega
    have hw_p1_4 : IntKind.i64.wrap (((p1 : Int) + 3) + 1) = ((p1 : Int) + 4) := by rw [IntKind.wrap_i64] <;> omega
    have hw_p1_5 : IntKind.i64.wrap (((p1 : Int) + 4) + 1) = ((p1 : Int) + 5) := by rw [IntKind.wrap_i64] <;> omega
    have hw_p1_6 : IntKind.i64.wrap (((p1 : Int) + 5) + 1) = ((p1 : Int) + 6) := by rw [IntKind.wrap_i64] <;> omega
    obtain ⟨p2, hp2⟩ : ∃ p2 : Nat, p2 = p1 + 6 + (X k).n := ⟨_, rfl⟩
    have Hp2 : Hid (p2 = p1 + 6 + (X k).n) := hp2
    have bp2 : p2 ≤ p1 + 6 + (X k).n := by omega
    have Bp2 : p1 + 6 + (X k).n ≤ p2 := by omega
    have hw_p2_1 : IntKind.i64.wrap ((p2 : Int) + 1) = ((p2 : Int) + 1) := by rw [IntKind.wrap_i64] <;> omega
    have c0 := e9.c0
    rw [show (mkTo kk (X k)).m = mt (kk : Int) from rfl] at c0
    have c1 := e9.c1
    rw [show (mkTo kk (X k)).tn = (X k).tn from rfl] at c1
    have c2 := e9.c2
    rw [show (mkTo kk (X k)).st = (p1 : Int) from by simp only [mkTo]; omega] at c2
    have c3 := e9.c3
    rw [show (mkTo kk (X k)).ver = ((p1 : Int) + 1) from by simp only [mkTo]; omega] at c3
    have c4 := e9.c4
    rw [show (mkTo kk (X k)).c = ((p1 : Int) + 2) from by simp only [mkTo]; omega] at c4
    have c5 := e9.c5
    rw [show (mkTo kk (X k)).s = ((p1 : Int) + 3) from by simp only [mkTo]; omega] at c5
    have c6 := e9.c6
    rw [show (mkTo kk (X k)).lo = ((p1 : Int) + 4) from by simp only [mkTo]; omega] at c6
    have c7 := e9.c7
    rw [show (mkTo kk (X k)).hi = ((p1 : Int) + 5) from by simp only [mkTo]; omega] at c7
    have c8 := e9.c8
    rw [show (mkTo kk (X k)).n = (X k).n from rfl] at c8
    have c9 := e9.c9
    rw [show (mkTo kk (X k)).fu = ((p2 : Int) % 3 == 0) from by simp only [mkTo]; congr 2; omega] at c9
    have r0 : TRow wr (A0 k) (X k).tn (mtN (kk + 1)) (mtV (kk + 1)) := by
      by_cases h0 : (X k).tn = 0
      · exact ⟨.inl h0⟩
      · obtain ⟨e1, _, e3⟩ := g0 (Nat.pos_of_ne_zero h0)
        rw [e1]
        have e4 := e3.row
        simp only [mkTo] at e4
        exact e4
    have m0 := fun W h => heldTagS_yes (A0 k) (X k).tn (K0 k) (kk + 1) W h (show WiS (X k) from hzk).tn (by omega) (by omega)
    rw [show (((kk + 1) : Nat) : Int) = ((kk : Int) + 1) from by omega] at m0
    rw [show ((kk : Int) + 1) + 2 * ((X k).tn : Int) = (p1 : Int) from by omega] at m0
    have r1 : IRow wr (A1 k) (X k).n (mIn (p1 + 6) (X k).n) := by
      by_cases h0 : (X k).n = 0
      · exact ⟨mIn_bd _ _ (show WiS (X k) from hzk).n (by omega), .inl h0⟩
      · obtain ⟨e1, _, e3⟩ := g1 (Nat.pos_of_ne_zero h0)
        rw [e1]
        have e4 := e3.row
        simp only [mkTo] at e4
        rw [show kk + 1 + 2 * (X k).tn + 1 + 1 + 1 + 1 + 1 + 1 = p1 + 6 from by omega] at e4
        exact e4
    have m1 := fun W h => heldI_from (A1 k) (X k).n (K1 k) ((p1 : Int) + 6) (mIn (p1 + 6) (X k).n) W h (fun i hi => by rw [mIn, if_pos hi]; unfold mI; omega) (show WiS (X k) from hzk).n (by omega)
    rw [show ((p1 : Int) + 6) + ((X k).n : Int) = (p2 : Int) from by omega] at m1
    clear g0 g1 hp1 hp2
    have lb := e9.lt
    go_wp2
    go_region_held3 (fun w' => w'.cell? ⟨b, k * 10, none⟩ = some (.string (mt (kk : Int)))) (go_keep) (first | (go_at_call 23; refine (markText_any (kk : Int) _ (by omega) (by omega)).mono ?_; rintro e w0 ⟨rfl, hb0⟩; have hb0' := (Below.refl _ wr).drew.trans hb0; have z0 := (hb0'.cell (p := ⟨b, k * 10, none⟩) lb).trans c0))
    clear z0
    have c0 := (hb0'.cell (p := ⟨b, k * 10, none⟩) lb).trans c0
    have c1 := (hb0'.cell (p := ⟨b, k * 10 + 1, none⟩) lb).trans c1
    have c2 := (hb0'.cell (p := ⟨b, k * 10 + 2, none⟩) lb).trans c2
    have c3 := (hb0'.cell (p := ⟨b, k * 10 + 3, none⟩) lb).trans c3
    have c4 := (hb0'.cell (p := ⟨b, k * 10 + 4, none⟩) lb).trans c4
    have c5 := (hb0'.cell (p := ⟨b, k * 10 + 5, none⟩) lb).trans c5
    have c6 := (hb0'.cell (p := ⟨b, k * 10 + 6, none⟩) lb).trans c6
    have c7 := (hb0'.cell (p := ⟨b, k * 10 + 7, none⟩) lb).trans c7
    have c8 := (hb0'.cell (p := ⟨b, k * 10 + 8, none⟩) lb).trans c8
    have c9 := (hb0'.cell (p := ⟨b, k * 10 + 9, none⟩) lb).trans c9
    have lb := Nat.lt_of_lt_of_le lb hb0'.size
    have r0 := r0.keep hb0'
    have r1 := r1.keep hb0'
    have hbk := hbk.trans (hb0'.mono hbk.size)
    clear hb0 hb0'
    have hneg0 : decide ((p1 : Int) < 0) = false := decide_eq_false (by omega)
    go_wp2_with fail
    refine (m0 _ r0).mono ?_
    clear m0
    rintro e v0 ⟨rfl, q0⟩
    have c0 := (q0.cell (p := ⟨b, k * 10, none⟩) lb).trans c0
    have c1 := (q0.cell (p := ⟨b, k * 10 + 1, none⟩) lb).trans c1
    have c2 := (q0.cell (p := ⟨b, k * 10 + 2, none⟩) lb).trans c2
    have c3 := (q0.cell (p := ⟨b, k * 10 + 3, none⟩) lb).trans c3
    have c4 := (q0.cell (p := ⟨b, k * 10 + 4, none⟩) lb).trans c4
    have c5 := (q0.cell (p := ⟨b, k * 10 + 5, none⟩) lb).trans c5
    have c6 := (q0.cell (p := ⟨b, k * 10 + 6, none⟩) lb).trans c6
    have c7 := (q0.cell (p := ⟨b, k * 10 + 7, none⟩) lb).trans c7
    have c8 := (q0.cell (p := ⟨b, k * 10 + 8, none⟩) lb).trans c8
    have c9 := (q0.cell (p := ⟨b, k * 10 + 9, none⟩) lb).trans c9
    have lb := Nat.lt_of_lt_of_le lb q0.size
    have r1 := r1.keep q0
    have hbk := hbk.trans (q0.mono hbk.size)
    clear q0
    have hneg1 : decide ((p2 : Int) < 0) = false := decide_eq_false (by omega)
    go_wp2_with fail
    refine (m1 _ r1).mono ?_
    clear m1
    rintro e v1 ⟨rfl, q1⟩
    have c0 := (q1.cell (p := ⟨b, k * 10, none⟩) lb).trans c0
    have c1 := (q1.cell (p := ⟨b, k * 10 + 1, none⟩) lb).trans c1
    have c2 := (q1.cell (p := ⟨b, k * 10 + 2, none⟩) lb).trans c2
    have c3 := (q1.cell (p := ⟨b, k * 10 + 3, none⟩) lb).trans c3
    have c4 := (q1.cell (p := ⟨b, k * 10 + 4, none⟩) lb).trans c4
    have c5 := (q1.cell (p := ⟨b, k * 10 + 5, none⟩) lb).trans c5
    have c6 := (q1.cell (p := ⟨b, k * 10 + 6, none⟩) lb).trans c6
    have c7 := (q1.cell (p := ⟨b, k * 10 + 7, none⟩) lb).trans c7
    have c8 := (q1.cell (p := ⟨b, k * 10 + 8, none⟩) lb).trans c8
    have c9 := (q1.cell (p := ⟨b, k * 10 + 9, none⟩) lb).trans c9
    have lb := Nat.lt_of_lt_of_le lb q1.size
    have hbk := hbk.trans (q1.mono hbk.size)
    clear q1
    have HF : Hid (((p2 : Int) + 1) = ((kOTo X k0 (k + 1) : Nat) : Int)) := by
      unfold Hid
      rw [HKS.out]
      unfold spTo
      have := Hp1.out
      have := Hp2.out
      omega
    go_wp2
    go_roundw
    case rel => exact ⟨k + 1, by omega, by go_num, by rw [← HF.out], hbk⟩
    case measure => simp [intOf]; omega
end Go.Proofs.Ytjdijikmdlklkaa
namespace Go.Proofs.Ytjdijikmdlklkaa
open Go.RowKit
set_option linter.unusedSimpArgs false
set_option linter.unusedVariables false

theorem BdAt.rng {w w' : World} {b lo hi : Nat} {z h mk : Int} {sv : Value} (H : BdAt w b z h mk sv) (hr : Rng lo hi w w') (hb : b < lo ∨ hi ≤ b) : BdAt w' b z h mk sv :=
  have k : ∀ j, w'.cell? ⟨b, j, none⟩ = w.cell? ⟨b, j, none⟩ := fun j => World.cell?_of_block (w := w) (a := ⟨b, j, none⟩) (hr.block b H.lt hb)
  ⟨Nat.lt_of_lt_of_le H.lt hr.size, (k _).trans H.c0, (k _).trans H.c1, (k _).trans H.c2, (k _).trans H.c3⟩
theorem BA.rng {w w' : World} {base top lo hi n : Nat} {v : Value} {X : Nat → Wn} (h : BA w base top v n X) (hr : Rng lo hi w w') (hd : top ≤ lo ∨ hi ≤ base) : BA w' base top v n X :=
  h.same hr.size (fun c h1 h2 => hr.block c (by have := h.1; omega) (by omega))
theorem TA.rng {w w' : World} {base top lo hi n : Nat} {v : Value} {X : Nat → Wn} (h : TA w base top v n X) (hr : Rng lo hi w w') (hd : top ≤ lo ∨ hi ≤ base) : TA w' base top v n X :=
  h.same hr.size (fun c h1 h2 => hr.block c (by have := h.1; omega) (by omega))

theorem mAWi_len (X : Nat → Wn) (k0 m i : Nat) : (mAWi X k0 m i).tn = (X i).tn ∧ (mAWi X k0 m i).n = (X i).n := by unfold mAWi; split <;> exact ⟨rfl, rfl⟩
theorem mATo_len (X : Nat → Wn) (k0 m i : Nat) : (mATo X k0 m i).tn = (X i).tn ∧ (mATo X k0 m i).n = (X i).n := by unfold mATo; split <;> exact ⟨rfl, rfl⟩
theorem markT_none (ao : Option Addr) (cap : Nat) (q : Int) (w : World) :
    Calls Try.prog 9 #[.slice ao 0 cap, .int .i64 q] w fun e w' => e = .returned (.int .i64 q) ∧ w' = w := by
  go_enter Try.func9, Try.ntmps9
  go_wp2
  go_loopw [1, 5] (fun p i wr => i = .int .i64 0 ∧ p = .int .i64 q ∧ wr = w) (fun _ _ _ => 0)
  case atStart => exact ⟨rfl, rfl, rfl⟩
  case round =>
    obtain ⟨rfl, rfl, rfl⟩ := hrel
    go_wp2
    go_ret
    exact ⟨rfl, rfl⟩
theorem heldT_none (ao : Option Addr) (cap : Nat) (q : Int) (w : World) :
    Calls Try.prog 10 #[.slice ao 0 cap, .int .i64 q] w fun e w' => e = .returned (.int .i64 q) ∧ w' = w := by
  go_enter Try.func10, Try.ntmps10
  go_wp2
  go_loopw [1, 5] (fun p i wr => i = .int .i64 0 ∧ p = .int .i64 q ∧ wr = w) (fun _ _ _ => 0)
  case atStart => exact ⟨rfl, rfl, rfl⟩
  case round =>
    obtain ⟨rfl, rfl, rfl⟩ := hrel
    go_wp2
    go_ret
    exact ⟨rfl, rfl⟩
theorem markTA (v : Value) (base top n k0 : Nat) (X : Nat → Wn) (w : World) (h : TA w base top v n X) (hk0 : 1 ≤ k0) (hk1 : k0 ≤ 4398046511104) (hz : ToSize n X) (hn : n ≤ 1048576) :
    Calls Try.prog 9 #[v, .int .i64 k0] w fun e w' => e = .returned (.int .i64 (kOTo X k0 n : Int)) ∧ TA w' base top v n (mATo X k0 n) ∧ Rng base top w w' := by
  have ht := h.1
  rcases h.2 with ⟨rfl, lo, lc, rfl⟩ | ⟨g, cap, A0, A1, K0, K1, G, rfl, h1, h2, h3, h4, h5⟩
  · refine (markT_none lo lc k0 w).mono ?_
    rintro e w' ⟨rfl, rfl⟩
    exact ⟨rfl, ⟨ht, .inl ⟨rfl, lo, lc, rfl⟩⟩, Rng.refl _ _ _⟩
  · refine (markToldS_any g n cap k0 X A0 A1 K0 K1 G base top w h3 ⟨h1, h2⟩ h4 h5 hk0 hk1 hz hn).mono ?_
    rintro e w' ⟨rfl, hc, hr⟩
    exact ⟨rfl, ⟨Nat.le_trans ht hr.size, .inr ⟨g, cap, A0, A1, K0, K1, G, rfl, h1, h2, hc, fun i hi hp => h4 i hi (by rw [(mATo_len _ _ _ _).1] at hp; exact hp), fun i hi hp => h5 i hi (by rw [(mATo_len _ _ _ _).2] at hp; exact hp)⟩⟩, hr⟩
theorem heldTA (v : Value) (base top n k0 : Nat) (X : Nat → Wn) (w : World) (h : TA w base top v n (mATo X k0 n)) (hk0 : 1 ≤ k0) (hk1 : k0 ≤ 4398046511104) (hz : ToSize n X) (hn : n ≤ 1048576) :
    Calls Try.prog 10 #[v, .int .i64 k0] w fun e w' => e = .returned (.int .i64 (kOTo X k0 n : Int)) ∧ Below w.heap.size w w' := by
  rcases h.2 with ⟨rfl, lo, lc, rfl⟩ | ⟨g, cap, A0, A1, K0, K1, G, rfl, h1, h2, h3, h4, h5⟩
  · refine (heldT_none lo lc k0 w).mono ?_
    rintro e w' ⟨rfl, rfl⟩
    exact ⟨rfl, Below.refl _ _⟩
  · exact heldToldS_yes g n cap k0 X A0 A1 K0 K1 G w h3 hk0 hk1 hz hn
/-- What is told and what tells it is no greater than the board. -/
structure TdO (n : Nat) (n' : Nat) (X' : Nat → Wn) (m' : Nat) (T' : Nat → Wn) : Prop where
  n1 : n' ≤ 1048576
  b1 : ∀ i, i < n' → WiB (X' i)
  f1 : FBw n' X'
  z1 : WiSize n' X'
  n2 : m' ≤ 1048576
  b2 : ∀ i, i < m' → TlB (T' i)
  f2 : FBw m' T'
  z2 : ToSize m' T'
end Go.Proofs.Ytjdijikmdlklkaa
