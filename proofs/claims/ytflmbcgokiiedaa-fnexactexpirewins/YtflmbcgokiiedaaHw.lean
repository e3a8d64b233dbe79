/- Marks of windows looked for. -/
import Derived.Test.YtflmbcgokiiedaaMw
import Derived.Deep.RegionHeld3
namespace Go.Proofs.Ytflmbcgokiiedaa
open Go.RowKit
set_option linter.unusedSimpArgs false
set_option linter.unusedVariables false

set_option maxRecDepth 100000 in
set_option maxHeartbeats 8000000 in
theorem heldWinS_yes (b n cap k0 : Nat) (X : Nat → Wn) (A0 A1 : Nat → Option Addr) (K0 K1 : Nat → Nat) (G : Nat → Nat) (w : World) (h : WiC w b n (mAWi X k0 n) A0 A1 K0 K1 G) (hk0 : 1 ≤ k0) (hk1 : k0 ≤ 4398046511104) (hz : WiSize n X) (hn : n ≤ 1048576) :
    Calls Try.prog 47 #[.slice (some ⟨b, 0, none⟩) n cap, .int .i64 k0] w fun e w' => e = .returned (.int .i64 (kOWi X k0 n : Int)) ∧ Below w.heap.size w w' := by
  go_enter Try.func47, Try.ntmps47
  go_wp2
  go_loopw [1, 5] (fun q i wr => ∃ k : Nat, k ≤ n ∧ i = .int .i64 k ∧ q = .int .i64 (kOWi X k0 k : Int) ∧ Below w.heap.size w wr) (fun _ i _ => n - (intOf i).toNat)
  case atStart => exact ⟨0, Nat.zero_le _, rfl, rfl, Below.refl _ _⟩
  case round =>
    obtain ⟨k, hk, rfl, rfl, hbk⟩ := hrel
    by_cases hlt : k < n
    rotate_left
    · have e : k = n := by omega
      subst e
      go_wp2
      go_ret
      exact ⟨rfl, hbk⟩
    have hkb := kOWi_mono X k0 (show k + 1 ≤ n by omega)
    have hkn := kOWi_le X k0 n hz
    have hkg := kOWi_ge X k0 k
    have hks : kOWi X k0 (k + 1) = kOWi X k0 k + spWi (X k) := rfl
    have hzk := hz k hlt
    have hCk := h.keep hbk
    have e9 := hCk.ent k hlt
    have g0 := hCk.l0 k hlt
    have g1 := hCk.l1 k hlt
    have hMk : mAWi X k0 n k = mkWi (kOWi X k0 k) (X k) := by simp [mAWi, hlt]
    rw [hMk] at e9 g0 g1
    obtain ⟨kk, hkk⟩ : ∃ kk, kk = kOWi X k0 k := ⟨_, rfl⟩
    rw [← hkk] at hkg hks e9 g0 g1 ⊢
    have HKS : Hid (kOWi X k0 (k + 1) = kk + spWi (X k)) := hks
    have hkt : kk + spWi (X k) ≤ 8796093022208 := by omega
    unfold spWi at hkt
    clear hkk hks hkb hkn hMk hCk h
    have hq0 : (0 : Int) ≤ (k : Int) := by omega
    have hq1 : (k : Int) < (n : Int) := by omega
    have hw_kk_1 : IntKind.i64.wrap ((kk : Int) + 1) = ((kk : Int) + 1) := by rw [IntKind.wrap_i64] <;> omega
    obtain ⟨p1, hp1⟩ : ∃ p1 : Nat, p1 = kk + 1 + 2 * (X k).tn := ⟨_, rfl⟩
    have Hp1 : Hid (p1 = kk + 1 + 2 * (X k).tn) := hp1
    have bp1 : p1 ≤ kk + 1 + 2 * (X k).tn := by omega
    have Bp1 : kk + 1 + 2 * (X k).tn ≤ p1 := by omega
    have hw_p1_1 : IntKind.i64.wrap ((p1 : Int) + 1) = ((p1 : Int) + 1) := by rw [IntKind.wrap_i64] <;> omega
    have hw_p1_2 : IntKind.i64.wrap (((p1 : Int) + 1) + 1) = ((p1 : Int) + 2) := by rw [IntKind.wrap_i64] <;> omega
    have hw_p1_3 : IntKind.i64.wrap (((p1 : Int) + 2) + 1) = ((p1 : Int) + 3) := by rw [IntKind.wrap_i64] <;> omega
    have hw_p1_4 : IntKind.i64.wrap (((p1 : Int) + 3) + 1) = ((p1 : Int) + 4) := by rw [IntKind.wrap_i64] <;> omega
    have hw_p1_5 : IntKind.i64.wrap (((p1 : Int) + 4) + 1) = ((p1 : Int) + 5) := by rw [IntKind.wrap_i64] <;> omega
    obtain ⟨p2, hp2⟩ : ∃ p2 : Nat, p2 = p1 + 5 + (X k).n := ⟨_, rfl⟩
    have Hp2 : Hid (p2 = p1 + 5 + (X k).n) := hp2
    have bp2 : p2 ≤ p1 + 5 + (X k).n := by omega
    have Bp2 : p1 + 5 + (X k).n ≤ p2 := by omega
    have hw_p2_1 : IntKind.i64.wrap ((p2 : Int) + 1) = ((p2 : Int) + 1) := by rw [IntKind.wrap_i64] <;> omega
    have hw_p2_2 : IntKind.i64.wrap (((p2 : Int) + 1) + 1) = ((p2 : Int) + 2) := by rw [IntKind.wrap_i64] <;> omega
    have hw_p2_3 : IntKind.i64.wrap (((p2 : Int) + 2) + 1) = ((p2 : Int) + 3) := by rw [IntKind.wrap_i64] <;> omega
    have c0 := e9.c0
    rw [show (mkWi kk (X k)).m = mt (kk : Int) from rfl] at c0
    have c1 := e9.c1
    rw [show (mkWi kk (X k)).tn = (X k).tn from rfl] at c1
    have c2 := e9.c2
    rw [show (mkWi kk (X k)).st = (p1 : Int) from by simp only [mkWi]; omega] at c2
    have c3 := e9.c3
    rw [show (mkWi kk (X k)).c = ((p1 : Int) + 1) from by simp only [mkWi]; omega] at c3
    have c4 := e9.c4
    rw [show (mkWi kk (X k)).s = ((p1 : Int) + 2) from by simp only [mkWi]; omega] at c4
    have c5 := e9.c5
    rw [show (mkWi kk (X k)).lo = ((p1 : Int) + 3) from by simp only [mkWi]; omega] at c5
    have c6 := e9.c6
    rw [show (mkWi kk (X k)).hi = ((p1 : Int) + 4) from by simp only [mkWi]; omega] at c6
    have c7 := e9.c7
    rw [show (mkWi kk (X k)).n = (X k).n from rfl] at c7
    have c8 := e9.c8
    rw [show (mkWi kk (X k)).fu = ((p2 : Int) % 3 == 0) from by simp only [mkWi]; congr 2; omega] at c8
    have c9 := e9.c9
    rw [show (mkWi kk (X k)).ver = ((p2 : Int) + 1) from by simp only [mkWi]; omega] at c9
    have c10 := e9.c10
    rw [show (mkWi kk (X k)).di = (((p2 : Int) + 2) % 3 == 0) from by simp only [mkWi]; congr 2; omega] at c10
    have r0 : TRow wr (A0 k) (X k).tn (mtN (kk + 1)) (mtV (kk + 1)) := by
      by_cases h0 : (X k).tn = 0
      · exact ⟨.inl h0⟩
      · obtain ⟨e1, _, e3⟩ := g0 (Nat.pos_of_ne_zero h0)
        rw [e1]
        have e4 := e3.row
        simp only [mkWi] at e4
        exact e4
    have m0 := fun W h => heldTagS_yes (A0 k) (X k).tn (K0 k) (kk + 1) W h hzk.tn (by omega) (by omega)
    rw [show (((kk + 1) : Nat) : Int) = ((kk : Int) + 1) from by omega] at m0
    rw [show ((kk : Int) + 1) + 2 * ((X k).tn : Int) = (p1 : Int) from by omega] at m0
    have r1 : IRow wr (A1 k) (X k).n (mIn (p1 + 5) (X k).n) := by
      by_cases h0 : (X k).n = 0
      · exact ⟨mIn_bd _ _ hzk.n (by omega), .inl h0⟩
      · obtain ⟨e1, _, e3⟩ := g1 (Nat.pos_of_ne_zero h0)
        rw [e1]
        have e4 := e3.row
        simp only [mkWi] at e4
        rw [show kk + 1 + 2 * (X k).tn + 1 + 1 + 1 + 1 + 1 = p1 + 5 from by omega] at e4
        exact e4
    have m1 := fun W h => heldI_from (A1 k) (X k).n (K1 k) ((p1 : Int) + 5) (mIn (p1 + 5) (X k).n) W h (fun i hi => by rw [mIn, if_pos hi]; unfold mI; omega) hzk.n (by omega)
    rw [show ((p1 : Int) + 5) + ((X k).n : Int) = (p2 : Int) from by omega] at m1
    clear g0 g1 hp1 hp2
    have lb := e9.lt
    go_wp2
    go_region_held3 (fun w' => w'.cell? ⟨b, k * 11, none⟩ = some (.string (mt (kk : Int)))) (go_keep) (first | (go_at_call 44; refine (markText_any (kk : Int) _ (by omega) (by omega)).mono ?_; rintro e w0 ⟨rfl, hb0⟩; have hb0' := (Below.refl _ wr).drew.trans hb0; have z0 := (hb0'.cell (p := ⟨b, k * 11, none⟩) lb).trans c0))
    clear z0
    have c0 := (hb0'.cell (p := ⟨b, k * 11, none⟩) lb).trans c0
    have c1 := (hb0'.cell (p := ⟨b, k * 11 + 1, none⟩) lb).trans c1
    have c2 := (hb0'.cell (p := ⟨b, k * 11 + 2, none⟩) lb).trans c2
    have c3 := (hb0'.cell (p := ⟨b, k * 11 + 3, none⟩) lb).trans c3
    have c4 := (hb0'.cell (p := ⟨b, k * 11 + 4, none⟩) lb).trans c4
    have c5 := (hb0'.cell (p := ⟨b, k * 11 + 5, none⟩) lb).trans c5
    have c6 := (hb0'.cell (p := ⟨b, k * 11 + 6, none⟩) lb).trans c6
    have c7 := (hb0'.cell (p := ⟨b, k * 11 + 7, none⟩) lb).trans c7
    have c8 := (hb0'.cell (p := ⟨b, k * 11 + 8, none⟩) lb).trans c8
    have c9 := (hb0'.cell (p := ⟨b, k * 11 + 9, none⟩) lb).trans c9
    have c10 := (hb0'.cell (p := ⟨b, k * 11 + 10, none⟩) lb).trans c10
    have lb := Nat.lt_of_lt_of_le lb hb0'.size
    have r0 := r0.keep hb0'
    have r1 := r1.keep hb0'
    have hbk := hbk.trans (hb0'.mono hbk.size)
    clear hb0 hb0'
    have hneg0 : decide ((p1 : Int) < 0) = false := decide_eq_false (by omega)
    go_wp2_with fail
    refine (m0 _ r0).mono ?_
    clear m0
    rintro e v0 ⟨rfl, q0⟩
    have c0 := (q0.cell (p := ⟨b, k * 11, none⟩) lb).trans c0
    have c1 := (q0.cell (p := ⟨b, k * 11 + 1, none⟩) lb).trans c1
    have c2 := (q0.cell (p := ⟨b, k * 11 + 2, none⟩) lb).trans c2
    have c3 := (q0.cell (p := ⟨b, k * 11 + 3, none⟩) lb).trans c3
    have c4 := (q0.cell (p := ⟨b, k * 11 + 4, none⟩) lb).trans c4
    have c5 := (q0.cell (p := ⟨b, k * 11 + 5, none⟩) lb).trans c5
    have c6 := (q0.cell (p := ⟨b, k * 11 + 6, none⟩) lb).trans c6
    have c7 := (q0.cell (p := ⟨b, k * 11 + 7, none⟩) lb).trans c7
    have c8 := (q0.cell (p := ⟨b, k * 11 + 8, none⟩) lb).trans c8
    have c9 := (q0.cell (p := ⟨b, k * 11 + 9, none⟩) lb).trans c9
    have c10 := (q0.cell (p := ⟨b, k * 11 + 10, none⟩) lb).trans c10
    have lb := Nat.lt_of_lt_of_le lb q0.size
    have r1 := r1.keep q0
    have hbk := hbk.trans (q0.mono hbk.size)
    clear q0
    have hneg1 : decide ((p2 : Int) < 0) = false := decide_eq_false (by omega)
    go_wp2_with fail
    refine (m1 _ r1).mono ?_
    clear m1
    rintro e v1 ⟨rfl, q1⟩
    have c0 := (q1.cell (p := ⟨b, k * 11, none⟩) lb).trans c0
    have c1 := (q1.cell (p := ⟨b, k * 11 + 1, none⟩) lb).trans c1
    have c2 := (q1.cell (p := ⟨b, k * 11 + 2, none⟩) lb).trans c2
    have c3 := (q1.cell (p := ⟨b, k * 11 + 3, none⟩) lb).trans c3
    have c4 := (q1.cell (p := ⟨b, k * 11 + 4, none⟩) lb).trans c4
    have c5 := (q1.cell (p := ⟨b, k * 11 + 5, none⟩) lb).trans c5
    have c6 := (q1.cell (p := ⟨b, k * 11 + 6, none⟩) lb).trans c6
    have c7 := (q1.cell (p := ⟨b, k * 11 + 7, none⟩) lb).trans c7
    have c8 := (q1.cell (p := ⟨b, k * 11 + 8, none⟩) lb).trans c8
    have c9 := (q1.cell (p := ⟨b, k * 11 + 9, none⟩) lb).trans c9
    have c10 := (q1.cell (p := ⟨b, k * 11 + 10, none⟩) lb).trans c10
    have lb := Nat.lt_of_lt_of_le lb q1.size
    have hbk := hbk.trans (q1.mono hbk.size)
    clear q1
    have HF : Hid (((p2 : Int) + 3) = ((kOWi X k0 (k + 1) : Nat) : Int)) := by
      unfold Hid
      rw [HKS.out]
      unfold spWi
      have := Hp1.out
      have := Hp2.out
      omega
    go_wp2
    go_roundw
    case rel => exact ⟨k + 1, by omega, by go_num, by rw [← HF.out], hbk⟩
    case measure => simp [intOf]; omega
end Go.Proofs.Ytflmbcgokiiedaa
