/- Windows marked. / Marks of windows looked for. -/
import Derived.Test.YtaiigpffhcofpaaGreatCw
import Derived.Deep.RegionHeld3
namespace Go.Proofs.YtaiigpffhcofpaaGreat
set_option maxRecDepth 100000
open Go.RowKit
set_option linter.unusedSimpArgs false
set_option linter.unusedVariables false

theorem WiC.none0 {w : World} {b n k : Nat} {X : Nat → Wn} {y : Wn} {A0 A1 : Nat → Option Addr} {K0 K1 : Nat → Nat} {G : Nat → Nat} (h : WiC w b n (upWi X k y) A0 A1 K0 K1 G) (hz : y.tn = 0) (nm' : Nat → ByteArray) (vl' : Nat → ByteArray) : WiC w b n (upWi X k (y.wl_T nm' vl')) A0 A1 K0 K1 G := by
  refine ⟨h.lt, fun i hi => ?_, h.free, fun i hi h0 => ?_, fun i hi h0 => ?_, h.dis⟩
  · have h0 := h.ent i hi
    unfold upWi at h0 ⊢
    split
    · rename_i e
      subst e
      simp only [if_true] at h0
      exact ⟨h0.lt, h0.c0, h0.c1, h0.c2, h0.c3, h0.c4, h0.c5, h0.c6, h0.c7, h0.c8, h0.c9, h0.c10⟩
    · rename_i e
      simp only [e, if_false] at h0
      exact h0
  · have hx : (upWi X k (y.wl_T nm' vl') i).tn = (upWi X k y i).tn := by unfold upWi; split <;> rfl
    rw [hx] at h0
    obtain ⟨e1, e2, e3⟩ := h.l0 i hi h0
    refine ⟨e1, e2, ?_⟩
    by_cases e : i = k
    · subst e; rw [upWi_at] at h0; omega
    · rw [upWi_ne _ _ _ e] at e3 ⊢
      exact e3
  · have hx : (upWi X k (y.wl_T nm' vl') i).n = (upWi X k y i).n := by unfold upWi; split <;> rfl
    rw [hx] at h0
    obtain ⟨e1, e2, e3⟩ := h.l1 i hi h0
    refine ⟨e1, e2, ?_⟩
    by_cases e : i = k
    · subst e
      rw [upWi_at] at e3 ⊢
      exact e3
    · rw [upWi_ne _ _ _ e] at e3 ⊢
      exact e3
theorem WiC.none1 {w : World} {b n k : Nat} {X : Nat → Wn} {y : Wn} {A0 A1 : Nat → Option Addr} {K0 K1 : Nat → Nat} {G : Nat → Nat} (h : WiC w b n (upWi X k y) A0 A1 K0 K1 G) (hz : y.n = 0) (f' : Nat → Int) : WiC w b n (upWi X k (y.wl_N f')) A0 A1 K0 K1 G := by
  refine ⟨h.lt, fun i hi => ?_, h.free, fun i hi h0 => ?_, fun i hi h0 => ?_, h.dis⟩
  · have h0 := h.ent i hi
    unfold upWi at h0 ⊢
    split
    · rename_i e
      subst e
      simp only [if_true] at h0
      exact ⟨h0.lt, h0.c0, h0.c1, h0.c2, h0.c3, h0.c4, h0.c5, h0.c6, h0.c7, h0.c8, h0.c9, h0.c10⟩
    · rename_i e
      simp only [e, if_false] at h0
      exact h0
  · have hx : (upWi X k (y.wl_N f') i).tn = (upWi X k y i).tn := by unfold upWi; split <;> rfl
    rw [hx] at h0
    obtain ⟨e1, e2, e3⟩ := h.l0 i hi h0
    refine ⟨e1, e2, ?_⟩
    by_cases e : i = k
    · subst e
      rw [upWi_at] at e3 ⊢
      exact e3
    · rw [upWi_ne _ _ _ e] at e3 ⊢
      exact e3
  · have hx : (upWi X k (y.wl_N f') i).n = (upWi X k y i).n := by unfold upWi; split <;> rfl
    rw [hx] at h0
    obtain ⟨e1, e2, e3⟩ := h.l1 i hi h0
    refine ⟨e1, e2, ?_⟩
    by_cases e : i = k
    · subst e; rw [upWi_at] at h0; omega
    · rw [upWi_ne _ _ _ e] at e3 ⊢
      exact e3

theorem WiC.mark0 {w : World} {b n k : Nat} {X : Nat → Wn} {y : Wn} {A0 A1 : Nat → Option Addr} {K0 K1 : Nat → Nat} {G : Nat → Nat} (h : WiC w b n (upWi X k y) A0 A1 K0 K1 G) (hk : k < n) (hz : y.tn ≤ 1048576) (D : Nat) (hD : y.tn = D) (p : Nat) (pv : Int) (hpv : pv = (p : Int)) (np : Nat) (hnp : np = p + 2 * y.tn) (p1 : 1 ≤ p) (p2 : p ≤ 8796093022208) (lo hi : Nat) (h12 : 0 < y.tn → lo ≤ G (k * 2 + 0) ∧ G (k * 2 + 0) < hi) :
    Calls Tryz.prog 34 #[.slice (A0 k) D (K0 k), .int .i64 pv] w fun e w' => e = .returned (.int .i64 (np : Int)) ∧ WiC w' b n (upWi X k (y.wl_T (mtN p) (mtV p))) A0 A1 K0 K1 G ∧ Rng lo hi w w' := by
  subst hD hpv hnp
  by_cases h0 : y.tn = 0
  · have hsl : Value.slice (A0 k) y.tn (K0 k) = .slice (A0 k) 0 (K0 k) := by rw [h0]
    rw [hsl]
    refine (markT_zero (A0 k) (K0 k) _ w).mono ?_
    rintro e w' ⟨rfl, rfl⟩
    refine ⟨by simp [h0], ?_, Rng.refl _ _ _⟩
    exact h.none0 h0 _ _
  · obtain ⟨e1, e2, e3⟩ := h.l0 k hk (by rw [upWi_at]; omega)
    obtain ⟨h1, h2⟩ := h12 (by omega)
    rw [upWi_at] at e3
    rw [e1]
    refine (markTagS_any _ y.tn (K0 k) p w y.nm y.vl e3 hz p1 p2).mono ?_
    rintro e w' ⟨rfl, ho, ht⟩
    exact ⟨by rw [Int.natCast_add, Int.natCast_mul]; rfl, h.list0 hk (by omega) ht _ _ ho, ht.rng h1 h2⟩

theorem WiC.mark1 {w : World} {b n k : Nat} {X : Nat → Wn} {y : Wn} {A0 A1 : Nat → Option Addr} {K0 K1 : Nat → Nat} {G : Nat → Nat} (h : WiC w b n (upWi X k y) A0 A1 K0 K1 G) (hk : k < n) (hz : y.n ≤ 1048576) (D : Nat) (hD : y.n = D) (p : Nat) (pv : Int) (hpv : pv = (p : Int)) (np : Nat) (hnp : np = p + y.n) (p1 : 1 ≤ p) (p2 : p ≤ 8796093022208) (lo hi : Nat) (h12 : 0 < y.n → lo ≤ G (k * 2 + 1) ∧ G (k * 2 + 1) < hi) :
    Calls Tryz.prog 62 #[.slice (A1 k) D (K1 k), .int .i64 pv] w fun e w' => e = .returned (.int .i64 (np : Int)) ∧ WiC w' b n (upWi X k (y.wl_N (mIn p y.n))) A0 A1 K0 K1 G ∧ Rng lo hi w w' := by
  subst hD hpv hnp
  by_cases h0 : y.n = 0
  · have hsl : Value.slice (A1 k) y.n (K1 k) = .slice (A1 k) 0 (K1 k) := by rw [h0]
    rw [hsl]
    refine (markI_zero (A1 k) (K1 k) _ w).mono ?_
    rintro e w' ⟨rfl, rfl⟩
    refine ⟨by simp [h0], ?_, Rng.refl _ _ _⟩
    exact h.none1 h0 _
  · obtain ⟨e1, e2, e3⟩ := h.l1 k hk (by rw [upWi_at]; omega)
    obtain ⟨h1, h2⟩ := h12 (by omega)
    rw [upWi_at] at e3
    rw [e1]
    refine (markI_any _ 0 y.n (K1 k) y.f p w e3 hz p2).mono ?_
    rintro e w' ⟨rfl, ⟨fy, ho, hfy⟩, ht⟩
    refine ⟨rfl, h.list1 hk (by omega) (Thru.of_others ht) _ (ho.congr (mIn_bd p y.n hz p2) (fun i hi => ?_)), (Thru.of_others ht).rng h1 h2⟩
    rw [hfy i hi, mIn, if_pos hi]
    rfl

set_option maxRecDepth 100000 in
set_option maxHeartbeats 8000000 in
theorem markWinS_any (b n cap k0 : Nat) (X : Nat → Wn) (A0 A1 : Nat → Option Addr) (K0 K1 : Nat → Nat) (G : Nat → Nat) (lo hi : Nat) (w : World) (h : WiC w b n X A0 A1 K0 K1 G) (hlb : lo ≤ b ∧ b < hi) (hl0 : ∀ i, i < n → 0 < (X i).tn → lo ≤ G (i * 2 + 0) ∧ G (i * 2 + 0) < hi) (hl1 : ∀ i, i < n → 0 < (X i).n → lo ≤ G (i * 2 + 1) ∧ G (i * 2 + 1) < hi) (hk0 : 1 ≤ k0) (hk1 : k0 ≤ 4398046511104) (hz : WiSize n X) (hn : n ≤ 1048576) :
    Calls Tryz.prog 33 #[.slice (some ⟨b, 0, none⟩) n cap, .int .i64 k0] w fun e w' => e = .returned (.int .i64 (kOWi X k0 n : Int)) ∧ WiC w' b n (mAWi X k0 n) A0 A1 K0 K1 G ∧ Rng lo hi w w' := by
  go_enter Tryz.func33, Tryz.ntmps33
  go_wp2
  go_loopw [1, 5] (fun q i wr => ∃ k : Nat, k ≤ n ∧ i = .int .i64 k ∧ q = .int .i64 (kOWi X k0 k : Int) ∧ WiC wr b n (mAWi X k0 k) A0 A1 K0 K1 G ∧ Rng lo hi w wr) (fun _ i _ => n - (intOf i).toNat)
  case atStart => exact ⟨0, Nat.zero_le _, rfl, rfl, by rw [mAWi_zero]; exact h, Rng.refl _ _ _⟩
  case round =>
    obtain ⟨k, hk, rfl, rfl, hC, hR⟩ := hrel
    clear h
    by_cases hlt : k < n
    rotate_left
    · have e : k = n := by omega
      subst e
      go_wp2
      go_ret
      exact ⟨rfl, hC, hR⟩
    have hkb := kOWi_mono X k0 (show k + 1 ≤ n by omega)
    have hkn := kOWi_le X k0 n hz
    have hkg := kOWi_ge X k0 k
    have hks : kOWi X k0 (k + 1) = kOWi X k0 k + spWi (X k) := rfl
    have hzk := hz k hlt
    have hup := mAWi_up X k0 k
    have hC0 : WiC wr b n (upWi (mAWi X k0 k) k (X k)) A0 A1 K0 K1 G := by
      have e : upWi (mAWi X k0 k) k (X k) = mAWi X k0 k := by
        have := upWi_same (mAWi X k0 k) k
        rw [mAWi_at] at this
        exact this
      rw [e]; exact hC
    clear hC
    generalize mAWi X k0 k = M at *
    obtain ⟨kk, hkk⟩ : ∃ kk, kk = kOWi X k0 k := ⟨_, rfl⟩
    rw [← hkk] at hkg hks hup ⊢
    have HKS : Hid (kOWi X k0 (k + 1) = kk + spWi (X k)) := hks
    have HUP : Hid (upWi M k (mkWi kk (X k)) = mAWi X k0 (k + 1)) := hup
    have hkt : kk + spWi (X k) ≤ 8796093022208 := by omega
    have HSP : Hid (spWi (X k) = spWi (X k)) := rfl
    unfold spWi at hkt
    clear hkk hks hkb hkn hup
    have hq0 : (0 : Int) ≤ (k : Int) := by omega
    have hq1 : (k : Int) < (n : Int) := by omega
    go_wp2_with fail
    refine (markText_any (kk : Int) _ (by omega) (by omega)).mono ?_
    rintro e w0 ⟨rfl, hb0⟩
    have t0 := hC0.keep hb0
    have Q0 := hR.trans (Rng.of_below hb0)
    clear hb0
    have e9 := t0.ent k hlt
    rw [upWi_at] at e9
    obtain ⟨_, c0, c1, c2, c3, c4, c5, c6, c7, c8, c9, c10⟩ := e9
    have f0 := t0.free (k * 11) (by omega)
    have f1 := t0.free (k * 11 + 1) (by omega)
    have f2 := t0.free (k * 11 + 2) (by omega)
    have f3 := t0.free (k * 11 + 3) (by omega)
    have f4 := t0.free (k * 11 + 4) (by omega)
    have f5 := t0.free (k * 11 + 5) (by omega)
    have f6 := t0.free (k * 11 + 6) (by omega)
    have f7 := t0.free (k * 11 + 7) (by omega)
    have f8 := t0.free (k * 11 + 8) (by omega)
    have f9 := t0.free (k * 11 + 9) (by omega)
    have f10 := t0.free (k * 11 + 10) (by omega)
    have hw_kk_1 : IntKind.i64.wrap ((kk : Int) + 1) = ((kk : Int) + 1) := by rw [IntKind.wrap_i64] <;> omega
    have s1 := (t0.set0 hlt (mt (kk : Int)))
    have R1 := (Q0.trans (Rng.of_set (b := b) hlb (k * 11) (.string (mt (kk : Int)))))
    obtain ⟨p1, hp1⟩ : ∃ p1 : Nat, p1 = kk + 1 + 2 * (X k).tn := ⟨_, rfl⟩
    have Hp1 : Hid (p1 = kk + 1 + 2 * (X k).tn) := hp1
    have m1 := s1.mark0 hlt (by show (X k).tn ≤ 1048576; exact hzk.tn) (X k).tn rfl (kk + 1) ((kk : Int) + 1) (by omega) p1 (by show p1 = kk + 1 + 2 * (X k).tn; exact hp1) (by omega) (by omega) lo hi (hl0 k hlt)
    have bp1 : p1 ≤ kk + 1 + 2 * (X k).tn := by omega
    have Bp1 : kk + 1 + 2 * (X k).tn ≤ p1 := by omega
    clear hp1
    go_wp2_with fail
    refine m1.mono ?_
    clear m1
    rintro e w1 ⟨rfl, t1, q1⟩
    have Q1 := R1.trans q1
    clear c0 f0 c1 f1 c2 f2 c3 f3 c4 f4 c5 f5 c6 f6 c7 f7 c8 f8 c9 f9 c10 f10
    have e9 := t1.ent k hlt
    rw [upWi_at] at e9
    obtain ⟨_, c0, c1, c2, c3, c4, c5, c6, c7, c8, c9, c10⟩ := e9
    simp only [Wn.w_m, Wn.w_st, Wn.w_c, Wn.w_s, Wn.w_lo, Wn.w_hi, Wn.w_fu, Wn.w_ver, Wn.w_di, Wn.wl_T, Wn.wl_N] at c0 c1 c2 c3 c4 c5 c6 c7 c8 c9 c10
    have f0 := t1.free (k * 11) (by omega)
    have f1 := t1.free (k * 11 + 1) (by omega)
    have f2 := t1.free (k * 11 + 2) (by omega)
    have f3 := t1.free (k * 11 + 3) (by omega)
    have f4 := t1.free (k * 11 + 4) (by omega)
    have f5 := t1.free (k * 11 + 5) (by omega)
    have f6 := t1.free (k * 11 + 6) (by omega)
    have f7 := t1.free (k * 11 + 7) (by omega)
    have f8 := t1.free (k * 11 + 8) (by omega)
    have f9 := t1.free (k * 11 + 9) (by omega)
    have f10 := t1.free (k * 11 + 10) (by omega)
    have hw_p1_1 : IntKind.i64.wrap ((p1 : Int) + 1) = ((p1 : Int) + 1) := by rw [IntKind.wrap_i64] <;> omega
    have hw_p1_2 : IntKind.i64.wrap (((p1 : Int) + 1) + 1) = ((p1 : Int) + 2) := by rw [IntKind.wrap_i64] <;> omega
    have hw_p1_3 : IntKind.i64.wrap (((p1 : Int) + 2) + 1) = ((p1 : Int) + 3) := by rw [IntKind.wrap_i64] <;> omega
    have hw_p1_4 : IntKind.i64.wrap (((p1 : Int) + 3) + 1) = ((p1 : Int) + 4) := by rw [IntKind.wrap_i64] <;> omega
    have hw_p1_5 : IntKind.i64.wrap (((p1 : Int) + 4) + 1) = ((p1 : Int) + 5) := by rw [IntKind.wrap_i64] <;> omega
    have s2 := (((((t1.set2 hlt (p1 : Int)).set3 hlt ((p1 : Int) + 1)).set4 hlt ((p1 : Int) + 2)).set5 hlt ((p1 : Int) + 3)).set6 hlt ((p1 : Int) + 4))
    have R2 := (((((Q1.trans (Rng.of_set (b := b) hlb (k * 11 + 2) (.int .i64 (p1 : Int)))).trans (Rng.of_set (b := b) hlb (k * 11 + 3) (.int .i64 ((p1 : Int) + 1)))).trans (Rng.of_set (b := b) hlb (k * 11 + 4) (.int .i64 ((p1 : Int) + 2)))).trans (Rng.of_set (b := b) hlb (k * 11 + 5) (.int .i64 ((p1 : Int) + 3)))).trans (Rng.of_set (b := b) hlb (k * 11 + 6) (.int .i64 ((p1 : Int) + 4))))
    obtain ⟨p2, hp2⟩ : ∃ p2 : Nat, p2 = p1 + 5 + (X k).n := ⟨_, rfl⟩
    have Hp2 : Hid (p2 = p1 + 5 + (X k).n) := hp2
    have m2 := s2.mark1 hlt (by show (X k).n ≤ 1048576; exact hzk.n) (X k).n rfl (p1 + 5) ((p1 : Int) + 5) (by omega) p2 (by show p2 = p1 + 5 + (X k).n; exact hp2) (by omega) (by omega) lo hi (hl1 k hlt)
    have bp2 : p2 ≤ p1 + 5 + (X k).n := by omega
    have Bp2 : p1 + 5 + (X k).n ≤ p2 := by omega
    clear hp2
    go_wp2_with fail
    refine m2.mono ?_
    clear m2
    rintro e w2 ⟨rfl, t2, q2⟩
    have Q2 := R2.trans q2
    clear c0 f0 c1 f1 c2 f2 c3 f3 c4 f4 c5 f5 c6 f6 c7 f7 c8 f8 c9 f9 c10 f10
    have e9 := t2.ent k hlt
    rw [upWi_at] at e9
    obtain ⟨_, c0, c1, c2, c3, c4, c5, c6, c7, c8, c9, c10⟩ := e9
    simp only [Wn.w_m, Wn.w_st, Wn.w_c, Wn.w_s, Wn.w_lo, Wn.w_hi, Wn.w_fu, Wn.w_ver, Wn.w_di, Wn.wl_T, Wn.wl_N] at c0 c1 c2 c3 c4 c5 c6 c7 c8 c9 c10
    have f0 := t2.free (k * 11) (by omega)
    have f1 := t2.free (k * 11 + 1) (by omega)
    have f2 := t2.free (k * 11 + 2) (by omega)
    have f3 := t2.free (k * 11 + 3) (by omega)
    have f4 := t2.free (k * 11 + 4) (by omega)
    have f5 := t2.free (k * 11 + 5) (by omega)
    have f6 := t2.free (k * 11 + 6) (by omega)
    have f7 := t2.free (k * 11 + 7) (by omega)
    have f8 := t2.free (k * 11 + 8) (by omega)
    have f9 := t2.free (k * 11 + 9) (by omega)
    have f10 := t2.free (k * 11 + 10) (by omega)
    have hw_p2_1 : IntKind.i64.wrap ((p2 : Int) + 1) = ((p2 : Int) + 1) := by rw [IntKind.wrap_i64] <;> omega
    have hw_p2_2 : IntKind.i64.wrap (((p2 : Int) + 1) + 1) = ((p2 : Int) + 2) := by rw [IntKind.wrap_i64] <;> omega
    have hw_p2_3 : IntKind.i64.wrap (((p2 : Int) + 2) + 1) = ((p2 : Int) + 3) := by rw [IntKind.wrap_i64] <;> omega
    have sz := (((t2.set8 hlt ((p2 : Int) % 3 == 0)).set9 hlt ((p2 : Int) + 1)).set10 hlt (((p2 : Int) + 2) % 3 == 0))
    have Rz := (((Q2.trans (Rng.of_set (b := b) hlb (k * 11 + 8) (.bool ((p2 : Int) % 3 == 0)))).trans (Rng.of_set (b := b) hlb (k * 11 + 9) (.int .i64 ((p2 : Int) + 1)))).trans (Rng.of_set (b := b) hlb (k * 11 + 10) (.bool (((p2 : Int) + 2) % 3 == 0))))
    have HF : Hid (((p2 : Int) + 3) = ((kOWi X k0 (k + 1) : Nat) : Int)) := by
      unfold Hid
      rw [HKS.out]
      unfold spWi
      have := Hp1.out
      have := Hp2.out
      omega
    clear t2
    go_wp2
    go_roundw
    case rel =>
      refine ⟨k + 1, by omega, by go_num, by rw [← HF.out], ?_, Rz⟩
      rw [← HUP.out]
      have gp1 := Hp1.out
      have gp2 := Hp2.out
      refine WiC.cast sz ?_
      unfold mkWi
      simp only [Wn.w_m, Wn.w_st, Wn.w_c, Wn.w_s, Wn.w_lo, Wn.w_hi, Wn.w_fu, Wn.w_ver, Wn.w_di, Wn.wl_T, Wn.wl_N, Wn.mk.injEq]
      refine ⟨?_, ?_, ?_, ?_, ?_, ?_, ?_, ?_, ?_, ?_, ?_, ?_, ?_, ?_⟩
      all_goals first | rfl | omega | (congr 1; omega) | (congr 2; omega) | (congr 3; omega) | (subst_vars; rfl) | (subst_vars; simp; done) | (subst_vars; congr 1; simp; omega)
    case measure => simp [intOf]; omega
end Go.Proofs.YtaiigpffhcofpaaGreat
namespace Go.Proofs.YtaiigpffhcofpaaGreat
set_option maxRecDepth 100000
open Go.RowKit
set_option linter.unusedSimpArgs false
set_option linter.unusedVariables false

set_option maxRecDepth 100000 in
set_option maxHeartbeats 8000000 in
theorem heldWinS_yes (b n cap k0 : Nat) (X : Nat → Wn) (A0 A1 : Nat → Option Addr) (K0 K1 : Nat → Nat) (G : Nat → Nat) (w : World) (h : WiC w b n (mAWi X k0 n) A0 A1 K0 K1 G) (hk0 : 1 ≤ k0) (hk1 : k0 ≤ 4398046511104) (hz : WiSize n X) (hn : n ≤ 1048576) :
    Calls Tryz.prog 35 #[.slice (some ⟨b, 0, none⟩) n cap, .int .i64 k0] w fun e w' => e = .returned (.int .i64 (kOWi X k0 n : Int)) ∧ Below w.heap.size w w' := by
  go_enter Tryz.func35, Tryz.ntmps35
  go_wp2
  go_loopw [1, 5] (fun q i wr => ∃ k : Nat, k ≤ n ∧ i = .int .i64 k ∧ q = .int .i64 (kOWi X k0 k : Int) ∧ Below w.heap.size w wr) (fun _ i _ => n - (intOf i).toNat)
  case atStart => exact ⟨0, Nat.zero_le _, rfl, rfl, Below.refl _ _⟩
  case round =>
    obtain ⟨k, hk, rfl, rfl, hbk⟩ := hrel
    by_cases hlt : k < n
    rotate_left
    · have e : k = n := by omega
      subst e
      go_wp2
      go_ret
      exact ⟨rfl, hbk⟩
    have hkb := kOWi_mono X k0 (show k + 1 ≤ n by omega)
    have hkn := kOWi_le X k0 n hz
    have hkg := kOWi_ge X k0 k
    have hks : kOWi X k0 (k + 1) = kOWi X k0 k + spWi (X k) := rfl
    have hzk := hz k hlt
    have hCk := h.keep hbk
    have e9 := hCk.ent k hlt
    have g0 := hCk.l0 k hlt
    have g1 := hCk.l1 k hlt
    have hMk : mAWi X k0 n k = mkWi (kOWi X k0 k) (X k) := by simp [mAWi, hlt]
    rw [hMk] at e9 g0 g1
    obtain ⟨kk, hkk⟩ : ∃ kk, kk = kOWi X k0 k := ⟨_, rfl⟩
    rw [← hkk] at hkg hks e9 g0 g1 ⊢
    have HKS : Hid (kOWi X k0 (k + 1) = kk + spWi (X k)) := hks
    have hkt : kk + spWi (X k) ≤ 8796093022208 := by omega
    unfold spWi at hkt
    clear hkk hks hkb hkn hMk hCk h
    have hq0 : (0 : Int) ≤ (k : Int) := by omega
    have hq1 : (k : Int) < (n : Int) := by omega
    have hw_kk_1 : IntKind.i64.wrap ((kk : Int) + 1) = ((kk : Int) + 1) := by rw [IntKind.wrap_i64] <;> omega
    obtain ⟨p1, hp1⟩ : ∃ p1 : Nat, p1 = kk + 1 + 2 * (X k).tn := ⟨_, rfl⟩
    have Hp1 : Hid (p1 = kk + 1 + 2 * (X k).tn) := hp1
    have bp1 : p1 ≤ kk + 1 + 2 * (X k).tn := by omega
    have Bp1 : kk + 1 + 2 * (X k).tn ≤ p1 := by omega
    have hw_p1_1 : IntKind.i64.wrap ((p1 : Int) + 1) = ((p1 : Int) + 1) := by rw [IntKind.wrap_i64] <;> omega
    have hw_p1_2 : IntKind.i64.wrap (((p1 : Int) + 1) + 1) = ((p1 : Int) + 2) := by rw [IntKind.wrap_i64] <;> omega
    have hw_p1_3 : IntKind.i64.wrap (((p1 : Int) + 2) + 1) = ((p1 : Int) + 3) := by rw [IntKind.wrap_i64] <;> omega
    have hw_p1_4 : IntKind.i64.wrap (((p1 : Int) + 3) + 1) = ((p1 : Int) + 4) := by rw [IntKind.wrap_i64] <;> omega
    have hw_p1_5 : IntKind.i64.wrap (((p1 : Int) + 4) + 1) = ((p1 : Int) + 5) := by rw [IntKind.wrap_i64] <;> omega
    obtain ⟨p2, hp2⟩ : ∃ p2 : Nat, p2 = p1 + 5 + (X k).n := ⟨_, rfl⟩
    have Hp2 : Hid (p2 = p1 + 5 + (X k).n) := hp2
    have bp2 : p2 ≤ p1 + 5 + (X k).n := by omega
    have Bp2 : p1 + 5 + (X k).n ≤ p2 := by omega
    have hw_p2_1 : IntKind.i64.wrap ((p2 : Int) + 1) = ((p2 : Int) + 1) := by rw [IntKind.wrap_i64] <;> omega
    have hw_p2_2 : IntKind.i64.wrap (((p2 : Int) + 1) + 1) = ((p2 : Int) + 2) := by rw [IntKind.wrap_i64] <;> omega
    have hw_p2_3 : IntKind.i64.wrap (((p2 : Int) + 2) + 1) = ((p2 : Int) + 3) := by rw [IntKind.wrap_i64] <;> omega
    have c0 := e9.c0
    rw [show (mkWi kk (X k)).m = mt (kk : Int) from rfl] at c0
    have c1 := e9.c1
    rw [show (mkWi kk (X k)).tn = (X k).tn from rfl] at c1
    have c2 := e9.c2
    rw [show (mkWi kk (X k)).st = (p1 : Int) from by simp only [mkWi]; omega] at c2
    have c3 := e9.c3
    rw [show (mkWi kk (X k)).c = ((p1 : Int) + 1) from by simp only [mkWi]; omega] at c3
    have c4 := e9.c4
    rw [show (mkWi kk (X k)).s = ((p1 : Int) + 2) from by simp only [mkWi]; omega] at c4
    have c5 := e9.c5
    rw [show (mkWi kk (X k)).lo = ((p1 : Int) + 3) from by simp only [mkWi]; omega] at c5
    have c6 := e9.c6
    rw [show (mkWi kk (X k)).hi = ((p1 : Int) + 4) from by simp only [mkWi]; omega] at c6
    have c7 := e9.c7
    rw [show (mkWi kk (X k)).n = (X k).n from rfl] at c7
    have c8 := e9.c8
    rw [show (mkWi kk (X k)).fu = ((p2 : Int) % 3 == 0) from by simp only [mkWi]; congr 2; omega] at c8
    have c9 := e9.c9
    rw [show (mkWi kk (X k)).ver = ((p2 : Int) + 1) from by simp only [mkWi]; omega] at c9
    have c10 := e9.c10
    rw [show (mkWi kk (X k)).di = (((p2 : Int) + 2) % 3 == 0) from by simp only [mkWi]; congr 2; omega] at c10
    have r0 : TRow wr (A0 k) (X k).tn (mtN (kk + 1)) (mtV (kk + 1)) := by
      by_cases h0 : (X k).tn = 0
      · exact ⟨.inl h0⟩
      · obtain ⟨e1, _, e3⟩ := g0 (Nat.pos_of_ne_zero h0)
        rw [e1]
        have e4 := e3.row
        simp only [mkWi] at e4
        exact e4
    have m0 := fun W h => heldTagS_yes (A0 k) (X k).tn (K0 k) (kk + 1) W h hzk.tn (by omega) (by omega)
    rw [show (((kk + 1) : Nat) : Int) = ((kk : Int) + 1) from by omega] at m0
    rw [show ((kk : Int) + 1) + 2 * ((X k).tn : Int) = (p1 : Int) from by omega] at m0
    have r1 : IRow wr (A1 k) (X k).n (mIn (p1 + 5) (X k).n) := by
      by_cases h0 : (X k).n = 0
      · exact ⟨mIn_bd _ _ hzk.n (by omega), .inl h0⟩
      · obtain ⟨e1, _, e3⟩ := g1 (Nat.pos_of_ne_zero h0)
        rw [e1]
        have e4 := e3.row
        simp only [mkWi] at e4
        rw [show kk + 1 + 2 * (X k).tn + 1 + 1 + 1 + 1 + 1 = p1 + 5 from by omega] at e4
        exact e4
    have m1 := fun W h => heldI_from (A1 k) (X k).n (K1 k) ((p1 : Int) + 5) (mIn (p1 + 5) (X k).n) W h (fun i hi => by rw [mIn, if_pos hi]; unfold mI; omega) hzk.n (by omega)
    rw [show ((p1 : Int) + 5) + ((X k).n : Int) = (p2 : Int) from by omega] at m1
    clear g0 g1 hp1 hp2
    have lb := e9.lt
    go_wp2
    go_region_held3 (fun w' => w'.cell? ⟨b, k * 11, none⟩ = some (.string (mt (kk : Int)))) (go_keep) (first | (go_at_call 61; refine (markText_any (kk : Int) _ (by omega) (by omega)).mono ?_; rintro e w0 ⟨rfl, hb0⟩; have hb0' := (Below.refl _ wr).drew.trans hb0; have z0 := (hb0'.cell (p := ⟨b, k * 11, none⟩) lb).trans c0))
    clear z0
    have c0 := (hb0'.cell (p := ⟨b, k * 11, none⟩) lb).trans c0
    have c1 := (hb0'.cell (p := ⟨b, k * 11 + 1, none⟩) lb).trans c1
    have c2 := (hb0'.cell (p := ⟨b, k * 11 + 2, none⟩) lb).trans c2
    have c3 := (hb0'.cell (p := ⟨b, k * 11 + 3, none⟩) lb).trans c3
    have c4 := (hb0'.cell (p := ⟨b, k * 11 + 4, none⟩) lb).trans c4
    have c5 := (hb0'.cell (p := ⟨b, k * 11 + 5, none⟩) lb).trans c5
    have c6 := (hb0'.cell (p := ⟨b, k * 11 + 6, none⟩) lb).trans c6
    have c7 := (hb0'.cell (p := ⟨b, k * 11 + 7, none⟩) lb).trans c7
    have c8 := (hb0'.cell (p := ⟨b, k * 11 + 8, none⟩) lb).trans c8
    have c9 := (hb0'.cell (p := ⟨b, k * 11 + 9, none⟩) lb).trans c9
    have c10 := (hb0'.cell (p := ⟨b, k * 11 + 10, none⟩) lb).trans c10
    have lb := Nat.lt_of_lt_of_le lb hb0'.size
    have r0 := r0.keep hb0'
    have r1 := r1.keep hb0'
    have hbk := hbk.trans (hb0'.mono hbk.size)
    clear hb0 hb0'
    have hneg0 : decide ((p1 : Int) < 0) = false := decide_eq_false (by omega)
    go_wp2_with fail
    refine (m0 _ r0).mono ?_
    clear m0
    rintro e v0 ⟨rfl, q0⟩
    have c0 := (q0.cell (p := ⟨b, k * 11, none⟩) lb).trans c0
    have c1 := (q0.cell (p := ⟨b, k * 11 + 1, none⟩) lb).trans c1
    have c2 := (q0.cell (p := ⟨b, k * 11 + 2, none⟩) lb).trans c2
    have c3 := (q0.cell (p := ⟨b, k * 11 + 3, none⟩) lb).trans c3
    have c4 := (q0.cell (p := ⟨b, k * 11 + 4, none⟩) lb).trans c4
    have c5 := (q0.cell (p := ⟨b, k * 11 + 5, none⟩) lb).trans c5
    have c6 := (q0.cell (p := ⟨b, k * 11 + 6, none⟩) lb).trans c6
    have c7 := (q0.cell (p := ⟨b, k * 11 + 7, none⟩) lb).trans c7
    have c8 := (q0.cell (p := ⟨b, k * 11 + 8, none⟩) lb).trans c8
    have c9 := (q0.cell (p := ⟨b, k * 11 + 9, none⟩) lb).trans c9
    have c10 := (q0.cell (p := ⟨b, k * 11 + 10, none⟩) lb).trans c10
    have lb := Nat.lt_of_lt_of_le lb q0.size
    have r1 := r1.keep q0
    have hbk := hbk.trans (q0.mono hbk.size)
    clear q0
    have hneg1 : decide ((p2 : Int) < 0) = false := decide_eq_false (by omega)
    go_wp2_with fail
    refine (m1 _ r1).mono ?_
    clear m1
    rintro e v1 ⟨rfl, q1⟩
    have c0 := (q1.cell (p := ⟨b, k * 11, none⟩) lb).trans c0
    have c1 := (q1.cell (p := ⟨b, k * 11 + 1, none⟩) lb).trans c1
    have c2 := (q1.cell (p := ⟨b, k * 11 + 2, none⟩) lb).trans c2
    have c3 := (q1.cell (p := ⟨b, k * 11 + 3, none⟩) lb).trans c3
    have c4 := (q1.cell (p := ⟨b, k * 11 + 4, none⟩) lb).trans c4
    have c5 := (q1.cell (p := ⟨b, k * 11 + 5, none⟩) lb).trans c5
    have c6 := (q1.cell (p := ⟨b, k * 11 + 6, none⟩) lb).trans c6
    have c7 := (q1.cell (p := ⟨b, k * 11 + 7, none⟩) lb).trans c7
    have c8 := (q1.cell (p := ⟨b, k * 11 + 8, none⟩) lb).trans c8
    have c9 := (q1.cell (p := ⟨b, k * 11 + 9, none⟩) lb).trans c9
    have c10 := (q1.cell (p := ⟨b, k * 11 + 10, none⟩) lb).trans c10
    have lb := Nat.lt_of_lt_of_le lb q1.size
    have hbk := hbk.trans (q1.mono hbk.size)
    clear q1
    have HF : Hid (((p2 : Int) + 3) = ((kOWi X k0 (k + 1) : Nat) : Int)) := by
      unfold Hid
      rw [HKS.out]
      unfold spWi
      have := Hp1.out
      have := Hp2.out
      omega
    go_wp2
    go_roundw
    case rel => exact ⟨k + 1, by omega, by go_num, by rw [← HF.out], hbk⟩
    case measure => simp [intOf]; omega
end Go.Proofs.YtaiigpffhcofpaaGreat
