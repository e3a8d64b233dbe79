/- Told windows marked. -/
import Derived.Test.YtjdijikmdlklkaaCx
import Derived.Test.YtjdijikmdlklkaaOw
namespace Go.Proofs.Ytjdijikmdlklkaa
open Go.RowKit
set_option linter.unusedSimpArgs false
set_option linter.unusedVariables false

theorem ToC.none0 {w : World} {b n k : Nat} {X : Nat → Wn} {y : Wn} {A0 A1 : Nat → Option Addr} {K0 K1 : Nat → Nat} {G : Nat → Nat} (h : ToC w b n (upTo X k y) A0 A1 K0 K1 G) (hz : y.tn = 0) (nm' : Nat → ByteArray) (vl' : Nat → ByteArray) : ToC w b n (upTo X k (y.wl_T nm' vl')) A0 A1 K0 K1 G := by
  refine ⟨h.lt, fun i hi => ?_, h.free, fun i hi h0 => ?_, fun i hi h0 => ?_, h.dis⟩
  · have h0 := h.ent i hi
    unfold upTo at h0 ⊢
    split
    · rename_i e
      subst e
      simp only [if_true] at h0
      exact ⟨h0.lt, h0.c0, h0.c1, h0.c2, h0.c3, h0.c4, h0.c5, h0.c6, h0.c7, h0.c8, h0.c9⟩
    · rename_i e
      simp only [e, if_false] at h0
      exact h0
  · have hx : (upTo X k (y.wl_T nm' vl') i).tn = (upTo X k y i).tn := by unfold upTo; split <;> rfl
    rw [hx] at h0
    obtain ⟨e1, e2, e3⟩ := h.l0 i hi h0
    refine ⟨e1, e2, ?_⟩
    by_cases e : i = k
    · subst e; rw [upTo_at] at h0; omega
    · rw [upTo_ne _ _ _ e] at e3 ⊢
      exact e3
  · have hx : (upTo X k (y.wl_T nm' vl') i).n = (upTo X k y i).n := by unfold upTo; split <;> rfl
    rw [hx] at h0
    obtain ⟨e1, e2, e3⟩ := h.l1 i hi h0
    refine ⟨e1, e2, ?_⟩
    by_cases e : i = k
    · subst e
      rw [upTo_at] at e3 ⊢
      exact e3
    · rw [upTo_ne _ _ _ e] at e3 ⊢
      exact e3
theorem ToC.none1 {w : World} {b n k : Nat} {X : Nat → Wn} {y : Wn} {A0 A1 : Nat → Option Addr} {K0 K1 : Nat → Nat} {G : Nat → Nat} (h : ToC w b n (upTo X k y) A0 A1 K0 K1 G) (hz : y.n = 0) (f' : Nat → Int) : ToC w b n (upTo X k (y.wl_N f')) A0 A1 K0 K1 G := by
  refine ⟨h.lt, fun i hi => ?_, h.free, fun i hi h0 => ?_, fun i hi h0 => ?_, h.dis⟩
  · have h0 := h.ent i hi
    unfold upTo at h0 ⊢
    split
    · rename_i e
      subst e
      simp only [if_true] at h0
      exact ⟨h0.lt, h0.c0, h0.c1, h0.c2, h0.c3, h0.c4, h0.c5, h0.c6, h0.c7, h0.c8, h0.c9⟩
    · rename_i e
      simp only [e, if_false] at h0
      exact h0
  · have hx : (upTo X k (y.wl_N f') i).tn = (upTo X k y i).tn := by unfold upTo; split <;> rfl
    rw [hx] at h0
    obtain ⟨e1, e2, e3⟩ := h.l0 i hi h0
    refine ⟨e1, e2, ?_⟩
    by_cases e : i = k
    · subst e
      rw [upTo_at] at e3 ⊢
      exact e3
    · rw [upTo_ne _ _ _ e] at e3 ⊢
      exact e3
  · have hx : (upTo X k (y.wl_N f') i).n = (upTo X k y i).n := by unfold upTo; split <;> rfl
    rw [hx] at h0
    obtain ⟨e1, e2, e3⟩ := h.l1 i hi h0
    refine ⟨e1, e2, ?_⟩
    by_cases e : i = k
    · subst e; rw [upTo_at] at h0; omega
    · rw [upTo_ne _ _ _ e] at e3 ⊢
      exact e3

theorem ToC.mark0 {w : World} {b n k : Nat} {X : Nat → Wn} {y : Wn} {A0 A1 : Nat → Option Addr} {K0 K1 : Nat → Nat} {G : Nat → Nat} (h : ToC w b n (upTo X k y) A0 A1 K0 K1 G) (hk : k < n) (hz : y.tn ≤ 1048576) (D : Nat) (hD : y.tn = D) (p : Nat) (pv : Int) (hpv : pv = (p : Int)) (np : Nat) (hnp : np = p + 2 * y.tn) (p1 : 1 ≤ p) (p2 : p ≤ 8796093022208) (lo hi : Nat) (h12 : 0 < y.tn → lo ≤ G (k * 2 + 0) ∧ G (k * 2 + 0) < hi) :
    Calls Try.prog 24 #[.slice (A0 k) D (K0 k), .int .i64 pv] w fun e w' => e = .returned (.int .i64 (np : Int)) ∧ ToC w' b n (upTo X k (y.wl_T (mtN p) (mtV p))) A0 A1 K0 K1 G ∧ Rng lo hi w w' := by
  subst hD hpv hnp
  by_cases h0 : y.tn = 0
  · have hsl : Value.slice (A0 k) y.tn (K0 k) = .slice (A0 k) 0 (K0 k) := by rw [h0]
    rw [hsl]
    refine (markT_zero (A0 k) (K0 k) _ w).mono ?_
    rintro e w' ⟨rfl, rfl⟩
    refine ⟨by simp [h0], ?_, Rng.refl _ _ _⟩
    exact h.none0 h0 _ _
  · obtain ⟨e1, e2, e3⟩ := h.l0 k hk (by rw [upTo_at]; omega)
    obtain ⟨h1, h2⟩ := h12 (by omega)
    rw [upTo_at] at e3
    rw [e1]
    refine (markTagS_any _ y.tn (K0 k) p w y.nm y.vl e3 hz p1 p2).mono ?_
    rintro e w' ⟨rfl, ho, ht⟩
    exact ⟨by rw [Int.natCast_add, Int.natCast_mul]; rfl, h.list0 hk (by omega) ht _ _ ho, ht.rng h1 h2⟩

theorem ToC.mark1 {w : World} {b n k : Nat} {X : Nat → Wn} {y : Wn} {A0 A1 : Nat → Option Addr} {K0 K1 : Nat → Nat} {G : Nat → Nat} (h : ToC w b n (upTo X k y) A0 A1 K0 K1 G) (hk : k < n) (hz : y.n ≤ 1048576) (D : Nat) (hD : y.n = D) (p : Nat) (pv : Int) (hpv : pv = (p : Int)) (np : Nat) (hnp : np = p + y.n) (p1 : 1 ≤ p) (p2 : p ≤ 8796093022208) (lo hi : Nat) (h12 : 0 < y.n → lo ≤ G (k * 2 + 1) ∧ G (k * 2 + 1) < hi) :
    Calls Try.prog 25 #[.slice (A1 k) D (K1 k), .int .i64 pv] w fun e w' => e = .returned (.int .i64 (np : Int)) ∧ ToC w' b n (upTo X k (y.wl_N (mIn p y.n))) A0 A1 K0 K1 G ∧ Rng lo hi w w' := by
  subst hD hpv hnp
  by_cases h0 : y.n = 0
  · have hsl : Value.slice (A1 k) y.n (K1 k) = .slice (A1 k) 0 (K1 k) := by rw [h0]
    rw [hsl]
    refine (markI_zero (A1 k) (K1 k) _ w).mono ?_
    rintro e w' ⟨rfl, rfl⟩
    refine ⟨by simp [h0], ?_, Rng.refl _ _ _⟩
    exact h.none1 h0 _
  · obtain ⟨e1, e2, e3⟩ := h.l1 k hk (by rw [upTo_at]; omega)
    obtain ⟨h1, h2⟩ := h12 (by omega)
    rw [upTo_at] at e3
    rw [e1]
    refine (markI_any _ 0 y.n (K1 k) y.f p w e3 hz p2).mono ?_
    rintro e w' ⟨rfl, ⟨fy, ho, hfy⟩, ht⟩
    refine ⟨rfl, h.list1 hk (by omega) (Thru.of_others ht) _ (ho.congr (mIn_bd p y.n hz p2) (fun i hi => ?_)), (Thru.of_others ht).rng h1 h2⟩
    rw [hfy i hi, mIn, if_pos hi]
    rfl

set_option maxRecDepth 100000 in
set_option maxHeartbeats 8000000 in
theorem markToldS_any (b n cap k0 : Nat) (X : Nat → Wn) (A0 A1 : Nat → Option Addr) (K0 K1 : Nat → Nat) (G : Nat → Nat) (lo hi : Nat) (w : World) (h : ToC w b n X A0 A1 K0 K1 G) (hlb : lo ≤ b ∧ b < hi) (hl0 : ∀ i, i < n → 0 < (X i).tn → lo ≤ G (i * 2 + 0) ∧ G (i * 2 + 0) < hi) (hl1 : ∀ i, i < n → 0 < (X i).n → lo ≤ G (i * 2 + 1) ∧ G (i * 2 + 1) < hi) (hk0 : 1 ≤ k0) (hk1 : k0 ≤ 4398046511104) (hz : ToSize n X) (hn : n ≤ 1048576) :
    Calls Try.prog 9 #[.slice (some ⟨b, 0, none⟩) n cap, .int .i64 k0] w fun e w' => e = .returned (.int .i64 (kOTo X k0 n : Int)) ∧ ToC w' b n (mATo X k0 n) A0 A1 K0 K1 G ∧ Rng lo hi w w' := by
  go_enter Try.func9, Try.ntmps9
  go_wp2
  go_loopw [1, 5] (fun q i wr => ∃ k : Nat, k ≤ n ∧ i = .int .i64 k ∧ q = .int .i64 (kOTo X k0 k : Int) ∧ ToC wr b n (mATo X k0 k) A0 A1 K0 K1 G ∧ Rng lo hi w wr) (fun _ i _ => n - (intOf i).toNat)
  case atStart => exact ⟨0, Nat.zero_le _, rfl, rfl, by rw [mATo_zero]; exact h, Rng.refl _ _ _⟩
  case round =>
    obtain ⟨k, hk, rfl, rfl, hC, hR⟩ := hrel
    clear h
    by_cases hlt : k < n
    rotate_left
    · have e : k = n := by omega
      subst e
      go_wp2
      go_ret
      exact ⟨rfl, hC, hR⟩
    have hkb := kOTo_mono X k0 (show k + 1 ≤ n by omega)
    have hkn := kOTo_le X k0 n hz
    have hkg := kOTo_ge X k0 k
    have hks : kOTo X k0 (k + 1) = kOTo X k0 k + spTo (X k) := rfl
    have hzk := hz k hlt
    have hup := mATo_up X k0 k
    have hC0 : ToC wr b n (upTo (mATo X k0 k) k (X k)) A0 A1 K0 K1 G := by
      have e : upTo (mATo X k0 k) k (X k) = mATo X k0 k := by
        have := upTo_same (mATo X k0 k) k
        rw [mATo_at] at this
        exact this
      rw [e]; exact hC
    clear hC
    generalize mATo X k0 k = M at *
    obtain ⟨kk, hkk⟩ : ∃ kk, kk = kOTo X k0 k := ⟨_, rfl⟩
    rw [← hkk] at hkg hks hup ⊢
    have HKS : Hid (kOTo X k0 (k + 1) = kk + spTo (X k)) := hks
    have HUP : Hid (upTo M k (mkTo kk (X k)) = mATo X k0 (k + 1)) := hup
    have hkt : kk + spTo (X k) ≤ 8796093022208 := by omega
    have HSP : Hid (spTo (X k) = spTo (X k)) := rfl
    unfold spTo at hkt
    clear hkk hks hkb hkn hup
    have hq0 : (0 : Int) ≤ (k : Int) := by omega
    have hq1 : (k : Int) < (n : Int) := by omega
    go_wp2_with fail
    refine (markText_any (kk : Int) _ (by omega) (by omega)).mono ?_
    rintro e w0 ⟨rfl, hb0⟩
    have t0 := hC0.keep hb0
    have Q0 := hR.trans (Rng.of_below hb0)
    clear hb0
    have e9 := t0.ent k hlt
    rw [upTo_at] at e9
    obtain ⟨_, c0, c1, c2, c3, c4, c5, c6, c7, c8, c9⟩ := e9
    have f0 := t0.free (k * 10) (by omega)
    have f1 := t0.free (k * 10 + 1) (by omega)
    have f2 := t0.free (k * 10 + 2) (by omega)
    have f3 := t0.free (k * 10 + 3) (by omega)
    have f4 := t0.free (k * 10 + 4) (by omega)
    have f5 := t0.free (k * 10 + 5) (by omega)
    have f6 := t0.free (k * 10 + 6) (by omega)
    have f7 := t0.free (k * 10 + 7) (by omega)
    have f8 := t0.free (k * 10 + 8) (by omega)
    have f9 := t0.free (k * 10 + 9) (by omega)
    have hw_kk_1 : IntKind.i64.wrap ((kk : Int) + 1) = ((kk : Int) + 1) := by rw [IntKind.wrap_i64] <;> omega
    have s1 := (t0.set0 hlt (mt (kk : Int)))
    have R1 := (Q0.trans (Rng.of_set (b := b) hlb (k * 10) (.string (mt (kk : Int)))))
    obtain ⟨p1, hp1⟩ : ∃ p1 : Nat, p1 = kk + 1 + 2 * (X k).tn := ⟨_, rfl⟩
    have Hp1 : Hid (p1 = kk + 1 + 2 * (X k).tn) := hp1
    have m1 := s1.mark0 hlt (by show (X k).tn ≤ 1048576; exact (show WiS (X k) from hzk).tn) (X k).tn rfl (kk + 1) ((kk : Int) + 1) (by omega) p1 (by show p1 = kk + 1 + 2 * (X k).tn; exact hp1) (by omega) (by omega) lo hi (hl0 k hlt)
    have bp1 : p1 ≤ kk + 1 + 2 * (X k).tn := by omega
    have Bp1 : kk + 1 + 2 * (X k).tn ≤ p1 := by omega
    clear hp1
    go_wp2_with fail
    refine m1.mono ?_
    clear m1
    rintro e w1 ⟨rfl, t1, q1⟩
    have Q1 := R1.trans q1
    clear c0 f0 c1 f1 c2 f2 c3 f3 c4 f4 c5 f5 c6 f6 c7 f7 c8 f8 c9 f9
    have e9 := t1.ent k hlt
    rw [upTo_at] at e9
    obtain ⟨_, c0, c1, c2, c3, c4, c5, c6, c7, c8, c9⟩ := e9
    simp only [Wn.w_m, Wn.w_st, Wn.w_ver, Wn.w_c, Wn.w_s, Wn.w_lo, Wn.w_hi, Wn.w_fu, Wn.wl_T, Wn.wl_N] at c0 c1 c2 c3 c4 c5 c6 c7 c8 c9
    have f0 := t1.free (k * 10) (by omega)
    have f1 := t1.free (k * 10 + 1) (by omega)
    have f2 := t1.free (k * 10 + 2) (by omega)
    have f3 := t1.free (k * 10 + 3) (by omega)
    have f4 := t1.free (k * 10 + 4) (by omega)
    have f5 := t1.free (k * 10 + 5) (by omega)
    have f6 := t1.free (k * 10 + 6) (by omega)
    have f7 := t1.free (k * 10 + 7) (by omega)
    have f8 := t1.free (k * 10 + 8) (by omega)
    have f9 := t1.free (k * 10 + 9) (by omega)
    have hw_p1_1 : IntKind.i64.wrap ((p1 : Int) + 1) = ((p1 : Int) + 1) := by rw [IntKind.wrap_i64] <;> omega
    have hw_p1_2 : IntKind.i64.wrap (((p1 : Int) + 1) + 1) = ((p1 : Int) + 2) := by rw [IntKind.wrap_i64] <;> omega
    have hw_p1_3 : IntKind.i64.wrap (((p1 : Int) + 2) + 1) = ((p1 : Int) + 3) := by rw [IntKind.wrap_i64] <;> omega
    have hw_p1_4 : IntKind.i64.wrap (((p1 : Int) + 3) + 1) = ((p1 : Int) + 4) := by rw [IntKind.wrap_i64] <;> omega
    have hw_p1_5 : IntKind.i64.wrap (((p1 : Int) + 4) + 1) = ((p1 : Int) + 5) := by rw [IntKind.wrap_i64] <;> omega
    have hw_p1_6 : IntKind.i64.wrap (((p1 : Int) + 5) + 1) = ((p1 : Int) + 6) := by rw [IntKind.wrap_i64] <;> omega
    have s2 := ((((((t1.set2 hlt (p1 : Int)).set3 hlt ((p1 : Int) + 1)).set4 hlt ((p1 : Int) + 2)).set5 hlt ((p1 : Int) + 3)).set6 hlt ((p1 : Int) + 4)).set7 hlt ((p1 : Int) + 5))
    have R2 := ((((((Q1.trans (Rng.of_set (b := b) hlb (k * 10 + 2) (.int .i64 (p1 : Int)))).trans (Rng.of_set (b := b) hlb (k * 10 + 3) (.int .i64 ((p1 : Int) + 1)))).trans (Rng.of_set (b := b) hlb (k * 10 + 4) (.int .i64 ((p1 : Int) + 2)))).trans (Rng.of_set (b := b) hlb (k * 10 + 5) (.int .i64 ((p1 : Int) + 3)))).trans (Rng.of_set (b := b) hlb (k * 10 + 6) (.int .i64 ((p1 : Int) + 4)))).trans (Rng.of_set (b := b) hlb (k * 10 + 7) (.int .i64 ((p1 : Int) + 5))))
    obtain ⟨p2, hp2⟩ : ∃ p2 : Nat, p2 = p1 + 6 + (X k).n := ⟨_, rfl⟩
    have Hp2 : Hid (p2 = p1 + 6 + (X k).n) := hp2
    have m2 := s2.mark1 hlt (by show (X k).n ≤ 1048576; exact (show WiS (X k) from hzk).n) (X k).n rfl (p1 + 6) ((p1 : Int) + 6) (by omega) p2 (by show p2 = p1 + 6 + (X k).n; exact hp2) (by omega) (by omega) lo hi (hl1 k hlt)
    have bp2 : p2 ≤ p1 + 6 + (X k).n := by omega
    have Bp2 : p1 + 6 + (X k).n ≤ p2 := by omega
    clear hp2
    go_wp2_with fail
    refine m2.mono ?_
    clear m2
    rintro e w2 ⟨rfl, t2, q2⟩
    have Q2 := R2.trans q2
    clear c0 f0 c1 f1 c2 f2 c3 f3 c4 f4 c5 f5 c6 f6 c7 f7 c8 f8 c9 f9
    have e9 := t2.ent k hlt
    rw [upTo_at] at e9
    obtain ⟨_, c0, c1, c2, c3, c4, c5, c6, c7, c8, c9⟩ := e9
    simp only [Wn.w_m, Wn.w_st, Wn.w_ver, Wn.w_c, Wn.w_s, Wn.w_lo, Wn.w_hi, Wn.w_fu, Wn.wl_T, Wn.wl_N] at c0 c1 c2 c3 c4 c5 c6 c7 c8 c9
    have f0 := t2.free (k * 10) (by omega)
    have f1 := t2.free (k * 10 + 1) (by omega)
    have f2 := t2.free (k * 10 + 2) (by omega)
    have f3 := t2.free (k * 10 + 3) (by omega)
    have f4 := t2.free (k * 10 + 4) (by omega)
    have f5 := t2.free (k * 10 + 5) (by omega)
    have f6 := t2.free (k * 10 + 6) (by omega)
    have f7 := t2.free (k * 10 + 7) (by omega)
    have f8 := t2.free (k * 10 + 8) (by omega)
    have f9 := t2.free (k * 10 + 9) (by omega)
    have hw_p2_1 : IntKind.i64.wrap ((p2 : Int) + 1) = ((p2 : Int) + 1) := by rw [IntKind.wrap_i64] <;> omega
    have sz := (t2.set9 hlt ((p2 : Int) % 3 == 0))
    have Rz := (Q2.trans (Rng.of_set (b := b) hlb (k * 10 + 9) (.bool ((p2 : Int) % 3 == 0))))
    have HF : Hid (((p2 : Int) + 1) = ((kOTo X k0 (k + 1) : Nat) : Int)) := by
      unfold Hid
      rw [HKS.out]
      unfold spTo
      have := Hp1.out
      have := Hp2.out
      omega
    clear t2
    go_wp2
    go_roundw
    case rel =>
      refine ⟨k + 1, by omega, by go_num, by rw [← HF.out], ?_, Rz⟩
      rw [← HUP.out]
      have gp1 := Hp1.out
      have gp2 := Hp2.out
      refine ToC.cast sz ?_
      unfold mkTo
      simp only [Wn.w_m, Wn.w_st, Wn.w_ver, Wn.w_c, Wn.w_s, Wn.w_lo, Wn.w_hi, Wn.w_fu, Wn.wl_T, Wn.wl_N, Wn.mk.injEq]
      refine ⟨?_, ?_, ?_, ?_, ?_, ?_, ?_, ?_, ?_, ?_, ?_, ?_, ?_, ?_⟩
      all_goals first | rfl | omega | (congr 1; omega) | (congr 2; omega) | (congr 3; omega) | (subst_vars; rfl) | (subst_vars; simp; done) | (subst_vars; congr 1; simp; omega)
    case measure => simp [intOf]; omega
end Go.Proofs.Ytjdijikmdlklkaa
