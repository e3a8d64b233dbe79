/- Keys marked. / Marks of keys looked for. -/
import Derived.Test.YtflmbcgokiiedaaKc
import Derived.Test.YtflmbcgokiiedaaFr
import Derived.Deep.RegionHeld3
namespace Go.Proofs.Ytflmbcgokiiedaa
open Go.RowKit
set_option linter.unusedSimpArgs false
set_option linter.unusedVariables false

theorem KeC.none0 {w : World} {b n k : Nat} {X : Nat → Wn} {y : Wn} {A0 : Nat → Option Addr} {K0 : Nat → Nat} {G : Nat → Nat} (h : KeC w b n (upKe X k y) A0 K0 G) (hz : y.tn = 0) (nm' : Nat → ByteArray) (vl' : Nat → ByteArray) : KeC w b n (upKe X k (y.wl_T nm' vl')) A0 K0 G := by
  refine ⟨h.lt, fun i hi => ?_, h.free, fun i hi h0 => ?_, h.dis⟩
  · have h0 := h.ent i hi
    unfold upKe at h0 ⊢
    split
    · rename_i e
      subst e
      simp only [if_true] at h0
      exact ⟨h0.lt, h0.c0, h0.c1, h0.c2⟩
    · rename_i e
      simp only [e, if_false] at h0
      exact h0
  · have hx : (upKe X k (y.wl_T nm' vl') i).tn = (upKe X k y i).tn := by unfold upKe; split <;> rfl
    rw [hx] at h0
    obtain ⟨e1, e2, e3⟩ := h.l0 i hi h0
    refine ⟨e1, e2, ?_⟩
    by_cases e : i = k
    · subst e; rw [upKe_at] at h0; omega
    · rw [upKe_ne _ _ _ e] at e3 ⊢
      exact e3

theorem KeC.mark0 {w : World} {b n k : Nat} {X : Nat → Wn} {y : Wn} {A0 : Nat → Option Addr} {K0 : Nat → Nat} {G : Nat → Nat} (h : KeC w b n (upKe X k y) A0 K0 G) (hk : k < n) (hz : y.tn ≤ 1048576) (D : Nat) (hD : y.tn = D) (p : Nat) (pv : Int) (hpv : pv = (p : Int)) (np : Nat) (hnp : np = p + 2 * y.tn) (p1 : 1 ≤ p) (p2 : p ≤ 8796093022208) (P : Nat → Prop) (h12 : 0 < y.tn → P (G (k * 1 + 0))) :
    Calls Try.prog 45 #[.slice (A0 k) D (K0 k), .int .i64 pv] w fun e w' => e = .returned (.int .i64 (np : Int)) ∧ KeC w' b n (upKe X k (y.wl_T (mtN p) (mtV p))) A0 K0 G ∧ Frm P w w' := by
  subst hD hpv hnp
  by_cases h0 : y.tn = 0
  · have hsl : Value.slice (A0 k) y.tn (K0 k) = .slice (A0 k) 0 (K0 k) := by rw [h0]
    rw [hsl]
    refine (markT_zero (A0 k) (K0 k) _ w).mono ?_
    rintro e w' ⟨rfl, rfl⟩
    refine ⟨by simp [h0], ?_, Frm.refl _ _⟩
    exact h.none0 h0 _ _
  · obtain ⟨e1, e2, e3⟩ := h.l0 k hk (by rw [upKe_at]; omega)
    have h1 := h12 (by omega)
    rw [upKe_at] at e3
    rw [e1]
    refine (markTagS_any _ y.tn (K0 k) p w y.nm y.vl e3 hz p1 p2).mono ?_
    rintro e w' ⟨rfl, ho, ht⟩
    exact ⟨by rw [Int.natCast_add, Int.natCast_mul]; rfl, h.list0 hk (by omega) ht _ _ ho, ht.frm h1⟩

set_option maxRecDepth 100000 in
set_option maxHeartbeats 8000000 in
theorem markKeyS_any (b n cap k0 : Nat) (X : Nat → Wn) (A0 : Nat → Option Addr) (K0 : Nat → Nat) (G : Nat → Nat) (P : Nat → Prop) (w : World) (h : KeC w b n X A0 K0 G) (hlb : P b) (hl0 : ∀ i, i < n → 0 < (X i).tn → P (G (i * 1 + 0))) (hk0 : 1 ≤ k0) (hk1 : k0 ≤ 4398046511104) (hz : KeSize n X) (hn : n ≤ 1048576) :
    Calls Try.prog 19 #[.slice (some ⟨b, 0, none⟩) n cap, .int .i64 k0] w fun e w' => e = .returned (.int .i64 (kOKe X k0 n : Int)) ∧ KeC w' b n (mAKe X k0 n) A0 K0 G ∧ Frm P w w' := by
  go_enter Try.func19, Try.ntmps19
  go_wp2
  go_loopw [1, 5] (fun q i wr => ∃ k : Nat, k ≤ n ∧ i = .int .i64 k ∧ q = .int .i64 (kOKe X k0 k : Int) ∧ KeC wr b n (mAKe X k0 k) A0 K0 G ∧ Frm P w wr) (fun _ i _ => n - (intOf i).toNat)
  case atStart => exact ⟨0, Nat.zero_le _, rfl, rfl, by rw [mAKe_zero]; exact h, Frm.refl _ _⟩
  case round =>
    obtain ⟨k, hk, rfl, rfl, hC, hR⟩ := hrel
    clear h
    by_cases hlt : k < n
    rotate_left
    · have e : k = n := by omega
      subst e
      go_wp2
      go_ret
      exact ⟨rfl, hC, hR⟩
    have hkb := kOKe_mono X k0 (show k + 1 ≤ n by omega)
    have hkn := kOKe_le X k0 n hz
    have hkg := kOKe_ge X k0 k
    have hks : kOKe X k0 (k + 1) = kOKe X k0 k + spKe (X k) := rfl
    have hzk := hz k hlt
    have hup := mAKe_up X k0 k
    have hC0 : KeC wr b n (upKe (mAKe X k0 k) k (X k)) A0 K0 G := by
      have e : upKe (mAKe X k0 k) k (X k) = mAKe X k0 k := by
        have := upKe_same (mAKe X k0 k) k
        rw [mAKe_at] at this
        exact this
      rw [e]; exact hC
    clear hC
    generalize mAKe X k0 k = M at *
    obtain ⟨kk, hkk⟩ : ∃ kk, kk = kOKe X k0 k := ⟨_, rfl⟩
    rw [← hkk] at hkg hks hup ⊢
    have HKS : Hid (kOKe X k0 (k + 1) = kk + spKe (X k)) := hks
    have HUP : Hid (upKe M k (mkKe kk (X k)) = mAKe X k0 (k + 1)) := hup
    have hkt : kk + spKe (X k) ≤ 8796093022208 := by omega
    have HSP : Hid (spKe (X k) = spKe (X k)) := rfl
    unfold spKe at hkt
    clear hkk hks hkb hkn hup
    have hq0 : (0 : Int) ≤ (k : Int) := by omega
    have hq1 : (k : Int) < (n : Int) := by omega
    go_wp2_with fail
    refine (markText_any (kk : Int) _ (by omega) (by omega)).mono ?_
    rintro e w0 ⟨rfl, hb0⟩
    have t0 := hC0.keep hb0
    have Q0 := hR.trans (Frm.of_below hb0)
    clear hb0
    have e9 := t0.ent k hlt
    rw [upKe_at] at e9
    obtain ⟨_, c0, c1, c2⟩ := e9
    have f0 := t0.free (k * 3) (by omega)
    have f1 := t0.free (k * 3 + 1) (by omega)
    have f2 := t0.free (k * 3 + 2) (by omega)
    have hw_kk_1 : IntKind.i64.wrap ((kk : Int) + 1) = ((kk : Int) + 1) := by rw [IntKind.wrap_i64] <;> omega
    have s1 := (t0.set0 hlt (mt (kk : Int)))
    have R1 := (Q0.trans (Frm.of_set (b := b) hlb (k * 3) (.string (mt (kk : Int)))))
    obtain ⟨p1, hp1⟩ : ∃ p1 : Nat, p1 = kk + 1 + 2 * (X k).tn := ⟨_, rfl⟩
    have Hp1 : Hid (p1 = kk + 1 + 2 * (X k).tn) := hp1
    have m1 := s1.mark0 hlt (by show (X k).tn ≤ 1048576; exact (show WiS (X k) from hzk).tn) (X k).tn rfl (kk + 1) ((kk : Int) + 1) (by omega) p1 (by show p1 = kk + 1 + 2 * (X k).tn; exact hp1) (by omega) (by omega) P (hl0 k hlt)
    have bp1 : p1 ≤ kk + 1 + 2 * (X k).tn := by omega
    have Bp1 : kk + 1 + 2 * (X k).tn ≤ p1 := by omega
    clear hp1
    go_wp2_with fail
    refine m1.mono ?_
    clear m1
    rintro e w1 ⟨rfl, t1, q1⟩
    have Q1 := R1.trans q1
    clear c0 f0 c1 f1 c2 f2
    have e9 := t1.ent k hlt
    rw [upKe_at] at e9
    obtain ⟨_, c0, c1, c2⟩ := e9
    simp only [Wn.w_m, Wn.w_st, Wn.wl_T] at c0 c1 c2
    have f0 := t1.free (k * 3) (by omega)
    have f1 := t1.free (k * 3 + 1) (by omega)
    have f2 := t1.free (k * 3 + 2) (by omega)
    have hw_p1_1 : IntKind.i64.wrap ((p1 : Int) + 1) = ((p1 : Int) + 1) := by rw [IntKind.wrap_i64] <;> omega
    have sz := (t1.set2 hlt (p1 : Int))
    have Rz := (Q1.trans (Frm.of_set (b := b) hlb (k * 3 + 2) (.int .i64 (p1 : Int))))
    have HF : Hid (((p1 : Int) + 1) = ((kOKe X k0 (k + 1) : Nat) : Int)) := by
      unfold Hid
      rw [HKS.out]
      unfold spKe
      have := Hp1.out
      omega
    clear t1
    go_wp2
    go_roundw
    case rel =>
      refine ⟨k + 1, by omega, by go_num, by rw [← HF.out], ?_, Rz⟩
      rw [← HUP.out]
      have gp1 := Hp1.out
      refine KeC.cast sz ?_
      unfold mkKe
      simp only [Wn.w_m, Wn.w_st, Wn.wl_T, Wn.mk.injEq]
      refine ⟨?_, ?_, ?_, ?_, ?_, ?_, ?_, ?_, ?_, ?_, ?_, ?_, ?_, ?_⟩
      all_goals first | rfl | omega | (congr 1; omega) | (congr 2; omega) | (congr 3; omega) | (subst_vars; rfl) | (subst_vars; simp; done) | (subst_vars; congr 1; simp; omega)
    case measure => simp [intOf]; omega
end Go.Proofs.Ytflmbcgokiiedaa
namespace Go.Proofs.Ytflmbcgokiiedaa
open Go.RowKit
set_option linter.unusedSimpArgs false
set_option linter.unusedVariables false

set_option maxRecDepth 100000 in
set_option maxHeartbeats 8000000 in
theorem heldKeyS_yes (b n cap k0 : Nat) (X : Nat → Wn) (A0 : Nat → Option Addr) (K0 : Nat → Nat) (G : Nat → Nat) (w : World) (h : KeC w b n (mAKe X k0 n) A0 K0 G) (hk0 : 1 ≤ k0) (hk1 : k0 ≤ 4398046511104) (hz : KeSize n X) (hn : n ≤ 1048576) :
    Calls Try.prog 20 #[.slice (some ⟨b, 0, none⟩) n cap, .int .i64 k0] w fun e w' => e = .returned (.int .i64 (kOKe X k0 n : Int)) ∧ Below w.heap.size w w' := by
  go_enter Try.func20, Try.ntmps20
  go_wp2
  go_loopw [1, 5] (fun q i wr => ∃ k : Nat, k ≤ n ∧ i = .int .i64 k ∧ q = .int .i64 (kOKe X k0 k : Int) ∧ Below w.heap.size w wr) (fun _ i _ => n - (intOf i).toNat)
  case atStart => exact ⟨0, Nat.zero_le _, rfl, rfl, Below.refl _ _⟩
  case round =>
    obtain ⟨k, hk, rfl, rfl, hbk⟩ := hrel
    by_cases hlt : k < n
    rotate_left
    · have e : k = n := by omega
      subst e
      go_wp2
      go_ret
      exact ⟨rfl, hbk⟩
    have hkb := kOKe_mono X k0 (show k + 1 ≤ n by omega)
    have hkn := kOKe_le X k0 n hz
    have hkg := kOKe_ge X k0 k
    have hks : kOKe X k0 (k + 1) = kOKe X k0 k + spKe (X k) := rfl
    have hzk := hz k hlt
    have hCk := h.keep hbk
    have e9 := hCk.ent k hlt
    have g0 := hCk.l0 k hlt
    have hMk : mAKe X k0 n k = mkKe (kOKe X k0 k) (X k) := by simp [mAKe, hlt]
    rw [hMk] at e9 g0
    obtain ⟨kk, hkk⟩ : ∃ kk, kk = kOKe X k0 k := ⟨_, rfl⟩
    rw [← hkk] at hkg hks e9 g0 ⊢
    have HKS : Hid (kOKe X k0 (k + 1) = kk + spKe (X k)) := hks
    have hkt : kk + spKe (X k) ≤ 8796093022208 := by omega
    unfold spKe at hkt
    clear hkk hks hkb hkn hMk hCk h
    have hq0 : (0 : Int) ≤ (k : Int) := by omega
    have hq1 : (k : Int) < (n : Int) := by omega
    have hw_kk_1 : IntKind.i64.wrap ((kk : Int) + 1) = ((kk : Int) + 1) := by rw [IntKind.wrap_i64] <;> omega
    obtain ⟨p1, hp1⟩ : ∃ p1 : Nat, p1 = kk + 1 + 2 * (X k).tn := ⟨_, rfl⟩
    have Hp1 : Hid (p1 = kk + 1 + 2 * (X k).tn) := hp1
    have bp1 : p1 ≤ kk + 1 + 2 * (X k).tn := by omega
    have Bp1 : kk + 1 + 2 * (X k).tn ≤ p1 := by omega
    have hw_p1_1 : IntKind.i64.wrap ((p1 : Int) + 1) = ((p1 : Int) + 1) := by rw [IntKind.wrap_i64] <;> omega
    have c0 := e9.c0
    rw [show (mkKe kk (X k)).m = mt (kk : Int) from rfl] at c0
    have c1 := e9.c1
    rw [show (mkKe kk (X k)).tn = (X k).tn from rfl] at c1
    have c2 := e9.c2
    rw [show (mkKe kk (X k)).st = (p1 : Int) from by simp only [mkKe]; omega] at c2
    have r0 : TRow wr (A0 k) (X k).tn (mtN (kk + 1)) (mtV (kk + 1)) := by
      by_cases h0 : (X k).tn = 0
      · exact ⟨.inl h0⟩
      · obtain ⟨e1, _, e3⟩ := g0 (Nat.pos_of_ne_zero h0)
        rw [e1]
        have e4 := e3.row
        simp only [mkKe] at e4
        exact e4
    have m0 := fun W h => heldTagS_yes (A0 k) (X k).tn (K0 k) (kk + 1) W h (show WiS (X k) from hzk).tn (by omega) (by omega)
    rw [show (((kk + 1) : Nat) : Int) = ((kk : Int) + 1) from by omega] at m0
    rw [show ((kk : Int) + 1) + 2 * ((X k).tn : Int) = (p1 : Int) from by omega] at m0
    clear g0 hp1
    have lb := e9.lt
    go_wp2
    go_region_held3 (fun w' => w'.cell? ⟨b, k * 3, none⟩ = some (.string (mt (kk : Int)))) (go_keep) (first | (go_at_call 44; refine (markText_any (kk : Int) _ (by omega) (by omega)).mono ?_; rintro e w0 ⟨rfl, hb0⟩; have hb0' := (Below.refl _ wr).drew.trans hb0; have z0 := (hb0'.cell (p := ⟨b, k * 3, none⟩) lb).trans c0))
    clear z0
    have c0 := (hb0'.cell (p := ⟨b, k * 3, none⟩) lb).trans c0
    have c1 := (hb0'.cell (p := ⟨b, k * 3 + 1, none⟩) lb).trans c1
    have c2 := (hb0'.cell (p := ⟨b, k * 3 + 2, none⟩) lb).trans c2
    have lb := Nat.lt_of_lt_of_le lb hb0'.size
    have r0 := r0.keep hb0'
    have hbk := hbk.trans (hb0'.mono hbk.size)
    clear hb0 hb0'
    have hneg0 : decide ((p1 : Int) < 0) = false := decide_eq_false (by omega)
    go_wp2_with fail
    refine (m0 _ r0).mono ?_
    clear m0
    rintro e v0 ⟨rfl, q0⟩
    have c0 := (q0.cell (p := ⟨b, k * 3, none⟩) lb).trans c0
    have c1 := (q0.cell (p := ⟨b, k * 3 + 1, none⟩) lb).trans c1
    have c2 := (q0.cell (p := ⟨b, k * 3 + 2, none⟩) lb).trans c2
    have lb := Nat.lt_of_lt_of_le lb q0.size
    have hbk := hbk.trans (q0.mono hbk.size)
    clear q0
    have HF : Hid (((p1 : Int) + 1) = ((kOKe X k0 (k + 1) : Nat) : Int)) := by
      unfold Hid
      rw [HKS.out]
      unfold spKe
      have := Hp1.out
      omega
    go_wp2
    go_roundw
    case rel => exact ⟨k + 1, by omega, by go_num, by rw [← HF.out], hbk⟩
    case measure => simp [intOf]; omega
end Go.Proofs.Ytflmbcgokiiedaa
