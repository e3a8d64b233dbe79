/- Windows marked: the frame told by a set of blocks (made by frm.py). / Keys marked: what is written. -/
import Derived.Test.YtflmbcgokiiedaaMw
import Derived.Test.YtflmbcgokiiedaaFr
import Derived.Test.YtflmbcgokiiedaaCw
import Derived.Test.YtflmbcgokiiedaaKr
namespace Go.Proofs.Ytflmbcgokiiedaa
open Go.RowKit
set_option linter.unusedSimpArgs false
set_option linter.unusedVariables false

theorem WiC.markF0 {w : World} {b n k : Nat} {X : Nat → Wn} {y : Wn} {A0 A1 : Nat → Option Addr} {K0 K1 : Nat → Nat} {G : Nat → Nat} (h : WiC w b n (upWi X k y) A0 A1 K0 K1 G) (hk : k < n) (hz : y.tn ≤ 1048576) (D : Nat) (hD : y.tn = D) (p : Nat) (pv : Int) (hpv : pv = (p : Int)) (np : Nat) (hnp : np = p + 2 * y.tn) (p1 : 1 ≤ p) (p2 : p ≤ 8796093022208) (P : Nat → Prop) (h12 : 0 < y.tn → P (G (k * 2 + 0))) :
    Calls Try.prog 45 #[.slice (A0 k) D (K0 k), .int .i64 pv] w fun e w' => e = .returned (.int .i64 (np : Int)) ∧ WiC w' b n (upWi X k (y.wl_T (mtN p) (mtV p))) A0 A1 K0 K1 G ∧ Frm P w w' := by
  subst hD hpv hnp
  by_cases h0 : y.tn = 0
  · have hsl : Value.slice (A0 k) y.tn (K0 k) = .slice (A0 k) 0 (K0 k) := by rw [h0]
    rw [hsl]
    refine (markT_zero (A0 k) (K0 k) _ w).mono ?_
    rintro e w' ⟨rfl, rfl⟩
    refine ⟨by simp [h0], ?_, Frm.refl _ _⟩
    exact h.none0 h0 _ _
  · obtain ⟨e1, e2, e3⟩ := h.l0 k hk (by rw [upWi_at]; omega)
    have h1 := h12 (by omega)
    rw [upWi_at] at e3
    rw [e1]
    refine (markTagS_any _ y.tn (K0 k) p w y.nm y.vl e3 hz p1 p2).mono ?_
    rintro e w' ⟨rfl, ho, ht⟩
    exact ⟨by rw [Int.natCast_add, Int.natCast_mul]; rfl, h.list0 hk (by omega) ht _ _ ho, ht.frm h1⟩

theorem WiC.markF1 {w : World} {b n k : Nat} {X : Nat → Wn} {y : Wn} {A0 A1 : Nat → Option Addr} {K0 K1 : Nat → Nat} {G : Nat → Nat} (h : WiC w b n (upWi X k y) A0 A1 K0 K1 G) (hk : k < n) (hz : y.n ≤ 1048576) (D : Nat) (hD : y.n = D) (p : Nat) (pv : Int) (hpv : pv = (p : Int)) (np : Nat) (hnp : np = p + y.n) (p1 : 1 ≤ p) (p2 : p ≤ 8796093022208) (P : Nat → Prop) (h12 : 0 < y.n → P (G (k * 2 + 1))) :
    Calls Try.prog 46 #[.slice (A1 k) D (K1 k), .int .i64 pv] w fun e w' => e = .returned (.int .i64 (np : Int)) ∧ WiC w' b n (upWi X k (y.wl_N (mIn p y.n))) A0 A1 K0 K1 G ∧ Frm P w w' := by
  subst hD hpv hnp
  by_cases h0 : y.n = 0
  · have hsl : Value.slice (A1 k) y.n (K1 k) = .slice (A1 k) 0 (K1 k) := by rw [h0]
    rw [hsl]
    refine (markI_zero (A1 k) (K1 k) _ w).mono ?_
    rintro e w' ⟨rfl, rfl⟩
    refine ⟨by simp [h0], ?_, Frm.refl _ _⟩
    exact h.none1 h0 _
  · obtain ⟨e1, e2, e3⟩ := h.l1 k hk (by rw [upWi_at]; omega)
    have h1 := h12 (by omega)
    rw [upWi_at] at e3
    rw [e1]
    refine (markI_any _ 0 y.n (K1 k) y.f p w e3 hz p2).mono ?_
    rintro e w' ⟨rfl, ⟨fy, ho, hfy⟩, ht⟩
    refine ⟨rfl, h.list1 hk (by omega) (Thru.of_others ht) _ (ho.congr (mIn_bd p y.n hz p2) (fun i hi => ?_)), (Thru.of_others ht).frm h1⟩
    rw [hfy i hi, mIn, if_pos hi]
    rfl

set_option maxRecDepth 100000 in
set_option maxHeartbeats 8000000 in
theorem markWinS_frm (b n cap k0 : Nat) (X : Nat → Wn) (A0 A1 : Nat → Option Addr) (K0 K1 : Nat → Nat) (G : Nat → Nat) (P : Nat → Prop) (w : World) (h : WiC w b n X A0 A1 K0 K1 G) (hlb : P b) (hl0 : ∀ i, i < n → 0 < (X i).tn → P (G (i * 2 + 0))) (hl1 : ∀ i, i < n → 0 < (X i).n → P (G (i * 2 + 1))) (hk0 : 1 ≤ k0) (hk1 : k0 ≤ 4398046511104) (hz : WiSize n X) (hn : n ≤ 1048576) :
    Calls Try.prog 43 #[.slice (some ⟨b, 0, none⟩) n cap, .int .i64 k0] w fun e w' => e = .returned (.int .i64 (kOWi X k0 n : Int)) ∧ WiC w' b n (mAWi X k0 n) A0 A1 K0 K1 G ∧ Frm P w w' := by
  go_enter Try.func43, Try.ntmps43
  go_wp2
  go_loopw [1, 5] (fun q i wr => ∃ k : Nat, k ≤ n ∧ i = .int .i64 k ∧ q = .int .i64 (kOWi X k0 k : Int) ∧ WiC wr b n (mAWi X k0 k) A0 A1 K0 K1 G ∧ Frm P w wr) (fun _ i _ => n - (intOf i).toNat)
  case atStart => exact ⟨0, Nat.zero_le _, rfl, rfl, by rw [mAWi_zero]; exact h, Frm.refl _ _⟩
  case round =>
    obtain ⟨k, hk, rfl, rfl, hC, hR⟩ := hrel
    clear h
    by_cases hlt : k < n
    rotate_left
    · have e : k = n := by omega
      subst e
      go_wp2
      go_ret
      exact ⟨rfl, hC, hR⟩
    have hkb := kOWi_mono X k0 (show k + 1 ≤ n by omega)
    have hkn := kOWi_le X k0 n hz
    have hkg := kOWi_ge X k0 k
    have hks : kOWi X k0 (k + 1) = kOWi X k0 k + spWi (X k) := rfl
    have hzk := hz k hlt
    have hup := mAWi_up X k0 k
    have hC0 : WiC wr b n (upWi (mAWi X k0 k) k (X k)) A0 A1 K0 K1 G := by
      have e : upWi (mAWi X k0 k) k (X k) = mAWi X k0 k := by
        have := upWi_same (mAWi X k0 k) k
        rw [mAWi_at] at this
        exact this
      rw [e]; exact hC
    clear hC
    generalize mAWi X k0 k = M at *
    obtain ⟨kk, hkk⟩ : ∃ kk, kk = kOWi X k0 k := ⟨_, rfl⟩
    rw [← hkk] at hkg hks hup ⊢
    have HKS : Hid (kOWi X k0 (k + 1) = kk + spWi (X k)) := hks
    have HUP : Hid (upWi M k (mkWi kk (X k)) = mAWi X k0 (k + 1)) := hup
    have hkt : kk + spWi (X k) ≤ 8796093022208 := by omega
    have HSP : Hid (spWi (X k) = spWi (X k)) := rfl
    unfold spWi at hkt
    clear hkk hks hkb hkn hup
    have hq0 : (0 : Int) ≤ (k : Int) := by omega
    have hq1 : (k : Int) < (n : Int) := by omega
    go_wp2_with fail
    refine (markText_any (kk : Int) _ (by omega) (by omega)).mono ?_
    rintro e w0 ⟨rfl, hb0⟩
    have t0 := hC0.keep hb0
    have Q0 := hR.trans (Frm.of_below hb0)
    clear hb0
    have e9 := t0.ent k hlt
    rw [upWi_at] at e9
    obtain ⟨_, c0, c1, c2, c3, c4, c5, c6, c7, c8, c9, c10⟩ := e9
    have f0 := t0.free (k * 11) (by omega)
    have f1 := t0.free (k * 11 + 1) (by omega)
    have f2 := t0.free (k * 11 + 2) (by omega)
    have f3 := t0.free (k * 11 + 3) (by omega)
    have f4 := t0.free (k * 11 + 4) (by omega)
    have f5 := t0.free (k * 11 + 5) (by omega)
    have f6 := t0.free (k * 11 + 6) (by omega)
    have f7 := t0.free (k * 11 + 7) (by omega)
    have f8 := t0.free (k * 11 + 8) (by omega)
    have f9 := t0.free (k * 11 + 9) (by omega)
    have f10 := t0.free (k * 11 + 10) (by omega)
    have hw_kk_1 : IntKind.i64.wrap ((kk : Int) + 1) = ((kk : Int) + 1) := by rw [IntKind.wrap_i64] <;> omega
    have s1 := (t0.set0 hlt (mt (kk : Int)))
    have R1 := (Q0.trans (Frm.of_set (b := b) hlb (k * 11) (.string (mt (kk : Int)))))
    obtain ⟨p1, hp1⟩ : ∃ p1 : Nat, p1 = kk + 1 + 2 * (X k).tn := ⟨_, rfl⟩
    have Hp1 : Hid (p1 = kk + 1 + 2 * (X k).tn) := hp1
    have m1 := s1.markF0 hlt (by show (X k).tn ≤ 1048576; exact hzk.tn) (X k).tn rfl (kk + 1) ((kk : Int) + 1) (by omega) p1 (by show p1 = kk + 1 + 2 * (X k).tn; exact hp1) (by omega) (by omega) P (hl0 k hlt)
    have bp1 : p1 ≤ kk + 1 + 2 * (X k).tn := by omega
    have Bp1 : kk + 1 + 2 * (X k).tn ≤ p1 := by omega
    clear hp1
    go_wp2_with fail
    refine m1.mono ?_
    clear m1
    rintro e w1 ⟨rfl, t1, q1⟩
    have Q1 := R1.trans q1
    clear c0 f0 c1 f1 c2 f2 c3 f3 c4 f4 c5 f5 c6 f6 c7 f7 c8 f8 c9 f9 c10 f10
    have e9 := t1.ent k hlt
    rw [upWi_at] at e9
    obtain ⟨_, c0, c1, c2, c3, c4, c5, c6, c7, c8, c9, c10⟩ := e9
    simp only [Wn.w_m, Wn.w_st, Wn.w_c, Wn.w_s, Wn.w_lo, Wn.w_hi, Wn.w_fu, Wn.w_ver, Wn.w_di, Wn.wl_T, Wn.wl_N] at c0 c1 c2 c3 c4 c5 c6 c7 c8 c9 c10
    have f0 := t1.free (k * 11) (by omega)
    have f1 := t1.free (k * 11 + 1) (by omega)
    have f2 := t1.free (k * 11 + 2) (by omega)
    have f3 := t1.free (k * 11 + 3) (by omega)
    have f4 := t1.free (k * 11 + 4) (by omega)
    have f5 := t1.free (k * 11 + 5) (by omega)
    have f6 := t1.free (k * 11 + 6) (by omega)
    have f7 := t1.free (k * 11 + 7) (by omega)
    have f8 := t1.free (k * 11 + 8) (by omega)
    have f9 := t1.free (k * 11 + 9) (by omega)
    have f10 := t1.free (k * 11 + 10) (by omega)
    have hw_p1_1 : IntKind.i64.wrap ((p1 : Int) + 1) = ((p1 : Int) + 1) := by rw [IntKind.wrap_i64] <;> omega
    have hw_p1_2 : IntKind.i64.wrap (((p1 : Int) + 1) + 1) = ((p1 : Int) + 2) := by rw [IntKind.wrap_i64] <;> omega
    have hw_p1_3 : IntKind.i64.wrap (((p1 : Int) + 2) + 1) = ((p1 : Int) + 3) := by rw [IntKind.wrap_i64] <;> omega
    have hw_p1_4 : IntKind.i64.wrap (((p1 : Int) + 3) + 1) = ((p1 : Int) + 4) := by rw [IntKind.wrap_i64] <;> omega
    have hw_p1_5 : IntKind.i64.wrap (((p1 : Int) + 4) + 1) = ((p1 : Int) + 5) := by rw [IntKind.wrap_i64] <;> omega
    have s2 := (((((t1.set2 hlt (p1 : Int)).set3 hlt ((p1 : Int) + 1)).set4 hlt ((p1 : Int) + 2)).set5 hlt ((p1 : Int) + 3)).set6 hlt ((p1 : Int) + 4))
    have R2 := (((((Q1.trans (Frm.of_set (b := b) hlb (k * 11 + 2) (.int .i64 (p1 : Int)))).trans (Frm.of_set (b := b) hlb (k * 11 + 3) (.int .i64 ((p1 : Int) + 1)))).trans (Frm.of_set (b := b) hlb (k * 11 + 4) (.int .i64 ((p1 : Int) + 2)))).trans (Frm.of_set (b := b) hlb (k * 11 + 5) (.int .i64 ((p1 : Int) + 3)))).trans (Frm.of_set (b := b) hlb (k * 11 + 6) (.int .i64 ((p1 : Int) + 4))))
    obtain ⟨p2, hp2⟩ : ∃ p2 : Nat, p2 = p1 + 5 + (X k).n := ⟨_, rfl⟩
    have Hp2 : Hid (p2 = p1 + 5 + (X k).n) := hp2
    have m2 := s2.markF1 hlt (by show (X k).n ≤ 1048576; exact hzk.n) (X k).n rfl (p1 + 5) ((p1 : Int) + 5) (by omega) p2 (by show p2 = p1 + 5 + (X k).n; exact hp2) (by omega) (by omega) P (hl1 k hlt)
    have bp2 : p2 ≤ p1 + 5 + (X k).n := by omega
    have Bp2 : p1 + 5 + (X k).n ≤ p2 := by omega
    clear hp2
    go_wp2_with fail
    refine m2.mono ?_
    clear m2
    rintro e w2 ⟨rfl, t2, q2⟩
    have Q2 := R2.trans q2
    clear c0 f0 c1 f1 c2 f2 c3 f3 c4 f4 c5 f5 c6 f6 c7 f7 c8 f8 c9 f9 c10 f10
    have e9 := t2.ent k hlt
    rw [upWi_at] at e9
    obtain ⟨_, c0, c1, c2, c3, c4, c5, c6, c7, c8, c9, c10⟩ := e9
    simp only [Wn.w_m, Wn.w_st, Wn.w_c, Wn.w_s, Wn.w_lo, Wn.w_hi, Wn.w_fu, Wn.w_ver, Wn.w_di, Wn.wl_T, Wn.wl_N] at c0 c1 c2 c3 c4 c5 c6 c7 c8 c9 c10
    have f0 := t2.free (k * 11) (by omega)
    have f1 := t2.free (k * 11 + 1) (by omega)
    have f2 := t2.free (k * 11 + 2) (by omega)
    have f3 := t2.free (k * 11 + 3) (by omega)
    have f4 := t2.free (k * 11 + 4) (by omega)
    have f5 := t2.free (k * 11 + 5) (by omega)
    have f6 := t2.free (k * 11 + 6) (by omega)
    have f7 := t2.free (k * 11 + 7) (by omega)
    have f8 := t2.free (k * 11 + 8) (by omega)
    have f9 := t2.free (k * 11 + 9) (by omega)
    have f10 := t2.free (k * 11 + 10) (by omega)
    have hw_p2_1 : IntKind.i64.wrap ((p2 : Int) + 1) = ((p2 : Int) + 1) := by rw [IntKind.wrap_i64] <;> omega
    have hw_p2_2 : IntKind.i64.wrap (((p2 : Int) + 1) + 1) = ((p2 : Int) + 2) := by rw [IntKind.wrap_i64] <;> omega
    have hw_p2_3 : IntKind.i64.wrap (((p2 : Int) + 2) + 1) = ((p2 : Int) + 3) := by rw [IntKind.wrap_i64] <;> omega
    have sz := (((t2.set8 hlt ((p2 : Int) % 3 == 0)).set9 hlt ((p2 : Int) + 1)).set10 hlt (((p2 : Int) + 2) % 3 == 0))
    have Rz := (((Q2.trans (Frm.of_set (b := b) hlb (k * 11 + 8) (.bool ((p2 : Int) % 3 == 0)))).trans (Frm.of_set (b := b) hlb (k * 11 + 9) (.int .i64 ((p2 : Int) + 1)))).trans (Frm.of_set (b := b) hlb (k * 11 + 10) (.bool (((p2 : Int) + 2) % 3 == 0))))
    have HF : Hid (((p2 : Int) + 3) = ((kOWi X k0 (k + 1) : Nat) : Int)) := by
      unfold Hid
      rw [HKS.out]
      unfold spWi
      have := Hp1.out
      have := Hp2.out
      omega
    clear t2
    go_wp2
    go_roundw
    case rel =>
      refine ⟨k + 1, by omega, by go_num, by rw [← HF.out], ?_, Rz⟩
      rw [← HUP.out]
      have gp1 := Hp1.out
      have gp2 := Hp2.out
      refine WiC.cast sz ?_
      unfold mkWi
      simp only [Wn.w_m, Wn.w_st, Wn.w_c, Wn.w_s, Wn.w_lo, Wn.w_hi, Wn.w_fu, Wn.w_ver, Wn.w_di, Wn.wl_T, Wn.wl_N, Wn.mk.injEq]
      refine ⟨?_, ?_, ?_, ?_, ?_, ?_, ?_, ?_, ?_, ?_, ?_, ?_, ?_, ?_⟩
      all_goals first | rfl | omega | (congr 1; omega) | (congr 2; omega) | (congr 3; omega) | (subst_vars; rfl) | (subst_vars; simp; done) | (subst_vars; congr 1; simp; omega)
    case measure => simp [intOf]; omega
end Go.Proofs.Ytflmbcgokiiedaa
namespace Go.Proofs.Ytflmbcgokiiedaa
open Go.RowKit
set_option linter.unusedSimpArgs false
set_option linter.unusedVariables false

/-- The k-th put otherwise. -/
def upKe (X : Nat → Wn) (k : Nat) (y : Wn) : Nat → Wn := fun i => if i = k then y else X i
theorem upKe_same (X : Nat → Wn) (k : Nat) : upKe X k (X k) = X := by
  funext i
  unfold upKe
  split
  · rename_i h; rw [h]
  · rfl
theorem upKe_at (X : Nat → Wn) (k : Nat) (y : Wn) : upKe X k y k = y := by simp [upKe]
theorem upKe_ne (X : Nat → Wn) (k : Nat) (y : Wn) {i : Nat} (h : i ≠ k) : upKe X k y i = X i := by simp [upKe, h]

/-- They lie in block b, their lists in blocks of their own, all apart and free to be written. -/
structure KeC (w : World) (b n : Nat) (X : Nat → Wn) (A0 : Nat → Option Addr) (K0 : Nat → Nat) (G : Nat → Nat) : Prop where
  lt : b < w.heap.size
  ent : ∀ i, i < n → KeAt w b (i * 3) (X i) (A0 i) (K0 i)
  free : ∀ j, j < n * 3 → w.frozen? ⟨b, j, none⟩ = false
  l0 : ∀ i, i < n → 0 < (X i).tn → A0 i = some ⟨G (i * 1 + 0), 0, none⟩ ∧ G (i * 1 + 0) ≠ b ∧ TOwn w (G (i * 1 + 0)) (X i).tn (X i).tn (X i).nm (X i).vl
  dis : ∀ p p', p < n * 1 → p' < n * 1 → p ≠ p' → G p ≠ G p'
section
variable {w w' : World} {b n : Nat} {X : Nat → Wn} {A0 : Nat → Option Addr} {K0 : Nat → Nat} {G : Nat → Nat}
theorem KeC.keep (h : KeC w b n X A0 K0 G) (hb : Below w.heap.size w w') : KeC w' b n X A0 K0 G :=
  ⟨Nat.lt_of_lt_of_le h.lt hb.size, fun i hi => (h.ent i hi).keep hb, fun j hj => (hb.frozen (p := ⟨b, j, none⟩) h.lt).trans (h.free j hj),
    fun i hi h0 => by obtain ⟨e1, e2, e3⟩ := h.l0 i hi h0; exact ⟨e1, e2, e3.keep hb⟩, h.dis⟩
theorem KeC.same (h : KeC w b n X A0 K0 G) (hs : w.heap.size ≤ w'.heap.size) (hb : w'.heap[b]? = w.heap[b]?) (hl0 : ∀ i, i < n → 0 < (X i).tn → w'.heap[G (i * 1 + 0)]? = w.heap[G (i * 1 + 0)]?) : KeC w' b n X A0 K0 G := by
  have k : ∀ j, w'.cell? ⟨b, j, none⟩ = w.cell? ⟨b, j, none⟩ := fun j => World.cell?_of_block (w := w) (a := ⟨b, j, none⟩) hb
  refine ⟨Nat.lt_of_lt_of_le h.lt hs, fun i hi => (h.ent i hi).move (Nat.lt_of_lt_of_le h.lt hs) k, fun j hj => (World.frozen?_of_block (w := w) (a := ⟨b, j, none⟩) hb).trans (h.free j hj), fun i hi h0 => ?_, h.dis⟩
  · obtain ⟨e1, e2, e3⟩ := h.l0 i hi h0
    exact ⟨e1, e2, e3.blk (hl0 i hi h0) hs⟩
theorem KeC.set0 {k : Nat} {y : Wn} (h : KeC w b n (upKe X k y) A0 K0 G) (hk : k < n) (v : ByteArray) : KeC (w.setCell ⟨b, k * 3, none⟩ (.string v)) b n (upKe X k (y.w_m v)) A0 K0 G := by
  have ho := Others.setCell w b (k * 3) (.string v)
  refine ⟨by simpa using h.lt, fun i hi => ?_, fun j hj => by rw [World.frozen?_setCell]; exact h.free j hj, fun i hi h0 => ?_, h.dis⟩
  · have h0 := h.ent i hi
    by_cases e : i = k
    · subst e
      rw [upKe_at] at h0 ⊢
      have c : ∀ q, q ≠ i * 3 + 0 → (w.setCell ⟨b, i * 3, none⟩ (.string v)).cell? ⟨b, q, none⟩ = w.cell? ⟨b, q, none⟩ := fun q hq => World.cell?_setCell_other _ _ _ _ (by intro hh; injection hh with _ h2 _; omega)
      exact ⟨by simpa using h.lt, World.cell?_setCell_same _ _ _ h0.c0, (c _ (by omega)).trans h0.c1, (c _ (by omega)).trans h0.c2⟩
    · rw [upKe_ne _ _ _ e] at h0 ⊢
      have c : ∀ q, q < 3 → (w.setCell ⟨b, k * 3, none⟩ (.string v)).cell? ⟨b, i * 3 + q, none⟩ = w.cell? ⟨b, i * 3 + q, none⟩ := fun q hq => World.cell?_setCell_other _ _ _ _ (by intro hh; injection hh with _ h2 _; omega)
      exact ⟨by simpa using h.lt, (c 0 (by omega)).trans h0.c0, (c 1 (by omega)).trans h0.c1, (c 2 (by omega)).trans h0.c2⟩
  · have hx : (upKe X k (y.w_m v) i).tn = (upKe X k y i).tn := by unfold upKe; split <;> rfl
    rw [hx] at h0
    obtain ⟨e1, e2, e3⟩ := h.l0 i hi h0
    refine ⟨e1, e2, ?_⟩
    have e4 := e3.blk (ho.block _ e2) (by rw [ho.size]; exact Nat.le_refl _)
    by_cases e : i = k
    · subst e
      rw [upKe_at] at e4 ⊢
      exact e4
    · rw [upKe_ne _ _ _ e] at e4 ⊢
      exact e4
theorem KeC.set2 {k : Nat} {y : Wn} (h : KeC w b n (upKe X k y) A0 K0 G) (hk : k < n) (v : Int) : KeC (w.setCell ⟨b, k * 3 + 2, none⟩ (.int .i64 v)) b n (upKe X k (y.w_st v)) A0 K0 G := by
  have ho := Others.setCell w b (k * 3 + 2) (.int .i64 v)
  refine ⟨by simpa using h.lt, fun i hi => ?_, fun j hj => by rw [World.frozen?_setCell]; exact h.free j hj, fun i hi h0 => ?_, h.dis⟩
  · have h0 := h.ent i hi
    by_cases e : i = k
    · subst e
      rw [upKe_at] at h0 ⊢
      have c : ∀ q, q ≠ i * 3 + 2 → (w.setCell ⟨b, i * 3 + 2, none⟩ (.int .i64 v)).cell? ⟨b, q, none⟩ = w.cell? ⟨b, q, none⟩ := fun q hq => World.cell?_setCell_other _ _ _ _ (by intro hh; injection hh with _ h2 _; omega)
      exact ⟨by simpa using h.lt, (c _ (by omega)).trans h0.c0, (c _ (by omega)).trans h0.c1, World.cell?_setCell_same _ _ _ h0.c2⟩
    · rw [upKe_ne _ _ _ e] at h0 ⊢
      have c : ∀ q, q < 3 → (w.setCell ⟨b, k * 3 + 2, none⟩ (.int .i64 v)).cell? ⟨b, i * 3 + q, none⟩ = w.cell? ⟨b, i * 3 + q, none⟩ := fun q hq => World.cell?_setCell_other _ _ _ _ (by intro hh; injection hh with _ h2 _; omega)
      exact ⟨by simpa using h.lt, (c 0 (by omega)).trans h0.c0, (c 1 (by omega)).trans h0.c1, (c 2 (by omega)).trans h0.c2⟩
  · have hx : (upKe X k (y.w_st v) i).tn = (upKe X k y i).tn := by unfold upKe; split <;> rfl
    rw [hx] at h0
    obtain ⟨e1, e2, e3⟩ := h.l0 i hi h0
    refine ⟨e1, e2, ?_⟩
    have e4 := e3.blk (ho.block _ e2) (by rw [ho.size]; exact Nat.le_refl _)
    by_cases e : i = k
    · subst e
      rw [upKe_at] at e4 ⊢
      exact e4
    · rw [upKe_ne _ _ _ e] at e4 ⊢
      exact e4
theorem KeC.list0 {k : Nat} {y : Wn} (h : KeC w b n (upKe X k y) A0 K0 G) (hk : k < n) (hp : 0 < y.tn) (ht : Thru (G (k * 1 + 0)) w w') (nm' : Nat → ByteArray) (vl' : Nat → ByteArray) (hn : TOwn w' (G (k * 1 + 0)) y.tn y.tn nm' vl') : KeC w' b n (upKe X k (y.wl_T nm' vl')) A0 K0 G := by
  have hne : b ≠ G (k * 1 + 0) := by have := (h.l0 k hk (by rw [upKe_at]; exact hp)).2.1; exact this.symm
  have hbb := ht.block b h.lt hne
  have kc : ∀ j, w'.cell? ⟨b, j, none⟩ = w.cell? ⟨b, j, none⟩ := fun j => World.cell?_of_block (w := w) (a := ⟨b, j, none⟩) hbb
  refine ⟨Nat.lt_of_lt_of_le h.lt ht.size, fun i hi => ?_, fun j hj => (World.frozen?_of_block (w := w) (a := ⟨b, j, none⟩) hbb).trans (h.free j hj), fun i hi h0 => ?_, h.dis⟩
  · have h0 := (h.ent i hi).move (Nat.lt_of_lt_of_le h.lt ht.size) kc
    unfold upKe at h0 ⊢
    split
    · rename_i e
      subst e
      simp only [if_true] at h0
      exact ⟨h0.lt, h0.c0, h0.c1, h0.c2⟩
    · rename_i e
      simp only [e, if_false] at h0
      exact h0
  · have hx : (upKe X k (y.wl_T nm' vl') i).tn = (upKe X k y i).tn := by unfold upKe; split <;> rfl
    rw [hx] at h0
    obtain ⟨e1, e2, e3⟩ := h.l0 i hi h0
    refine ⟨e1, e2, ?_⟩
    by_cases e : i = k
    · subst e
      rw [upKe_at]
      exact hn
    · have e4 := e3.blk (ht.block _ e3.lt (h.dis _ _ (by omega) (by omega) (by omega))) ht.size
      rw [upKe_ne _ _ _ e] at e4 ⊢
      exact e4
end

/-- One that bears the marks from k on. -/
def mkKe (k : Nat) (x : Wn) : Wn := { m := mt ((k : Nat) : Int), tn := x.tn, nm := mtN (k + 1), vl := mtV (k + 1), st := ((k + 1 + 2 * x.tn : Nat) : Int), c := x.c, s := x.s, lo := x.lo, hi := x.hi, n := x.n, f := x.f, fu := x.fu, ver := x.ver, di := x.di }
/-- How many marks one bears. -/
def spKe (x : Wn) : Nat := 1 + 2 * x.tn + 1
/-- The next mark behind the first i. -/
def kOKe (X : Nat → Wn) (k0 : Nat) : Nat → Nat
  | 0 => k0
  | i + 1 => kOKe X k0 i + spKe (X i)
theorem kOKe_mono (X : Nat → Wn) (k0 : Nat) : ∀ {i j : Nat}, i ≤ j → kOKe X k0 i ≤ kOKe X k0 j
  | i, 0, h => by rw [show i = 0 by omega]; exact Nat.le_refl _
  | i, j + 1, h => by
    by_cases e : i = j + 1
    · rw [e]; exact Nat.le_refl _
    · have := kOKe_mono X k0 (show i ≤ j by omega)
      show _ ≤ kOKe X k0 j + spKe (X j)
      omega
theorem kOKe_ge (X : Nat → Wn) (k0 i : Nat) : k0 ≤ kOKe X k0 i := kOKe_mono X k0 (Nat.zero_le i)
theorem kOKe_le (X : Nat → Wn) (k0 : Nat) : ∀ (n : Nat), KeSize n X → kOKe X k0 n ≤ k0 + n * 4000000
  | 0, _ => by simp [kOKe]
  | n + 1, h => by
    have h1 := kOKe_le X k0 n (fun i hi => h i (by omega))
    have h2 := h n (by omega)
    have g0 := (show WiS (X n) from h2).tn;
    show kOKe X k0 n + spKe (X n) ≤ _
    unfold spKe
    omega
/-- The first m of them marked. -/
def mAKe (X : Nat → Wn) (k0 m : Nat) : Nat → Wn := fun i => if i < m then mkKe (kOKe X k0 i) (X i) else X i
theorem mAKe_up (X : Nat → Wn) (k0 k : Nat) : upKe (mAKe X k0 k) k (mkKe (kOKe X k0 k) (X k)) = mAKe X k0 (k + 1) := by
  funext i
  unfold upKe mAKe
  by_cases e : i = k
  · subst e; simp
  · by_cases e2 : i < k
    · simp [e, e2, show i < k + 1 by omega]
    · simp [e, e2, show ¬ i < k + 1 by omega]
theorem KeC.cast {w : World} {b n k : Nat} {X : Nat → Wn} {y y' : Wn} {A0 : Nat → Option Addr} {K0 : Nat → Nat} {G : Nat → Nat} (h : KeC w b n (upKe X k y) A0 K0 G) (e : y = y') : KeC w b n (upKe X k y') A0 K0 G := e ▸ h
theorem mAKe_zero (X : Nat → Wn) (k0 : Nat) : mAKe X k0 0 = X := by funext i; simp [mAKe]
theorem mAKe_at (X : Nat → Wn) (k0 k : Nat) : mAKe X k0 k k = X k := by simp [mAKe]
end Go.Proofs.Ytflmbcgokiiedaa
