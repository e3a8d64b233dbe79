/- Blocks sorted one by one, and merged two by two: in numbers. / A row sorted, in the program: blocks of 20, merged two by two. -/
import Derived.Test.YtjdijikmdlklkaaYd
namespace Go.Proofs.Ytjdijikmdlklkaa
open Go.RowKit
set_option linter.unusedSimpArgs false
set_option linter.unusedVariables false

/-- What stands left of c came before what stands right of it. -/
def Sep (y : Nat → Nat) (n c : Nat) : Prop := ∀ i j, i < c → c ≤ j → j < n → y i < y j
theorem Sep.same {y z : Nat → Nat} {n a b c : Nat} (h : Sep y n c) (hs : SSet y z a b) (hb : b ≤ n) (hc : c ≤ a ∨ b ≤ c) : Sep z n c := by
  intro i j h1 h2 h3
  have e1 : ∃ q, q < c ∧ z i = y q := by
    by_cases hi : a ≤ i ∧ i < b
    · obtain ⟨q, q1, q2, e⟩ := hs.bwd i hi.1 hi.2
      exact ⟨q, by omega, e.symm⟩
    · exact ⟨i, h1, hs.out i hi⟩
  have e2 : ∃ q, c ≤ q ∧ q < n ∧ z j = y q := by
    by_cases hj : a ≤ j ∧ j < b
    · obtain ⟨q, q1, q2, e⟩ := hs.bwd j hj.1 hj.2
      exact ⟨q, by omega, by omega, e.symm⟩
    · exact ⟨j, h2, h3, hs.out j hj⟩
  obtain ⟨q, q1, e1⟩ := e1
  obtain ⟨r, r1, r2, e2⟩ := e2
  rw [e1, e2]
  exact h q r q1 r1 r2
theorem mul_side (d t s : Nat) : d * t ≤ d * s ∨ d * s + d ≤ d * t := by
  by_cases h : t ≤ s
  · exact .inl (Nat.mul_le_mul_left d h)
  · refine .inr ?_
    have := Nat.mul_le_mul_left d (show s + 1 ≤ t by omega)
    rw [Nat.mul_add, Nat.mul_one] at this
    exact this
theorem UpR.same {R : Nat → Nat → Prop} {y z : Nat → Nat} {a b p q : Nat} (h : UpR R y p q) (hs : SSet y z a b) (hc : q ≤ a ∨ b ≤ p) : UpR R z p q := fun i j h1 h2 h3 => by
  rw [hs.out i (by omega), hs.out j (by omega)]; exact h i j h1 h2 h3
/-- Blocks of D, s of them sorted. -/
structure Lo (R : Nat → Nat → Prop) (y : Nat → Nat) (n D s : Nat) : Prop where
  sep : ∀ t, Sep y n (D * t)
  up : ∀ t, t < s → UpR R y (D * t) (D * t + D)
/-- All blocks of D sorted. -/
structure Al (R : Nat → Nat → Prop) (y : Nat → Nat) (n D : Nat) : Prop where
  sep : ∀ t, Sep y n (D * t)
  up : ∀ t, UpR R y (D * t) (min (D * t + D) n)
/-- Blocks of d sorted, from a on. -/
structure Re (R : Nat → Nat → Prop) (y : Nat → Nat) (n d a : Nat) : Prop where
  sep : ∀ t, a ≤ d * t → Sep y n (d * t)
  up : ∀ t, a ≤ d * t → UpR R y (d * t) (min (d * t + d) n)
theorem Lo.step {R : Nat → Nat → Prop} {y z : Nat → Nat} {n D s : Nat} (h : Lo R y n D s) (hb : D * s + D ≤ n) (hs : SSet y z (D * s) (D * s + D)) (hu : UpR R z (D * s) (D * s + D)) : Lo R z n D (s + 1) := by
  refine ⟨fun t => (h.sep t).same hs hb (mul_side D t s), fun t ht => ?_⟩
  by_cases e : t = s
  · rw [e]; exact hu
  · refine (h.up t (by omega)).same hs (.inl ?_)
    have := Nat.mul_le_mul_left D (show t + 1 ≤ s by omega)
    rw [Nat.mul_add, Nat.mul_one] at this
    exact this
theorem Lo.all {R : Nat → Nat → Prop} {y z : Nat → Nat} {n D s : Nat} (h : Lo R y n D s) (ha : D * s ≤ n) (hb : n < D * s + D) (hs : SSet y z (D * s) n) (hu : UpR R z (D * s) n) : Al R z n D := by
  refine ⟨fun t => ?_, fun t => ?_⟩
  · rcases mul_side D t s with k | k
    · exact (h.sep t).same hs (Nat.le_refl _) (.inl k)
    · exact (h.sep t).same hs (Nat.le_refl _) (.inr (by omega))
  · by_cases e : t = s
    · rw [e]
      intro i j h1 h2 h3
      exact hu i j h1 h2 (by omega)
    · by_cases e2 : t < s
      · have k := Nat.mul_le_mul_left D (show t + 1 ≤ s by omega)
        rw [Nat.mul_add, Nat.mul_one] at k
        intro i j h1 h2 h3
        exact (h.up t e2).same hs (.inl k) i j h1 h2 (by omega)
      · have k := Nat.mul_le_mul_left D (show s + 1 ≤ t by omega)
        rw [Nat.mul_add, Nat.mul_one] at k
        intro i j h1 h2 h3
        omega
theorem Re.step {R : Nat → Nat → Prop} {y z : Nat → Nat} {n d a b : Nat} (h : Re R y n d a) (hab : a ≤ b) (hb : b ≤ n) (hs : SSet y z a b) : Re R z n d b :=
  ⟨fun t ht => (h.sep t (by omega)).same hs hb (.inr ht), fun t ht => (h.up t (by omega)).same hs (.inr ht)⟩
theorem Al.re {R : Nat → Nat → Prop} {y : Nat → Nat} {n d : Nat} (h : Al R y n d) : Re R y n d 0 := ⟨fun t _ => h.sep t, fun t _ => h.up t⟩
theorem Al.lo {R : Nat → Nat → Prop} {y : Nat → Nat} {n d : Nat} (h : Al R y n d) : Lo R y n (2 * d) 0 := ⟨fun t => by have := h.sep (2 * t); rw [show 2 * d * t = d * (2 * t) by rw [Nat.mul_comm 2 d, Nat.mul_assoc]]; exact this, fun t ht => by omega⟩
/-- The two blocks at a may be merged. -/
theorem Re.two {R : Nat → Nat → Prop} {y : Nat → Nat} {n d s b : Nat} (h : Re R y n d (2 * d * s)) (hm : 2 * d * s + d < n) (hb : b = min (2 * d * s + 2 * d) n) : UpR R y (2 * d * s) (2 * d * s + d) ∧ UpR R y (2 * d * s + d) b ∧ Apt y (2 * d * s) (2 * d * s + d) b := by
  have e1 : d * (2 * s) = 2 * d * s := by rw [Nat.mul_comm 2 d, Nat.mul_assoc]
  have e2 : d * (2 * s + 1) = 2 * d * s + d := by rw [Nat.mul_add, Nat.mul_one, e1]
  have u1 := h.up (2 * s) (by omega)
  have u2 := h.up (2 * s + 1) (by omega)
  have u3 := h.sep (2 * s + 1) (by omega)
  rw [e1] at u1
  rw [e2] at u2 u3
  refine ⟨fun i j h1 h2 h3 => u1 i j h1 h2 (by omega), fun i j h1 h2 h3 => u2 i j h1 h2 (by omega), fun i j h1 h2 h3 h4 => u3 i j h2 h3 (by omega)⟩
theorem Re.one {R : Nat → Nat → Prop} {y : Nat → Nat} {n d s : Nat} (h : Re R y n d (2 * d * s)) (hm : n ≤ 2 * d * s + d) : UpR R y (2 * d * s) n := by
  have e1 : d * (2 * s) = 2 * d * s := by rw [Nat.mul_comm 2 d, Nat.mul_assoc]
  have u1 := h.up (2 * s) (by omega)
  rw [e1] at u1
  intro i j h1 h2 h3
  exact u1 i j h1 h2 (by omega)
theorem Al.done {R : Nat → Nat → Prop} {y : Nat → Nat} {n d : Nat} (h : Al R y n d) (hd : n ≤ d) : UpR R y 0 n := by
  have := h.up 0
  intro i j h1 h2 h3
  exact this i j (by simp) h2 (by simp; omega)
theorem Asc.lo {R : Nat → Nat → Prop} {x : Nat → Nat} {n : Nat} (D : Nat) (h : Asc x 0 n) : Lo R x n D 0 := ⟨fun t i j h1 h2 h3 => h i j (Nat.zero_le _) (by omega) h3, fun t ht => by omega⟩
end Go.Proofs.Ytjdijikmdlklkaa
namespace Go.Proofs.Ytjdijikmdlklkaa
open Go.RowKit
set_option linter.unusedSimpArgs false
set_option linter.unusedVariables false

set_option maxRecDepth 100000 in
set_option maxHeartbeats 16000000 in
theorem stable_any (B n cap : Nat) (C : Nat → Nat → Value) (R : Nat → Nat → Prop) (G : World → Prop) (hR : TOrd R) (hC : CmpOk B C R G) (h1 : ∀ v j, j < 10 → (C v j).oneCell' = true) (hn : n ≤ 1000) (hcap : n ≤ cap) (x : Nat → Nat) (w : World) (h : AR w B n C x) (hG : G w) (hX : Asc x 0 n) :
    Calls Try.prog 37 #[.slice (some ⟨B, 0, none⟩) n cap, .int .i64 n, .func (.func 19) #[] #[]] w fun e w' => MgO B n C R x 0 n w e w' := by
  have hK := hC.1
  have H0 : Hid (Lo R x n 20 0 ∧ Asc x 0 n ∧ SSet x x 0 n) := ⟨hX.lo 20, hX, SSet.refl _ _ _⟩
  clear hX
  go_enter Try.func37, Try.ntmps37
  go_wp2
  go_loopw [7, 8] (fun u v wr => ∃ (s a : Nat) (y : Nat → Nat), u = .int .i64 (a : Int) ∧ v = .int .i64 ((a + 20 : Nat) : Int) ∧ Hid (a = 20 * s) ∧ a ≤ n ∧ Hid (Lo R y n 20 s ∧ Asc y a n ∧ SSet x y 0 n) ∧ AR wr B n C y ∧ G wr ∧ WrB B w wr) (fun u _ _ => n - (intOf u).toNat)
  case atStart => exact ⟨0, 0, x, rfl, rfl, rfl, Nat.zero_le _, H0, h, hG, WrB.refl _ _⟩
  case round =>
    clear H0 h hG
    obtain ⟨s, a, y, rfl, rfl, HA, han, HY, hA, hGr, hw⟩ := hrel
    by_cases hlt : a + 20 ≤ n
    · have hlti : ((a + 20 : Nat) : Int) ≤ (n : Int) := by omega
      have hro := insert_any B n cap C R G hR hC h1 hn hcap y a (a + 20) wr hA hGr (by omega) hlt (fun i j h1 h2 h3 => HY.out.2.1 i j h1 h2 (by omega))
      have hwb : IntKind.i64.wrap (((a + 20 : Nat) : Int) + 20) = ((a + 20 + 20 : Nat) : Int) := by rw [IntKind.wrap_i64] <;> omega
      clear hA
      go_wp2_with fail
      refine hro.mono ?_
      rintro e w2 ⟨⟨u, rfl⟩, z, hA2, hU2, hS2, hw2⟩
      have HZ : Hid (Lo R z n 20 (s + 1) ∧ Asc z (a + 20) n ∧ SSet x z 0 n) := by
        have hL := HY.out.1
        rw [HA.out] at hS2 hU2
        refine ⟨hL.step (by rw [← HA.out]; exact hlt) hS2 hU2, fun i j i1 i2 i3 => ?_, HY.out.2.2.trans (hS2.wide (Nat.zero_le _) (by rw [← HA.out]; exact hlt))⟩
        have hAe := HA.out
        rw [hS2.out i (by omega), hS2.out j (by omega)]
        exact HY.out.2.1 i j (by omega) i2 i3
      have HA2 : Hid (a + 20 = 20 * (s + 1)) := by have := HA.out; unfold Hid; omega
      have hG2 := hK _ _ hGr hw2
      have hw3 := hw.trans hw2
      clear hro hU2 hS2 HY HA hGr hw hw2
      go_wp2
      go_roundw
      case rel => exact ⟨s + 1, a + 20, z, rfl, rfl, HA2, hlt, HZ, hA2, hG2, hw3⟩
      case measure => simp [intOf]; omega
    · have hlti : ¬ ((a + 20 : Nat) : Int) ≤ (n : Int) := by omega
      have hro := insert_any B n cap C R G hR hC h1 hn hcap y a n wr hA hGr han (Nat.le_refl _) HY.out.2.1
      clear hA
      go_wp2_with fail
      refine hro.mono ?_
      rintro e w2 ⟨⟨u, rfl⟩, z, hA2, hU2, hS2, hw2⟩
      have HZ : Hid (Al R z n 20 ∧ SSet x z 0 n) := by
        have hAe := HA.out
        rw [HA.out] at hS2 hU2
        exact ⟨HY.out.1.all (by omega) (by omega) hS2 hU2, HY.out.2.2.trans (hS2.wide (Nat.zero_le _) (Nat.le_refl _))⟩
      have hG2 := hK _ _ hGr hw2
      have hw3 := hw.trans hw2
      clear hro hU2 hS2 HY HA hGr hw hw2 hlti hlt han
      go_wp2
      have HV : Hid (20 ≤ 20) := Nat.le_refl _
      rename_i wq
      go_loopw [6] (fun u wr => ∃ (d : Nat) (y : Nat → Nat), u = .int .i64 (d : Int) ∧ d ≤ 2000 ∧ Hid (20 ≤ d) ∧ Hid (Al R y n d ∧ SSet x y 0 n) ∧ AR wr B n C y ∧ G wr ∧ WrB B w wr) (fun u _ => n - (intOf u).toNat)
      case atStart => exact ⟨20, z, rfl, by omega, HV, HZ, hA2, hG2, hw3⟩
      case round =>
        clear HV HZ hA2 hG2 hw3
        obtain ⟨d, y, rfl, hd, HD, HY, hA, hGr, hw⟩ := hrel
        by_cases hlt : d < n
        · have hlti : (d : Int) < (n : Int) := by omega
          obtain ⟨D, hDe⟩ : ∃ D, D = 2 * d := ⟨_, rfl⟩
          have hwd : IntKind.i64.wrap (2 * (d : Int)) = (D : Int) := by rw [IntKind.wrap_i64] <;> omega
          have HDe : Hid (D = 2 * d) := hDe
          have hD4 : D ≤ 4000 := by omega
          have H0 : Hid (Lo R y n (2 * d) 0 ∧ Re R y n d (2 * d * 0) ∧ SSet x y 0 n) := ⟨HY.out.1.lo, HY.out.1.re, HY.out.2⟩
          have H00 : Hid (0 = 2 * d * 0) := rfl
          have H01 : Hid (D = 0 + 2 * d) := by unfold Hid; omega
          have hA0 := hA
          have hG0 := hGr
          have hw0 := hw
          clear HY hA hGr hw hDe
          go_upto_block 4 with fail
          go_cut [7, 8] from 33 to 48 (fun s7 s8 wx => ∃ (s a : Nat) (y : Nat → Nat), s7 = .int .i64 (a : Int) ∧ Hid (a = 2 * d * s ∧ n < a + 2 * d) ∧ a ≤ n ∧ Hid (Lo R y n (2 * d) s ∧ Re R y n d (2 * d * s) ∧ SSet x y 0 n) ∧ AR wx B n C y ∧ G wx ∧ WrB B w wx)
          case first =>
            go_wp2
            go_loopw [7, 8] (fun u v wr => ∃ (s a b : Nat) (y : Nat → Nat), u = .int .i64 (a : Int) ∧ v = .int .i64 (b : Int) ∧ Hid (a = 2 * d * s) ∧ Hid (b = a + 2 * d) ∧ a ≤ n ∧ Hid (Lo R y n (2 * d) s ∧ Re R y n d (2 * d * s) ∧ SSet x y 0 n) ∧ AR wr B n C y ∧ G wr ∧ WrB B w wr) (fun u _ _ => n - (intOf u).toNat)
            case atStart => exact ⟨0, 0, D, y, rfl, rfl, H00, H01, Nat.zero_le _, H0, hA0, hG0, hw0⟩
            case round =>
              clear H0 H00 H01 hA0 hG0 hw0
              obtain ⟨s, a, b, y, rfl, rfl, HA, HB, han, HY, hA, hGr, hw⟩ := hrel
              obtain ⟨p, hp⟩ : ∃ p, p = a + d := ⟨_, rfl⟩
              have hwp : IntKind.i64.wrap ((a : Int) + (d : Int)) = (p : Int) := by rw [IntKind.wrap_i64] <;> omega
              by_cases hb : b ≤ n
              · have hbi : (b : Int) ≤ (n : Int) := by omega
                obtain ⟨b2, hb2⟩ : ∃ b2, b2 = b + D := ⟨_, rfl⟩
                have hwb : IntKind.i64.wrap ((b : Int) + (D : Int)) = (b2 : Int) := by rw [IntKind.wrap_i64] <;> omega
                have hD0 := HD.out
                have hBe := HB.out
                obtain ⟨k1, k2, k3⟩ := HY.out.2.1.two (b := b) (by rw [← HA.out]; omega) (by rw [← HA.out]; omega)
                rw [← HA.out, ← hp] at k1 k2 k3
                have hro := merge_any B n cap C R G hR hC h1 hn hcap n y a p b wr (by omega) hA hGr (by omega) (by omega) hb k1 k2 k3
                have HB2 : Hid (b2 = b + 2 * d) := by have := HDe.out; unfold Hid; omega
                have HAB : Hid (a < b ∧ b = 2 * d * (s + 1)) := ⟨by omega, by rw [Nat.mul_add, Nat.mul_one, ← HA.out]; exact hBe⟩
                clear hA k1 k2 k3 hb2 hp hBe hD0
                go_wp2_with fail
                refine hro.mono ?_
                rintro e w2 ⟨⟨u, rfl⟩, z, hA2, hU2, hS2, hw2⟩
                have HZ : Hid (Lo R z n (2 * d) (s + 1) ∧ Re R z n d (2 * d * (s + 1)) ∧ SSet x z 0 n) := by
                  have e1 : b = 2 * d * s + 2 * d := by rw [← HA.out]; exact HB.out
                  have hS3 := hS2
                  rw [HA.out, e1] at hS2 hU2
                  refine ⟨HY.out.1.step (by omega) hS2 hU2, ?_, HY.out.2.2.trans (hS3.wide (Nat.zero_le _) hb)⟩
                  rw [Nat.mul_add, Nat.mul_one]
                  exact HY.out.2.1.step (by omega) (by omega) hS2
                have HB3 : Hid (b = 2 * d * (s + 1)) := HAB.out.2
                have hG2 := hK _ _ hGr hw2
                have hw3 := hw.trans hw2
                clear hro hU2 hS2 HY HA HB hGr hw hw2 hwp
                go_wp2
                go_roundw
                case rel => exact ⟨s + 1, b, b2, z, rfl, rfl, HB3, HB2, hb, HZ, hA2, hG2, hw3⟩
                case measure => have := HAB.out.1; simp [intOf]; omega
              · have hbi : ¬ (b : Int) ≤ (n : Int) := by omega
                have HN : Hid (a = 2 * d * s ∧ n < a + 2 * d) := ⟨HA.out, by have := HB.out; omega⟩
                clear HA HB hp hwp
                go_wp2
                go_meet
                case rel => exact ⟨s, a, y, rfl, HN, han, HY, hA, hGr, hw⟩
          case rest =>
            clear H0 H00 H01 hA0 hG0 hw0 hwd
            obtain ⟨s, a, y, rfl, HA, han, HY, hA, hGr, hw⟩ := hcut
            obtain ⟨p, hp⟩ : ∃ p, p = a + d := ⟨_, rfl⟩
            have hwp : IntKind.i64.wrap ((a : Int) + (d : Int)) = (p : Int) := by rw [IntKind.wrap_i64] <;> omega
            have hwd2 : IntKind.i64.wrap ((d : Int) * 2) = (D : Int) := by have := HDe.out; rw [IntKind.wrap_i64] <;> omega
            have HD2 : Hid (20 ≤ D) := by have := HD.out; have := HDe.out; unfold Hid; omega
            have hD5 : D ≤ 2000 := by have := HDe.out; omega
            have hAe := HA.out.1
            have hAn := HA.out.2
            by_cases hpn : p < n
            · have hpi : (p : Int) < (n : Int) := by omega
              obtain ⟨k1, k2, k3⟩ := HY.out.2.1.two (b := n) (by rw [← hAe]; omega) (by rw [← hAe]; omega)
              rw [← hAe, ← hp] at k1 k2 k3
              have hD0 := HD.out
              have hro := merge_any B n cap C R G hR hC h1 hn hcap n y a p n _ (by omega) hA hGr (by omega) hpn (Nat.le_refl _) k1 k2 k3
              clear hA k1 k2 k3 hp hD0 hAe hAn
              go_wp2_with fail
              refine hro.mono ?_
              rintro e w2 ⟨⟨u, rfl⟩, z, hA2, hU2, hS2, hw2⟩
              have HZ : Hid (Al R z n D ∧ SSet x z 0 n) := by
                obtain ⟨hAe, hAn⟩ := HA.out
                unfold Hid
                rw [HDe.out]
                rw [hAe] at hS2 hU2 han hAn
                exact ⟨HY.out.1.all han (by omega) hS2 hU2, HY.out.2.2.trans (hS2.wide (Nat.zero_le _) (Nat.le_refl _))⟩
              have hG2 := hK _ _ hGr hw2
              have hw3 := hw.trans hw2
              clear hro hU2 hS2 HY HA hGr hw hw2 hwp
              go_wp2
              go_roundw
              case rel => exact ⟨D, z, rfl, hD5, HD2, HZ, hA2, hG2, hw3⟩
              case measure => have := HDe.out; have := HD.out; simp [intOf]; omega
            · have hpi : ¬ (p : Int) < (n : Int) := by omega
              have HZ : Hid (Al R y n D ∧ SSet x y 0 n) := by
                have hU := HY.out.2.1.one (by rw [← hAe]; omega)
                unfold Hid
                rw [HDe.out]
                exact ⟨HY.out.1.all (by omega) (by omega) (SSet.refl _ _ _) hU, HY.out.2.2⟩
              clear HY HA hp hpn hAe hAn
              go_wp2
              go_roundw
              case rel => exact ⟨D, y, rfl, hD5, HD2, HZ, hA, hGr, hw⟩
              case measure => have := HDe.out; have := HD.out; simp [intOf]; omega
        · have hlti : ¬ (d : Int) < (n : Int) := by omega
          have HU : Hid (UpR R y 0 n ∧ SSet x y 0 n) := ⟨HY.out.1.done (by omega), HY.out.2⟩
          clear HY hd HD
          go_wp2
          go_end0
          exact ⟨⟨_, rfl⟩, y, hA, HU.out.1, HU.out.2, hw⟩
end Go.Proofs.Ytjdijikmdlklkaa
