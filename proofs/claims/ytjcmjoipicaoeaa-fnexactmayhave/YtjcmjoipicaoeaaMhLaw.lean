/- MayHave in both texts, and its law. -/
import Derived.Test.YtjcmjoipicaoeaaMh
import Derived.Test.YtjcmjoipicaoeaaMs
import Derived.Deep.RegionHeld3
namespace Go.Proofs.Ytjcmjoipicaoeaa
open Go.RowKit
set_option linter.unusedSimpArgs false
set_option linter.unusedVariables false

/-- What MayHave answers. -/
def mhB (y : Int) (n : Nat) (f : Nat → Int) (s : ByteArray) : Bool := if (1 ≤ y ∧ y ≤ 8) ∧ 1 ≤ n ∧ n ≤ 200 then allSet f (plL (hOf s 0) (hOf s 1) (8 * n) y.toNat) else false

set_option maxHeartbeats 800000 in
theorem mayHave_spec (y : Int) (ao : Option Addr) (n cap : Nat) (f : Nat → Int) (s : ByteArray) (w : World) (hr : Row w ao n f) (hn : n ≤ 1048576) (hs : s.size ≤ 1048576) :
    Calls Try.prog 25 #[.agg #[.int .i64 y, .slice ao n cap], .string s] w fun e w' => e = .returned (.bool (mhB y n f s)) ∧ Below w.heap.size w w' := by
  obtain ⟨B, hBe⟩ : ∃ B, mhB y n f s = B := ⟨_, rfl⟩
  rw [hBe]
  have HB : Hid (mhB y n f s = B) := hBe
  clear hBe
  have hB := below_new w (.cells #[.int .i64 y, .slice ao n cap] 31)
  have A0 := FAt.new w y (.slice ao n cap) 31
  go_enter Try.func25, Try.ntmps25
  go_wp2_with fail
  refine (goodFilter_spec y ao n cap _ hn).mono ?_
  rintro e w1 ⟨b1, rfl, h1, q1⟩
  have A1 := A0.keep q1
  have B1 : Below w.heap.size w w1 := hB.trans (q1.mono (by simp))
  have r1 := hr.keep B1
  clear q1 hB A0
  cases b1
  · have K : Hid (B = false) := by
      unfold Hid
      rw [← HB.out]
      unfold mhB
      exact if_neg (fun h => by have := h1.2 h; cases this)
    clear h1
    go_wp2
    exact bodyPost_ret (v := .bool false) (by simp [results, Try.results25, go_sem]) rfl ⟨by rw [K.out], B1⟩
  · have hg := h1.1 rfl
    have HM : Hid (B = allSet f (plL (hOf s 0) (hOf s 1) (8 * n) y.toNat)) := by
      unfold Hid
      rw [← HB.out]
      unfold mhB
      exact if_pos hg
    obtain ⟨⟨hy1, hy8⟩, hn1, hn2⟩ := hg
    obtain ⟨Y, hY⟩ : ∃ Y : Nat, y = (Y : Int) := ⟨y.toNat, by omega⟩
    subst hY
    obtain ⟨la, a0, a1⟩ := A1
    have hc := l6May_any s Y ao n cap f w1 r1 hs (by omega) ⟨hn1, hn2⟩
    rw [Int.toNat_natCast] at HM
    clear h1
    go_wp2_with fail
    refine hc.mono ?_
    rintro e w2 ⟨rfl, b2⟩
    have B2 := B1.trans (b2.mono B1.size)
    clear b2 hc
    rw [← HM.out]
    go_wp2
    exact bodyPost_ret (v := .bool B) (by simp [results, Try.results25, go_sem]) rfl ⟨rfl, B2⟩

set_option maxHeartbeats 800000 in
theorem mayHave_impl (y : Int) (ao : Option Addr) (n cap : Nat) (f : Nat → Int) (s : ByteArray) (w : World) (hr : Row w ao n f) (hn : n ≤ 1048576) (hs : s.size ≤ 1048576) :
    Calls Try.prog 26 #[.agg #[.int .i64 y, .slice ao n cap], .string s] w fun e w' => e = .returned (.bool (mhB y n f s)) ∧ Below w.heap.size w w' := by
  obtain ⟨B, hBe⟩ : ∃ B, mhB y n f s = B := ⟨_, rfl⟩
  rw [hBe]
  have HB : Hid (mhB y n f s = B) := hBe
  clear hBe
  have hB := below_new w (.cells #[.int .i64 y, .slice ao n cap] 31)
  have A0 := FAt.new w y (.slice ao n cap) 31
  go_enter Try.func26, Try.ntmps26
  go_wp2_with fail
  refine (goodFilter_impl y ao n cap _ hn).mono ?_
  rintro e w1 ⟨b1, rfl, h1, q1⟩
  have A1 := A0.keep q1
  have B1 : Below w.heap.size w w1 := hB.trans (q1.mono (by simp))
  have r1 := hr.keep B1
  clear q1 hB A0
  cases b1
  · have K : Hid (B = false) := by
      unfold Hid
      rw [← HB.out]
      unfold mhB
      exact if_neg (fun h => by have := h1.2 h; cases this)
    clear h1
    go_wp2
    exact bodyPost_ret (v := .bool false) (by simp [results, Try.results26, go_sem]) rfl ⟨by rw [K.out], B1⟩
  · have hg := h1.1 rfl
    have HM : Hid (B = allSet f (plL (hOf s 0) (hOf s 1) (8 * n) y.toNat)) := by
      unfold Hid
      rw [← HB.out]
      unfold mhB
      exact if_pos hg
    obtain ⟨⟨hy1, hy8⟩, hn1, hn2⟩ := hg
    obtain ⟨Y, hY⟩ : ∃ Y : Nat, y = (Y : Int) := ⟨y.toNat, by omega⟩
    subst hY
    obtain ⟨la, a0, a1⟩ := A1
    have hc := mayHave_m s Y ao n cap f w1 r1 hs (by omega) ⟨hn1, hn2⟩
    rw [Int.toNat_natCast] at HM
    clear h1
    go_wp2_with fail
    refine hc.mono ?_
    rintro e w2 ⟨rfl, b2⟩
    have B2 := B1.trans (b2.mono B1.size)
    clear b2 hc
    rw [← HM.out]
    go_wp2
    exact bodyPost_ret (v := .bool B) (by simp [results, Try.results26, go_sem]) rfl ⟨rfl, B2⟩

set_option maxHeartbeats 2000000 in
theorem mayHave_law (y : Int) (ao : Option Addr) (n cap : Nat) (f : Nat → Int) (s : ByteArray) (w : World) (hr : Row w ao n f) (hnx : n ≤ 9223372036854775807) (hsx : s.size ≤ maxLen) :
    Calls Try.prog 6 #[.agg #[.int .i64 y, .slice ao n cap], .string s] w fun e w' => e = .returned (.bool true) ∧ Below w.heap.size w w' := by
  have hB := below_new w (.cells #[.int .i64 y, .slice ao n cap] 28)
  have A0 := FAt.new w y (.slice ao n cap) 28
  by_cases hks : 1048576 < s.size
  · go_enter Try.func6, Try.ntmps6
    go_wp2
    go_ret
    exact ⟨rfl, hB⟩
  have hs2 : s.size ≤ 1048576 := by omega
  have cS := fun b W (h : Row W b n f) hn => mayHave_spec y b n n f s W h hn hs2
  have cI := fun b W (h : Row W b n f) hn => mayHave_impl y b n n f s W h hn hs2
  generalize mhB y n f s = b3 at cS cI
  go_enter Try.func6, Try.ntmps6
  go_wp2_with fail
  refine (szFilter_any y ao n cap _ hnx).mono ?_
  rintro e w1 ⟨v, rfl, hv1, hv2, hv3, hb1⟩
  have A1 := A0.keep hb1
  have bw1 : Below w.heap.size w w1 := hB.trans (hb1.mono (by simp))
  clear hb1 hB A0
  by_cases hv : v < 0
  · clear hv3
    go_wp2
    go_ret
    exact ⟨rfl, bw1⟩
  · have hn := hv3 (by omega)
    clear hv3 hnx
    obtain ⟨la, a0, a1⟩ := A1
    go_wp2_with fail
    refine (toFilter_any y ao n cap f _ (hr.keep bw1) hn).mono ?_
    rintro e w2 ⟨g2, rfl, hg2, ho2, hb2⟩
    have A2 := FAt.keep ⟨la, a0, a1⟩ hb2
    have bw2 : Below w.heap.size w w2 := bw1.trans (hb2.mono bw1.size)
    clear hb2 bw1 la a0 a1
    go_wp2_with fail
    refine (cS _ _ ho2.row hn).mono ?_
    rintro e w3 ⟨rfl, q3⟩
    obtain ⟨la, a0, a1⟩ := A2.keep q3
    have bw3 : Below w.heap.size w w3 := bw2.trans (q3.mono bw2.size)
    clear q3 A2 bw2 ho2
    go_wp2_with fail
    refine (toFilter_any y ao n cap f _ (hr.keep bw3) hn).mono ?_
    rintro e w4 ⟨g4, rfl, hg4, ho4, hb4⟩
    have hB4 := below_new w4 (.cells #[.int .i64 y, .slice (some ⟨g4, 0, none⟩) n n] 31)
    have A4 := (FAt.keep ⟨la, a0, a1⟩ hb4).keep hB4
    have X4 := FAt.new w4 y (.slice (some ⟨g4, 0, none⟩) n n) 31
    have o4 := ho4.keep hB4
    have bw4 := (bw3.trans (hb4.mono bw3.size)).trans (hB4.mono (by have := bw3.size; have := hb4.size; omega))
    clear hb4 hB4 bw3 la a0 a1 ho4
    obtain ⟨lx, x0, x1⟩ := id X4
    go_wp2_with fail
    refine (cI _ _ o4.row hn).mono ?_
    rintro e w5 ⟨rfl, q5⟩
    have A5 := A4.keep q5
    have X5 := X4.keep q5
    have o5 := o4.keep q5
    have bw5 : Below w.heap.size w w5 := bw4.trans (q5.mono bw4.size)
    clear q5 A4 X4 o4 bw4 lx x0 x1 cS cI
    obtain ⟨la, a0, a1⟩ := id A5
    obtain ⟨lx, x0, x1⟩ := id X5
    have szw := bw5.size
    have hrd := (hr.keep bw5).keep (Below.refl _ _).drew
    cases b3
    all_goals
      go_wp2
      go_region_held3 (fun w' => w'.cell? ⟨w4.heap.size, 0, none⟩ = some (.int .i64 y) ∧ w'.cell? ⟨w4.heap.size, 1, none⟩ = some (.slice (some ⟨g4, 0, none⟩) n n) ∧ w'.cell? ⟨w.heap.size, 0, none⟩ = some (.int .i64 y) ∧ w'.cell? ⟨w.heap.size, 1, none⟩ = some (.slice ao n cap)) (go_keep) (first | (go_at_call 14; refine (toFilter_any y ao n cap f _ hrd hn).mono ?_; rintro e w6 ⟨g6, rfl, hg6, ho6, hb6⟩; have hb6' := (Below.refl _ w5).drew.trans hb6; obtain ⟨la6, p0, p1⟩ := A5.keep hb6'; obtain ⟨lx6, r0, r1⟩ := X5.keep hb6'; have o6 := o5.keep hb6'; have bw6 : Below w.heap.size w w6 := bw5.trans (hb6'.mono szw); have szw6 := bw6.size; clear hb6 hb6') | (go_at_call 16; refine (eqFilter_same y _ _ n n n f _ o6.row ho6.row hn).mono ?_; rintro e w7 ⟨rfl, hb7⟩; obtain ⟨la7, pp0, pp1⟩ := FAt.keep ⟨la6, p0, p1⟩ hb7; obtain ⟨lx7, rr0, rr1⟩ := FAt.keep ⟨lx6, r0, r1⟩ hb7; have bw7 : Below w.heap.size w w7 := bw6.trans (hb7.mono szw6); clear hb7))
      go_wp2
      go_ret
      exact ⟨rfl, bw7⟩
end Go.Proofs.Ytjcmjoipicaoeaa
