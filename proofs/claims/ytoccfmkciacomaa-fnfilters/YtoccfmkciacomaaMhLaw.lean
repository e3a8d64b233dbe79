/- MayHave in both texts, and its law. -/
import Derived.Test.YtoccfmkciacomaaMh
import Derived.Test.YtoccfmkciacomaaMs
import Derived.Deep.RegionHeld3
namespace Go.Proofs.Ytoccfmkciacomaa
open Go.RowKit
set_option linter.unusedSimpArgs false
set_option linter.unusedVariables false

/-- What MayHave answers. -/
def mhB (y : Int) (n : Nat) (f : Nat → Int) (s : ByteArray) : Bool := if (1 ≤ y ∧ y ≤ 8) ∧ 1 ≤ n ∧ n ≤ 200 then allSet f (plL (hOf s 0) (hOf s 1) (8 * n) y.toNat) else false

set_option maxHeartbeats 800000 in
theorem mayHave_impl (y : Int) (ao : Option Addr) (n cap : Nat) (f : Nat → Int) (s : ByteArray) (w : World) (hr : Row w ao n f) (hn : n ≤ 1048576) (hs : s.size ≤ 1048576) :
    Calls Try.prog 7 #[.agg #[.int .i64 y, .slice ao n cap], .string s] w fun e w' => e = .returned (.bool (mhB y n f s)) ∧ Below w.heap.size w w' := by
  obtain ⟨B, hBe⟩ : ∃ B, mhB y n f s = B := ⟨_, rfl⟩
  rw [hBe]
  have HB : Hid (mhB y n f s = B) := hBe
  clear hBe
  have hB := below_new w (.cells #[.int .i64 y, .slice ao n cap] 27)
  have A0 := FAt.new w y (.slice ao n cap) 27
  go_enter Try.func7, Try.ntmps7
  go_wp2_with fail
  refine (goodFilter_impl y ao n cap _ hn).mono ?_
  rintro e w1 ⟨b1, rfl, h1, q1⟩
  have A1 := A0.keep q1
  have B1 : Below w.heap.size w w1 := hB.trans (q1.mono (by simp))
  have r1 := hr.keep B1
  clear q1 hB A0
  cases b1
  · have K : Hid (B = false) := by
      unfold Hid
      rw [← HB.out]
      unfold mhB
      exact if_neg (fun h => by have := h1.2 h; cases this)
    clear h1
    go_wp2
    exact bodyPost_ret (v := .bool false) (by simp [results, Try.results7, go_sem]) rfl ⟨by rw [K.out], B1⟩
  · have hg := h1.1 rfl
    have HM : Hid (B = allSet f (plL (hOf s 0) (hOf s 1) (8 * n) y.toNat)) := by
      unfold Hid
      rw [← HB.out]
      unfold mhB
      exact if_pos hg
    obtain ⟨⟨hy1, hy8⟩, hn1, hn2⟩ := hg
    obtain ⟨Y, hY⟩ : ∃ Y : Nat, y = (Y : Int) := ⟨y.toNat, by omega⟩
    subst hY
    obtain ⟨la, a0, a1⟩ := A1
    have hc := mayHave_m s Y ao n cap f w1 r1 hs (by omega) ⟨hn1, hn2⟩
    rw [Int.toNat_natCast] at HM
    clear h1
    go_wp2_with fail
    refine hc.mono ?_
    rintro e w2 ⟨rfl, b2⟩
    have B2 := B1.trans (b2.mono B1.size)
    clear b2 hc
    rw [← HM.out]
    go_wp2
    exact bodyPost_ret (v := .bool B) (by simp [results, Try.results7, go_sem]) rfl ⟨rfl, B2⟩

end Go.Proofs.Ytoccfmkciacomaa
