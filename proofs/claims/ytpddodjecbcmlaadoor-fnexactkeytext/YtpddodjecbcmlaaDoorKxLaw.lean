/- The law of KeyText, walked. -/
import Derived.Test.YtpddodjecbcmlaaDoorKx
import Derived.Deep.RegionWith
namespace Go.Proofs.YtpddodjecbcmlaaDoor
open Go.RowKit
set_option linter.unusedSimpArgs false
set_option linter.unusedVariables false

set_option maxHeartbeats 1000000 in
theorem keyText_law (m : ByteArray) (st : Int) (ao : Option Addr) (n cap : Nat) (nm vl : Nat → ByteArray) (w : World) (hr : TRow w ao n nm vl) (hm : m.size ≤ 9223372036854775807) (hn : n ≤ 9223372036854775807) (hs : TSize n nm vl 9223372036854775807) (hst : -9223372036854775808 ≤ st ∧ st ≤ 9223372036854775807) (ht : TabP w) :
    Calls Tryd.prog 4 #[.agg #[.string m, .slice ao n cap, .int .i64 st]] w fun e w' => e = .returned (.bool true) ∧ Below w.heap.size w w' := by
  have hB : Below w.heap.size w (w.alloc (Obj.cells #[.string m, .slice ao n cap, .int .i64 st] 34)) := (Below.refl _ _).alloc (Nat.le_refl _) _
  go_enter Tryd.func4, Tryd.ntmps4
  go_wp2_with fail
  refine (szKey_any m st ao n cap nm vl 1048576 _ (hr.keep hB) (by omega) hm hn hs).mono ?_
  rintro e w1 ⟨v, rfl, hv1, hv2, hv3, hb1⟩
  have hbw1 : Below w.heap.size w w1 := hB.trans (hb1.mono (by simp))
  have c0 : w1.cell? ⟨w.heap.size, 0, none⟩ = some (.string m) := (hb1.cell (p := ⟨w.heap.size, 0, none⟩) (by simp)).trans (by simp [go_sem])
  have c1 : w1.cell? ⟨w.heap.size, 1, none⟩ = some (.slice ao n cap) := (hb1.cell (p := ⟨w.heap.size, 1, none⟩) (by simp)).trans (by simp [go_sem])
  have c2 : w1.cell? ⟨w.heap.size, 2, none⟩ = some (.int .i64 st) := (hb1.cell (p := ⟨w.heap.size, 2, none⟩) (by simp)).trans (by simp [go_sem])
  have sz1 : w.heap.size + 1 ≤ w1.heap.size := by have := hb1.size; simpa using this
  clear hb1
  by_cases hv : v < 0
  · clear hv3
    go_wp2
    go_ret
    exact ⟨rfl, hbw1⟩
  · have H := hv3 (by omega)
    obtain ⟨hm', hn', hs'⟩ := H
    clear hv3 hm hn hs
    have hr1 := hr.keep hbw1
    obtain ⟨G, hG⟩ : ∃ G, goodB m n nm vl st = G := ⟨_, rfl⟩
    have HG : Hid (goodB m n nm vl st = G) := hG
    clear hG
    obtain ⟨T, hT⟩ : ∃ T, (if G = true then kxT m n nm vl st else ⟨#[]⟩) = T := ⟨_, rfl⟩
    have HT : Hid ((if G = true then kxT m n nm vl st else ⟨#[]⟩) = T) := hT
    clear hT
    go_wp2_with fail
    refine (toKey_any m st ao n cap nm vl _ hr1 hn').mono ?_
    rintro e w2 ⟨g2, rfl, hg2, ho2, hb2⟩
    go_wp2_with fail
    refine (keyText_spec m st _ n n nm vl _ ho2.row hm' hn' hs').mono ?_
    rintro e w3 ⟨rfl, hb3⟩
    rw [HG.out, HT.out]
    have hb13 : Below w1.heap.size w1 w3 := hb2.trans (hb3.mono hb2.size)
    have k0 := (hb13.cell (p := ⟨w.heap.size, 0, none⟩) (by simp; omega)).trans c0
    have k1 := (hb13.cell (p := ⟨w.heap.size, 1, none⟩) (by simp; omega)).trans c1
    have k2 := (hb13.cell (p := ⟨w.heap.size, 2, none⟩) (by simp; omega)).trans c2
    have hbw3 : Below w.heap.size w w3 := hbw1.trans (hb13.mono (by omega))
    have sz3 : w.heap.size + 1 ≤ w3.heap.size := by have := hb13.size; omega
    clear hb13 hb2 hb3 ho2 c0 c1 c2
    have hr3 := hr.keep hbw3
    go_wp2_with fail
    refine (toKey_any m st ao n cap nm vl _ hr3 hn').mono ?_
    rintro e w4 ⟨g4, rfl, hg4, ho4, hb4⟩
    have l0 := (hb4.cell (p := ⟨w.heap.size, 0, none⟩) (by simp; omega)).trans k0
    have l1 := (hb4.cell (p := ⟨w.heap.size, 1, none⟩) (by simp; omega)).trans k1
    have l2 := (hb4.cell (p := ⟨w.heap.size, 2, none⟩) (by simp; omega)).trans k2
    have hbw4 : Below w.heap.size w w4 := hbw3.trans (hb4.mono (by omega))
    have sz4 : w.heap.size + 1 ≤ w4.heap.size := by have := hb4.size; omega
    have hB4 : Below w4.heap.size w4 (w4.alloc (.cells #[.string m, .slice (some ⟨g4, 0, none⟩) n n, .int .i64 st] 25)) := (Below.refl _ _).alloc (Nat.le_refl _) _
    have x4 := KAt.new w4 m (.slice (some ⟨g4, 0, none⟩) n n) st 25
    have a4 : KAt (w4.alloc (.cells #[.string m, .slice (some ⟨g4, 0, none⟩) n n, .int .i64 st] 25)) w.heap.size m (.slice ao n cap) st := KAt.keep ⟨by omega, l0, l1, l2⟩ hB4
    go_wp2_with fail
    refine (keyText_impl m st _ n n nm vl _ (ho4.keep hB4).row hm' hn' hs' (ht.keep (hbw4.trans (hB4.mono (by omega))))).mono ?_
    rintro e w5 ⟨rfl, hb5⟩
    rw [HG.out, HT.out]
    have x5 := x4.keep hb5
    have a5 := a4.keep hb5
    have o5 := (ho4.keep hB4).keep hb5
    have hbw5 : Below w.heap.size w w5 := (hbw4.trans (hB4.mono (by omega))).trans (hb5.mono (by simp; omega))
    clear x4 a4 hb5 l0 l1 l2 k0 k1 k2 hb4 hB4
    have hr5 := hr.keep hbw5
    obtain ⟨x5l, x50, x51, x52⟩ := x5
    obtain ⟨a5l, a50, a51, a52⟩ := a5
    have sz5 := hbw5.size
    go_wp2
    go_region_with (first | (go_at_call 11; refine (toKey_any m st ao n cap nm vl _ ?_ hn').mono ?_; exact hr5.keep (Below.refl _ _).drew; rintro e w6 ⟨g6, rfl, hg6, ho6, hb6⟩; have y0 := (hb6.cell (p := ⟨w4.heap.size, 0, none⟩) x5l).trans x50; have y1 := (hb6.cell (p := ⟨w4.heap.size, 1, none⟩) x5l).trans x51; have y2 := (hb6.cell (p := ⟨w4.heap.size, 2, none⟩) x5l).trans x52; have o6 := (o5.keep (Below.refl _ _).drew).keep hb6; have hbw6 : Below w.heap.size w w6 := hbw5.drew.trans (hb6.mono sz5)) | (go_at_call 12; refine (eqKey_same m st _ _ n n n nm vl _ ?_ ?_ hn').mono ?_; exact o6.row; exact ho6.row; rintro e w7 ⟨rfl, hb7⟩; have hbw7 := hbw6.trans (hb7.mono hbw6.size)))
    all_goals
      clear hb6 hb7 o6 ho6
      go_wp2
      go_ret
      exact ⟨rfl, hbw7⟩
end Go.Proofs.YtpddodjecbcmlaaDoor
