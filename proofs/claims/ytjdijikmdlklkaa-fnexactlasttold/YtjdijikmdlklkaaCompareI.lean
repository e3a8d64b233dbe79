/- Keys compared, the program's text. -/
import Derived.Test.YtjdijikmdlklkaaCompareF
import Derived.Test.YtjdijikmdlklkaaGoodKeys
import Derived.Deep.RegionHeld3
namespace Go.Proofs.Ytjdijikmdlklkaa
open Go.RowKit
set_option linter.unusedSimpArgs false
set_option linter.unusedVariables false

set_option maxHeartbeats 4000000 in
theorem compareKeys_impl_good (m m' : ByteArray) (st st' : Int) (ao bo : Option Addr) (n n' ca cb : Nat) (nm vl nm' vl' : Nat → ByteArray) (w : World) (hr : TRow w ao n nm vl) (hr' : TRow w bo n' nm' vl')
    (hm : m.size ≤ 1048576) (hm' : m'.size ≤ 1048576) (hn : n ≤ 1048576) (hn' : n' ≤ 1048576) (hs : TSize n nm vl 1048576) (hs' : TSize n' nm' vl' 1048576)
    (hG : Hid (goodB m n nm vl st = true)) (hG' : Hid (goodB m' n' nm' vl' st' = true)) :
    Calls Try.prog 20 #[.agg #[.string m, .slice ao n ca, .int .i64 st], .agg #[.string m', .slice bo n' cb, .int .i64 st']] w fun e w' => e = .returned (.int .i64 (keyCmp m m' st st' n n' nm vl nm' vl')) ∧ Below w.heap.size w w' := by
  have hB : Below w.heap.size w ((w.alloc (.cells #[.string m, .slice ao n ca, .int .i64 st] 42)).alloc (.cells #[.string m', .slice bo n' cb, .int .i64 st'] 42)) := ((Below.refl _ _).alloc (Nat.le_refl _) _).alloc (by simp) _
  have ka : KAt ((w.alloc (.cells #[.string m, .slice ao n ca, .int .i64 st] 42)).alloc (.cells #[.string m', .slice bo n' cb, .int .i64 st'] 42)) w.heap.size m (.slice ao n ca) st := (KAt.new w m (.slice ao n ca) st 42).keep ((Below.refl _ _).alloc (Nat.le_refl _) _)
  have kb : KAt ((w.alloc (.cells #[.string m, .slice ao n ca, .int .i64 st] 42)).alloc (.cells #[.string m', .slice bo n' cb, .int .i64 st'] 42)) (w.heap.size + 1) m' (.slice bo n' cb) st' := by
    have := KAt.new (w.alloc (.cells #[.string m, .slice ao n ca, .int .i64 st] 42)) m' (.slice bo n' cb) st' 42
    simpa using this
  go_enter Try.func20, Try.ntmps20
  go_wp2_with fail
  refine (goodKey_impl m st ao n ca nm vl _ (hr.keep hB) hm hn hs).mono ?_
  rintro e w1 ⟨rfl, hb1⟩
  rw [hG.out]
  have ka1 := ka.keep hb1
  have kb1 := kb.keep hb1
  have hbw1 : Below w.heap.size w w1 := hB.trans (hb1.mono (by simp; omega))
  clear ka kb hB hb1
  obtain ⟨la, a0, a1, a2⟩ := ka1
  obtain ⟨lb, b0, b1, b2⟩ := kb1
  go_wp2_with fail
  refine (goodKey_impl m' st' bo n' cb nm' vl' _ (hr'.keep hbw1) hm' hn' hs').mono ?_
  rintro e w2 ⟨rfl, hb2⟩
  rw [hG'.out]
  obtain ⟨la, a0, a1, a2⟩ := KAt.keep ⟨la, a0, a1, a2⟩ hb2
  obtain ⟨lb, b0, b1, b2⟩ := KAt.keep ⟨lb, b0, b1, b2⟩ hb2
  have hbw2 : Below w.heap.size w w2 := hbw1.trans (hb2.mono hbw1.size)
  have hra := hr.keep hbw2
  have hrb := hr'.keep hbw2
  clear hb2 hbw1
  have hsz := hbw2.size
  go_wp2
  go_region_held3 (fun w' => w'.cell? ⟨w.heap.size, 0, none⟩ = some (.string m) ∧ w'.cell? ⟨w.heap.size, 1, none⟩ = some (.slice ao n ca) ∧ w'.cell? ⟨w.heap.size, 2, none⟩ = some (.int .i64 st) ∧ w'.cell? ⟨w.heap.size + 1, 0, none⟩ = some (.string m') ∧ w'.cell? ⟨w.heap.size + 1, 1, none⟩ = some (.slice bo n' cb) ∧ w'.cell? ⟨w.heap.size + 1, 2, none⟩ = some (.int .i64 st')) (go_keep) (first | (go_at_call 40; refine (compare_s _ _ _).mono ?_; rintro e w' ⟨rfl, rfl⟩) | (go_at_call 39; refine (compare_i _ _ _).mono ?_; rintro e w' ⟨rfl, rfl⟩) | (go_at_call 41; refine (compareFunc_any ao bo n n' ca cb nm vl nm' vl' _ ?_ ?_ hn hn').mono ?_; exact hra.keep (Below.refl _ _).drew; exact hrb.keep (Below.refl _ _).drew; rintro e w3 ⟨rfl, hb3⟩; have s0 := (hb3.cell (p := ⟨w.heap.size, 0, none⟩) la).trans a0; have s1 := (hb3.cell (p := ⟨w.heap.size, 1, none⟩) la).trans a1; have s2 := (hb3.cell (p := ⟨w.heap.size, 2, none⟩) la).trans a2; have t0 := (hb3.cell (p := ⟨w.heap.size + 1, 0, none⟩) lb).trans b0; have t1 := (hb3.cell (p := ⟨w.heap.size + 1, 1, none⟩) lb).trans b1; have t2 := (hb3.cell (p := ⟨w.heap.size + 1, 2, none⟩) lb).trans b2; have hbw3 : Below w.heap.size w w3 := hbw2.drew.trans (hb3.mono hsz); clear hb3) | (go_at_call 38; refine (or_any _ 3 3 (keyC m m' st st' (tagsC (fun k => cmpTag (nm k) (vl k) (nm' k) (vl' k)) n n')) _ ?_ (by omega)).mono ?_; (intro i hi; rcases (show i = 0 ∨ i = 1 ∨ i = 2 by omega) with rfl | rfl | rfl <;> simp [keyC, go_sem]); rintro e w' ⟨rfl, rfl⟩))
  all_goals
    go_wp2
    go_ret
    exact ⟨rfl, hbw3.alloc hbw3.size _⟩
end Go.Proofs.Ytjdijikmdlklkaa
