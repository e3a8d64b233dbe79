/- CompareKeys, both texts, at all keys. -/
import Derived.Test.YtjdijikmdlklkaaCompareI
import Derived.Test.YtjdijikmdlklkaaCompareS
namespace Go.Proofs.Ytjdijikmdlklkaa
open Go.RowKit
set_option linter.unusedSimpArgs false
set_option linter.unusedVariables false

def cmpAns (m m' : ByteArray) (st st' : Int) (n n' : Nat) (nm vl nm' vl' : Nat → ByteArray) : Int :=
  if (goodB m n nm vl st && goodB m' n' nm' vl' st') = true then keyCmp m m' st st' n n' nm vl nm' vl' else 0

theorem goodB_st {m : ByteArray} {n : Nat} {nm vl : Nat → ByteArray} {st : Int} (h : goodB m n nm vl st = true) : 0 ≤ st ∧ st ≤ 1000000000 := by
  simp only [goodB, Bool.and_eq_true, decide_eq_true_eq] at h
  exact ⟨h.1.2, h.2⟩

set_option maxHeartbeats 1000000 in
theorem compareKeys_impl_bad (m m' : ByteArray) (st st' : Int) (ao bo : Option Addr) (n n' ca cb : Nat) (nm vl nm' vl' : Nat → ByteArray) (w : World) (hr : TRow w ao n nm vl) (hr' : TRow w bo n' nm' vl')
    (hm : m.size ≤ 1048576) (hm' : m'.size ≤ 1048576) (hn : n ≤ 1048576) (hn' : n' ≤ 1048576) (hs : TSize n nm vl 1048576) (hs' : TSize n' nm' vl' 1048576)
    (hG : goodB m n nm vl st = false ∨ (goodB m n nm vl st = true ∧ goodB m' n' nm' vl' st' = false)) :
    Calls Try.prog 20 #[.agg #[.string m, .slice ao n ca, .int .i64 st], .agg #[.string m', .slice bo n' cb, .int .i64 st']] w fun e w' => e = .returned (.int .i64 0) ∧ Below w.heap.size w w' := by
  have hB : Below w.heap.size w ((w.alloc (.cells #[.string m, .slice ao n ca, .int .i64 st] 42)).alloc (.cells #[.string m', .slice bo n' cb, .int .i64 st'] 42)) := ((Below.refl _ _).alloc (Nat.le_refl _) _).alloc (by simp) _
  have ka : KAt ((w.alloc (.cells #[.string m, .slice ao n ca, .int .i64 st] 42)).alloc (.cells #[.string m', .slice bo n' cb, .int .i64 st'] 42)) w.heap.size m (.slice ao n ca) st := (KAt.new w m (.slice ao n ca) st 42).keep ((Below.refl _ _).alloc (Nat.le_refl _) _)
  have kb : KAt ((w.alloc (.cells #[.string m, .slice ao n ca, .int .i64 st] 42)).alloc (.cells #[.string m', .slice bo n' cb, .int .i64 st'] 42)) (w.heap.size + 1) m' (.slice bo n' cb) st' := by
    have := KAt.new (w.alloc (.cells #[.string m, .slice ao n ca, .int .i64 st] 42)) m' (.slice bo n' cb) st' 42
    simpa using this
  rcases hG with hG | ⟨hG, hG'⟩
  · have HG : Hid (goodB m n nm vl st = false) := hG
    clear hG
    go_enter Try.func20, Try.ntmps20
    go_wp2_with fail
    refine (goodKey_impl m st ao n ca nm vl _ (hr.keep hB) hm hn hs).mono ?_
    rintro e w1 ⟨rfl, hb1⟩
    rw [HG.out]
    have hbw1 : Below w.heap.size w w1 := hB.trans (hb1.mono (by simp; omega))
    clear ka kb hB hb1
    go_wp2
    go_ret
    exact ⟨rfl, hbw1⟩
  · have HG : Hid (goodB m n nm vl st = true) := hG
    have HG' : Hid (goodB m' n' nm' vl' st' = false) := hG'
    clear hG hG'
    go_enter Try.func20, Try.ntmps20
    go_wp2_with fail
    refine (goodKey_impl m st ao n ca nm vl _ (hr.keep hB) hm hn hs).mono ?_
    rintro e w1 ⟨rfl, hb1⟩
    rw [HG.out]
    obtain ⟨la, a0, a1, a2⟩ := ka.keep hb1
    obtain ⟨lb, b0, b1, b2⟩ := kb.keep hb1
    have hbw1 : Below w.heap.size w w1 := hB.trans (hb1.mono (by simp; omega))
    clear ka kb hB hb1
    go_wp2_with fail
    refine (goodKey_impl m' st' bo n' cb nm' vl' _ (hr'.keep hbw1) hm' hn' hs').mono ?_
    rintro e w2 ⟨rfl, hb2⟩
    rw [HG'.out]
    have hbw2 : Below w.heap.size w w2 := hbw1.trans (hb2.mono hbw1.size)
    clear hb2 hbw1
    go_wp2
    go_ret
    exact ⟨rfl, hbw2⟩

theorem compareKeys_impl (m m' : ByteArray) (st st' : Int) (ao bo : Option Addr) (n n' ca cb : Nat) (nm vl nm' vl' : Nat → ByteArray) (w : World) (hr : TRow w ao n nm vl) (hr' : TRow w bo n' nm' vl')
    (hm : m.size ≤ 1048576) (hm' : m'.size ≤ 1048576) (hn : n ≤ 1048576) (hn' : n' ≤ 1048576) (hs : TSize n nm vl 1048576) (hs' : TSize n' nm' vl' 1048576) :
    Calls Try.prog 20 #[.agg #[.string m, .slice ao n ca, .int .i64 st], .agg #[.string m', .slice bo n' cb, .int .i64 st']] w fun e w' => e = .returned (.int .i64 (cmpAns m m' st st' n n' nm vl nm' vl')) ∧ Below w.heap.size w w' := by
  unfold cmpAns
  cases h1 : goodB m n nm vl st with
  | false => exact compareKeys_impl_bad m m' st st' ao bo n n' ca cb nm vl nm' vl' w hr hr' hm hm' hn hn' hs hs' (.inl h1)
  | true =>
    cases h2 : goodB m' n' nm' vl' st' with
    | false => exact compareKeys_impl_bad m m' st st' ao bo n n' ca cb nm vl nm' vl' w hr hr' hm hm' hn hn' hs hs' (.inr ⟨h1, h2⟩)
    | true => exact compareKeys_impl_good m m' st st' ao bo n n' ca cb nm vl nm' vl' w hr hr' hm hm' hn hn' hs hs' h1 h2

end Go.Proofs.Ytjdijikmdlklkaa
