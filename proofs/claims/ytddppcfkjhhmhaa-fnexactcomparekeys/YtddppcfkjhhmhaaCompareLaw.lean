/- The law of CompareKeys, walked. -/
import Derived.Test.YtddppcfkjhhmhaaCompareK
import Derived.Deep.RegionHeld3
namespace Go.Proofs.Ytddppcfkjhhmhaa
open Go.RowKit
set_option linter.unusedSimpArgs false
set_option linter.unusedVariables false

set_option maxHeartbeats 4000000 in
theorem compareKeys_law (m : ByteArray) (st : Int) (ao : Option Addr) (n ca : Nat) (nm vl : Nat → ByteArray) (m' : ByteArray) (st' : Int) (bo : Option Addr) (n' cb : Nat) (nm' vl' : Nat → ByteArray) (w : World)
    (hr : TRow w ao n nm vl) (hm : m.size ≤ 9223372036854775807) (hn : n ≤ 9223372036854775807) (hs : TSize n nm vl 9223372036854775807) (hst : -9223372036854775808 ≤ st ∧ st ≤ 9223372036854775807)
    (hr' : TRow w bo n' nm' vl') (hm' : m'.size ≤ 9223372036854775807) (hn' : n' ≤ 9223372036854775807) (hs' : TSize n' nm' vl' 9223372036854775807) (hst' : -9223372036854775808 ≤ st' ∧ st' ≤ 9223372036854775807) :
    Calls Try.prog 11 #[.agg #[.string m, .slice ao n ca, .int .i64 st], .agg #[.string m', .slice bo n' cb, .int .i64 st']] w fun e w' => e = .returned (.bool true) ∧ Below w.heap.size w w' := by
  have hB : Below w.heap.size w ((w.alloc (.cells #[.string m, .slice ao n ca, .int .i64 st] 43)).alloc (.cells #[.string m', .slice bo n' cb, .int .i64 st'] 43)) := ((Below.refl _ _).alloc (Nat.le_refl _) _).alloc (by simp) _
  have ka : KAt ((w.alloc (.cells #[.string m, .slice ao n ca, .int .i64 st] 43)).alloc (.cells #[.string m', .slice bo n' cb, .int .i64 st'] 43)) w.heap.size m (.slice ao n ca) st := (KAt.new w m (.slice ao n ca) st 43).keep ((Below.refl _ _).alloc (Nat.le_refl _) _)
  have kb : KAt ((w.alloc (.cells #[.string m, .slice ao n ca, .int .i64 st] 43)).alloc (.cells #[.string m', .slice bo n' cb, .int .i64 st'] 43)) (w.heap.size + 1) m' (.slice bo n' cb) st' := by
    have := KAt.new (w.alloc (.cells #[.string m, .slice ao n ca, .int .i64 st] 43)) m' (.slice bo n' cb) st' 43
    simpa using this
  go_enter Try.func11, Try.ntmps11
  go_wp2_with fail
  refine (szKey_any m st ao n ca nm vl 1048576 _ (hr.keep hB) (by omega) hm hn hs).mono ?_
  rintro e w1 ⟨v, rfl, hv1, hv2, hv3, hb1⟩
  have hbw1 : Below w.heap.size w w1 := hB.trans (hb1.mono (by simp; omega))
  have ka1 := ka.keep hb1
  have kb1 := kb.keep hb1
  clear hb1 ka kb hB
  by_cases hv : v < 0
  · clear hv3
    go_wp2
    go_ret
    exact ⟨rfl, hbw1⟩
  · obtain ⟨hmA, hnA, hsA⟩ := hv3 (by omega)
    clear hv3 hm hn hs
    obtain ⟨la, a0, a1, a2⟩ := ka1
    obtain ⟨lb, b0, b1, b2⟩ := kb1
    go_wp2_with fail
    refine (szKey_any m' st' bo n' cb nm' vl' v _ (hr'.keep hbw1) (by omega) hm' hn' hs').mono ?_
    rintro e w2 ⟨u, rfl, hu1, hu2, hu3, hb2⟩
    have ka2 := KAt.keep ⟨la, a0, a1, a2⟩ hb2
    have kb2 := KAt.keep ⟨lb, b0, b1, b2⟩ hb2
    have hbw2 : Below w.heap.size w w2 := hbw1.trans (hb2.mono hbw1.size)
    clear hb2 hbw1 a0 a1 a2 b0 b1 b2 la lb
    by_cases hu : u < 0
    · clear hu3
      go_wp2
      go_ret
      exact ⟨rfl, hbw2⟩
    · obtain ⟨hmB, hnB, hsB⟩ := hu3 (by omega)
      clear hu3 hm' hn' hs'
      generalize hC : cmpAns m m' st st' n n' nm vl nm' vl' = C
      have HC : Hid (cmpAns m m' st st' n n' nm vl nm' vl' = C) := hC
      clear hC
      obtain ⟨la, a0, a1, a2⟩ := ka2
      obtain ⟨lb, b0, b1, b2⟩ := kb2
      have hra := hr.keep hbw2
      have hrb := hr'.keep hbw2
      have hsz := hbw2.size
      go_wp2
      go_region_held3 (fun w' => w'.cell? ⟨w.heap.size, 0, none⟩ = some (.string m) ∧ w'.cell? ⟨w.heap.size, 1, none⟩ = some (.slice ao n ca) ∧ w'.cell? ⟨w.heap.size, 2, none⟩ = some (.int .i64 st) ∧ w'.cell? ⟨w.heap.size + 1, 0, none⟩ = some (.string m') ∧ w'.cell? ⟨w.heap.size + 1, 1, none⟩ = some (.slice bo n' cb) ∧ w'.cell? ⟨w.heap.size + 1, 2, none⟩ = some (.int .i64 st')) (go_keep) (first | (go_at_call_of 28 (Value.string m); refine (toKey_any m st ao n ca nm vl _ ?_ hnA).mono ?_; exact hra.keep (Below.refl _ _).drew; rintro e w3 ⟨g3, rfl, hg3, ho3, hb3⟩; have hb3' := (Below.refl _ w2).drew.trans hb3; obtain ⟨la3, p0, p1, p2⟩ := KAt.keep ⟨la, a0, a1, a2⟩ hb3'; obtain ⟨lb3, q0, q1, q2⟩ := KAt.keep ⟨lb, b0, b1, b2⟩ hb3'; have hbw3 : Below w.heap.size w w3 := hbw2.trans (hb3'.mono hsz); have hsz3 := hbw3.size; have hrb3 := hrb.keep hb3'; clear hb3 hb3') | (go_at_call_of 28 (Value.string m'); refine (toKey_any m' st' bo n' cb nm' vl' _ hrb3 hnB).mono ?_; rintro e w4 ⟨g4, rfl, hg4, ho4, hb4⟩; obtain ⟨la4, i0, i1, i2⟩ := KAt.keep ⟨la3, p0, p1, p2⟩ hb4; obtain ⟨lb4, j0, j1, j2⟩ := KAt.keep ⟨lb3, q0, q1, q2⟩ hb4; have hbw4 : Below w.heap.size w w4 := hbw3.trans (hb4.mono hsz3); have hsz4 := hbw4.size; have ho3' := ho3.keep hb4; clear hb4) | (go_at_call 37; refine (compareKeys_spec m m' st st' _ _ n n' n n' nm vl nm' vl' _ ho3'.row ho4.row hmA hmB hnA hnB hsA hsB).mono ?_; rintro e w5 ⟨rfl, hb5⟩; rw [HC.out]; obtain ⟨la5, k0, k1, k2⟩ := KAt.keep ⟨la4, i0, i1, i2⟩ hb5; obtain ⟨lb5, l0, l1, l2⟩ := KAt.keep ⟨lb4, j0, j1, j2⟩ hb5; have hbw5 : Below w.heap.size w w5 := hbw4.trans (hb5.mono hsz4); have hsz5 := hbw5.size; clear hb5))
      clear la lb a0 a1 a2 b0 b1 b2 hra hrb hbw2 hsz p0 p1 p2 q0 q1 q2 la3 lb3 i0 i1 i2 j0 j1 j2 la4 lb4 hbw3 hbw4 hsz3 hsz4 ho3 ho3' ho4 hrb3
      go_wp2_with fail
      refine (toKey_any m st ao n ca nm vl _ (hr.keep hbw5) hnA).mono ?_
      rintro e w6 ⟨g6, rfl, hg6, ho6, hb6⟩
      have hB6 : Below w6.heap.size w6 (w6.alloc (.cells #[.string m, .slice (some ⟨g6, 0, none⟩) n n, .int .i64 st] 48)) := (Below.refl _ _).alloc (Nat.le_refl _) _
      have A6 := (KAt.keep ⟨la5, k0, k1, k2⟩ hb6).keep hB6
      have B6 := (KAt.keep ⟨lb5, l0, l1, l2⟩ hb6).keep hB6
      have X6 := KAt.new w6 m (.slice (some ⟨g6, 0, none⟩) n n) st 48
      have o6 := ho6.keep hB6
      have hbw6 : Below w.heap.size w (w6.alloc (.cells #[.string m, .slice (some ⟨g6, 0, none⟩) n n, .int .i64 st] 48)) := (hbw5.trans (hb6.mono hsz5)).trans (hB6.mono (by have := hb6.size; omega))
      clear hb6 hB6 ho6 la5 lb5 k0 k1 k2 l0 l1 l2
      obtain ⟨la, a0, a1, a2⟩ := A6
      obtain ⟨lb, b0, b1, b2⟩ := B6
      go_wp2_with fail
      refine (toKey_any m' st' bo n' cb nm' vl' _ (hr'.keep hbw6) hnB).mono ?_
      rintro e w7 ⟨g7, rfl, hg7, ho7, hb7⟩
      have hB7 : Below w7.heap.size w7 (w7.alloc (.cells #[.string m', .slice (some ⟨g7, 0, none⟩) n' n', .int .i64 st'] 48)) := (Below.refl _ _).alloc (Nat.le_refl _) _
      have A7 := (KAt.keep ⟨la, a0, a1, a2⟩ hb7).keep hB7
      have B7 := (KAt.keep ⟨lb, b0, b1, b2⟩ hb7).keep hB7
      have X7 := (X6.keep hb7).keep hB7
      have Y7 := KAt.new w7 m' (.slice (some ⟨g7, 0, none⟩) n' n') st' 48
      have o7 := (o6.keep hb7).keep hB7
      have u7 := ho7.keep hB7
      have hbw7 : Below w.heap.size w (w7.alloc (.cells #[.string m', .slice (some ⟨g7, 0, none⟩) n' n', .int .i64 st'] 48)) := (hbw6.trans (hb7.mono hbw6.size)).trans (hB7.mono (by have := hb7.size; have := hbw6.size; omega))
      clear hb7 hB7 ho7 la lb a0 a1 a2 b0 b1 b2 X6 o6 hbw6
      obtain ⟨lx, x0, x1, x2⟩ := X7
      obtain ⟨ly, y0, y1, y2⟩ := Y7
      go_wp2_with fail
      refine (compareKeys_impl m m' st st' _ _ n n' n n' nm vl nm' vl' _ o7.row u7.row hmA hmB hnA hnB hsA hsB).mono ?_
      rintro e w8 ⟨rfl, hb8⟩
      rw [HC.out]
      obtain ⟨la, a0, a1, a2⟩ := A7.keep hb8
      have B8 := B7.keep hb8
      obtain ⟨lx8, c0, c1, c2⟩ := KAt.keep ⟨lx, x0, x1, x2⟩ hb8
      have Y8 := KAt.keep ⟨ly, y0, y1, y2⟩ hb8
      have o8 := o7.keep hb8
      have u8 := u7.keep hb8
      have hbw8 : Below w.heap.size w w8 := hbw7.trans (hb8.mono hbw7.size)
      have hra := hr.keep hbw8
      have hsz8 := hbw8.size
      clear hb8 lx x0 x1 x2 ly y0 y1 y2 A7 B7 o7 u7 hbw7
      go_wp2
      go_region_held3 (fun w' => w'.cell? ⟨w6.heap.size, 0, none⟩ = some (.string m) ∧ w'.cell? ⟨w6.heap.size, 1, none⟩ = some (.slice (some ⟨g6, 0, none⟩) n n) ∧ w'.cell? ⟨w6.heap.size, 2, none⟩ = some (.int .i64 st) ∧ w'.cell? ⟨w.heap.size, 0, none⟩ = some (.string m) ∧ w'.cell? ⟨w.heap.size, 1, none⟩ = some (.slice ao n ca) ∧ w'.cell? ⟨w.heap.size, 2, none⟩ = some (.int .i64 st)) (go_keep) (first | (go_at_call 28; refine (toKey_any m st ao n ca nm vl _ ?_ hnA).mono ?_; exact hra.keep (Below.refl _ _).drew; rintro e w9 ⟨g9, rfl, hg9, ho9, hb9⟩; have hb9' := (Below.refl _ w8).drew.trans hb9; obtain ⟨la9, p0, p1, p2⟩ := KAt.keep ⟨la, a0, a1, a2⟩ hb9'; obtain ⟨lx9, q0, q1, q2⟩ := KAt.keep ⟨lx8, c0, c1, c2⟩ hb9'; have B9 := B8.keep hb9'; have Y9 := Y8.keep hb9'; have o9 := o8.keep hb9'; have u9 := u8.keep hb9'; have hbw9 : Below w.heap.size w w9 := hbw8.trans (hb9'.mono hsz8); have hsz9 := hbw9.size; clear hb9 hb9') | (go_at_call 30; refine (eqKey_same m st _ _ n n n nm vl _ o9.row ho9.row hnA).mono ?_; rintro e w10 ⟨rfl, hb10⟩; obtain ⟨laa, pp0, pp1, pp2⟩ := KAt.keep ⟨la9, p0, p1, p2⟩ hb10; obtain ⟨lxa, qq0, qq1, qq2⟩ := KAt.keep ⟨lx9, q0, q1, q2⟩ hb10; have B10 := B9.keep hb10; have Y10 := Y9.keep hb10; have u10 := u9.keep hb10; have hbw10 : Below w.heap.size w w10 := hbw9.trans (hb10.mono hsz9); have hsz10 := hbw10.size; clear hb10))
      clear la a0 a1 a2 lx8 c0 c1 c2 B8 Y8 o8 u8 hbw8 hra hsz8 la9 p0 p1 p2 lx9 q0 q1 q2 B9 Y9 o9 u9 hbw9 hsz9 ho9 laa pp0 pp1 pp2 lxa qq0 qq1 qq2
      obtain ⟨lb, b0, b1, b2⟩ := B10
      obtain ⟨ly, y0, y1, y2⟩ := Y10
      have hrb := hr'.keep hbw10
      go_wp2
      go_region_held3 (fun w' => w'.cell? ⟨w7.heap.size, 0, none⟩ = some (.string m') ∧ w'.cell? ⟨w7.heap.size, 1, none⟩ = some (.slice (some ⟨g7, 0, none⟩) n' n') ∧ w'.cell? ⟨w7.heap.size, 2, none⟩ = some (.int .i64 st') ∧ w'.cell? ⟨w.heap.size + 1, 0, none⟩ = some (.string m') ∧ w'.cell? ⟨w.heap.size + 1, 1, none⟩ = some (.slice bo n' cb) ∧ w'.cell? ⟨w.heap.size + 1, 2, none⟩ = some (.int .i64 st')) (go_keep) (first | (go_at_call 28; refine (toKey_any m' st' bo n' cb nm' vl' _ ?_ hnB).mono ?_; exact hrb.keep (Below.refl _ _).drew; rintro e w11 ⟨g11, rfl, hg11, ho11, hb11⟩; have hb11' := (Below.refl _ w10).drew.trans hb11; obtain ⟨lb11, p0, p1, p2⟩ := KAt.keep ⟨lb, b0, b1, b2⟩ hb11'; obtain ⟨ly11, q0, q1, q2⟩ := KAt.keep ⟨ly, y0, y1, y2⟩ hb11'; have u11 := u10.keep hb11'; have hbw11 : Below w.heap.size w w11 := hbw10.trans (hb11'.mono hsz10); have hsz11 := hbw11.size; clear hb11 hb11') | (go_at_call 30; refine (eqKey_same m' st' _ _ n' n' n' nm' vl' _ u11.row ho11.row hnB).mono ?_; rintro e w12 ⟨rfl, hb12⟩; obtain ⟨lb12, pp0, pp1, pp2⟩ := KAt.keep ⟨lb11, p0, p1, p2⟩ hb12; obtain ⟨ly12, qq0, qq1, qq2⟩ := KAt.keep ⟨ly11, q0, q1, q2⟩ hb12; have hbw12 : Below w.heap.size w w12 := hbw11.trans (hb12.mono hsz11); clear hb12))
      go_wp2
      go_ret
      exact ⟨rfl, hbw12⟩
end Go.Proofs.Ytddppcfkjhhmhaa
