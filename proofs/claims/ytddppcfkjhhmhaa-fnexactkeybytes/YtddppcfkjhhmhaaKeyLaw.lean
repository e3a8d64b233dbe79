/- The law of KeyBytes, walked. -/
import Derived.Test.YtddppcfkjhhmhaaKeyImpl
import Derived.Test.YtddppcfkjhhmhaaMarkKey
import Derived.Deep.RegionHeld3
namespace Go.Proofs.Ytddppcfkjhhmhaa
open Go.RowKit
set_option linter.unusedSimpArgs false
set_option linter.unusedVariables false

set_option maxHeartbeats 1000000 in
theorem keyBytes_impl_bad (m : ByteArray) (st : Int) (ao : Option Addr) (n cap : Nat) (nm vl : Nat → ByteArray) (w : World) (hr : TRow w ao n nm vl) (hm : m.size ≤ 1048576) (hn : n ≤ 1048576) (hs : TSize n nm vl 1048576) (hG : Hid (goodB m n nm vl st = false)) :
    Calls Try.prog 32 #[.agg #[.string m, .slice ao n cap, .int .i64 st]] w fun e w' => e = .returned (.tuple #[.slice none 0 0, .bool false]) ∧ Below w.heap.size w w' := by
  have hB : Below w.heap.size w (w.alloc (.cells #[.string m, .slice ao n cap, .int .i64 st] 48)) := (Below.refl _ _).alloc (Nat.le_refl _) _
  go_enter Try.func32, Try.ntmps32
  go_wp2_with fail
  refine (goodKey_impl m st ao n cap nm vl _ (hr.keep hB) hm hn hs).mono ?_
  rintro e w1 ⟨rfl, hb1⟩
  rw [hG.out]
  have hbw1 : Below w.heap.size w w1 := hB.trans (hb1.mono (by simp))
  go_wp2
  go_ret2
  exact ⟨rfl, hbw1⟩

theorem keyBytes_spec_is (m : ByteArray) (st : Int) (ao : Option Addr) (n cap : Nat) (nm vl : Nat → ByteArray) (l : List Int) (hl : Hid (kbytes m n nm vl st = l)) (w : World) (hr : TRow w ao n nm vl) (hG : Hid (goodB m n nm vl st = true)) :
    Calls Try.prog 31 #[.agg #[.string m, .slice ao n cap, .int .i64 st]] w fun e w' => KBOut l w e w' := by
  have := keyBytes_spec_good m st ao n cap nm vl w hr hG
  rw [hl.out] at this
  exact this
theorem keyBytes_impl_is (m : ByteArray) (st : Int) (ao : Option Addr) (n cap : Nat) (nm vl : Nat → ByteArray) (l : List Int) (hl : Hid (kbytes m n nm vl st = l)) (w : World) (hr : TRow w ao n nm vl) (hG : Hid (goodB m n nm vl st = true)) :
    Calls Try.prog 32 #[.agg #[.string m, .slice ao n cap, .int .i64 st]] w fun e w' => KBOut l w e w' := by
  have := keyBytes_impl_good m st ao n cap nm vl w hr hG
  rw [hl.out] at this
  exact this

set_option maxHeartbeats 4000000 in
theorem keyBytes_law_good (m : ByteArray) (st : Int) (ao : Option Addr) (n cap : Nat) (nm vl : Nat → ByteArray) (w : World) (hr : TRow w ao n nm vl) (hmx : m.size ≤ 9223372036854775807) (hnx : n ≤ 9223372036854775807) (hsx : TSize n nm vl 9223372036854775807)
    (HG : Hid (goodB m n nm vl st = true)) :
    Calls Try.prog 9 #[.agg #[.string m, .slice ao n cap, .int .i64 st]] w fun e w' => e = .returned (.bool true) ∧ Below w.heap.size w w' := by
  have hB : Below w.heap.size w (w.alloc (.cells #[.string m, .slice ao n cap, .int .i64 st] 43)) := (Below.refl _ _).alloc (Nat.le_refl _) _
  have A0 := KAt.new w m (.slice ao n cap) st 43
  have hlen := kbytes_len (m := m) (n := n) (nm := nm) (vl := vl) (st := st) (goodB_sizes HG.out).1 (goodB_sizes HG.out).2.1 (goodB_sizes HG.out).2.2.1
  generalize hl : kbytes m n nm vl st = l at hlen
  have HL : Hid (kbytes m n nm vl st = l) := hl
  clear hl
  go_enter Try.func9, Try.ntmps9
  go_wp2_with fail
  refine (szKey_any m st ao n cap nm vl 1048576 _ (hr.keep hB) (by omega) hmx hnx hsx).mono ?_
  rintro e w1 ⟨v, rfl, hv1, hv2, hv3, hb1⟩
  have A1 := A0.keep hb1
  have bw1 : Below w.heap.size w w1 := hB.trans (hb1.mono (by simp))
  clear hb1 hB A0
  by_cases hv : v < 0
  · clear hv3
    go_wp2
    go_ret
    exact ⟨rfl, bw1⟩
  · obtain ⟨hm, hn, hs⟩ := hv3 (by omega)
    clear hv3 hmx hnx hsx
    obtain ⟨la, a0, a1, a2⟩ := A1
    go_wp2_with fail
    refine (toKey_any m st ao n cap nm vl _ (hr.keep bw1) hn).mono ?_
    rintro e w2 ⟨g2, rfl, hg2, ho2, hb2⟩
    have A2 := KAt.keep ⟨la, a0, a1, a2⟩ hb2
    have bw2 : Below w.heap.size w w2 := bw1.trans (hb2.mono bw1.size)
    clear hb2 bw1 la a0 a1 a2
    go_wp2_with fail
    refine (keyBytes_spec_is m st _ n n nm vl l HL _ ho2.row HG).mono ?_
    rintro e w3 ⟨s, cs, rfl, hs3, os3, hb3⟩
    have hs3' := os3.lt
    obtain ⟨la, a0, a1, a2⟩ := A2.keep hb3
    have bw3 : Below w.heap.size w w3 := bw2.trans (hb3.mono bw2.size)
    have hw3 : w.heap.size < w3.heap.size := la
    clear hb3 A2 bw2 ho2
    go_wp2_with fail
    refine (toKey_any m st ao n cap nm vl _ (hr.keep bw3) hn).mono ?_
    rintro e w4 ⟨g4, rfl, hg4, ho4, hb4⟩
    have hB4 : Below w4.heap.size w4 (w4.alloc (.cells #[.string m, .slice (some ⟨g4, 0, none⟩) n n, .int .i64 st] 48)) := (Below.refl _ _).alloc (Nat.le_refl _) _
    have hb34 : Below w3.heap.size w3 (w4.alloc (.cells #[.string m, .slice (some ⟨g4, 0, none⟩) n n, .int .i64 st] 48)) := hb4.trans (hB4.mono hb4.size)
    have A4 := KAt.keep ⟨la, a0, a1, a2⟩ hb34
    have X4 := KAt.new w4 m (.slice (some ⟨g4, 0, none⟩) n n) st 48
    have o4 := ho4.keep hB4
    have bw4 : Below w.heap.size w (w4.alloc (.cells #[.string m, .slice (some ⟨g4, 0, none⟩) n n, .int .i64 st] 48)) := bw3.trans (hb34.mono bw3.size)
    have hg4' := ho4.lt
    have os4 := os3.keep hb34
    have sz4 : w3.heap.size ≤ w4.heap.size := hb4.size
    clear hb4 hB4 hb34 bw3 la a0 a1 a2 ho4 os3
    obtain ⟨lx, x0, x1, x2⟩ := X4
    go_wp2_with fail
    refine (keyBytes_impl_is m st _ n n nm vl l HL _ o4.row HG).mono ?_
    rintro e w5 ⟨r, cr, rfl, hr5, or5, hb5⟩
    simp only [World.size_alloc] at hr5
    have os5 := os4.keep hb5
    have A5 := A4.keep hb5
    have X5 := KAt.keep ⟨lx, x0, x1, x2⟩ hb5
    have o5 := o4.keep hb5
    have bw5 : Below w.heap.size w w5 := bw4.trans (hb5.mono bw4.size)
    have sz5 : w4.heap.size + 1 ≤ w5.heap.size := by have := hb5.size; simpa using this
    clear hb5 A4 lx x0 x1 x2 o4 bw4 os4
    go_wp2_with fail
    refine (eqByteS_same _ _ l.length cr cs _ _ or5.row os5.row (by omega)).mono ?_
    rintro e w6 ⟨rfl, hb6⟩
    obtain ⟨la, a0, a1, a2⟩ := A5.keep hb6
    obtain ⟨lx, x0, x1, x2⟩ := X5.keep hb6
    have o6 := o5.keep hb6
    have or6 := or5.keep hb6
    have os6 := os5.keep hb6
    have bw6 : Below w.heap.size w w6 := bw5.trans (hb6.mono bw5.size)
    have sz6 := hb6.size
    have szw6 := bw6.size
    have hra := hr.keep bw6
    clear hb6 A5 X5 o5 bw5 or5 os5
    go_wp2
    go_region_held3 (fun w' => w'.cell? ⟨w4.heap.size, 0, none⟩ = some (.string m) ∧ w'.cell? ⟨w4.heap.size, 1, none⟩ = some (.slice (some ⟨g4, 0, none⟩) n n) ∧ w'.cell? ⟨w4.heap.size, 2, none⟩ = some (.int .i64 st) ∧ w'.cell? ⟨w.heap.size, 0, none⟩ = some (.string m) ∧ w'.cell? ⟨w.heap.size, 1, none⟩ = some (.slice ao n cap) ∧ w'.cell? ⟨w.heap.size, 2, none⟩ = some (.int .i64 st)) (go_keep) (first | (go_at_call 28; refine (toKey_any m st ao n cap nm vl _ ?_ hn).mono ?_; exact hra.keep (Below.refl _ _).drew; rintro e w7 ⟨g7, rfl, hg7, ho7, hb7⟩; have hb7' := (Below.refl _ w6).drew.trans hb7; obtain ⟨la7, p0, p1, p2⟩ := KAt.keep ⟨la, a0, a1, a2⟩ hb7'; obtain ⟨lx7, q0, q1, q2⟩ := KAt.keep ⟨lx, x0, x1, x2⟩ hb7'; have o7 := o6.keep hb7'; have or7 := or6.keep hb7'; have os7 := os6.keep hb7'; have bw7 : Below w.heap.size w w7 := bw6.trans (hb7'.mono szw6); have sz7 := hb7'.size; have szw7 := bw7.size; clear hb7 hb7') | (go_at_call 30; refine (eqKey_same m st _ _ n n n nm vl _ o7.row ho7.row hn).mono ?_; rintro e w8 ⟨rfl, hb8⟩; obtain ⟨la8, pp0, pp1, pp2⟩ := KAt.keep ⟨la7, p0, p1, p2⟩ hb8; obtain ⟨lx8, qq0, qq1, qq2⟩ := KAt.keep ⟨lx7, q0, q1, q2⟩ hb8; have o8 := o7.keep hb8; have or8 := or7.keep hb8; have os8 := os7.keep hb8; have bw8 : Below w.heap.size w w8 := bw7.trans (hb8.mono szw7); have sz8 := hb8.size; clear hb8))
    clear la a0 a1 a2 lx x0 x1 x2 o6 bw6 hra la7 p0 p1 p2 lx7 q0 q1 q2 o7 ho7 bw7 or6 os6 or7 os7
    go_wp2_with fail
    refine (markKey_any m st g4 n n _ nm vl o8 hn).mono ?_
    rintro e w9 ⟨rfl, o9, t9⟩
    have szw := bw8.size
    have A9 := t9.kat ⟨la8, pp0, pp1, pp2⟩ (by omega)
    have bw9 : Below w.heap.size w w9 := bw8.trans (t9.below (by omega) (by omega))
    have or9 := t9.own or8 (by omega)
    have os9 := t9.own os8 (by omega)
    have hd9 : decide (1 + 2 * (n : Int) < 0) = false := by simp; omega
    clear t9 la8 pp0 pp1 pp2 lx8 qq0 qq1 qq2 o8 o9 bw8 or8 os8
    go_wp2_with fail
    refine (eqByteS_same _ _ l.length cr cs _ _ or9.row os9.row (by omega)).mono ?_
    rintro e w10 ⟨rfl, hb10⟩
    have A10 := A9.keep hb10
    have bw10 : Below w.heap.size w w10 := bw9.trans (hb10.mono bw9.size)
    have or10 := or9.keep hb10
    have os10 := os9.keep hb10
    clear hb10 A9 bw9 or9 os9
    go_wp2_with fail
    refine (mark_one r 0 l.length cr _ _ or10 (by omega)).mono ?_
    rintro e w11 ⟨rfl, or11, hx11⟩
    have A11 : KAt w11 w.heap.size m (.slice ao n cap) st := Thru.kat (Thru.of_others hx11) A10 (by omega)
    have os11 := hx11.row os10 (by omega)
    have bw11 : Below w.heap.size w w11 := bw10.trans (hx11.below (by omega))
    clear A10 os10 or10 bw10 hx11
    go_wp2_with fail
    refine (held_one _ l.length cr _ or11.row (by omega)).mono ?_
    rintro e w12 ⟨rfl, hb12⟩
    obtain ⟨la, a0, a1, a2⟩ := A11.keep hb12
    have or12 := or11.keep hb12
    have os12 := os11.keep hb12
    have bw12 : Below w.heap.size w w12 := bw11.trans (hb12.mono bw11.size)
    clear A11 os11 or11 bw11 hb12
    go_wp2_with fail
    refine (toKey_any m st ao n cap nm vl _ (hr.keep bw12) hn).mono ?_
    rintro e w13 ⟨g13, rfl, hg13, ho13, hb13⟩
    have bw13 : Below w.heap.size w w13 := bw12.trans (hb13.mono bw12.size)
    have or13 := or12.keep hb13
    have os13 := os12.keep hb13
    clear hb13 bw12 la a0 a1 a2 or12 os12
    go_wp2_with fail
    refine (keyBytes_impl_is m st _ n n nm vl l HL _ ho13.row HG).mono ?_
    rintro e w14 ⟨r14, c14, rfl, hr14, or14, hb14⟩
    have os14 := os13.keep hb14
    have or14' := or13.keep hb14
    have bw14 : Below w.heap.size w w14 := bw13.trans (hb14.mono bw13.size)
    clear hb14 bw13 ho13 or13 os13
    go_wp2_with fail
    refine (eqByteS_same _ _ l.length c14 cs _ _ or14.row os14.row (by omega)).mono ?_
    rintro e w15 ⟨rfl, hb15⟩
    have bw15 : Below w.heap.size w w15 := bw14.trans (hb15.mono bw14.size)
    have or15 := or14'.keep hb15
    clear hb15 bw14
    go_wp2_with fail
    refine (held_one _ l.length cr _ or15.row (by omega)).mono ?_
    rintro e w16 ⟨rfl, hb16⟩
    have bw16 : Below w.heap.size w w16 := bw15.trans (hb16.mono bw15.size)
    clear hb16 bw15
    go_wp2
    go_ret
    exact ⟨rfl, bw16⟩

set_option maxHeartbeats 4000000 in
theorem keyBytes_law_bad (m : ByteArray) (st : Int) (ao : Option Addr) (n cap : Nat) (nm vl : Nat → ByteArray) (w : World) (hr : TRow w ao n nm vl) (hmx : m.size ≤ 9223372036854775807) (hnx : n ≤ 9223372036854775807) (hsx : TSize n nm vl 9223372036854775807)
    (HG : Hid (goodB m n nm vl st = false)) :
    Calls Try.prog 9 #[.agg #[.string m, .slice ao n cap, .int .i64 st]] w fun e w' => e = .returned (.bool true) ∧ Below w.heap.size w w' := by
  have hB : Below w.heap.size w (w.alloc (.cells #[.string m, .slice ao n cap, .int .i64 st] 43)) := (Below.refl _ _).alloc (Nat.le_refl _) _
  have A0 := KAt.new w m (.slice ao n cap) st 43
  go_enter Try.func9, Try.ntmps9
  go_wp2_with fail
  refine (szKey_any m st ao n cap nm vl 1048576 _ (hr.keep hB) (by omega) hmx hnx hsx).mono ?_
  rintro e w1 ⟨v, rfl, hv1, hv2, hv3, hb1⟩
  have A1 := A0.keep hb1
  have bw1 : Below w.heap.size w w1 := hB.trans (hb1.mono (by simp))
  clear hb1 hB A0
  by_cases hv : v < 0
  · clear hv3
    go_wp2
    go_ret
    exact ⟨rfl, bw1⟩
  · obtain ⟨hm, hn, hs⟩ := hv3 (by omega)
    clear hv3 hmx hnx hsx
    obtain ⟨la, a0, a1, a2⟩ := A1
    go_wp2_with fail
    refine (toKey_any m st ao n cap nm vl _ (hr.keep bw1) hn).mono ?_
    rintro e w2 ⟨g2, rfl, hg2, ho2, hb2⟩
    have A2 := KAt.keep ⟨la, a0, a1, a2⟩ hb2
    have bw2 : Below w.heap.size w w2 := bw1.trans (hb2.mono bw1.size)
    clear hb2 bw1 la a0 a1 a2
    go_wp2_with fail
    refine (keyBytes_spec_bad m st _ n n nm vl _ ho2.row hm hn hs HG).mono ?_
    rintro e w3 ⟨rfl, hb3⟩
    obtain ⟨la, a0, a1, a2⟩ := A2.keep hb3
    have bw3 : Below w.heap.size w w3 := bw2.trans (hb3.mono bw2.size)
    have hw3 : w.heap.size < w3.heap.size := la
    clear hb3 A2 bw2 ho2
    go_wp2_with fail
    refine (toKey_any m st ao n cap nm vl _ (hr.keep bw3) hn).mono ?_
    rintro e w4 ⟨g4, rfl, hg4, ho4, hb4⟩
    have hB4 : Below w4.heap.size w4 (w4.alloc (.cells #[.string m, .slice (some ⟨g4, 0, none⟩) n n, .int .i64 st] 48)) := (Below.refl _ _).alloc (Nat.le_refl _) _
    have hb34 : Below w3.heap.size w3 (w4.alloc (.cells #[.string m, .slice (some ⟨g4, 0, none⟩) n n, .int .i64 st] 48)) := hb4.trans (hB4.mono hb4.size)
    have A4 := KAt.keep ⟨la, a0, a1, a2⟩ hb34
    have X4 := KAt.new w4 m (.slice (some ⟨g4, 0, none⟩) n n) st 48
    have o4 := ho4.keep hB4
    have bw4 : Below w.heap.size w (w4.alloc (.cells #[.string m, .slice (some ⟨g4, 0, none⟩) n n, .int .i64 st] 48)) := bw3.trans (hb34.mono bw3.size)
    have hg4' := ho4.lt
    have sz4 : w3.heap.size ≤ w4.heap.size := hb4.size
    clear hb4 hB4 hb34 bw3 la a0 a1 a2 ho4
    obtain ⟨lx, x0, x1, x2⟩ := X4
    go_wp2_with fail
    refine (keyBytes_impl_bad m st _ n n nm vl _ o4.row hm hn hs HG).mono ?_
    rintro e w5 ⟨rfl, hb5⟩
    have A5 := A4.keep hb5
    have X5 := KAt.keep ⟨lx, x0, x1, x2⟩ hb5
    have o5 := o4.keep hb5
    have bw5 : Below w.heap.size w w5 := bw4.trans (hb5.mono bw4.size)
    have sz5 : w4.heap.size + 1 ≤ w5.heap.size := by have := hb5.size; simpa using this
    clear hb5 A4 lx x0 x1 x2 o4 bw4
    go_wp2_with fail
    refine (eq_none _ _ _ _ _).mono ?_
    rintro e w6 ⟨rfl, hb6⟩
    obtain ⟨la, a0, a1, a2⟩ := A5.keep hb6
    obtain ⟨lx, x0, x1, x2⟩ := X5.keep hb6
    have o6 := o5.keep hb6
    have bw6 : Below w.heap.size w w6 := bw5.trans (hb6.mono bw5.size)
    have sz6 := hb6.size
    have szw6 := bw6.size
    have hra := hr.keep bw6
    clear hb6 A5 X5 o5 bw5
    go_wp2
    go_region_held3 (fun w' => w'.cell? ⟨w4.heap.size, 0, none⟩ = some (.string m) ∧ w'.cell? ⟨w4.heap.size, 1, none⟩ = some (.slice (some ⟨g4, 0, none⟩) n n) ∧ w'.cell? ⟨w4.heap.size, 2, none⟩ = some (.int .i64 st) ∧ w'.cell? ⟨w.heap.size, 0, none⟩ = some (.string m) ∧ w'.cell? ⟨w.heap.size, 1, none⟩ = some (.slice ao n cap) ∧ w'.cell? ⟨w.heap.size, 2, none⟩ = some (.int .i64 st)) (go_keep) (first | (go_at_call 28; refine (toKey_any m st ao n cap nm vl _ ?_ hn).mono ?_; exact hra.keep (Below.refl _ _).drew; rintro e w7 ⟨g7, rfl, hg7, ho7, hb7⟩; have hb7' := (Below.refl _ w6).drew.trans hb7; obtain ⟨la7, p0, p1, p2⟩ := KAt.keep ⟨la, a0, a1, a2⟩ hb7'; obtain ⟨lx7, q0, q1, q2⟩ := KAt.keep ⟨lx, x0, x1, x2⟩ hb7'; have o7 := o6.keep hb7'; have bw7 : Below w.heap.size w w7 := bw6.trans (hb7'.mono szw6); have sz7 := hb7'.size; have szw7 := bw7.size; clear hb7 hb7') | (go_at_call 30; refine (eqKey_same m st _ _ n n n nm vl _ o7.row ho7.row hn).mono ?_; rintro e w8 ⟨rfl, hb8⟩; obtain ⟨la8, pp0, pp1, pp2⟩ := KAt.keep ⟨la7, p0, p1, p2⟩ hb8; obtain ⟨lx8, qq0, qq1, qq2⟩ := KAt.keep ⟨lx7, q0, q1, q2⟩ hb8; have o8 := o7.keep hb8; have bw8 : Below w.heap.size w w8 := bw7.trans (hb8.mono szw7); have sz8 := hb8.size; clear hb8))
    clear la a0 a1 a2 lx x0 x1 x2 o6 bw6 hra la7 p0 p1 p2 lx7 q0 q1 q2 o7 ho7 bw7
    go_wp2_with fail
    refine (markKey_any m st g4 n n _ nm vl o8 hn).mono ?_
    rintro e w9 ⟨rfl, o9, t9⟩
    have szw := bw8.size
    have A9 := t9.kat ⟨la8, pp0, pp1, pp2⟩ (by omega)
    have bw9 : Below w.heap.size w w9 := bw8.trans (t9.below (by omega) (by omega))
    have hd9 : decide (1 + 2 * (n : Int) < 0) = false := by simp; omega
    clear t9 la8 pp0 pp1 pp2 lx8 qq0 qq1 qq2 o8 o9 bw8
    go_wp2_with fail
    refine (eq_none _ _ _ _ _).mono ?_
    rintro e w10 ⟨rfl, hb10⟩
    have A10 := A9.keep hb10
    have bw10 : Below w.heap.size w w10 := bw9.trans (hb10.mono bw9.size)
    clear hb10 A9 bw9
    go_wp2_with fail
    refine (mark_none _ _ _).mono ?_
    rintro e w11 ⟨rfl, rfl⟩
    go_wp2_with fail
    refine (held_none _ _ _).mono ?_
    rintro e w12 ⟨rfl, hb12⟩
    obtain ⟨la, a0, a1, a2⟩ := A10.keep hb12
    have bw12 : Below w.heap.size w w12 := bw10.trans (hb12.mono bw10.size)
    clear A10 bw10 hb12
    go_wp2_with fail
    refine (toKey_any m st ao n cap nm vl _ (hr.keep bw12) hn).mono ?_
    rintro e w13 ⟨g13, rfl, hg13, ho13, hb13⟩
    have bw13 : Below w.heap.size w w13 := bw12.trans (hb13.mono bw12.size)
    clear hb13 bw12 la a0 a1 a2
    go_wp2_with fail
    refine (keyBytes_impl_bad m st _ n n nm vl _ ho13.row hm hn hs HG).mono ?_
    rintro e w14 ⟨rfl, hb14⟩
    have bw14 : Below w.heap.size w w14 := bw13.trans (hb14.mono bw13.size)
    clear hb14 bw13 ho13
    go_wp2_with fail
    refine (eq_none _ _ _ _ _).mono ?_
    rintro e w15 ⟨rfl, hb15⟩
    have bw15 : Below w.heap.size w w15 := bw14.trans (hb15.mono bw14.size)
    clear hb15 bw14
    go_wp2_with fail
    refine (held_none _ _ _).mono ?_
    rintro e w16 ⟨rfl, hb16⟩
    have bw16 : Below w.heap.size w w16 := bw15.trans (hb16.mono bw15.size)
    clear hb16 bw15
    go_wp2
    go_ret
    exact ⟨rfl, bw16⟩

theorem keyBytes_law (m : ByteArray) (st : Int) (ao : Option Addr) (n cap : Nat) (nm vl : Nat → ByteArray) (w : World) (hr : TRow w ao n nm vl) (hm : m.size ≤ 9223372036854775807) (hn : n ≤ 9223372036854775807) (hs : TSize n nm vl 9223372036854775807) (hst : -9223372036854775808 ≤ st ∧ st ≤ 9223372036854775807) :
    Calls Try.prog 9 #[.agg #[.string m, .slice ao n cap, .int .i64 st]] w fun e w' => e = .returned (.bool true) ∧ Below w.heap.size w w' := by
  cases h : goodB m n nm vl st with
  | true => exact keyBytes_law_good m st ao n cap nm vl w hr hm hn hs h
  | false => exact keyBytes_law_bad m st ao n cap nm vl w hr hm hn hs h
end Go.Proofs.Ytddppcfkjhhmhaa
