/- The law of FilterOf, walked. -/
import Derived.Test.YtjcmjoipicaoeaaFs
namespace Go.Proofs.Ytjcmjoipicaoeaa
open Go.RowKit
set_option linter.unusedSimpArgs false
set_option linter.unusedVariables false

theorem markFilterV (y : Int) (ao : Option Addr) (c lo hi : Nat) (L : List Int) (w : World) (h : BV w lo hi ao L) (hl : L.length ≤ 1048576) :
    Calls Try.prog 23 #[.agg #[.int .i64 y, .slice ao L.length c], .int .i64 1] w fun e w' => e = .returned (.int .i64 ((L.length : Int) + 1)) ∧ Row w' ao L.length marks ∧ Mid lo hi w w' := by
  have hB := fun o => below_new w o
  go_enter Try.func23, Try.ntmps23
  go_wp2_with fail
  refine (markBV ao c lo hi L _ (h.keep (hB _)) hl).mono ?_
  rintro e w1 ⟨rfl, r1, M1⟩
  have M2 := (Mid.of_below (B := lo) (U := hi) (hB _)).trans M1
  go_wp2
  go_ret
  exact ⟨rfl, r1, M2⟩
theorem heldFilter_yes (y : Int) (ao : Option Addr) (n c : Nat) (w : World) (hr : Row w ao n marks) (hn : n ≤ 1048576) :
    Calls Try.prog 24 #[.agg #[.int .i64 y, .slice ao n c], .int .i64 1] w fun e w' => e = .returned (.int .i64 ((n : Int) + 1)) ∧ Below w.heap.size w w' := by
  have hB := fun o => below_new w o
  have hd : ¬ ((n : Int) + 1 < 0) := by omega
  go_enter Try.func24, Try.ntmps24
  go_wp2_with fail
  refine (held_one ao n c _ (hr.keep (hB _)) hn).mono ?_
  rintro e w1 ⟨rfl, b1⟩
  have b2 := (hB _).trans (b1.mono (by simp))
  go_wp2
  go_ret
  exact ⟨rfl, b2⟩
theorem eqFilterV (y : Int) (ao bo : Option Addr) (ca cb lo hi lo' hi' : Nat) (L : List Int) (w : World) (h : BV w lo hi ao L) (k : BV w lo' hi' bo L) (hl : L.length ≤ 1048576) :
    Calls Try.prog 16 #[.agg #[.int .i64 y, .slice ao L.length ca], .agg #[.int .i64 y, .slice bo L.length cb]] w fun e w' => e = .returned (.bool true) ∧ Below w.heap.size w w' :=
  eqFilter_same y ao bo L.length ca cb (fl L) w h.row k.row hl

/-- y, L, ok: what FilterOf answers. -/
def IsR (K : Nat → ByteArray) (n : Nat) (p : Int) (y : Int) (L : List Int) (ok : Bool) : Prop := ∀ w e w', FOO K n p w e w' → RO y L ok w e w'
theorem isR_ex (K : Nat → ByteArray) (n : Nat) (p : Int) : ∃ y L ok, IsR K n p y L ok ∧ L.length ≤ 1048576 := by
  by_cases h : FOg n p
  · exact ⟨_, _, _, fun w e w' hh => hh.1 h, by rw [ffl_len]; have := @fbI_bd n p; omega⟩
  · exact ⟨_, _, _, fun w e w' hh => hh.2 h, by simp⟩
theorem mid_grown {w w' : World} {b : Nat} (h : w.grownBy w' (some b)) : Mid b (b + 1) w w' := ⟨h.os, h.tape, h.output, h.size, fun k hk hne => h.block k hk (fun e => by injection e with e; omega)⟩

set_option maxHeartbeats 4000000 in
theorem filterOf_law (ao : Option Addr) (n cap : Nat) (K : Nat → ByteArray) (p : Int) (w : World) (hr : TRow w ao n K) (hnx : n ≤ 9223372036854775807 ∧ ∀ i, i < n → (K i).size ≤ 9223372036854775807) (hpx : -9223372036854775808 ≤ p ∧ p ≤ 9223372036854775807) :
    Calls Try.prog 5 #[.slice ao n cap, .int .i64 p] w fun e w' => e = .returned (.bool true) ∧ Below w.heap.size w w' := by
  obtain ⟨y, L, ok, hI, hLm⟩ := isR_ex K n p
  have hok : (ok != ok) = false := by simp
  go_enter Try.func5, Try.ntmps5
  go_wp2_with fail
  refine (szStringS_any ao n cap K _ hr hnx.1 hnx.2).mono ?_
  rintro e w0 ⟨v, rfl, hv1, hv2, hv3, hw0⟩
  have hw2 := hw0.symm
  clear hw0
  subst hw2
  by_cases hv : v < 0
  · clear hv3
    go_wp2
    go_ret
    exact ⟨rfl, Below.refl _ _⟩
  have hz := hv3 (by omega)
  have hn := hz.1
  clear hv3 hnx
  go_wp2_with fail
  refine (toStringS_any ao n cap K _ hr hn).mono ?_
  rintro e w1 ⟨rfl, o1, bw1⟩
  have s1 := bw1.size
  go_wp2_with fail
  refine ((filterOf_spec _ n n K p _ o1.row hz).mono (hI _)).mono ?_
  rintro e w2 ⟨wo, wc, rfl, V2, b2⟩
  have hB2 := below_new w2 (.cells #[.int .i64 y, .slice wo L.length wc] 31)
  have bw2 := bw1.trans (b2.mono s1)
  have bw2' := bw2.trans (hB2.mono bw2.size)
  have X2 := FAt.new w2 y (.slice wo L.length wc) 31
  have V2' := V2.keep hB2
  have s2 := b2.size
  have hso1 := o1.lt
  clear hB2 V2 b2 o1
  go_wp2_with fail
  refine (toStringS_any ao n cap K _ (hr.keep bw2') hn).mono ?_
  rintro e w3 ⟨rfl, o3, b3⟩
  have bw3 := bw2'.trans (b3.mono bw2'.size)
  have X3 := X2.keep b3
  have V3 := V2'.keep b3
  have s3 := b3.size
  simp only [World.size_alloc] at s3 o3
  have hg3 := o3.lt
  clear b3 bw2' X2 V2'
  go_wp2_with fail
  refine ((filterOf_impl _ n n K p _ o3.row hz).mono (hI _)).mono ?_
  rintro e w4 ⟨go, gc, rfl, U4, b4⟩
  have hB4 := below_new w4 (.cells #[.int .i64 y, .slice go L.length gc] 31)
  have bw4 := (bw3.trans (b4.mono bw3.size))
  have bw4' := bw4.trans (hB4.mono bw4.size)
  have X4 := (X3.keep b4).keep hB4
  have Y4 := FAt.new w4 y (.slice go L.length gc) 31
  have V4 := (V3.keep b4).keep hB4
  have U4' := U4.keep hB4
  have o4 := (o3.keep b4).keep hB4
  have s4 := b4.size
  have t4 : w4.heap.size ≤ (w4.alloc (.cells #[.int .i64 y, .slice go L.length gc] 31)).heap.size := by simp
  clear hB4 b4 bw3 X3 V3 U4 o3
  obtain ⟨lx, x0, x1⟩ := id X4
  obtain ⟨ly, y0, y1⟩ := id Y4
  go_wp2_with fail
  refine (eqFilterV y _ _ gc wc _ _ _ _ L _ U4' V4 hLm).mono ?_
  rintro e w5 ⟨rfl, b5⟩
  have bw5 := bw4'.trans (b5.mono bw4'.size)
  have X5 := X4.keep b5
  have Y5 := Y4.keep b5
  have V5 := V4.keep b5
  have U5 := U4'.keep b5
  have o5 := o4.keep b5
  have s5 := b5.size
  simp only [World.size_alloc] at s5
  clear b5 bw4' X4 Y4 V4 U4' o4 lx x0 x1 ly y0 y1
  go_wp2_with fail
  refine (toStringS_any ao n cap K _ (hr.keep bw5) hn).mono ?_
  rintro e w6 ⟨rfl, o6, b6⟩
  have bw6 := bw5.trans (b6.mono bw5.size)
  have X6 := X5.keep b6
  have Y6 := Y5.keep b6
  have V6 := V5.keep b6
  have U6 := U5.keep b6
  have p6 := o5.keep b6
  have s6 := b6.size
  clear b6 bw5 X5 Y5 V5 U5 o5
  go_wp2_with fail
  refine (eqStringS_same _ _ n n n K _ p6.row o6.row hn).mono ?_
  rintro e w7 ⟨rfl, b7⟩
  have bw7 := bw6.trans (b7.mono bw6.size)
  have X7 := X6.keep b7
  have Y7 := Y6.keep b7
  have V7 := V6.keep b7
  have U7 := U6.keep b7
  have p7 := p6.keep b7
  have s7 := b7.size
  clear b7 bw6 X6 Y6 V6 U6 p6 o6
  go_wp2_with fail
  refine (markStringS_any _ n n K _ p7 hn).mono ?_
  rintro e w8 ⟨rfl, X8⟩
  have hsz := bw2.size
  have hg := p7.lt
  have M8 := mid_grown X8
  have bw8 := bw7.trans (M8.below (C := w.heap.size) (by omega) (by omega))
  have Z8 := X7.mid M8 (by omega)
  have Y8 := Y7.mid M8 (by omega)
  have V8 := V7.mid M8 (by omega)
  have U8 := U7.mid M8 (by omega)
  have s8 := M8.size
  have hpos : ¬ (1 + (n : Int) < 0) := by omega
  have hposd : decide (1 + (n : Int) < 0) = false := by simp; omega
  clear M8 X8 X7 Y7 V7 U7 p7 bw7
  obtain ⟨lx, x0, x1⟩ := id Z8
  obtain ⟨ly, y0, y1⟩ := id Y8
  go_wp2_with fail
  refine (eqFilterV y _ _ gc wc _ _ _ _ L _ U8 V8 hLm).mono ?_
  rintro e w9 ⟨rfl, b9⟩
  have bw9 := bw8.trans (b9.mono bw8.size)
  have X9 := Z8.keep b9
  have Y9 := Y8.keep b9
  have V9 := V8.keep b9
  have U9 := U8.keep b9
  have s9 := b9.size
  clear b9 bw8 Z8 Y8 V8 U8 lx x0 x1 ly y0 y1
  obtain ⟨ly, y0, y1⟩ := id Y9
  go_wp2_with fail
  refine (markFilterV y go gc _ _ L _ U9 hLm).mono ?_
  rintro e w10 ⟨rfl, G10, M10⟩
  have bw10 := bw9.trans (M10.below (C := w.heap.size) (by omega) (by omega))
  have X10 := X9.mid M10 (by omega)
  have Y10 := Y9.mid M10 (by omega)
  have V10 := V9.mid M10 (by omega)
  have s10 := M10.size
  clear M10 X9 Y9 V9 U9 bw9 ly y0 y1
  obtain ⟨ly, y0, y1⟩ := id Y10
  go_wp2_with fail
  refine (heldFilter_yes y go L.length gc _ G10 hLm).mono ?_
  rintro e w11 ⟨rfl, b11⟩
  have bw11 := bw10.trans (b11.mono bw10.size)
  have X11 := X10.keep b11
  have Y11 := Y10.keep b11
  have V11 := V10.keep b11
  have G11 := G10.keep b11
  have s11 := b11.size
  clear b11 bw10 X10 Y10 V10 G10 ly y0 y1
  go_wp2_with fail
  refine (toStringS_any ao n cap K _ (hr.keep bw11) hn).mono ?_
  rintro e w12 ⟨rfl, o12, b12⟩
  have bw12 := bw11.trans (b12.mono bw11.size)
  have X12 := X11.keep b12
  have Y12 := Y11.keep b12
  have V12 := V11.keep b12
  have G12 := G11.keep b12
  clear b12 bw11 X11 Y11 V11 G11
  go_wp2_with fail
  refine ((filterOf_impl _ n n K p _ o12.row hz).mono (hI _)).mono ?_
  rintro e w13 ⟨ho, hc, rfl, H13, b13⟩
  have hB13 := below_new w13 (.cells #[.int .i64 y, .slice ho L.length hc] 31)
  have bw13 := (bw12.trans (b13.mono bw12.size))
  have bw13' := bw13.trans (hB13.mono bw13.size)
  have X13 := (X12.keep b13).keep hB13
  have Y13 := (Y12.keep b13).keep hB13
  have V13 := (V12.keep b13).keep hB13
  have G13 := (G12.keep b13).keep hB13
  have H13' := H13.keep hB13
  have T13 := FAt.new w13 y (.slice ho L.length hc) 31
  clear hB13 b13 bw12 X12 Y12 V12 G12 H13 o12
  obtain ⟨lx, x0, x1⟩ := id X13
  obtain ⟨ly, y0, y1⟩ := id Y13
  obtain ⟨lt, t0, t1⟩ := id T13
  go_wp2_with fail
  refine (eqFilterV y _ _ hc wc _ _ _ _ L _ H13' V13 hLm).mono ?_
  rintro e w14 ⟨rfl, b14⟩
  have bw14 := bw13'.trans (b14.mono bw13'.size)
  have Y14 := Y13.keep b14
  have G14 := G13.keep b14
  clear b14 X13 Y13 V13 G13 H13' T13 lx x0 x1 ly y0 y1 lt t0 t1
  obtain ⟨ly, y0, y1⟩ := id Y14
  go_wp2_with fail
  refine (heldFilter_yes y go L.length gc _ G14 hLm).mono ?_
  rintro e w15 ⟨rfl, b15⟩
  have bw15 := bw14.trans (b15.mono bw14.size)
  go_wp2
  go_ret
  exact ⟨rfl, bw15⟩
end Go.Proofs.Ytjcmjoipicaoeaa
