/- The law of RenameFile. -/
import Derived.Test.YtgedpjabjoodjaaDoorLOut
import Derived.Test.YtgedpjabjoodjaaDoorRenameB
namespace Go.Proofs.YtgedpjabjoodjaaDoor
open Go.RowKit
set_option linter.unusedSimpArgs false
set_option linter.unusedVariables false

set_option maxHeartbeats 4000000 in
theorem renameFile_law (Q : Int) (ao : Option Addr) (n cap : Nat) (F : Nat → Fil) (s t : ByteArray) (w : World) (hE : ET w) (hr : FRow w ao n F) (hq : -9223372036854775808 ≤ Q ∧ Q ≤ 9223372036854775807) (hnx : n ≤ 9223372036854775807) (hzx : FSize n F 9223372036854775807) (hsx : s.size ≤ 9223372036854775807) (htx : t.size ≤ 9223372036854775807) :
    Calls Tryd.prog 6 #[.agg #[.int .i64 Q, .slice ao n cap], .string s, .string t] w fun e w' => e = .returned (.bool true) ∧ Below w.heap.size w w' := by
  have hB : Below w.heap.size w (w.alloc (.cells #[.int .i64 Q, .slice ao n cap] 24)) := (Below.refl _ _).alloc (Nat.le_refl _) _
  have A0 := QAt.new w Q (.slice ao n cap) 24
  by_cases hs : s.size ≤ 1048576
  · have hsg : ¬ (1048576 : Int) < (s.size : Int) := by omega
    by_cases ht : t.size ≤ 1048576
    · have htg : ¬ (1048576 : Int) < (t.size : Int) := by omega
      go_enter Tryd.func6, Tryd.ntmps6
      obtain ⟨la, a0, a1⟩ := id A0
      go_wp2_with fail
      refine (szFiles_tot Q ao n cap F 1048576 _ (hr.keep hB) (by omega) hnx hzx).mono ?_
      rintro e w1 ⟨v, rfl, hv1, hv2, hv3, hb1⟩
      have A1 := A0.keep hb1
      have bw1 : Below w.heap.size w w1 := hB.trans (hb1.mono (by simp))
      clear hb1 hB A0 la a0 a1
      by_cases hv : v < 0
      · clear hv3
        go_wp2
        go_ret
        exact ⟨rfl, bw1⟩
      · obtain ⟨htot, hn, hz⟩ := hv3 (by omega)
        have hcK : cK F n ≤ 4194304 := by unfold cK; omega
        have HCK : Hid (cK F n ≤ 4194304) := hcK
        have hcp : decide (((cK F n : Nat) : Int) < 0) = false := by simp
        clear hv3 hnx hzx htot hcK
        obtain ⟨Q', c, m, Fo, hm, hzo, hcKo, hSp, hIm⟩ := renameFile_both Q n F s t hs ht hq hn hz hr.bd
        have HS := hSp
        have HI := hIm
        have HCO : Hid (cK Fo m ≤ 4194304) := hcKo
        have hcpo : decide (((cK Fo m : Nat) : Int) < 0) = false := by simp
        clear hSp hIm hcKo
        generalize hck : cK F n = ck at hcp HCK
        have HC : Hid (cK F n = ck) := hck
        clear hck
        generalize hco : cK Fo m = co at hcpo HCO
        have HO : Hid (cK Fo m = co) := hco
        clear hco
        obtain ⟨la, a0, a1⟩ := id A1
        go_wp2_with fail
        refine (toFiles_any Q ao n cap F _ (hr.keep bw1) hn hz).mono ?_
        rintro e w2 ⟨g2, G2, rfl, hg2, ho2, hb2⟩
        have A2 := A1.keep hb2
        have bw2 : Below w.heap.size w w2 := bw1.trans (hb2.mono bw1.size)
        clear hb2 bw1 la a0 a1 A1
        go_wp2_with fail
        refine (HS _ _ _ ho2.row).mono ?_
        rintro e w3 ⟨a3, c3, rfl, hr3, hb3⟩
        have hB3 : Below w3.heap.size w3 (w3.alloc (.cells #[.int .i64 Q', .slice a3 m c3] 28)) := (Below.refl _ _).alloc (Nat.le_refl _) _
        have A3 := (A2.keep hb3).keep hB3
        have W3 := QAt.new w3 Q' (.slice a3 m c3) 28
        have bw3 : Below w.heap.size w w3 := bw2.trans (hb3.mono bw2.size)
        have bwB : Below w.heap.size w (w3.alloc (.cells #[.int .i64 Q', .slice a3 m c3] 28)) := bw3.trans (hB3.mono bw3.size)
        have hw3 : w.heap.size < w3.heap.size := (A2.keep hb3).lt
        clear hb3 A2 bw2 ho2 HS bw3
        obtain ⟨la, a0, a1⟩ := id A3
        go_wp2_with fail
        refine (toFiles_any Q ao n cap F _ (hr.keep bwB) hn hz).mono ?_
        rintro e w4 ⟨g4, G4, rfl, hg4, ho4, hb4⟩
        have hB4 : Below w4.heap.size w4 (w4.alloc (.cells #[.int .i64 Q, .slice (some ⟨g4, 0, none⟩) n n] 28)) := (Below.refl _ _).alloc (Nat.le_refl _) _
        have s34 : w3.heap.size + 1 ≤ w4.heap.size := by have := hb4.size; simpa using this
        have hg4' : w3.heap.size + 1 ≤ g4 := by simpa using hg4
        have fb4 : FV w4 (w3.heap.size + 1) w4.heap.size (some ⟨g4, 0, none⟩) n F G4 := .inr ⟨g4, rfl, ho4.box hg4' ho4.lt (fun i hi => (ho4.data i hi hi).2.lt)⟩
        have fbX := fb4.keep hB4
        have AX := (A3.keep hb4).keep hB4
        have WX := (W3.keep hb4).keep hB4
        have X4 := QAt.new w4 Q (.slice (some ⟨g4, 0, none⟩) n n) 28
        have b3X : Below w3.heap.size w3 (w4.alloc (.cells #[.int .i64 Q, .slice (some ⟨g4, 0, none⟩) n n] 28)) := (hB3.trans (hb4.mono (by simp))).trans (hB4.mono (by omega))
        have bwX : Below w.heap.size w (w4.alloc (.cells #[.int .i64 Q, .slice (some ⟨g4, 0, none⟩) n n] 28)) := (bwB.trans (hb4.mono bwB.size)).trans (hB4.mono (by omega))
        have hEX := hE.keep bwX
        clear hb4 hB4 bwB la a0 a1 ho4 fb4 A3 W3 hB3
        obtain ⟨lx, x0, x1⟩ := id X4
        go_wp2_with fail
        refine (HI _ _ _ fbX.row hEX).mono ?_
        rintro e w5 ⟨a5, c5, G5, rfl, hf5, hb5⟩
        have hB5 : Below w5.heap.size w5 (w5.alloc (.cells #[.int .i64 Q', .slice a5 m c5] 28)) := (Below.refl _ _).alloc (Nat.le_refl _) _
        have s45 : w4.heap.size + 1 ≤ w5.heap.size := by have := hb5.size; simpa using this
        rw [World.size_alloc] at hf5
        have R : RG w w3 (w3.heap.size + 1) w4.heap.size w4.heap.size w5.heap.size Q ao n cap g4 F G4 Q' m a3 c3 Fo a5 c5 Fo G5 (w5.alloc (.cells #[.int .i64 Q', .slice a5 m c5] 28)) :=
          ⟨⟨hw3, by omega, s34, Nat.le_refl _, by omega, by simp⟩, (AX.keep hb5).keep hB5, (WX.keep hb5).keep hB5, (X4.keep hb5).keep hB5, QAt.new w5 Q' (.slice a5 m c5) 28, (fbX.keep hb5).keep hB5, hr3, (b3X.trans (hb5.mono (by simp; omega))).trans (hB5.mono (by omega)), hf5.keep hB5, (bwX.trans (hb5.mono bwX.size)).trans (hB5.mono (by omega))⟩
        clear hf5 hb5 hB5 AX WX X4 fbX b3X bwX hEX lx x0 x1 hr3
        obtain ⟨lg, g0, g1⟩ := R.kg
        obtain ⟨lw, v0, v1⟩ := R.kw
        go_wp2_with fail
        refine (eqFiles_same Q' a5 a3 m c5 c3 Fo _ R.fg.row R.row3 hm hzo).mono ?_
        rintro e w6 ⟨rfl, hb6⟩
        have R6 := R.keep hb6
        clear R hb6 lg g0 g1 lw v0 v1
        obtain ⟨la, a0, a1⟩ := R6.ka
        obtain ⟨lx, x0, x1⟩ := R6.kx
        have hrd := (hr.keep R6.bel).keep (Below.refl _ _).drew
        go_wp2
        go_region_held3 (fun w' => w'.cell? ⟨w4.heap.size, 0, none⟩ = some (.int .i64 Q) ∧ w'.cell? ⟨w4.heap.size, 1, none⟩ = some (.slice (some ⟨g4, 0, none⟩) n n) ∧ w'.cell? ⟨w.heap.size, 0, none⟩ = some (.int .i64 Q) ∧ w'.cell? ⟨w.heap.size, 1, none⟩ = some (.slice ao n cap)) (go_keep) (first | (go_at_call 12; refine (toFiles_any Q ao n cap F _ hrd hn hz).mono ?_; rintro e w7 ⟨g7, G7, rfl, hg7, ho7, hb7⟩; have R7 := R6.keep ((Below.refl _ w6).drew.trans hb7); obtain ⟨la7, p0, p1⟩ := R7.ka; obtain ⟨lx7, q0, q1⟩ := R7.kx; clear hb7) | (go_at_call 14; refine (eqFiles_same Q _ _ n n n F _ R7.fx.row ho7.row hn hz).mono ?_; rintro e w8 ⟨rfl, hb8⟩; have R8 := R7.keep hb8; obtain ⟨la8, pp0, pp1⟩ := R8.ka; obtain ⟨lx8, qq0, qq1⟩ := R8.kx; clear hb8))
        clear R6 la a0 a1 lx x0 x1 hrd R7 la7 p0 p1 lx7 q0 q1 ho7 la8 pp0 pp1 lx8 qq0 qq1 hg7
        obtain ⟨lx, x0, x1⟩ := R8.kx
        go_wp2_with fail
        refine (R8.fx.marked Q (cap := n) hn hz (by rw [HC.out]; exact HCK.out)).mono ?_
        rintro e w9 ⟨rfl, hf9, hM9⟩
        rw [HC.out]
        have R9 := R8.files hM9 hf9
        clear R8 hM9 hf9 lx x0 x1
        obtain ⟨lg, g0, g1⟩ := R9.kg
        obtain ⟨lw, v0, v1⟩ := R9.kw
        go_wp2_with fail
        refine (eqFiles_same Q' a5 a3 m c5 c3 Fo _ R9.fg.row R9.row3 hm hzo).mono ?_
        rintro e w10 ⟨rfl, hb10⟩
        have R10 := R9.keep hb10
        clear R9 hb10 lg g0 g1 lw v0 v1
        obtain ⟨lg, g0, g1⟩ := R10.kg
        go_wp2_with fail
        refine (R10.fg.marked Q' (cap := c5) hm hzo (by rw [HO.out]; exact HCO.out)).mono ?_
        rintro e w11 ⟨rfl, hf11, hM11⟩
        rw [HO.out]
        have R11 := R10.gfiles hM11 hf11
        clear R10 hM11 hf11 lg g0 g1
        obtain ⟨lg, g0, g1⟩ := R11.kg
        go_wp2_with fail
        refine (heldFiles_yes Q' a5 m c5 Fo _ R11.fg.row hm hzo (by rw [HO.out]; exact HCO.out)).mono ?_
        rintro e w12 ⟨rfl, hb12⟩
        rw [HO.out]
        have R12 := R11.keep hb12
        clear R11 hb12 lg g0 g1
        obtain ⟨la, a0, a1⟩ := R12.ka
        go_wp2_with fail
        refine (toFiles_any Q ao n cap F _ (hr.keep R12.bel) hn hz).mono ?_
        rintro e w13 ⟨g13, G13, rfl, hg13, ho13, hb13⟩
        have R13 := R12.keep hb13
        have hE13 := hE.keep R13.bel
        clear R12 hb13 la a0 a1
        go_wp2_with fail
        refine (HI _ _ _ ho13.row hE13).mono ?_
        rintro e w14 ⟨a14, c14, G14, rfl, hg14, hb14⟩
        have hB14 : Below w14.heap.size w14 (w14.alloc (.cells #[.int .i64 Q', .slice a14 m c14] 28)) := (Below.refl _ _).alloc (Nat.le_refl _) _
        have R14 := (R13.keep hb14).keep hB14
        have row14 := hg14.row.keep hB14
        have H14 := QAt.new w14 Q' (.slice a14 m c14) 28
        clear R13 hb14 hg14 ho13 hE13 hg13 hB14
        obtain ⟨lh, k0, k1⟩ := id H14
        obtain ⟨lw, v0, v1⟩ := R14.kw
        go_wp2_with fail
        refine (eqFiles_same Q' a14 a3 m c14 c3 Fo _ row14 R14.row3 hm hzo).mono ?_
        rintro e w15 ⟨rfl, hb15⟩
        have R15 := R14.keep hb15
        clear R14 hb15 row14 lh k0 k1 lw v0 v1 H14
        obtain ⟨lg, g0, g1⟩ := R15.kg
        go_wp2_with fail
        refine (heldFiles_yes Q' a5 m c5 Fo _ R15.fg.row hm hzo (by rw [HO.out]; exact HCO.out)).mono ?_
        rintro e w16 ⟨rfl, hb16⟩
        rw [HO.out]
        have R16 := R15.keep hb16
        clear R15 hb16 lg g0 g1
        go_wp2
        go_ret
        exact ⟨rfl, R16.bel⟩
    · have htg : (1048576 : Int) < (t.size : Int) := by omega
      go_enter Tryd.func6, Tryd.ntmps6
      go_wp2
      go_ret
      exact ⟨rfl, hB⟩
  · have hsg : (1048576 : Int) < (s.size : Int) := by omega
    go_enter Tryd.func6, Tryd.ntmps6
    go_wp2
    go_ret
    exact ⟨rfl, hB⟩
end Go.Proofs.YtgedpjabjoodjaaDoor
