/- The law of FindInTable, walked. -/
import Derived.Test.YtohjjigkfdhklaaGreatLift
import Derived.Test.YtohjjigkfdhklaaGreatQe
namespace Go.Proofs.YtohjjigkfdhklaaGreat
set_option maxRecDepth 100000
open Go.RowKit
set_option linter.unusedSimpArgs false
set_option linter.unusedVariables false

set_option maxHeartbeats 8000000 in
theorem findInTable_law (ao : Option Addr) (n cap : Nat) (f : Nat → Int) (s : ByteArray) (w : World) (hr : Row w ao n f) (hnx : n ≤ maxLen) (hsx : s.size ≤ maxLen) :
    Calls Tryz.prog 4 #[.slice ao n cap, .string s] w fun e w' => e = .returned (.bool true) ∧ Below w.heap.size w w' := by
  by_cases hks : 1048576 < n
  · go_enter Tryz.func4, Tryz.ntmps4
    go_wp2
    go_ret
    exact ⟨rfl, Below.refl _ _⟩
  by_cases hkt : 1048576 < s.size
  · have hni : ¬ (1048576 : Int) < (n : Int) := by omega
    go_enter Tryz.func4, Tryz.ntmps4
    go_wp2
    go_ret
    exact ⟨rfl, Below.refl _ _⟩
  have hn : n ≤ 1048576 := by omega
  have hs : s.size ≤ 1048576 := by omega
  clear hnx hsx
  obtain ⟨Z, m, K, c, hK⟩ := ftk_ex f n s
  have HK : Hid (FTk f n s Z m K c) := hK
  have hm : m ≤ 100 := hK.few
  clear hK
  have hcc : (c != c) = false := by simp
  have hKK : (K != K) = false := by simp
  go_enter Tryz.func4, Tryz.ntmps4
  go_wp2_with fail
  refine (toByteS_any ao n cap f _ hr hn).mono ?_
  rintro e w2 ⟨rfl, o2, bw2⟩
  go_wp2_with fail
  refine (findInTable_spec Z m K c _ 0 n n f s _ HK.out o2.row o2.lt hn (Nat.le_refl _) hs).mono ?_
  rintro e w3 ⟨vw, XW, rfl, OW, GW, b3⟩
  have bw3 := bw2.trans (b3.mono bw2.size)
  obtain ⟨wo, wc, rfl⟩ := OW.form
  clear o2 b3
  go_wp2_with fail
  refine (toByteS_any ao n cap f _ (hr.keep bw3) hn).mono ?_
  rintro e w4 ⟨rfl, o4, b4⟩
  have bw4 := bw3.trans (b4.mono bw3.size)
  have OW4 := OW.keep b4
  have s34 := o4.lt
  have s4 := b4.size
  clear OW b4
  go_wp2_with fail
  refine (findInTable_impl Z m K c _ 0 n n f s _ HK.out o4.row o4.lt hn (Nat.le_refl _) hs).mono ?_
  rintro e w5 ⟨vg, XG, rfl, OG, GG, b5⟩
  have bw5 := bw4.trans (b5.mono bw4.size)
  obtain ⟨go, gc, rfl⟩ := OG.form
  have OW5 := OW4.keep b5
  have x5 := o4.keep b5
  have s5 := b5.size
  have hE1 : m ≤ 1048576 := by omega
  have hkE := kOf_few GG.n8 m (Nat.le_refl _)
  clear OW4 o4 b5
  go_wp2_with fail
  refine (eqEntryS_same go wo m gc wc XW _ (GG.rows GW (OG.erow GG.eb GG.fx).2) (OW5.erow GW.eb GW.fx).2 hE1 GW.sz).mono ?_
  rintro e w6 ⟨rfl, b6⟩
  have bw6 := bw5.trans (b6.mono bw5.size)
  have OW6 := OW5.keep b6
  have OG6 := OG.keep b6
  have x6 := x5.keep b6
  have s6 := b6.size
  clear OW5 OG x5 b6
  go_wp2_with fail
  refine (toByteS_any ao n cap f _ (hr.keep bw6) hn).mono ?_
  rintro e w7 ⟨rfl, o7, b7⟩
  have bw7 := bw6.trans (b7.mono bw6.size)
  have OW7 := OW6.keep b7
  have OG7 := OG6.keep b7
  have x7 := x6.keep b7
  have s7 := b7.size
  clear OW6 OG6 x6 b7
  go_wp2_with fail
  refine (eqByteS_same _ _ n n n f _ x7.row o7.row hn).mono ?_
  rintro e w8 ⟨rfl, b8⟩
  have bw8 := bw7.trans (b8.mono bw7.size)
  have OW8 := OW7.keep b8
  have OG8 := OG7.keep b8
  have x8 := x7.keep b8
  have s8 := b8.size
  clear OW7 OG7 x7 b8 o7
  have hmx := mark_one _ 0 n n f _ x8 hn
  go_wp2_with fail
  refine hmx.mono ?_
  rintro e w9 ⟨rfl, _, hco⟩
  have bw9 : Below w.heap.size w w9 := bw8.trans (hco.below bw3.size)
  have OW9 := OW8.same (by rw [hco.size]; exact Nat.le_refl _) (fun q _ hq => hco.block q (by omega))
  have OG9 := OG8.same (by rw [hco.size]; exact Nat.le_refl _) (fun q hq1 hq2 => hco.block q (by omega))
  have s9 := hco.size
  have hpos : ¬ ((n : Int) + 1) < 0 := by omega
  have hposd : decide (((n : Int) + 1) < 0) = false := by simp; omega
  generalize ((n : Int) + 1) = kk at hpos hposd ⊢
  clear OW8 OG8 x8 hco hmx
  go_wp2_with fail
  refine (eqEntryS_same go wo m gc wc XW _ (GG.rows GW (OG9.erow GG.eb GG.fx).2) (OW9.erow GW.eb GW.fx).2 hE1 GW.sz).mono ?_
  rintro e w10 ⟨rfl, b10⟩
  have bw10 := bw9.trans (b10.mono bw9.size)
  have OW10 := OW9.keep b10
  have OG10 := OG9.keep b10
  have s10 := b10.size
  clear OW9 OG9 b10
  go_wp2_with fail
  refine (markCX _ _ _ m XG _ OG10 (fun i hi => by have := GG.n8 i hi; omega) hE1 (by omega)).mono ?_
  rintro e w11 ⟨rfl, hheld, m1, m2, m3, m4, m5⟩
  have bw11 : Below w.heap.size w w11 := ⟨m1.trans bw10.os, m2.trans bw10.tape, m3.trans bw10.output, Nat.le_trans bw10.size m4, fun q hq => (m5 q (by have := bw10.size; omega) (.inl (by have := bw4.size; omega))).trans (bw10.block q hq)⟩
  have OW11 := OW10.same m4 (fun q _ hq => m5 q (by have := OW10.1; omega) (.inl (by omega)))
  have hqp : ¬ ((kOf XG 1 m : Nat) : Int) < 0 := by omega
  have hqd : decide (((kOf XG 1 m : Nat) : Int) < 0) = false := by simp
  generalize ((kOf XG 1 m : Nat) : Int) = qq at hheld hqp hqd ⊢
  clear OW10 OG10 m1 m2 m3 m4 m5
  go_wp2_with fail
  refine (hheld _ (Below.refl _ _)).mono ?_
  rintro e w12 ⟨rfl, b12⟩
  have bw12 := bw11.trans (b12.mono bw11.size)
  have OW12 := OW11.keep b12
  go_wp2_with fail
  refine (toByteS_any ao n cap f _ (hr.keep bw12) hn).mono ?_
  rintro e w13 ⟨rfl, o13, b13⟩
  have bw13 := bw12.trans (b13.mono bw12.size)
  have OW13 := OW12.keep b13
  go_wp2_with fail
  refine (findInTable_impl Z m K c _ 0 n n f s _ HK.out o13.row o13.lt hn (Nat.le_refl _) hs).mono ?_
  rintro e w14 ⟨vh, XH, rfl, OH, GH, b14⟩
  have bw14 := bw13.trans (b14.mono bw13.size)
  have OW14 := OW13.keep b14
  obtain ⟨po, pc, rfl⟩ := OH.form
  go_wp2_with fail
  refine (eqEntryS_same po wo m pc wc XW _ (GH.rows GW (OH.erow GH.eb GH.fx).2) (OW14.erow GW.eb GW.fx).2 hE1 GW.sz).mono ?_
  rintro e w15 ⟨rfl, b15⟩
  have bw15 := bw14.trans (b15.mono bw14.size)
  have hfar : Below w11.heap.size w11 w15 := ((b12.trans (b13.mono b12.size)).trans (b14.mono (Nat.le_trans b12.size b13.size))).trans (b15.mono (Nat.le_trans (Nat.le_trans b12.size b13.size) b14.size))
  clear b12 b13 b14 b15 OW11 OW12 OW13 OW14 OH o13
  go_wp2_with fail
  refine (hheld _ hfar).mono ?_
  rintro e w16 ⟨rfl, b16⟩
  have bw16 := bw15.trans (b16.mono bw15.size)
  clear b16
  go_wp2
  go_ret
  exact ⟨rfl, bw16⟩
end Go.Proofs.YtohjjigkfdhklaaGreat
