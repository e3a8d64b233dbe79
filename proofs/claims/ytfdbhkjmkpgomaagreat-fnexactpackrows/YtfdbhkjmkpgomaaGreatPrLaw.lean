/- The law of PackRows, walked. -/
import Derived.Test.YtfdbhkjmkpgomaaGreatPt8
import Derived.Test.YtfdbhkjmkpgomaaGreatLw
namespace Go.Proofs.YtfdbhkjmkpgomaaGreat
set_option maxRecDepth 100000
open Go.RowKit
set_option linter.unusedSimpArgs false
set_option linter.unusedVariables false

set_option maxHeartbeats 4000000 in
theorem packRows_law (ao : Option Addr) (N cap : Nat) (R : Nat → Nat → Ent) (M : Nat → Nat) (bt : Bool) (w : World) (hr : RRow w ao N R M) (hnx : N ≤ 9223372036854775807) :
    Calls Tryz.prog 3 #[.slice ao N cap, .bool bt] w fun e w' => e = .returned (.bool true) ∧ Below w.heap.size w w' := by
  go_enter Tryz.func3, Tryz.ntmps3
  go_wp2_with fail
  refine (szEntrySS_tot ao N cap R M 1048576 _ hr (by omega) hnx).mono ?_
  rintro e w1 ⟨v, rfl, hv1, hv2, hv3, bw1⟩
  by_cases hv : v < 0
  · clear hv3
    go_wp2
    go_ret
    exact ⟨rfl, bw1⟩
  have htot := hv3 (by omega)
  have hn : N ≤ 1048576 := by omega
  have hsm : sm (dR R M) N ≤ 1048576 := by have := sm_dR R M N; omega
  have hz := dR_size htot
  have hkX := kOfR_tot R M N
  clear hv3 hnx
  obtain ⟨E, c, hSm, hEl, hA⟩ := pro_of hr bt
  have hmS := mg_sm hr

  have hEb := hSm.eb
  have hEf := hSm.fb
  have hzE := hSm.sz
  have hE1 : E.length ≤ 1048576 := by omega
  have hkE := hSm.k
  go_wp2_with fail
  refine (toRA ao N cap R M _ (hr.keep bw1) htot).mono ?_
  rintro e w2 ⟨rfl, o2, hb2⟩
  have bw2 := bw1.trans (hb2.mono bw1.size)
  go_wp2_with fail
  refine (((packRows_spec _ _ N N (dR R M) bt _ (o2.lr hr.bd) hn hsm hz hmS).mono (hA _))).mono ?_
  rintro e w3 ⟨vw, rfl, OW, hb3⟩
  have bw3 := bw2.trans (hb3.mono bw2.size)
  obtain ⟨wo, wc, rfl⟩ := OW.form
  clear hb2 hb3 o2
  go_wp2_with fail
  refine (toRA ao N cap R M _ (hr.keep bw3) htot).mono ?_
  rintro e w4 ⟨rfl, o4, hb4⟩
  have bw4 := bw3.trans (hb4.mono bw3.size)
  have OW4 := OW.keep hb4
  have s34 := o4.lt.1
  have s4 := hb4.size
  go_wp2_with fail
  refine (((packRows_impl _ _ N N (dR R M) bt _ (o4.lr hr.bd) hn hsm hz hmS).mono (hA _))).mono ?_
  rintro e w5 ⟨vg, rfl, OG, hb5⟩
  have bw5 := bw4.trans (hb5.mono bw4.size)
  obtain ⟨go, gc, rfl⟩ := OG.form
  have OW5 := OW4.keep hb5
  have x5 := o4.keep hb5
  have s5 := hb5.size
  clear OW OW4 o4 hb4 hb5
  go_wp2_with fail
  refine (eqEntryS_same go wo E.length gc wc (eL E) _ (OG.erow hEb hEf).2 (OW5.erow hEb hEf).2 hE1 hzE).mono ?_
  rintro e w6 ⟨rfl, hb6⟩
  have bw6 := bw5.trans (hb6.mono bw5.size)
  have OW6 := OW5.keep hb6
  have OG6 := OG.keep hb6
  have x6 := x5.keep hb6
  have s6 := hb6.size
  clear OW5 OG x5 hb6
  go_wp2_with fail
  refine (toRA ao N cap R M _ (hr.keep bw6) htot).mono ?_
  rintro e w7 ⟨rfl, o7, hb7⟩
  have bw7 := bw6.trans (hb7.mono bw6.size)
  have OW7 := OW6.keep hb7
  have OG7 := OG6.keep hb7
  have x7 := x6.keep hb7
  have s7 := hb7.size
  clear OW6 OG6 x6 hb7
  go_wp2_with fail
  refine (eqEntrySS_same _ _ N N N R M _ (x7.row hr.bd hr.len) (o7.row hr.bd hr.len) htot).mono ?_
  rintro e w8 ⟨rfl, hb8⟩
  have bw8 := bw7.trans (hb8.mono bw7.size)
  have OW8 := OW7.keep hb8
  have OG8 := OG7.keep hb8
  have x8 := x7.keep hb8
  have s8 := hb8.size
  clear OW7 OG7 x7 hb8 o7
  have hmx := markRA _ _ N 1 R M _ x8 rfl htot (by omega)
  go_wp2_with fail
  refine hmx.mono ?_
  rintro e w9 ⟨rfl, hco⟩
  have bw9 : Below w.heap.size w w9 := bw8.trans (hco.below bw3.size bw8.size)
  have OW9 := OW8.same hco.size (fun q _ hq => hco.block q (by have := OW8.1; omega) (.inl (by omega)))
  have OG9 := OG8.same hco.size (fun q hq1 hq2 => hco.block q (by have := OG8.1; omega) (.inr hq1))
  have s9 := hco.size
  have hpos : ¬ ((kOfR R M 1 N : Nat) : Int) < 0 := by omega
  have hposd : decide (((kOfR R M 1 N : Nat) : Int) < 0) = false := by simp
  generalize ((kOfR R M 1 N : Nat) : Int) = kk at hpos hposd ⊢
  clear OW8 OG8 x8 hco hmx
  go_wp2_with fail
  refine (eqEntryS_same go wo E.length gc wc (eL E) _ (OG9.erow hEb hEf).2 (OW9.erow hEb hEf).2 hE1 hzE).mono ?_
  rintro e w10 ⟨rfl, hb10⟩
  have bw10 := bw9.trans (hb10.mono bw9.size)
  have OW10 := OW9.keep hb10
  have OG10 := OG9.keep hb10
  have s10 := hb10.size
  clear OW9 OG9 hb10
  go_wp2_with fail
  refine (markCA _ _ _ E _ go E.length gc rfl OG10 (fun i hi => (hzE i hi).2) hE1 (by omega)).mono ?_
  rintro e w11 ⟨rfl, hheld, m1, m2, m3, m4, m5⟩
  have hb11 : Rng w4.heap.size w5.heap.size w10 w11 := ⟨m1, m2, m3, m4, m5⟩
  have bw11 : Below w.heap.size w w11 := bw10.trans (hb11.below bw4.size bw10.size)
  have OW11 := OW10.same hb11.size (fun q _ hq => hb11.block q (by have := OW10.1; omega) (.inl (by omega)))
  have hqp : ¬ ((kOf (eL E) 1 E.length : Nat) : Int) < 0 := by omega
  have hqd : decide (((kOf (eL E) 1 E.length : Nat) : Int) < 0) = false := by simp
  generalize ((kOf (eL E) 1 E.length : Nat) : Int) = qq at hheld hqp hqd ⊢
  clear OW10 OG10 hb11 m1 m2 m3 m4 m5
  go_wp2_with fail
  refine (hheld _ (Below.refl _ _)).mono ?_
  rintro e w12 ⟨rfl, hb12⟩
  have bw12 := bw11.trans (hb12.mono bw11.size)
  have OW12 := OW11.keep hb12
  go_wp2_with fail
  refine (toRA ao N cap R M _ (hr.keep bw12) htot).mono ?_
  rintro e w13 ⟨rfl, o13, hb13⟩
  have bw13 := bw12.trans (hb13.mono bw12.size)
  have OW13 := OW12.keep hb13
  go_wp2_with fail
  refine (((packRows_impl _ _ N N (dR R M) bt _ (o13.lr hr.bd) hn hsm hz hmS).mono (hA _))).mono ?_
  rintro e w14 ⟨vh, rfl, OH, hb14⟩
  have bw14 := bw13.trans (hb14.mono bw13.size)
  have OW14 := OW13.keep hb14
  obtain ⟨po, pc, rfl⟩ := OH.form
  go_wp2_with fail
  refine (eqEntryS_same po wo E.length pc wc (eL E) _ (OH.erow hEb hEf).2 (OW14.erow hEb hEf).2 hE1 hzE).mono ?_
  rintro e w15 ⟨rfl, hb15⟩
  have bw15 := bw14.trans (hb15.mono bw14.size)
  have hfar : Below w11.heap.size w11 w15 := ((hb12.trans (hb13.mono hb12.size)).trans (hb14.mono (Nat.le_trans hb12.size hb13.size))).trans (hb15.mono (Nat.le_trans (Nat.le_trans hb12.size hb13.size) hb14.size))
  clear hb12 hb13 hb14 hb15 OW11 OW12 OW13 OW14 OH o13
  go_wp2_with fail
  refine (hheld _ hfar).mono ?_
  rintro e w16 ⟨rfl, hb16⟩
  have bw16 := bw15.trans (hb16.mono bw15.size)
  clear hb16
  go_wp2
  go_ret
  exact ⟨rfl, bw16⟩
end Go.Proofs.YtfdbhkjmkpgomaaGreat
