/- The law of SplitRows, walked. -/
import Derived.Test.YtfdbhkjmkpgomaaSm
import Derived.Test.YtfdbhkjmkpgomaaLw
namespace Go.Proofs.Ytfdbhkjmkpgomaa
open Go.RowKit
set_option linter.unusedSimpArgs false
set_option linter.unusedVariables false

set_option maxHeartbeats 4000000 in
theorem splitRows_law (ao : Option Addr) (n cap : Nat) (X : Nat → Ent) (most : Int) (w : World) (hr : ERow w ao n X) (hnx : n ≤ 9223372036854775807) (hmx : -9223372036854775808 ≤ most ∧ most ≤ 9223372036854775807) :
    Calls Try.prog 5 #[.slice ao n cap, .int .i64 most] w fun e w' => e = .returned (.bool true) ∧ Below w.heap.size w w' := by
  go_enter Try.func5, Try.ntmps5
  go_wp2_with fail
  refine (szEntryS_tot ao n cap X 1048576 _ hr (by omega) hnx).mono ?_
  rintro e w1 ⟨v, rfl, hv1, hv2, hv3, bw1⟩
  by_cases hv : v < 0
  · clear hv3
    go_wp2
    go_ret
    exact ⟨rfl, bw1⟩
  have htot := hv3 (by omega)
  have hn : n ≤ 1048576 := by omega
  have hz : ESize n X := tot_size (by omega)
  have hkX := kOf_tot X n
  clear hv3 hnx
  obtain ⟨Ps, c, hSm, hPl, htP, hAs, hAi⟩ := spo_of (most := most) hr
  have hkP := kOfR_tot (XR Ps) (MR Ps) Ps.length
  go_wp2_with fail
  refine (toLA ao n cap X _ (hr.keep bw1) hn hz).mono ?_
  rintro e w2 ⟨rfl, o2, hb2⟩
  have bw2 := bw1.trans (hb2.mono bw1.size)
  go_wp2_with fail
  refine ((splitRows_spec _ _ n n X most _ (o2.row hr.bd) hn hz).mono (hAs _)).mono ?_
  rintro e w3 ⟨wo, wc, rfl, OW, hb3⟩
  have bw3 := bw2.trans (hb3.mono bw2.size)
  clear hb2 hb3 o2
  go_wp2_with fail
  refine (toLA ao n cap X _ (hr.keep bw3) hn hz).mono ?_
  rintro e w4 ⟨rfl, o4, hb4⟩
  have bw4 := bw3.trans (hb4.mono bw3.size)
  have bo4 : Below w3.heap.size w3 w4 := hb4
  have s34 := o4.lt.1
  have s4 := hb4.size
  go_wp2_with fail
  refine ((splitRows_impl _ _ n n X most _ (o4.row hr.bd) hn hz (Nat.le_refl _)).mono (hAi _)).mono ?_
  rintro e w5 ⟨vg, rfl, OG, hb5⟩
  have bw5 := bw4.trans (hb5.mono bw4.size)
  have bo5 := bo4.trans (hb5.mono bo4.size)
  obtain ⟨go, gc, rfl⟩ := OG.form
  have x5 := o4.keep hb5
  have s5 := hb5.size
  clear o4 hb4 hb5
  go_wp2_with fail
  refine (eqEntrySS_same go wo Ps.length gc wc (XR Ps) (MR Ps) _ (OG.rrow hSm hPl) (OW.keep bo5) htP).mono ?_
  rintro e w6 ⟨rfl, hb6⟩
  have bw6 := bw5.trans (hb6.mono bw5.size)
  have bo6 := bo5.trans (hb6.mono bo5.size)
  have OG6 := OG.keep hb6
  have x6 := x5.keep hb6
  have s6 := hb6.size
  clear OG x5 hb6
  go_wp2_with fail
  refine (toLA ao n cap X _ (hr.keep bw6) hn hz).mono ?_
  rintro e w7 ⟨rfl, o7, hb7⟩
  have bw7 := bw6.trans (hb7.mono bw6.size)
  have bo7 := bo6.trans (hb7.mono bo6.size)
  have OG7 := OG6.keep hb7
  have x7 := x6.keep hb7
  have s7 := hb7.size
  clear OG6 x6 hb7
  go_wp2_with fail
  refine (eqEntryS_same _ _ n n n X _ (x7.row hr.bd) (o7.row hr.bd) hn hz).mono ?_
  rintro e w8 ⟨rfl, hb8⟩
  have bw8 := bw7.trans (hb8.mono bw7.size)
  have bo8 := bo7.trans (hb8.mono bo7.size)
  have OG8 := OG7.keep hb8
  have x8 := x7.keep hb8
  have s8 := hb8.size
  clear OG7 x7 hb8 o7
  have hmx := markLA _ _ n 1 X _ x8 (by omega) (fun i hi => (hz i hi).2) hn (by omega)
  go_wp2_with fail
  refine hmx.mono ?_
  rintro e w9 ⟨rfl, hco⟩
  have bw9 : Below w.heap.size w w9 := bw8.trans (hco.below bw3.size bw8.size)
  have bo9 : Below w3.heap.size w3 w9 := bo8.trans (hco.below (Nat.le_refl _) bo8.size)
  have OG9 := OG8.same hco.size (fun q hq1 hq2 => hco.block q hq1 (.inr hq2))
  have s9 := hco.size
  have hpos : ¬ ((kOf X 1 n : Nat) : Int) < 0 := by omega
  have hposd : decide (((kOf X 1 n : Nat) : Int) < 0) = false := by simp
  generalize ((kOf X 1 n : Nat) : Int) = kk at hpos hposd ⊢
  clear OG8 x8 hco hmx
  go_wp2_with fail
  refine (eqEntrySS_same go wo Ps.length gc wc (XR Ps) (MR Ps) _ (OG9.rrow hSm hPl) (OW.keep bo9) htP).mono ?_
  rintro e w10 ⟨rfl, hb10⟩
  have bw10 := bw9.trans (hb10.mono bw9.size)
  have bo10 := bo9.trans (hb10.mono bo9.size)
  have OG10 := OG9.keep hb10
  have s10 := hb10.size
  clear OG9 hb10
  go_wp2_with fail
  refine (markSAn _ _ Ps _ OG10 htP).mono ?_
  rintro e w11 ⟨rfl, hheld, hrg⟩
  have bw11 : Below w.heap.size w w11 := bw10.trans (hrg.below bw4.size bw10.size)
  have bo11 : Below w3.heap.size w3 w11 := bo10.trans (hrg.below bo4.size bo10.size)
  have hqp : ¬ ((kOfR (XR Ps) (MR Ps) 1 Ps.length : Nat) : Int) < 0 := by omega
  have hqd : decide (((kOfR (XR Ps) (MR Ps) 1 Ps.length : Nat) : Int) < 0) = false := by simp
  generalize ((kOfR (XR Ps) (MR Ps) 1 Ps.length : Nat) : Int) = qq at hheld hqp hqd ⊢
  clear OG10 hrg
  go_wp2_with fail
  refine (hheld _ (Below.refl _ _)).mono ?_
  rintro e w12 ⟨rfl, hb12⟩
  have bw12 := bw11.trans (hb12.mono bw11.size)
  have bo12 := bo11.trans (hb12.mono bo11.size)
  go_wp2_with fail
  refine (toLA ao n cap X _ (hr.keep bw12) hn hz).mono ?_
  rintro e w13 ⟨rfl, o13, hb13⟩
  have bw13 := bw12.trans (hb13.mono bw12.size)
  have bo13 := bo12.trans (hb13.mono bo12.size)
  go_wp2_with fail
  refine ((splitRows_impl _ _ n n X most _ (o13.row hr.bd) hn hz (Nat.le_refl _)).mono (hAi _)).mono ?_
  rintro e w14 ⟨vh, rfl, OH, hb14⟩
  have bw14 := bw13.trans (hb14.mono bw13.size)
  have bo14 := bo13.trans (hb14.mono bo13.size)
  obtain ⟨po, pc, rfl⟩ := OH.form
  go_wp2_with fail
  refine (eqEntrySS_same po wo Ps.length pc wc (XR Ps) (MR Ps) _ (OH.rrow hSm hPl) (OW.keep bo14) htP).mono ?_
  rintro e w15 ⟨rfl, hb15⟩
  have bw15 := bw14.trans (hb15.mono bw14.size)
  have hfar : Below w11.heap.size w11 w15 := ((hb12.trans (hb13.mono hb12.size)).trans (hb14.mono (Nat.le_trans hb12.size hb13.size))).trans (hb15.mono (Nat.le_trans (Nat.le_trans hb12.size hb13.size) hb14.size))
  clear hb12 hb13 hb14 hb15 OH o13
  go_wp2_with fail
  refine (hheld _ hfar).mono ?_
  rintro e w16 ⟨rfl, hb16⟩
  have bw16 := bw15.trans (hb16.mono bw15.size)
  clear hb16
  go_wp2
  go_ret
  exact ⟨rfl, bw16⟩
end Go.Proofs.Ytfdbhkjmkpgomaa
