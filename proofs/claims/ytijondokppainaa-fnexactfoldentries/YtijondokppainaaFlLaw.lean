/- The law of FoldEntries, walked. -/
import Derived.Test.YtijondokppainaaFm
namespace Go.Proofs.Ytijondokppainaa
open Go.RowKit
set_option linter.unusedSimpArgs false
set_option linter.unusedVariables false

set_option maxRecDepth 100000 in
set_option maxHeartbeats 8000000 in
theorem foldEntries_law (ao : Option Addr) (n cap : Nat) (X : Nat → Ent) (w : World) (hr : ERow w ao n X) (hnx : n ≤ 9223372036854775807) :
    Calls Try.prog 6 #[.slice ao n cap] w fun e w' => e = .returned (.bool true) ∧ Below w.heap.size w w' := by
  obtain ⟨y, hh, gg, hy8, hyb, hA⟩ := fea_of (X := X) (n := n)
  have hbd := hr.bd
  have hy1 : y.n ≤ 1048576 := by omega
  have row : ∀ {W : World} {base : Nat} {lo : Option Addr}, (y.n = 0 ∨ ∃ q, lo = some ⟨q, 0, none⟩ ∧ base ≤ q ∧ IOwn W q 0 y.n y.f) → IRow W lo y.n y.f := fun {W base lo} h => by
    rcases h with h | ⟨q, rfl, _, ho⟩
    · exact ⟨hyb, .inl h⟩
    · exact ho.row
  go_enter Try.func6, Try.ntmps6
  go_wp2_with fail
  refine (szEntryS_tot ao n cap X 1048576 _ hr (by omega) hnx).mono ?_
  rintro e w1 ⟨v, rfl, hv1, hv2, hv3, bw1⟩
  by_cases hv : v < 0
  · clear hv3
    go_wp2
    go_ret
    exact ⟨rfl, bw1⟩
  have htot := hv3 (by omega)
  have hn : n ≤ 1048576 := by omega
  have hz : ESize n X := tot_size (by omega)
  have hkX := kOf_tot X n
  clear hv3 hnx
  have hS : ∀ W b, ERow W (some ⟨b, 0, none⟩) n X → Calls Try.prog 22 #[.slice (some ⟨b, 0, none⟩) n n] W fun e w' => FeA y hh gg W e w' := fun W b h => (foldEntries_spec b 0 n X W h hn hz).mono (hA W)
  have hI : ∀ W b, ERow W (some ⟨b, 0, none⟩) n X → Calls Try.prog 23 #[.slice (some ⟨b, 0, none⟩) n n] W fun e w' => FeA y hh gg W e w' := fun W b h => (foldEntries_impl b 0 n X W h hn hz).mono (hA W)
  clear hA
  go_wp2_with fail
  refine (toEntryS_any ao n cap X _ (hr.keep bw1) hn hz).mono ?_
  rintro e w2 ⟨G2, rfl, o2, hb2⟩
  have bw2 := bw1.trans (hb2.mono bw1.size)
  go_wp2_with fail
  refine (hS _ _ (o2.row hbd)).mono ?_
  rintro e w3 ⟨wo, wc, rfl, hw3, hb3⟩
  have bw3 := bw2.trans (hb3.mono bw2.size)
  have iw3 : IRow w3 wo y.n y.f := row hw3
  have ltw : ∀ q off p, wo = some ⟨q, off, p⟩ → y.n ≠ 0 → q < w3.heap.size := fun q off p e h0 => by
    obtain ⟨q', e', _, ho⟩ := hw3.resolve_left h0
    rw [e] at e'
    injection e' with e'
    injection e' with e1 _ _
    rw [e1]; exact ho.lt
  have hb4 := below_new w3 (.cells #[.int .i64 y.c, .int .i64 y.s, .int .i64 y.lo, .int .i64 y.hi, .slice wo y.n wc, .bool y.fu] 37)
  have P4 := AAt.new w3 y.c y.s y.lo y.hi (.slice wo y.n wc) y.fu 37
  have iw4 := iw3.keep hb4
  have bw4 := bw3.trans (hb4.mono bw3.size)
  have s34 : w3.heap.size < (w3.alloc (.cells #[.int .i64 y.c, .int .i64 y.s, .int .i64 y.lo, .int .i64 y.hi, .slice wo y.n wc, .bool y.fu] 37)).heap.size := P4.lt
  have hto5 := toEntryS_any ao n cap X (w3.alloc (.cells #[.int .i64 y.c, .int .i64 y.s, .int .i64 y.lo, .int .i64 y.hi, .slice wo y.n wc, .bool y.fu] 37)) (hr.keep bw4) hn hz
  clear hb2 hb3 o2 hw3 iw3 hS
  go_wp2_with fail
  generalize w3.alloc (.cells #[.int .i64 y.c, .int .i64 y.s, .int .i64 y.lo, .int .i64 y.hi, .slice wo y.n wc, .bool y.fu] 37) = w4 at hb4 P4 iw4 bw4 s34 hto5 ⊢
  refine hto5.mono ?_
  rintro e w5 ⟨G5, rfl, o5, hb5⟩
  have bw5 := bw4.trans (hb5.mono bw4.size)
  have P5 := P4.keep hb5
  have iw5 := iw4.keep hb5
  have ltG5 := fun i hi => (o5.data i hi).2.lt
  have l45 := o5.lt
  clear hto5 P4 iw4 hb5
  go_wp2_with fail
  refine (hI _ _ (o5.row hbd)).mono ?_
  rintro e w6 ⟨go, gc, rfl, hg6, hb6⟩
  have bw6 := bw5.trans (hb6.mono bw5.size)
  have s56 := hb6.size
  have hb7 := below_new w6 (.cells #[.int .i64 y.c, .int .i64 y.s, .int .i64 y.lo, .int .i64 y.hi, .slice go y.n gc, .bool y.fu] 37)
  have Q7 := AAt.new w6 y.c y.s y.lo y.hi (.slice go y.n gc) y.fu 37
  have P7 := (P5.keep hb6).keep hb7
  have iw7 := (iw5.keep hb6).keep hb7
  have x7 := (o5.keep hb6).keep hb7
  have bw7 := bw6.trans (hb7.mono bw6.size)
  have ltg : ∀ q, go = some ⟨q, 0, none⟩ → y.n ≠ 0 → w5.heap.size ≤ q ∧ q < w6.heap.size := fun q e h0 => by
    obtain ⟨q', e', h1, ho⟩ := hg6.resolve_left h0
    rw [e] at e'
    injection e' with e'
    injection e' with e1 _ _
    rw [e1]; exact ⟨h1, ho.lt⟩
  have hg7 : y.n = 0 ∨ ∃ q, go = some ⟨q, 0, none⟩ ∧ w5.heap.size ≤ q ∧ IOwn (w6.alloc (.cells #[.int .i64 y.c, .int .i64 y.s, .int .i64 y.lo, .int .i64 y.hi, .slice go y.n gc, .bool y.fu] 37)) q 0 y.n y.f := hg6.imp id (fun ⟨q, e, h1, ho⟩ => ⟨q, e, h1, ho.keep hb7⟩)
  have s67 : w6.heap.size < (w6.alloc (.cells #[.int .i64 y.c, .int .i64 y.s, .int .i64 y.lo, .int .i64 y.hi, .slice go y.n gc, .bool y.fu] 37)).heap.size := Q7.lt
  clear P5 iw5 o5 hb6 hg6 hb7 bw5 bw6
  obtain ⟨_, p0, p1, p2, p3, p4, p5⟩ := id P7
  obtain ⟨_, q0, q1, q2, q3, q4, q5⟩ := id Q7
  go_wp2_with fail
  generalize w6.alloc (.cells #[.int .i64 y.c, .int .i64 y.s, .int .i64 y.lo, .int .i64 y.hi, .slice go y.n gc, .bool y.fu] 37) = w7 at *
  refine (eqAgg_same _ _ _ _ go wo y.n gc wc y.f _ _ (row hg7) iw7 hy1).mono ?_
  rintro e w8 ⟨rfl, hb8⟩
  have bw8 := bw7.trans (hb8.mono bw7.size)
  have P8 := P7.keep hb8
  have Q8 := Q7.keep hb8
  have iw8 := iw7.keep hb8
  have x8 := x7.keep hb8
  have hg8 : y.n = 0 ∨ ∃ q, go = some ⟨q, 0, none⟩ ∧ w5.heap.size ≤ q ∧ IOwn w8 q 0 y.n y.f := hg7.imp id (fun ⟨q, e, h1, ho⟩ => ⟨q, e, h1, ho.keep hb8⟩)
  have s78 := hb8.size
  clear P7 Q7 iw7 x7 hg7 hb8 bw7 p0 p1 p2 p3 p4 p5 q0 q1 q2 q3 q4 q5
  go_wp2_with fail
  refine (toEntryS_any ao n cap X _ (hr.keep bw8) hn hz).mono ?_
  rintro e w9 ⟨G9, rfl, o9, hb9⟩
  have bw9 := bw8.trans (hb9.mono bw8.size)
  have P9 := P8.keep hb9
  have Q9 := Q8.keep hb9
  have iw9 := iw8.keep hb9
  have x9 := x8.keep hb9
  have hg9 : y.n = 0 ∨ ∃ q, go = some ⟨q, 0, none⟩ ∧ w5.heap.size ≤ q ∧ IOwn w9 q 0 y.n y.f := hg8.imp id (fun ⟨q, e, h1, ho⟩ => ⟨q, e, h1, ho.keep hb9⟩)
  have s89 := hb9.size
  clear P8 Q8 iw8 x8 hg8 hb9 bw8
  go_wp2_with fail
  refine (eqEntryS_same _ _ n n n X _ (x9.row hbd) (o9.row hbd) hn hz).mono ?_
  rintro e w10 ⟨rfl, hb10⟩
  have bw10 := bw9.trans (hb10.mono bw9.size)
  have P10 := P9.keep hb10
  have Q10 := Q9.keep hb10
  have iw10 := iw9.keep hb10
  have x10 := x9.keep hb10
  have hg10 : y.n = 0 ∨ ∃ q, go = some ⟨q, 0, none⟩ ∧ w5.heap.size ≤ q ∧ IOwn w10 q 0 y.n y.f := hg9.imp id (fun ⟨q, e, h1, ho⟩ => ⟨q, e, h1, ho.keep hb10⟩)
  have s910 := hb10.size
  clear P9 Q9 iw9 x9 hg9 hb10 bw9 o9
  have hmx := markEntryS_any _ n n 1 X _ _ _ x10.ce (by omega) (fun i hi => (hz i hi).2) hn (by omega)
  go_wp2_with fail
  refine hmx.mono ?_
  rintro e w11 ⟨rfl, _, hco⟩
  have hkeep : ∀ q, (q < w4.heap.size ∨ w5.heap.size ≤ q) → q < w10.heap.size → w11.heap[q]? = w10.heap[q]? := fun q hq hlt => hco.block q hlt (by omega) (fun i hi _ e => by have h1 := (x10.data i hi).1; have h2 := ltG5 i hi; injection e with e; injection e with e _ _; omega)
  have s11 := hco.size
  have bw11 : Below w.heap.size w w11 := bw10.trans ⟨hco.os, hco.tape, hco.output, s11, fun q hq => hkeep q (by have := bw4.size; omega) (by have := bw10.size; omega)⟩
  have P11 := P10.same s11 (hkeep _ (by omega) (by omega))
  have Q11 := Q10.same s11 (hkeep _ (by omega) (by omega))
  have iw11 : IRow w11 wo y.n y.f := irow_blocks iw10 s11 (fun q off p e h0 => hkeep q (by have := ltw q off p e h0; omega) (by have := ltw q off p e h0; omega))
  have hg11 : y.n = 0 ∨ ∃ q, go = some ⟨q, 0, none⟩ ∧ w5.heap.size ≤ q ∧ IOwn w11 q 0 y.n y.f := by
    by_cases h0 : y.n = 0
    · exact .inl h0
    · obtain ⟨q, e, h1, ho⟩ := hg10.resolve_left h0
      have h2 := ho.lt
      exact .inr ⟨q, e, h1, ho.bd, by omega, fun i hi => (World.cell?_of_block (w := w10) (a := ⟨q, 0 + i, none⟩) (hkeep q (.inr h1) h2)).trans (ho.cell i hi), fun i hi => (World.frozen?_of_block (w := w10) (a := ⟨q, 0 + i, none⟩) (hkeep q (.inr h1) h2)).trans (ho.free i hi)⟩
  have hpos : ¬ ((kOf X 1 n : Nat) : Int) < 0 := by omega
  have hposd : decide (((kOf X 1 n : Nat) : Int) < 0) = false := decide_eq_false hpos
  generalize ((kOf X 1 n : Nat) : Int) = kk at hpos hposd ⊢
  clear P10 Q10 iw10 x10 hg10 hco hkeep hmx bw10
  obtain ⟨_, p0, p1, p2, p3, p4, p5⟩ := id P11
  obtain ⟨_, q0, q1, q2, q3, q4, q5⟩ := id Q11
  go_wp2_with fail
  refine (eqAgg_same _ _ _ _ go wo y.n gc wc y.f _ _ (row hg11) iw11 hy1).mono ?_
  rintro e w12 ⟨rfl, hb12⟩
  have bw12 := bw11.trans (hb12.mono bw11.size)
  have P12 := P11.keep hb12
  have Q12 := Q11.keep hb12
  have iw12 := iw11.keep hb12
  have hg12 : y.n = 0 ∨ ∃ q, go = some ⟨q, 0, none⟩ ∧ IOwn w12 q 0 y.n y.f := hg11.imp id (fun ⟨q, e, h1, ho⟩ => ⟨q, e, ho.keep hb12⟩)
  have s12 := hb12.size
  clear P11 Q11 iw11 hg11 hb12 bw11 p0 p1 p2 p3 p4 p5 q0 q1 q2 q3 q4 q5
  obtain ⟨_, q0, q1, q2, q3, q4, q5⟩ := id Q12
  have hmk := markAggO y go gc w12 hy8 hg12
  go_wp2_with fail
  refine hmk.mono ?_
  rintro e w13 ⟨rfl, ⟨ff, hff, hfe⟩, m1, m2, m3, m4, m5⟩
  have bw13 : Below w.heap.size w w13 := bw12.trans ⟨m1, m2, m3, m4, fun c hc => m5 c (by have := bw12.size; omega) (fun q e h0 => by have := ltg q e h0; have := bw4.size; omega)⟩
  have P13 := P12.same m4 (m5 _ (by omega) (fun q e h0 => by have := ltg q e h0; omega))
  have Q13 := Q12.same m4 (m5 _ (by omega) (fun q e h0 => by have := ltg q e h0; omega))
  have iw13 : IRow w13 wo y.n y.f := irow_blocks iw12 m4 (fun q off p e h0 => m5 q (by have := ltw q off p e h0; omega) (fun q' e' h0' => by have := ltw q off p e h0; have := ltg q' e' h0'; omega))
  have hqp : ¬ ((1 + y.n : Nat) : Int) < 0 := by omega
  have hqd : decide (((1 + y.n : Nat) : Int) < 0) = false := decide_eq_false hqp
  have hheld : ∀ W, Below w13.heap.size w13 W → Calls Try.prog 26 #[.agg #[.int .i64 y.c, .int .i64 y.s, .int .i64 y.lo, .int .i64 y.hi, .slice go y.n gc, .bool y.fu], .int .i64 1] W fun e w' => e = .returned (.int .i64 ((1 + y.n : Nat) : Int)) ∧ Below W.heap.size W w' := fun W hb => heldAggO y go gc ff W hy8 (hff.keep hb) hfe
  generalize ((1 + y.n : Nat) : Int) = qq at hqp hqd hheld ⊢
  clear P12 Q12 iw12 hg12 hmk m1 m2 m3 m5 bw12 q0 q1 q2 q3 q4 q5 hff hfe
  obtain ⟨_, q0, q1, q2, q3, q4, q5⟩ := id Q13
  go_wp2_with fail
  refine (hheld _ (Below.refl _ _)).mono ?_
  rintro e w14 ⟨rfl, hb14⟩
  have bw14 := bw13.trans (hb14.mono bw13.size)
  have s14 := hb14.size
  clear q0 q1 q2 q3 q4 q5
  go_wp2_with fail
  refine (toEntryS_any ao n cap X _ (hr.keep bw14) hn hz).mono ?_
  rintro e w15 ⟨G15, rfl, o15, hb15⟩
  have bw15 := bw14.trans (hb15.mono bw14.size)
  have h15 : Below w13.heap.size w13 w15 := hb14.trans (hb15.mono s14)
  go_wp2_with fail
  refine (hI _ _ (o15.row hbd)).mono ?_
  rintro e w16 ⟨ho, hc, rfl, hh16, hb16⟩
  have bw16 := bw15.trans (hb16.mono bw15.size)
  have h16 : Below w13.heap.size w13 w16 := h15.trans (hb16.mono h15.size)
  have hb17 := below_new w16 (.cells #[.int .i64 y.c, .int .i64 y.s, .int .i64 y.lo, .int .i64 y.hi, .slice ho y.n hc, .bool y.fu] 37)
  have h17 := h16.trans (hb17.mono h16.size)
  have bw17 := bw16.trans (hb17.mono bw16.size)
  have P17 := P13.keep h17
  have Q17 := Q13.keep h17
  have iw17 := iw13.keep h17
  have ih17 := (row hh16).keep hb17
  have T17 := AAt.new w16 y.c y.s y.lo y.hi (.slice ho y.n hc) y.fu 37
  clear hb14 hb15 hb16 h15 h16 o15 hh16 hb17 P13 iw13
  obtain ⟨_, p0, p1, p2, p3, p4, p5⟩ := id P17
  obtain ⟨_, t0, t1, t2, t3, t4, t5⟩ := id T17
  go_wp2_with fail
  generalize w16.alloc (.cells #[.int .i64 y.c, .int .i64 y.s, .int .i64 y.lo, .int .i64 y.hi, .slice ho y.n hc, .bool y.fu] 37) = w17 at *
  refine (eqAgg_same _ _ _ _ ho wo y.n hc wc y.f _ _ ih17 iw17 hy1).mono ?_
  rintro e w18 ⟨rfl, hb18⟩
  have bw18 := bw17.trans (hb18.mono bw17.size)
  have h18 := h17.trans (hb18.mono h17.size)
  have Q18 := Q17.keep hb18
  clear p0 p1 p2 p3 p4 p5 t0 t1 t2 t3 t4 t5 P17 T17 iw17 ih17 Q17 hb18
  obtain ⟨_, q0, q1, q2, q3, q4, q5⟩ := id Q18
  go_wp2_with fail
  refine (hheld _ h18).mono ?_
  rintro e w19 ⟨rfl, hb19⟩
  have bw19 := bw18.trans (hb19.mono bw18.size)
  clear hb19
  go_wp2
  go_ret
  exact ⟨rfl, bw19⟩
end Go.Proofs.Ytijondokppainaa
