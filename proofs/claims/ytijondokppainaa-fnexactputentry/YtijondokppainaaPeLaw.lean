/- The law of PutEntry, walked. -/
import Derived.Test.YtijondokppainaaPs
import Derived.Test.YtijondokppainaaEoLaw
import Derived.Deep.RegionHeld3
namespace Go.Proofs.Ytijondokppainaa
open Go.RowKit
set_option linter.unusedSimpArgs false
set_option linter.unusedVariables false

theorem tot_pre {X : Nat → Ent} {x : Ent} {P : Nat} {m : Nat} (h : m ≤ P) : tot (pX X x P) m = tot X m := tot_congr fun i hi => by simp [pX, show i < P by omega]
theorem tot_pX (X : Nat → Ent) (x : Ent) (P : Nat) : ∀ j, tot (pX X x P) (P + 1 + j) = tot X (P + j) + (x.key.size + x.n)
  | 0 => by
    show tot (pX X x P) P + ((pX X x P P).key.size + (pX X x P P).n) = _
    rw [tot_pre (Nat.le_refl _)]
    simp [pX]
  | j + 1 => by
    have ih := tot_pX X x P j
    have e : pX X x P (P + 1 + j) = X (P + j) := by
      have h1 : ¬ P + 1 + j < P := by omega
      have h2 : ¬ P + 1 + j = P := by omega
      simp only [pX, h1, h2, if_false]
      congr 1; omega
    show tot (pX X x P) (P + 1 + j) + ((pX X x P (P + 1 + j)).key.size + (pX X x P (P + 1 + j)).n) = tot X (P + j) + ((X (P + j)).key.size + (X (P + j)).n) + (x.key.size + x.n)
    rw [ih, e]; omega
theorem eoa_put {X : Nat → Ent} {n : Nat} {x : Ent} : ∃ (E : List Ent) (c : Bool), E.length ≤ 60 ∧ tot (eL E) E.length ≤ tot X n + (x.key.size + x.n) ∧ (∀ P : Ent → Prop, (∀ i, i < n → P (X i)) → P x → ∀ i, i < E.length → P (eL E i)) ∧ ∀ w e w', EoO (GoodP X n x) (pE X n x (pc X n x 0)) w e w' → EoA E c w e w' := by
  have hP := (pc_le (X := X) (n := n) (e := x) (q := 0) (Nat.zero_le _)).2
  by_cases h : GoodP X n x
  · refine ⟨pE X n x (pc X n x 0), true, by rw [pE_len]; have := h.1; omega, ?_, ?_, ?_⟩
    · rw [pE_len, tot_congr (Y := pX X x (pc X n x 0)) (fun i hi => pE_at X n x _ hi)]
      have := tot_pX X x (pc X n x 0) (n - pc X n x 0)
      rw [show pc X n x 0 + 1 + (n - pc X n x 0) = n + 1 by omega, show pc X n x 0 + (n - pc X n x 0) = n by omega] at this
      omega
    · intro P h1 h2 i hi
      rw [pE_len] at hi
      rw [pE_at X n x _ hi]
      exact pX_all h1 h2 hP i hi
    · rintro w e w' (⟨hn, _⟩ | ⟨_, ha⟩)
      · exact absurd h hn
      · exact ha
  · refine ⟨[], false, by simp, by simp [tot], fun P _ _ i hi => by simp at hi, ?_⟩
    rintro w e w' (⟨_, ha⟩ | ⟨hg, _⟩)
    · exact ha
    · exact absurd hg h

/-- An entry marked: its list alone is written. -/
def MkO (g : Nat) (w w' : World) : Prop := w'.os = w.os ∧ w'.tape = w.tape ∧ w'.output = w.output ∧ w.heap.size ≤ w'.heap.size ∧ ∀ c, c < w.heap.size → c ≠ g → w'.heap[c]? = w.heap[c]?
set_option maxHeartbeats 800000 in
theorem markAgg1_any (x : Ent) (g cap k0 : Nat) (w : World) (ho : IOwn w g 0 x.n x.f) (hn : x.n ≤ 1048576) (hk0 : k0 ≤ 15000000) :
    Calls Try.prog 25 #[.agg #[.int .i64 x.c, .int .i64 x.s, .int .i64 x.lo, .int .i64 x.hi, .slice (some ⟨g, 0, none⟩) x.n cap, .bool x.fu], .int .i64 k0] w fun e w' => e = .returned (.int .i64 ((k0 + x.n : Nat) : Int)) ∧ MkO g w w' := by
  have hB := below_new w (.cells #[.int .i64 x.c, .int .i64 x.s, .int .i64 x.lo, .int .i64 x.hi, .slice (some ⟨g, 0, none⟩) x.n cap, .bool x.fu] 37)
  have hM := markI_any g 0 x.n cap x.f k0 (w.alloc (.cells #[.int .i64 x.c, .int .i64 x.s, .int .i64 x.lo, .int .i64 x.hi, .slice (some ⟨g, 0, none⟩) x.n cap, .bool x.fu] 37)) (ho.keep hB) hn (by omega)
  generalize ((k0 + x.n : Nat) : Int) = kk at hM ⊢
  go_enter Try.func25, Try.ntmps25
  go_wp2_with fail
  refine hM.mono ?_
  rintro e w1 ⟨rfl, _, ot⟩
  have H : MkO g w w1 := ⟨ot.os.trans hB.os, ot.tape.trans hB.tape, ot.output.trans hB.output, by rw [ot.size]; exact hB.size, fun c hc hne => (ot.block c hne).trans (hB.block c hc)⟩
  clear hM ot
  go_wp2
  go_ret
  exact ⟨rfl, H⟩
set_option maxHeartbeats 800000 in
theorem markEntry1_any (x : Ent) (g cap k0 : Nat) (w : World) (ho : IOwn w g 0 x.n x.f) (hn : x.n ≤ 1048576) (hk0 : k0 ≤ 15000000) :
    Calls Try.prog 18 #[.agg #[.string x.key, .int .i64 x.seq, .int .i64 x.kind, .int .i64 x.c, .int .i64 x.s, .int .i64 x.lo, .int .i64 x.hi, .slice (some ⟨g, 0, none⟩) x.n cap, .bool x.fu], .int .i64 k0] w fun e w' => e = .returned (.int .i64 ((k0 + x.n : Nat) : Int)) ∧ MkO g w w' := by
  have hB := below_new w (.cells #[.string x.key, .int .i64 x.seq, .int .i64 x.kind, .int .i64 x.c, .int .i64 x.s, .int .i64 x.lo, .int .i64 x.hi, .slice (some ⟨g, 0, none⟩) x.n cap, .bool x.fu] 39)
  have hM := markAgg1_any x g cap k0 (w.alloc (.cells #[.string x.key, .int .i64 x.seq, .int .i64 x.kind, .int .i64 x.c, .int .i64 x.s, .int .i64 x.lo, .int .i64 x.hi, .slice (some ⟨g, 0, none⟩) x.n cap, .bool x.fu] 39)) (ho.keep hB) hn hk0
  generalize ((k0 + x.n : Nat) : Int) = kk at hM ⊢
  go_enter Try.func18, Try.ntmps18
  go_wp2_with fail
  refine hM.mono ?_
  rintro e w1 ⟨rfl, ot⟩
  have H : MkO g w w1 := ⟨ot.1.trans hB.os, ot.2.1.trans hB.tape, ot.2.2.1.trans hB.output, Nat.le_trans hB.size ot.2.2.2.1, fun c hc hne => (ot.2.2.2.2 c (Nat.lt_of_lt_of_le hc hB.size) hne).trans (hB.block c hc)⟩
  clear hM ot
  go_wp2
  go_ret
  exact ⟨rfl, H⟩

set_option maxRecDepth 100000 in
set_option maxHeartbeats 8000000 in
theorem putEntry_law (ao : Option Addr) (n cap : Nat) (X : Nat → Ent) (x : Ent) (xo : Option Addr) (xc : Nat) (w : World) (hr : ERow w ao n X) (hx : IRow w xo x.n x.f) (hnx : n ≤ 9223372036854775807) (hE : EB x) :
    Calls Try.prog 4 #[.slice ao n cap, .agg #[.string x.key, .int .i64 x.seq, .int .i64 x.kind, .int .i64 x.c, .int .i64 x.s, .int .i64 x.lo, .int .i64 x.hi, .slice xo x.n xc, .bool x.fu]] w fun e w' => e = .returned (.bool true) ∧ Below w.heap.size w w' := by
  obtain ⟨E, c, hEl, hEt, hEP, hA⟩ := eoa_put (X := X) (n := n) (x := x)
  have hEb := hEP EB hr.bd hE
  have hB := below_new w (.cells #[.string x.key, .int .i64 x.seq, .int .i64 x.kind, .int .i64 x.c, .int .i64 x.s, .int .i64 x.lo, .int .i64 x.hi, .slice xo x.n xc, .bool x.fu] 33)
  have A0 := EAt.new w x xo xc 33
  go_enter Try.func4, Try.ntmps4
  go_wp2_with fail
  generalize w.alloc (.cells #[.string x.key, .int .i64 x.seq, .int .i64 x.kind, .int .i64 x.c, .int .i64 x.s, .int .i64 x.lo, .int .i64 x.hi, .slice xo x.n xc, .bool x.fu] 33) = wb at hB A0 ⊢
  refine (szEntryS_tot ao n cap X 1048576 _ (hr.keep hB) (by omega) hnx).mono ?_
  rintro e w1 ⟨v, rfl, hv1, hv2, hv3, hb1⟩
  have bw1 : Below w.heap.size w w1 := hB.trans (hb1.mono hB.size)
  have A1 := A0.keep hb1
  clear hB A0 hb1
  by_cases hv : v < 0
  · clear hv3
    go_wp2
    go_ret
    exact ⟨rfl, bw1⟩
  have htot := hv3 (by omega)
  have hn : n ≤ 1048576 := by omega
  have hz : ESize n X := tot_size (by omega)
  have hkX := kOf_tot X n
  clear hv3 hnx
  obtain ⟨_, a0, a1, a2, a3, a4, a5, a6, a7, a8⟩ := A1.z
  have hsz1 := szEntry_ex x xo xc v w1 (by omega) hE.key hE.n
  go_wp2_with fail
  refine hsz1.mono ?_
  rintro e w2 ⟨u, rfl, hu1, hu2, hb2⟩
  have bw2 : Below w.heap.size w w2 := bw1.trans (hb2.mono bw1.size)
  have A2 := A1.keep hb2
  clear hb2 A1 a0 a1 a2 a3 a4 a5 a6 a7 a8 hsz1
  by_cases hu : u < 0
  · clear hu2
    go_wp2
    go_ret
    exact ⟨rfl, bw2⟩
  have hu3 := hu2 (by omega)
  have hzx : x.key.size ≤ 1048576 ∧ x.n ≤ 1048576 := by omega
  have hzE : ESize E.length (eL E) := hEP (fun x => x.key.size ≤ 1048576 ∧ x.n ≤ 1048576) hz hzx
  have hE1 : E.length ≤ 1048576 := by omega
  have hkk : kOf X 1 n ≤ 15000000 := by omega
  have hkE := kOf_tot (eL E) E.length
  have hkE2 : kOf (eL E) 1 E.length ≤ 16000000 := by omega
  have hxs := hE.s
  have hS : ∀ W b off xo' xc', ERow W (some ⟨b, off, none⟩) n X → IRow W xo' x.n x.f → Calls Try.prog 13 #[.slice (some ⟨b, off, none⟩) n n, .agg #[.string x.key, .int .i64 x.seq, .int .i64 x.kind, .int .i64 x.c, .int .i64 x.s, .int .i64 x.lo, .int .i64 x.hi, .slice xo' x.n xc', .bool x.fu]] W fun e w' => EoA E c W e w' := fun W b off xo' xc' h1 h2 => (putEntry_spec b off n X x xo' xc' W h1 h2 hE hn hz hzx).mono (hA W)
  have hI : ∀ W b off xo' xc', ERow W (some ⟨b, off, none⟩) n X → IRow W xo' x.n x.f → Calls Try.prog 15 #[.slice (some ⟨b, off, none⟩) n n, .agg #[.string x.key, .int .i64 x.seq, .int .i64 x.kind, .int .i64 x.c, .int .i64 x.s, .int .i64 x.lo, .int .i64 x.hi, .slice xo' x.n xc', .bool x.fu]] W fun e w' => EoA E c W e w' := fun W b off xo' xc' h1 h2 => (putEntry_impl (some ⟨b, off, none⟩) n X x xo' xc' W h1 h2 hn hz hzx.2 hxs).mono (hA W)
  have hbd := hr.bd
  have sw2 := bw2.size
  have lA := A2.lt
  clear hu2 hu3 hu1 hv1 hv2 hA hEt hEP htot hkX hkE hxs
  obtain ⟨_, a0, a1, a2, a3, a4, a5, a6, a7, a8⟩ := A2.z
  go_wp2
  go_region_held3 (fun w' => w'.cell? ⟨w.heap.size, 0, none⟩ = some (.string x.key) ∧ w'.cell? ⟨w.heap.size, 1, none⟩ = some (.int .i64 x.seq) ∧ w'.cell? ⟨w.heap.size, 2, none⟩ = some (.int .i64 x.kind) ∧ w'.cell? ⟨w.heap.size, 3, none⟩ = some (.int .i64 x.c) ∧ w'.cell? ⟨w.heap.size, 4, none⟩ = some (.int .i64 x.s) ∧ w'.cell? ⟨w.heap.size, 5, none⟩ = some (.int .i64 x.lo) ∧ w'.cell? ⟨w.heap.size, 6, none⟩ = some (.int .i64 x.hi) ∧ w'.cell? ⟨w.heap.size, 7, none⟩ = some (.slice xo x.n xc) ∧ w'.cell? ⟨w.heap.size, 8, none⟩ = some (.bool x.fu)) (go_keep) (first | (go_at_call 9; refine (toEntryS_any ao n cap X _ (hr.keep bw2.drew) hn hz).mono ?_; rintro e w3 ⟨G3, rfl, o3, hb3⟩; have cw3 : Below w2.heap.size w2 w3 := (Below.refl _ w2).drew.trans hb3; obtain ⟨_, p0, p1, p2, p3, p4, p5, p6, p7, p8⟩ := (A2.keep cw3).z; clear hb3) | (go_at_call 14; refine (toEntry_any x xo xc _ (hx.keep (bw2.trans (cw3.mono sw2))) hzx.2).mono ?_; rintro e w4 ⟨g4, rfl, _, o4, hb4⟩; have cw4 : Below w2.heap.size w2 w4 := cw3.trans (hb4.mono cw3.size); have o34 := o3.keep hb4; obtain ⟨_, q0, q1, q2, q3, q4, q5, q6, q7, q8⟩ := (A2.keep cw4).z; clear hb4) | (go_at_call 13; refine (hS _ _ _ _ _ (o34.row hbd) o4.row).mono ?_; rintro e w5 ⟨vw, Vw, rfl, OW, hb5⟩; have cw5 : Below w2.heap.size w2 w5 := cw4.trans (hb5.mono cw4.size); obtain ⟨wo, wc, rfl⟩ := ownsRow_form OW.own; obtain ⟨_, r0, r1, r2, r3, r4, r5, r6, r7, r8⟩ := (A2.keep cw5).z; clear hb5))
  clear a0 a1 a2 a3 a4 a5 a6 a7 a8 p0 p1 p2 p3 p4 p5 p6 p7 p8 q0 q1 q2 q3 q4 q5 q6 q7 q8 r0 r1 r2 r3 r4 r5 r6 r7 r8 o34 o4 o3
  have gW : ∀ W, OutE W w4.heap.size (.slice wo E.length wc) E.length (eL E) Vw → ERow W wo E.length (eL E) := fun W h => by
    obtain ⟨a, d, e, hh⟩ := h.erow hEb
    injection e with e1 _ _
    subst e1
    exact hh
  have ltW : ∀ q, ((Value.slice wo E.length wc).ownBlock = some q ∨ ∃ i, i < E.length ∧ (Vw i).ownBlock = some q) → q < w5.heap.size := fun q hq => by
    rcases hq with hq | ⟨i, hi, hq⟩
    · exact (OW.own.lt q hq).2
    · exact ((OW.row i hi).own.lt q hq).2
  have s25 : w2.heap.size ≤ w5.heap.size := cw5.size
  go_wp2_with fail
  refine (toEntryS_any ao n cap X _ (hr.keep (bw2.trans (cw5.mono sw2))) hn hz).mono ?_
  rintro e w6 ⟨G6, rfl, o6, hb6⟩
  have cw6 : Below w2.heap.size w2 w6 := cw5.trans (hb6.mono s25)
  have OW6 := OW.keep hb6
  have ltG6 := fun i hi => (o6.data i hi).2.lt
  have l56 := o6.lt
  clear OW hb6
  obtain ⟨_, a0, a1, a2, a3, a4, a5, a6, a7, a8⟩ := (A2.keep cw6).z
  have hto7 := toEntry_any x xo xc w6 (hx.keep (bw2.trans (cw6.mono sw2))) hzx.2
  go_wp2_with fail
  refine hto7.mono ?_
  rintro e w7 ⟨g7, rfl, hg7, o7, hb7⟩
  have s67 := hb7.size
  have l7 := o7.lt
  have hB8 := below_new w7 (.cells #[.string x.key, .int .i64 x.seq, .int .i64 x.kind, .int .i64 x.c, .int .i64 x.s, .int .i64 x.lo, .int .i64 x.hi, .slice (some ⟨g7, 0, none⟩) x.n x.n, .bool x.fu] 39)
  have X8 := EAt.new w7 x (some ⟨g7, 0, none⟩) x.n 39
  clear a0 a1 a2 a3 a4 a5 a6 a7 a8 hto7
  go_wp2_with fail
  generalize w7.alloc (.cells #[.string x.key, .int .i64 x.seq, .int .i64 x.kind, .int .i64 x.c, .int .i64 x.s, .int .i64 x.lo, .int .i64 x.hi, .slice (some ⟨g7, 0, none⟩) x.n x.n, .bool x.fu] 39) = w8 at hB8 X8 ⊢
  have cw8 : Below w2.heap.size w2 w8 := (cw6.trans (hb7.mono cw6.size)).trans (hB8.mono (Nat.le_trans cw6.size s67))
  have OW8 := (OW6.keep hb7).keep hB8
  have x8 := (o6.keep hb7).keep hB8
  have o8 := o7.keep hB8
  have l78 := X8.lt
  clear OW6 hb7 hB8 o6 o7
  refine (hI _ _ _ _ _ (x8.row hbd) o8.row).mono ?_
  rintro e w9 ⟨vg, Vg, rfl, OG, hb9⟩
  have cw9 : Below w2.heap.size w2 w9 := cw8.trans (hb9.mono cw8.size)
  obtain ⟨go, gc, rfl⟩ := ownsRow_form OG.own
  have gG : ∀ W, OutE W w8.heap.size (.slice go E.length gc) E.length (eL E) Vg → ERow W go E.length (eL E) := fun W h => by
    obtain ⟨a, d, e, hh⟩ := h.erow hEb
    injection e with e1 _ _
    subst e1
    exact hh
  have OW9 := OW8.keep hb9
  have x9 := x8.keep hb9
  have X9 := X8.keep hb9
  have o9 := o8.keep hb9
  have s9 := hb9.size
  clear OW8 x8 X8 o8 hb9
  go_wp2_with fail
  refine (eqEntryS_same go wo E.length gc wc (eL E) _ (gG _ OG) (gW _ OW9) hE1 hzE).mono ?_
  rintro e w10 ⟨rfl, hb10⟩
  have cw10 : Below w2.heap.size w2 w10 := cw9.trans (hb10.mono cw9.size)
  have OW10 := OW9.keep hb10
  have OG10 := OG.keep hb10
  have x10 := x9.keep hb10
  have X10 := X9.keep hb10
  have o10 := o9.keep hb10
  have s10 := hb10.size
  clear OW9 OG x9 X9 o9 hb10 cw9
  go_wp2_with fail
  refine (toEntryS_any ao n cap X _ (hr.keep (bw2.trans (cw10.mono sw2))) hn hz).mono ?_
  rintro e w11 ⟨G11, rfl, o11, hb11⟩
  have cw11 : Below w2.heap.size w2 w11 := cw10.trans (hb11.mono cw10.size)
  have OW11 := OW10.keep hb11
  have OG11 := OG10.keep hb11
  have x11 := x10.keep hb11
  have X11 := X10.keep hb11
  have v11 := o10.keep hb11
  have s11 := hb11.size
  clear OW10 OG10 x10 X10 o10 hb11 cw10
  go_wp2_with fail
  refine (eqEntryS_same _ _ n n n X _ (x11.row hbd) (o11.row hbd) hn hz).mono ?_
  rintro e w12 ⟨rfl, hb12⟩
  have cw12 : Below w2.heap.size w2 w12 := cw11.trans (hb12.mono cw11.size)
  have OW12 := OW11.keep hb12
  have OG12 := OG11.keep hb12
  have x12 := x11.keep hb12
  have X12 := X11.keep hb12
  have o12 := v11.keep hb12
  have s12 := hb12.size
  clear OW11 OG11 x11 X11 o11 v11 hb12 cw11
  obtain ⟨_, a0, a1, a2, a3, a4, a5, a6, a7, a8⟩ := (A2.keep cw12).z
  obtain ⟨_, b0, b1, b2, b3, b4, b5, b6, b7, b8⟩ := X12.z
  go_wp2
  go_region_held3 (fun w' => w'.cell? ⟨w7.heap.size, 0, none⟩ = some (.string x.key) ∧ w'.cell? ⟨w7.heap.size, 1, none⟩ = some (.int .i64 x.seq) ∧ w'.cell? ⟨w7.heap.size, 2, none⟩ = some (.int .i64 x.kind) ∧ w'.cell? ⟨w7.heap.size, 3, none⟩ = some (.int .i64 x.c) ∧ w'.cell? ⟨w7.heap.size, 4, none⟩ = some (.int .i64 x.s) ∧ w'.cell? ⟨w7.heap.size, 5, none⟩ = some (.int .i64 x.lo) ∧ w'.cell? ⟨w7.heap.size, 6, none⟩ = some (.int .i64 x.hi) ∧ w'.cell? ⟨w7.heap.size, 7, none⟩ = some (.slice (some ⟨g7, 0, none⟩) x.n x.n) ∧ w'.cell? ⟨w7.heap.size, 8, none⟩ = some (.bool x.fu) ∧ w'.cell? ⟨w.heap.size, 0, none⟩ = some (.string x.key) ∧ w'.cell? ⟨w.heap.size, 1, none⟩ = some (.int .i64 x.seq) ∧ w'.cell? ⟨w.heap.size, 2, none⟩ = some (.int .i64 x.kind) ∧ w'.cell? ⟨w.heap.size, 3, none⟩ = some (.int .i64 x.c) ∧ w'.cell? ⟨w.heap.size, 4, none⟩ = some (.int .i64 x.s) ∧ w'.cell? ⟨w.heap.size, 5, none⟩ = some (.int .i64 x.lo) ∧ w'.cell? ⟨w.heap.size, 6, none⟩ = some (.int .i64 x.hi) ∧ w'.cell? ⟨w.heap.size, 7, none⟩ = some (.slice xo x.n xc) ∧ w'.cell? ⟨w.heap.size, 8, none⟩ = some (.bool x.fu)) (go_keep) (first | (go_at_call 14; refine (toEntry_any x xo xc _ (hx.keep (bw2.trans ((cw12.drew).mono sw2))) hzx.2).mono ?_; rintro e w13 ⟨g13, rfl, _, o13, hb13⟩; have hd13 : Below w12.heap.size w12 w13 := (Below.refl _ w12).drew.trans hb13; obtain ⟨_, p0, p1, p2, p3, p4, p5, p6, p7, p8⟩ := (A2.keep (cw12.trans (hd13.mono cw12.size))).z; obtain ⟨_, q0, q1, q2, q3, q4, q5, q6, q7, q8⟩ := (X12.keep hd13).z; have o12' := o12.keep hd13; clear hb13) | (go_at_call 16; refine (eqEntry_same x _ _ x.n x.n _ o12'.row o13.row hzx.2).mono ?_; rintro e w14 ⟨rfl, hb14⟩; have hd14 : Below w12.heap.size w12 w14 := hd13.trans (hb14.mono hd13.size); obtain ⟨_, r0, r1, r2, r3, r4, r5, r6, r7, r8⟩ := (A2.keep (cw12.trans (hd14.mono cw12.size))).z; obtain ⟨_, t0, t1, t2, t3, t4, t5, t6, t7, t8⟩ := (X12.keep hd14).z; clear hb14))
  clear a0 a1 a2 a3 a4 a5 a6 a7 a8 b0 b1 b2 b3 b4 b5 b6 b7 b8 p0 p1 p2 p3 p4 p5 p6 p7 p8 q0 q1 q2 q3 q4 q5 q6 q7 q8 r0 r1 r2 r3 r4 r5 r6 r7 r8 t0 t1 t2 t3 t4 t5 t6 t7 t8 o12' o13 hd13
  have cw14 : Below w2.heap.size w2 w14 := cw12.trans (hd14.mono cw12.size)
  have OW14 := OW12.keep hd14
  have OG14 := OG12.keep hd14
  have x14 := x12.keep hd14
  have X14 := X12.keep hd14
  have o14 := o12.keep hd14
  have s14 := hd14.size
  clear OW12 OG12 x12 X12 o12 hd14 cw12
  have hmx := markEntryS_any _ n n 1 X _ _ _ x14.ce (by omega) (fun i hi => (hz i hi).2) hn (by omega)
  go_wp2_with fail
  refine hmx.mono ?_
  rintro e w15 ⟨rfl, _, hco⟩
  have hneG : ∀ q, (q < w5.heap.size ∨ w6.heap.size ≤ q) → q < w14.heap.size → w15.heap[q]? = w14.heap[q]? := fun q hq hlt => hco.block q hlt (by omega) (fun i hi _ e => by have h1 := (x14.data i hi).1; have h2 := ltG6 i hi; injection e with e; injection e with e _ _; omega)
  have cw15 : Below w2.heap.size w2 w15 := cw14.trans ⟨hco.os, hco.tape, hco.output, hco.size, fun q hq => hneG q (by omega) (by omega)⟩
  have OW15 : OutE w15 w4.heap.size (.slice wo E.length wc) E.length (eL E) Vw := OW14.same (fun q _ h2 hq => hneG q (.inl (ltW q hq)) h2)
  have OG15 : OutE w15 w8.heap.size (.slice go E.length gc) E.length (eL E) Vg := OG14.same (fun q h1 h2 _ => hneG q (.inr (by omega)) h2)
  have s15 := hco.size
  have X15 : EAt w15 w7.heap.size 0 x (some ⟨g7, 0, none⟩) x.n := X14.move (by omega) (fun j => World.cell?_of_block (w := w14) (a := ⟨w7.heap.size, j, none⟩) (hneG _ (.inr s67) (by omega)))
  have o15 : IOwn w15 g7 0 x.n x.f := ⟨o14.bd, by omega, fun i hi => (World.cell?_of_block (w := w14) (a := ⟨g7, 0 + i, none⟩) (hneG g7 (.inr hg7) (by omega))).trans (o14.cell i hi), fun i hi => (World.frozen?_of_block (w := w14) (a := ⟨g7, 0 + i, none⟩) (hneG g7 (.inr hg7) (by omega))).trans (o14.free i hi)⟩
  clear OW14 OG14 x14 X14 o14 hco hmx hneG cw14
  obtain ⟨_, b0, b1, b2, b3, b4, b5, b6, b7, b8⟩ := X15.z
  have hm16 := markEntry1_any x g7 x.n (kOf X 1 n) w15 o15 hzx.2 hkk
  go_wp2_with fail
  refine hm16.mono ?_
  rintro e w16 ⟨rfl, hmo⟩
  have cw16 : Below w2.heap.size w2 w16 := cw15.trans ⟨hmo.1, hmo.2.1, hmo.2.2.1, hmo.2.2.2.1, fun q hq => hmo.2.2.2.2 q (by omega) (by omega)⟩
  have OW16 : OutE w16 w4.heap.size (.slice wo E.length wc) E.length (eL E) Vw := OW15.same (fun q _ h2 hq => hmo.2.2.2.2 q h2 (by have := ltW q hq; omega))
  have OG16 : OutE w16 w8.heap.size (.slice go E.length gc) E.length (eL E) Vg := OG15.same (fun q h1 h2 _ => hmo.2.2.2.2 q h2 (by omega))
  have s16 := hmo.2.2.2.1
  have hpos : ¬ ((kOf X 1 n + x.n : Nat) : Int) < 0 := by omega
  have hposd : decide (((kOf X 1 n + x.n : Nat) : Int) < 0) = false := decide_eq_false hpos
  generalize ((kOf X 1 n + x.n : Nat) : Int) = kk at hpos hposd ⊢
  clear OW15 OG15 X15 o15 hmo hm16 cw15 b0 b1 b2 b3 b4 b5 b6 b7 b8
  go_wp2_with fail
  refine (eqEntryS_same go wo E.length gc wc (eL E) _ (gG _ OG16) (gW _ OW16) hE1 hzE).mono ?_
  rintro e w17 ⟨rfl, hb17⟩
  have cw17 : Below w2.heap.size w2 w17 := cw16.trans (hb17.mono cw16.size)
  have OW17 := OW16.keep hb17
  have OG17 := OG16.keep hb17
  have s17 := hb17.size
  clear OW16 OG16 hb17 cw16
  go_wp2_with fail
  refine (markOut_any go gc _ E.length (eL E) Vg _ OG17 (by omega) (fun i hi => (hzE i hi).2) hE1 hkE2).mono ?_
  rintro e w18 ⟨rfl, hheld, hb18⟩
  have cw18 : Below w2.heap.size w2 w18 := cw17.trans (hb18.mono cw8.size)
  have OW18 : OutE w18 w4.heap.size (.slice wo E.length wc) E.length (eL E) Vw := OW17.same (fun q _ _ hq => hb18.block q (by have := ltW q hq; omega))
  have hqp : ¬ ((kOf (eL E) 1 E.length : Nat) : Int) < 0 := by omega
  have hqd : decide (((kOf (eL E) 1 E.length : Nat) : Int) < 0) = false := by simp
  generalize ((kOf (eL E) 1 E.length : Nat) : Int) = qq at hheld hqp hqd ⊢
  clear OW17 OG17 hb18 cw17
  go_wp2_with fail
  refine (hheld _ (Below.refl _ _)).mono ?_
  rintro e w19 ⟨rfl, hb19⟩
  have cw19 : Below w2.heap.size w2 w19 := cw18.trans (hb19.mono cw18.size)
  have OW19 := OW18.keep hb19
  have s19 := cw19.size
  clear OW18 cw18
  obtain ⟨_, a0, a1, a2, a3, a4, a5, a6, a7, a8⟩ := (A2.keep cw19).z
  go_wp2
  go_region_held3 (fun w' => w'.cell? ⟨w.heap.size, 0, none⟩ = some (.string x.key) ∧ w'.cell? ⟨w.heap.size, 1, none⟩ = some (.int .i64 x.seq) ∧ w'.cell? ⟨w.heap.size, 2, none⟩ = some (.int .i64 x.kind) ∧ w'.cell? ⟨w.heap.size, 3, none⟩ = some (.int .i64 x.c) ∧ w'.cell? ⟨w.heap.size, 4, none⟩ = some (.int .i64 x.s) ∧ w'.cell? ⟨w.heap.size, 5, none⟩ = some (.int .i64 x.lo) ∧ w'.cell? ⟨w.heap.size, 6, none⟩ = some (.int .i64 x.hi) ∧ w'.cell? ⟨w.heap.size, 7, none⟩ = some (.slice xo x.n xc) ∧ w'.cell? ⟨w.heap.size, 8, none⟩ = some (.bool x.fu)) (go_keep) (first | (go_at_call 9; refine (toEntryS_any ao n cap X _ (hr.keep (bw2.trans (cw19.drew.mono sw2))) hn hz).mono ?_; rintro e w20 ⟨G20, rfl, o20, hb20⟩; have hd20 : Below w19.heap.size w19 w20 := (Below.refl _ w19).drew.trans hb20; obtain ⟨_, p0, p1, p2, p3, p4, p5, p6, p7, p8⟩ := (A2.keep (cw19.trans (hd20.mono s19))).z; clear hb20) | (go_at_call 14; refine (toEntry_any x xo xc _ (hx.keep (bw2.trans ((cw19.trans (hd20.mono s19)).mono sw2))) hzx.2).mono ?_; rintro e w21 ⟨g21, rfl, _, o21, hb21⟩; have hd21 : Below w19.heap.size w19 w21 := hd20.trans (hb21.mono hd20.size); have o201 := o20.keep hb21; obtain ⟨_, q0, q1, q2, q3, q4, q5, q6, q7, q8⟩ := (A2.keep (cw19.trans (hd21.mono s19))).z; clear hb21) | (go_at_call 15; refine (hI _ _ _ _ _ (o201.row hbd) o21.row).mono ?_; rintro e w22 ⟨vh, Vh, rfl, OH, hb22⟩; have hd22 : Below w19.heap.size w19 w22 := hd21.trans (hb22.mono hd21.size); obtain ⟨po, hpc, rfl, rH⟩ := OH.erow hEb; obtain ⟨_, r0, r1, r2, r3, r4, r5, r6, r7, r8⟩ := (A2.keep (cw19.trans (hd22.mono s19))).z; clear hb22))
  clear a0 a1 a2 a3 a4 a5 a6 a7 a8 p0 p1 p2 p3 p4 p5 p6 p7 p8 q0 q1 q2 q3 q4 q5 q6 q7 q8 r0 r1 r2 r3 r4 r5 r6 r7 r8 o201 o21 o20 OH hd20 hd21
  have cw22 : Below w2.heap.size w2 w22 := cw19.trans (hd22.mono s19)
  have OW22 := OW19.keep hd22
  go_wp2_with fail
  refine (eqEntryS_same po wo E.length hpc wc (eL E) _ rH (gW _ OW22) hE1 hzE).mono ?_
  rintro e w23 ⟨rfl, hb23⟩
  have cw23 : Below w2.heap.size w2 w23 := cw22.trans (hb23.mono cw22.size)
  have hfar : Below w18.heap.size w18 w23 := (hb19.trans (hd22.mono hb19.size)).trans (hb23.mono (Nat.le_trans hb19.size hd22.size))
  clear hb19 hd22 hb23 OW19 OW22 rH cw22 cw19
  go_wp2_with fail
  refine (hheld _ hfar).mono ?_
  rintro e w24 ⟨rfl, hb24⟩
  have bw24 : Below w.heap.size w w24 := bw2.trans ((cw23.trans (hb24.mono cw23.size)).mono sw2)
  clear hb24
  go_wp2
  go_ret
  exact ⟨rfl, bw24⟩
end Go.Proofs.Ytijondokppainaa
