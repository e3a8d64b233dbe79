/- addEvent of what is no event, or of a late one. / addEvent of a late event. / addEvent, where no window is left for an event. / addEvent, where no window is left for an event. -/
import Derived.Test.YtpggmgmdcccmeaaIo
import Derived.Test.YtpggmgmdcccmeaaKa
import Derived.Test.YtpggmgmdcccmeaaRm
import Derived.Test.YtpggmgmdcccmeaaPm
import Derived.BigQuiet
namespace Go.Proofs.Ytpggmgmdcccmeaa
open Go.RowKit
set_option linter.unusedSimpArgs false
set_option linter.unusedVariables false

/-- What an event must be. -/
def evK (x : Wn) (t v : Int) : Prop := isV v = true ∧ isTm t = true ∧ gK x = true ∧ x.st = 0
/-- A key no greater than what is measured. -/
structure KSz (x : Wn) : Prop where
  m : x.m.size ≤ 1048576
  tn : x.tn ≤ 1048576
  ts : TSize x.tn x.nm x.vl 1048576
theorem goodK_any (x : Wn) (a0 : Option Addr) (c0 : Nat) (w : World) (hr : TRow w a0 x.tn x.nm x.vl) (hz : KSz x) :
    Calls Try.prog 39 #[.agg #[.string x.m, .slice a0 x.tn c0, .int .i64 x.st]] w fun e w' => e = .returned (.bool (gK x)) ∧ Below w.heap.size w w' := goodKey_impl x.m x.st a0 x.tn c0 x.nm x.vl w hr hz.m hz.tn hz.ts
/-- A code, and nothing below is written. -/
def CodO (c : Int) (w : World) (e : Ending) (w' : World) : Prop := e = .returned (.int .i64 c) ∧ Below w.heap.size w w'

set_option maxRecDepth 100000 in
set_option maxHeartbeats 4000000 in
theorem addEvent_bad (p : Nat) (x : Wn) (a0 : Option Addr) (c0 : Nat) (t v : Int) (w : World) (rt : TRow w a0 x.tn x.nm x.vl) (hz : KSz x) (hE : Hid (¬ evK x t v)) :
    Calls Try.prog 31 #[.pointer (some ⟨p, 0, none⟩), .agg #[.string x.m, .slice a0 x.tn c0, .int .i64 x.st], .int .i64 t, .int .i64 v] w fun e w' => CodO 1 w e w' := by
  have hB := below_new w (.cells #[.string x.m, .slice a0 x.tn c0, .int .i64 x.st] 32)
  have K0 := KAt.new w x.m (.slice a0 x.tn c0) x.st 32
  by_cases hv : isV v = true
  · go_enter Try.func31, Try.ntmps31
    go_wp2_with fail
    generalize w.alloc (.cells #[.string x.m, .slice a0 x.tn c0, .int .i64 x.st] 32) = w0 at hB K0 ⊢
    refine (aggOf_yes v _ hv).mono ?_
    rintro e w1 ⟨G, rfl, hG, oG, hb1⟩
    have hB2 := below_new w1 (.cells #[.int .i64 1, .int .i64 v, .int .i64 v, .int .i64 v, .slice (some ⟨G, 0, none⟩) 8 8, .bool false] 35)
    have K2 := (K0.keep hb1).keep hB2
    have bw2 := (hB.trans (hb1.mono hB.size)).trans (hB2.mono (Nat.le_trans hB.size hb1.size))
    clear K0 hB hb1 hB2 oG
    go_wp2_with fail
    generalize w1.alloc (.cells #[.int .i64 1, .int .i64 v, .int .i64 v, .int .i64 v, .slice (some ⟨G, 0, none⟩) 8 8, .bool false] 35) = w2 at K2 bw2 ⊢
    obtain ⟨_, k0, k1, k2⟩ := K2
    refine (isTime_any t _).mono ?_
    rintro e w3 ⟨rfl, rfl⟩
    by_cases ht : isTm t = true
    · rw [ht]
      go_wp2_with fail
      refine (goodK_any x a0 c0 _ (rt.keep bw2) hz).mono ?_
      rintro e w4 ⟨rfl, hb4⟩
      have bw4 := bw2.trans (hb4.mono bw2.size)
      have k2' := (hb4.cell (p := ⟨w.heap.size, 2, none⟩) (by assumption)).trans k2
      by_cases hg : gK x = true
      · have hst : ¬ x.st = 0 := fun h => hE.out ⟨hv, ht, hg, h⟩
        rw [hg]
        go_wp2
        go_ret
        exact ⟨rfl, bw4⟩
      · rw [Bool.not_eq_true] at hg
        rw [hg]
        go_wp2
        go_ret
        exact ⟨rfl, bw4⟩
    · rw [Bool.not_eq_true] at ht
      rw [ht]
      go_wp2
      go_ret
      exact ⟨rfl, bw2⟩
  · rw [Bool.not_eq_true] at hv
    go_enter Try.func31, Try.ntmps31
    go_wp2_with fail
    generalize w.alloc (.cells #[.string x.m, .slice a0 x.tn c0, .int .i64 x.st] 32) = w0 at hB K0 ⊢
    refine (aggOf_no v _ hv).mono ?_
    rintro e w1 ⟨G, rfl, hb1⟩
    have hB2 := below_new w1 (.cells #[.int .i64 0, .int .i64 0, .int .i64 0, .int .i64 0, .slice (some ⟨G, 0, none⟩) 8 8, .bool false] 35)
    have bw2 := (hB.trans (hb1.mono hB.size)).trans (hB2.mono (Nat.le_trans hB.size hb1.size))
    go_wp2
    go_ret
    exact ⟨rfl, bw2⟩
end Go.Proofs.Ytpggmgmdcccmeaa
namespace Go.Proofs.Ytpggmgmdcccmeaa
open Go.RowKit
set_option linter.unusedSimpArgs false
set_option linter.unusedVariables false

set_option maxRecDepth 100000 in
set_option maxHeartbeats 4000000 in
theorem addEvent_late (p : Nat) (z h mk : Int) (sv : Value) (x : Wn) (a0 : Option Addr) (c0 : Nat) (t v : Int) (w : World) (hbx : BdAt w p z h mk sv) (hmh : -9223372036854775808 ≤ mk - h ∧ mk - h ≤ 9223372036854775807) (rt : TRow w a0 x.tn x.nm x.vl) (hz : KSz x) (hE : Hid (evK x t v)) (hl : t < mk - h) :
    Calls Try.prog 31 #[.pointer (some ⟨p, 0, none⟩), .agg #[.string x.m, .slice a0 x.tn c0, .int .i64 x.st], .int .i64 t, .int .i64 v] w fun e w' => CodO 2 w e w' := by
  have hB := below_new w (.cells #[.string x.m, .slice a0 x.tn c0, .int .i64 x.st] 32)
  have K0 := KAt.new w x.m (.slice a0 x.tn c0) x.st 32
  obtain ⟨hv, ht, hg, hst⟩ := hE.out
  have HST : Hid (x.st = 0) := hst
  clear hst
  have hw : IntKind.i64.wrap (mk - h) = mk - h := by rw [IntKind.wrap_i64] <;> omega
  go_enter Try.func31, Try.ntmps31
  go_wp2_with fail
  generalize w.alloc (.cells #[.string x.m, .slice a0 x.tn c0, .int .i64 x.st] 32) = w0 at hB K0 ⊢
  refine (aggOf_yes v _ hv).mono ?_
  rintro e w1 ⟨G, rfl, hG, oG, hb1⟩
  have hB2 := below_new w1 (.cells #[.int .i64 1, .int .i64 v, .int .i64 v, .int .i64 v, .slice (some ⟨G, 0, none⟩) 8 8, .bool false] 35)
  have K2 := (K0.keep hb1).keep hB2
  have bw2 := (hB.trans (hb1.mono hB.size)).trans (hB2.mono (Nat.le_trans hB.size hb1.size))
  clear K0 hB hb1 hB2 oG
  go_wp2_with fail
  generalize w1.alloc (.cells #[.int .i64 1, .int .i64 v, .int .i64 v, .int .i64 v, .slice (some ⟨G, 0, none⟩) 8 8, .bool false] 35) = w2 at K2 bw2 ⊢
  obtain ⟨_, k0, k1, k2⟩ := K2
  refine (isTime_any t _).mono ?_
  rintro e w3 ⟨rfl, rfl⟩
  rw [ht]
  go_wp2_with fail
  refine (goodK_any x a0 c0 _ (rt.keep bw2) hz).mono ?_
  rintro e w4 ⟨rfl, hb4⟩
  have bw4 := bw2.trans (hb4.mono bw2.size)
  have k2' := (hb4.cell (p := ⟨w.heap.size, 2, none⟩) (by assumption)).trans k2
  have p1 := (bw4.cell (p := ⟨p, 1, none⟩) hbx.lt).trans hbx.c1
  have p2 := (bw4.cell (p := ⟨p, 2, none⟩) hbx.lt).trans hbx.c2
  rw [hg]
  rw [HST.out] at k2'
  go_wp2
  go_region
  all_goals
    go_wp2
    go_ret
    first | exact ⟨rfl, bw4⟩ | exact ⟨rfl, bw4.drew⟩
end Go.Proofs.Ytpggmgmdcccmeaa
namespace Go.Proofs.Ytpggmgmdcccmeaa
open Go.RowKit
set_option linter.unusedSimpArgs false
set_option linter.unusedVariables false

/-- A key in the box D, all else below D being kept. -/
structure KBx (w W : World) (D : Nat) (m : ByteArray) (sv : Value) (st : Int) : Prop where
  A : KAt W D m sv st
  fz : ∀ j, W.frozen? ⟨D, j, none⟩ = false
  bw : Below D w W
section
variable {w W W' : World} {D : Nat} {m : ByteArray} {sv : Value} {st : Int}
theorem KBx.keep (h : KBx w W D m sv st) (hb : Below W.heap.size W W') : KBx w W' D m sv st :=
  ⟨h.A.keep hb, fun j => (hb.frozen (p := ⟨D, j, none⟩) h.A.lt).trans (h.fz j), h.bw.trans (hb.mono (Nat.le_of_lt h.A.lt))⟩
theorem KBx.put (h : KBx w W D m sv st) (m' : ByteArray) (sv' : Value) (st' : Int) : KBx w (((W.setCell ⟨D, 0, none⟩ (.string m')).setCell ⟨D, 1, none⟩ sv').setCell ⟨D, 2, none⟩ (.int .i64 st')) D m' sv' st' := by
  refine ⟨⟨by simpa using h.A.lt, ?_, ?_, ?_⟩, fun j => by rw [frozen_set, frozen_set, frozen_set]; exact h.fz j, ?_⟩
  · rw [World.cell?_setCell_other _ _ _ _ (adr_ne (by decide)), World.cell?_setCell_other _ _ _ _ (adr_ne (by decide))]
    exact World.cell?_setCell_same _ _ _ h.A.c0
  · rw [World.cell?_setCell_other _ _ _ _ (adr_ne (by decide))]
    exact World.cell?_setCell_same _ _ _ ((World.cell?_setCell_other _ _ _ _ (adr_ne (by decide))).trans h.A.c1)
  · exact World.cell?_setCell_same _ _ _ (((World.cell?_setCell_other _ _ _ _ (adr_ne (by decide))).trans (World.cell?_setCell_other _ _ _ _ (adr_ne (by decide)))).trans h.A.c2)
  · exact ((h.bw.setCell (Nat.le_refl _) _).setCell (Nat.le_refl _) _).setCell (Nat.le_refl _) _
theorem KBx.set2 (h : KBx w W D m sv st) (st' : Int) : KBx w (W.setCell ⟨D, 2, none⟩ (.int .i64 st')) D m sv st' :=
  ⟨⟨by simpa using h.A.lt, (World.cell?_setCell_other _ _ _ _ (adr_ne (by decide))).trans h.A.c0, (World.cell?_setCell_other _ _ _ _ (adr_ne (by decide))).trans h.A.c1, World.cell?_setCell_same _ _ _ h.A.c2⟩, fun j => (frozen_set _ _ _ _).trans (h.fz j), h.bw.setCell (Nat.le_refl _) _⟩
end
/-- The key of an event's window. -/
def evX (x : Wn) (st : Int) : Wn := { x with st := st }
/-- A row of tags of the call's own is a row of tags. -/
theorem trow_of {w : World} {base n : Nat} {ao : Option Addr} {cap : Nat} {nm vl : Nat → ByteArray} (h : w.ownsRow base 92 2 (.slice ao n cap) n (tcells nm vl n)) : TRow w ao n nm vl := by
  by_cases h0 : n = 0
  · exact ⟨.inl h0⟩
  · obtain ⟨g, cap', e, hb, ho⟩ := TV.own (x := ⟨.empty, n, nm, vl, 0, 0, 0, 0, 0, 0, fun _ => 0, false, 0, false⟩) h (Nat.pos_of_ne_zero h0)
    injection e with e1 _ _
    subst e1
    exact ho.row
theorem evX_good {x : Wn} {t z : Int} (h : gK x = true) (ht : isTm t = true) (hz : isSz z = true) : gK (evX x (t - t % z)) = true := by
  have h1 : 0 ≤ t ∧ t ≤ 1000000000 := by simpa [isTm, btw] using ht
  have h2 : 1 ≤ z ∧ z ≤ 100000 := by simpa [isSz, btw] using hz
  have h3 := Int.emod_nonneg t (show z ≠ 0 by omega)
  have h4 : t % z ≤ t := by
    have := Int.mul_ediv_add_emod t z
    have h5 : 0 ≤ t / z := Int.ediv_nonneg h1.1 (by omega)
    have h6 : 0 ≤ z * (t / z) := Int.mul_nonneg (by omega) h5
    omega
  unfold gK evX at *
  unfold goodB at *
  simp only [Bool.and_eq_true, decide_eq_true_eq] at h ⊢
  exact ⟨⟨h.1.1, by omega⟩, by omega⟩
end Go.Proofs.Ytpggmgmdcccmeaa
namespace Go.Proofs.Ytpggmgmdcccmeaa
open Go.RowKit
set_option linter.unusedSimpArgs false
set_option linter.unusedVariables false

set_option maxRecDepth 100000 in
set_option maxHeartbeats 4000000 in
theorem addEvent_full (base p r q : Nat) (z h mk : Int) (sv : Value) (n : Nat) (Y : Nat → Wn) (V : Nat → Value) (S : ByteArray → Prop) (x : Wn) (a0 : Option Addr) (c0 : Nat) (t v : Int) (w : World) (H : WSt w base p r z h mk sv n Y V S) (hbd : ∀ i, i < n → WiB (Y i)) (hf : FBw n Y) (hg : Hid (∀ i, i < n → gK (Y i) = true)) (hn : n ≤ 1048576)
    (hmh : -9223372036854775808 ≤ mk - h ∧ mk - h ≤ 9223372036854775807) (rt : TRow w a0 x.tn x.nm x.vl) (hz : KSz x) (hE : Hid (evK x t v)) (hsz : Hid (isSz z = true)) (hl : ¬ t < mk - h)
    (hm : Hid (∀ i j, i ≤ j → j < n → kc (Y j) (evX x (t - t % z)) < 0 → kc (Y i) (evX x (t - t % z)) < 0)) (hP : Hid (PosK Y n (evX x (t - t % z)) q)) (hno : Hid (¬ (q < n ∧ kc (Y q) (evX x (t - t % z)) = 0))) (h40 : 40 ≤ n) :
    Calls Try.prog 31 #[.pointer (some ⟨p, 0, none⟩), .agg #[.string x.m, .slice a0 x.tn c0, .int .i64 x.st], .int .i64 t, .int .i64 v] w fun e w' => CodO 3 w e w' := by
  obtain ⟨va, vc, rfl⟩ := ownsRow_form H.out.own
  obtain ⟨hv, ht, hgx, hst⟩ := hE.out
  have HST : Hid (x.st = 0) := hst
  clear hst
  have hgT : Hid (gK (evX x (t - t % z)) = true) := evX_good hgx ht hsz.out
  have hSo : Hid (SoA t z = .returned (.tuple #[.int .i64 (t - t % z), .bool true])) := by unfold Hid SoA; rw [if_pos ⟨ht, hsz.out⟩]
  generalize t - t % z = T at hm hP hno hgT hSo
  have hpl : ∀ (b : Option Addr) (d : Nat) (W : World), Below w.heap.size w W → TRow W b x.tn x.nm x.vl → Calls Try.prog 40 #[.pointer (some ⟨p, 0, none⟩), .agg #[.string x.m, .slice b x.tn d, .int .i64 T]] W fun e w' => PlO n Y (evX x T) q W e w' := fun b d W hbW hrW => place_any base p r q z h mk (.slice va n vc) n Y V S (evX x T) b d W (H.keep hbW) hbd hf hg hn hgT hrW hm hP
  have hbx := H.box
  have hw : IntKind.i64.wrap (mk - h) = mk - h := by rw [IntKind.wrap_i64] <;> omega
  have K0 : KBx w (w.alloc (.cells #[.string x.m, .slice a0 x.tn c0, .int .i64 x.st] 32)) w.heap.size x.m (.slice a0 x.tn c0) x.st := ⟨KAt.new w x.m (.slice a0 x.tn c0) x.st 32, fun j => by simp [go_sem], below_new w _⟩
  have hnI : (40 : Int) ≤ (n : Int) := by omega
  clear H hbd hf hg hP hm hgT
  go_enter Try.func31, Try.ntmps31
  go_wp2_with fail
  generalize w.alloc (.cells #[.string x.m, .slice a0 x.tn c0, .int .i64 x.st] 32) = w0 at K0 ⊢
  refine (aggOf_yes v _ hv).mono ?_
  rintro e w1 ⟨G, rfl, hG, oG, hb1⟩
  have hB2 := below_new w1 (.cells #[.int .i64 1, .int .i64 v, .int .i64 v, .int .i64 v, .slice (some ⟨G, 0, none⟩) 8 8, .bool false] 35)
  have K2 := (K0.keep hb1).keep hB2
  clear K0 hb1 hB2 oG
  go_wp2_with fail
  generalize w1.alloc (.cells #[.int .i64 1, .int .i64 v, .int .i64 v, .int .i64 v, .slice (some ⟨G, 0, none⟩) 8 8, .bool false] 35) = w2 at K2 ⊢
  have K2A := K2.A
  obtain ⟨_, k0, k1, k2⟩ := K2A
  refine (isTime_any t _).mono ?_
  rintro e w3 ⟨rfl, rfl⟩
  rw [ht]
  go_wp2_with fail
  refine (goodK_any x a0 c0 _ (rt.keep K2.bw) hz).mono ?_
  rintro e w4 ⟨rfl, hb4⟩
  have K4 := K2.keep hb4
  rw [HST.out] at K4
  have K4A := K4.A
  have p1 := (K4.bw.cell (p := ⟨p, 1, none⟩) hbx.lt).trans hbx.c1
  have p2 := (K4.bw.cell (p := ⟨p, 2, none⟩) hbx.lt).trans hbx.c2
  clear k0 k1 k2 K2 hb4
  obtain ⟨_, k0, k1, k2⟩ := K4A
  rw [hgx]
  go_wp2
  go_quiet (fail)
  go_wp2_with fail
  have KD := K4.keep (below_drewN (Below.refl w4.heap.size w4) nq)
  refine (copyKey_any x.m 0 a0 x.tn c0 x.nm x.vl _ (rt.keep KD.bw) hz.tn).mono ?_
  rintro e w5 ⟨kv, rfl, hown, hb5⟩
  obtain ⟨ka, kcp, rfl⟩ := ownsRow_form hown
  have K5 := KD.keep hb5
  have K6 := K5.put x.m (.slice ka x.tn kcp) 0
  have hne : (Value.slice ka x.tn kcp).ownBlock ≠ some w.heap.size := fun hk => by have := (hown.lt _ hk).1; have := KD.A.lt; omega
  have o6 := ownsRow_others (ownsRow_others (ownsRow_others hown (Others.setCell w5 w.heap.size 0 (.string x.m)) hne) (Others.setCell _ w.heap.size 1 (.slice ka x.tn kcp)) hne) (Others.setCell _ w.heap.size 2 (.int .i64 0)) hne
  have p0 := (K6.bw.cell (p := ⟨p, 0, none⟩) hbx.lt).trans hbx.c0
  have K5A := K5.A
  have K5z := K5.fz
  obtain ⟨_, e0, e1, e2⟩ := K5A
  clear k0 k1 k2 K4 KD hown hb5 p1 p2
  go_wp2_with fail
  generalize ((w5.setCell ⟨w.heap.size, 0, none⟩ (.string x.m)).setCell ⟨w.heap.size, 1, none⟩ (.slice ka x.tn kcp)).setCell ⟨w.heap.size, 2, none⟩ (.int .i64 0) = w6 at K6 o6 p0 ⊢
  refine (startOf_impl t z _).mono ?_
  rintro e w7 ⟨rfl, rfl⟩
  rw [hSo.out]
  have K7 := K6.set2 T
  have o7 := ownsRow_others o6 (Others.setCell _ w.heap.size 2 (.int .i64 T)) hne
  have K6A := K6.A
  have K6z := K6.fz
  obtain ⟨_, f0, f1, f2⟩ := K6A
  clear e0 e1 e2 K5 K5z
  go_wp2_with fail
  generalize w7.setCell ⟨w.heap.size, 2, none⟩ (.int .i64 T) = w8 at K7 o7 ⊢
  refine (hpl ka kcp _ K7.bw (trow_of o7)).mono ?_
  rintro e w9 ⟨bb, rfl, hbb, hb9⟩
  have ebb : bb = false := by
    cases bb
    · rfl
    · exact absurd (hbb.1 rfl) hno.out
  subst ebb
  have K9 := K7.keep hb9
  have p3 := (K9.bw.cell (p := ⟨p, 3, none⟩) hbx.lt).trans hbx.c3
  clear f0 f1 f2 K6 K7 hbb hpl
  go_wp2
  go_ret
  exact ⟨rfl, K9.bw⟩
end Go.Proofs.Ytpggmgmdcccmeaa
