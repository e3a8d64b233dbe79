/- ReadTable in both texts, and its law. -/
import Derived.Test.YtpfjflbbpecbkaaGreatEe
import Derived.Test.YtpfjflbbpecbkaaGreatDh
import Derived.Test.YtpfjflbbpecbkaaGreatCx
namespace Go.Proofs.YtpfjflbbpecbkaaGreat
set_option maxRecDepth 100000
open Go.RowKit
set_option linter.unusedSimpArgs false
set_option linter.unusedVariables false

/-- What ReadTable answers: m entries that hold what Z does, and a code. -/
def RTk (f : Nat → Int) (n : Nat) (Z : Nat → Ent) (m : Nat) (c : Int) : Prop :=
  (∃ p, IsTb f n Z m p ∧ c = 0) ∨ ((∀ X m p, ¬ IsTb f n X m p) ∧ m = 0 ∧ c = noC f n)
theorem rtk_ex (f : Nat → Int) (n : Nat) : ∃ Z m c, RTk f n Z m c := by
  by_cases h : ∃ X m p, IsTb f n X m p
  · obtain ⟨X, m, p, h⟩ := h
    exact ⟨X, m, 0, .inl ⟨p, h, rfl⟩⟩
  · exact ⟨fun _ => ⟨⟨#[]⟩, 0, 0, 0, 0, 0, 0, 0, fun _ => 0, false⟩, 0, noC f n, .inr ⟨fun X m p hh => h ⟨X, m, p, hh⟩, rfl, rfl⟩⟩
/-- Entries that hold what Z does, no greater than they may be. -/
structure GX (m : Nat) (X Z : Nat → Ent) : Prop where
  eb : ∀ i, i < m → EB (X i)
  fx : FX m X
  sz : ESize m X
  n8 : ∀ i, i < m → (X i).n ≤ 8
  same : ∀ i, i < m → SameE (X i) (Z i)
theorem gx_zero (X Z : Nat → Ent) : GX 0 X Z := ⟨fun i h => absurd h (Nat.not_lt_zero _), fun i h => absurd h (Nat.not_lt_zero _), fun i h => absurd h (Nat.not_lt_zero _), fun i h => absurd h (Nat.not_lt_zero _), fun i h => absurd h (Nat.not_lt_zero _)⟩
theorem SameE.trans {x y z : Ent} (h : SameE x y) (k : SameE y z) : SameE x z := by
  obtain ⟨h1, h2, h3, h4, h5, h6, h7, h8, h9, h10⟩ := h
  obtain ⟨k1, k2, k3, k4, k5, k6, k7, k8, k9, k10⟩ := k
  exact ⟨h1.trans k1, h2.trans k2, h3.trans k3, h4.trans k4, h5.trans k5, h6.trans k6, h7.trans k7, h8.trans k8, fun i hi => (h9 i hi).trans (k9 i (by omega)), h10.trans k10⟩
theorem GX.rows {m : Nat} {X Y Z : Nat → Ent} (h : GX m X Z) (k : GX m Y Z) {w : World} {ao : Option Addr} (hr : ERow w ao m X) : ERow w ao m Y :=
  hr.same (fun i hi => (h.same i hi).trans (k.same i hi).symm) k.eb k.fx
theorem gx_of {f : Nat → Int} {n : Nat} {X Z : Nat → Ent} {m k : Nat} {p q : Int} (h : IsTb f n (fun i => nrE (X i)) m p) (hZ : IsTb f n Z k q) (hEB : ∀ i, i < m → EB (nrE (X i))) (hES : ESize m (fun i => nrE (X i))) {w : World} {base : Nat} {v : Value} {V : Nat → Value} (hO : OutH w base v m (fun i => nrE (X i)) V) : k = m ∧ GX m (fun i => nrE (X i)) Z := by
  obtain ⟨e, ha⟩ := h.one hZ
  refine ⟨e, hEB, fun i hi => ?_, hES, fun i hi => ?_, fun i hi => (ha i hi).1⟩
  · obtain ⟨lo, lc, _, hI⟩ := (hO.row i hi).io
    exact hI.bd
  · rcases ((h.1.1.2.1 i hi).2.2) with ⟨_, hA⟩ | ⟨_, hz⟩
    · have h8 : (nrE (X i)).n = 8 := hA.2.1
      show (nrE (X i)).n ≤ 8
      omega
    · have h8 : (nrE (X i)).n = 0 := hz.2.2.2.2.1
      show (nrE (X i)).n ≤ 8
      omega
/-- What both texts leave. -/
def RTa (Z : Nat → Ent) (m : Nat) (c : Int) (w : World) (e : Ending) (w' : World) : Prop :=
  ∃ v X, e = .returned (.tuple #[v, .int .i64 c]) ∧ CX w' w.heap.size w'.heap.size v m X ∧ GX m X Z ∧ Below w.heap.size w w'

set_option maxHeartbeats 1600000 in
theorem readTable_impl (Z : Nat → Ent) (m : Nat) (c : Int) (bb bo n cap : Nat) (f : Nat → Int) (w : World) (hK : RTk f n Z m c) (hr : Row w (some ⟨bb, bo, none⟩) n f) (hbb : bb < w.heap.size) (hn : n ≤ 1048576) (hcap : n ≤ cap) :
    Calls Tryz.prog 9 #[.slice (some ⟨bb, bo, none⟩) n cap] w fun e w' => RTa Z m c w e w' := by
  have HKK : Hid (RTk f n Z m c) := hK
  clear hK
  go_enter Tryz.func9, Tryz.ntmps9
  go_wp2_with fail
  refine (openTable_any bb bo n cap f w hr hbb hn hcap).mono ?_
  rintro e w1 (⟨X, k, p, v, V, fo, fc, hT, rfl, hO, hEB, hES, hrF, q1⟩ | ⟨hno, rfl, q1⟩)
  · obtain ⟨lo, lc, rfl⟩ := ownsRow_form hO.own
    have HA : Hid (m = k ∧ c = 0 ∧ GX m (fun i => nrE (X i)) Z) := by
      rcases HKK.out with ⟨q, h1, h2⟩ | ⟨h1, _⟩
      · obtain ⟨e, hg⟩ := gx_of hT h1 hEB hES hO
        exact ⟨e, h2, by rw [e]; exact hg⟩
      · exact absurd hT (h1 _ _ _)
    have b2 := below_new w1 (.cells #[.slice lo k lc, .int .i64 (fwI p), .slice fo (fbN (fun i => nrE (X i)) k p) fc] 42)
    have bA := q1.trans (b2.mono q1.size)
    have O2 := hO.keep b2
    clear hT hO hEB hES hrF HKK b2
    generalize fbN (fun i => nrE (X i)) k p = fn at *
    go_wp2
    refine bodyPost_ret (v := .tuple #[.slice lo k lc, .int .i64 0]) (by simp [results, Tryz.results9, go_sem]) rfl ?_
    obtain ⟨e1, e2, hg⟩ := HA.out
    rw [e1] at hg
    exact ⟨_, fun i => nrE (X i), by rw [e2], by rw [e1]; exact cx_of_outH O2, by rw [e1]; exact hg, bA⟩
  · have HA : Hid (m = 0 ∧ c = noC f n) := by
      rcases HKK.out with ⟨q, h1, h2⟩ | ⟨_, h⟩
      · exact absurd h1 (hno _ _ _)
      · exact h
    have bA := q1.trans ((below_new w1 (.cells #[.slice none 0 0, .int .i64 0, .slice none 0 0] 42)).mono q1.size)
    clear hno HKK
    generalize noC f n = c' at *
    go_wp2
    refine bodyPost_ret (v := .tuple #[.slice none 0 0, .int .i64 c']) (by simp [results, Tryz.results9, go_sem]) rfl ?_
    obtain ⟨e1, e2⟩ := HA.out
    rw [e1, e2]
    exact ⟨_, Z, rfl, cx_nil _ _ _ _ _, gx_zero _ _, bA⟩
set_option maxHeartbeats 1600000 in
theorem readTable_spec (Z : Nat → Ent) (m : Nat) (c : Int) (bb bo n cap : Nat) (f : Nat → Int) (w : World) (hK : RTk f n Z m c) (hr : Row w (some ⟨bb, bo, none⟩) n f) (hbb : bb < w.heap.size) (hn : n ≤ 1048576) (hcap : n ≤ cap) :
    Calls Tryz.prog 7 #[.slice (some ⟨bb, bo, none⟩) n cap] w fun e w' => RTa Z m c w e w' := by
  have HKK : Hid (RTk f n Z m c) := hK
  clear hK
  go_enter Tryz.func7, Tryz.ntmps7
  go_wp2_with fail
  refine (l7Read_any bb bo n cap f w hr hbb hn hcap).mono ?_
  rintro e w1 (⟨X, k, p, v, V, hT, rfl, hO, hEB, hES, q1⟩ | ⟨hno, rfl, q1⟩)
  · obtain ⟨lo, lc, rfl⟩ := ownsRow_form hO.own
    have HA : Hid (m = k ∧ c = 0 ∧ GX m (fun i => nrE (X i)) Z) := by
      rcases HKK.out with ⟨q, h1, h2⟩ | ⟨h1, _⟩
      · obtain ⟨e, hg⟩ := gx_of hT h1 hEB hES hO
        exact ⟨e, h2, by rw [e]; exact hg⟩
      · exact absurd hT (h1 _ _ _)
    have HO : Hid (OutH w1 w.heap.size (.slice lo k lc) k (fun i => nrE (X i)) V) := hO
    clear hT hO hEB hES HKK
    go_wp2
    refine bodyPost_ret (v := .tuple #[.slice lo k lc, .int .i64 0]) (by simp [results, Tryz.results7, go_sem]) rfl ?_
    obtain ⟨e1, e2, hg⟩ := HA.out
    rw [e1] at hg
    exact ⟨_, fun i => nrE (X i), by rw [e2], by rw [e1]; exact cx_of_outH HO.out, by rw [e1]; exact hg, q1⟩
  · have HA : Hid (m = 0 ∧ c = noC f n) := by
      rcases HKK.out with ⟨q, h1, h2⟩ | ⟨_, h⟩
      · exact absurd h1 (hno _ _ _)
      · exact h
    clear hno HKK
    generalize noC f n = c' at *
    go_wp2
    refine bodyPost_ret (v := .tuple #[.slice none 0 0, .int .i64 c']) (by simp [results, Tryz.results7, go_sem]) rfl ?_
    obtain ⟨e1, e2⟩ := HA.out
    rw [e1, e2]
    exact ⟨_, Z, rfl, cx_nil _ _ _ _ _, gx_zero _ _, q1⟩

set_option maxHeartbeats 8000000 in
theorem readTable_law (ao : Option Addr) (n cap : Nat) (f : Nat → Int) (w : World) (hr : Row w ao n f) (hnx : n ≤ maxLen) :
    Calls Tryz.prog 3 #[.slice ao n cap] w fun e w' => e = .returned (.bool true) ∧ Below w.heap.size w w' := by
  by_cases hks : 1048576 < n
  · go_enter Tryz.func3, Tryz.ntmps3
    go_wp2
    go_ret
    exact ⟨rfl, Below.refl _ _⟩
  have hn : n ≤ 1048576 := by omega
  clear hnx
  obtain ⟨Z, m, c, hK⟩ := rtk_ex f n
  have HK : Hid (RTk f n Z m c) := hK
  have hm : m ≤ 100 := by
    rcases hK with ⟨p, h, _⟩ | ⟨_, h, _⟩
    · exact h.1.1.1.2
    · omega
  clear hK
  have hcc : (c != c) = false := by simp
  go_enter Tryz.func3, Tryz.ntmps3
  go_wp2_with fail
  refine (toByteS_any ao n cap f _ hr hn).mono ?_
  rintro e w2 ⟨rfl, o2, bw2⟩
  go_wp2_with fail
  refine (readTable_spec Z m c _ 0 n n f _ HK.out o2.row o2.lt hn (Nat.le_refl _)).mono ?_
  rintro e w3 ⟨vw, XW, rfl, OW, GW, b3⟩
  have bw3 := bw2.trans (b3.mono bw2.size)
  obtain ⟨wo, wc, rfl⟩ := OW.form
  clear o2 b3
  go_wp2_with fail
  refine (toByteS_any ao n cap f _ (hr.keep bw3) hn).mono ?_
  rintro e w4 ⟨rfl, o4, b4⟩
  have bw4 := bw3.trans (b4.mono bw3.size)
  have OW4 := OW.keep b4
  have s34 := o4.lt
  have s4 := b4.size
  clear OW b4
  go_wp2_with fail
  refine (readTable_impl Z m c _ 0 n n f _ HK.out o4.row o4.lt hn (Nat.le_refl _)).mono ?_
  rintro e w5 ⟨vg, XG, rfl, OG, GG, b5⟩
  have bw5 := bw4.trans (b5.mono bw4.size)
  obtain ⟨go, gc, rfl⟩ := OG.form
  have OW5 := OW4.keep b5
  have x5 := o4.keep b5
  have s5 := b5.size
  have hE1 : m ≤ 1048576 := by omega
  have hkE := kOf_few GG.n8 m (Nat.le_refl _)
  clear OW4 o4 b5
  go_wp2_with fail
  refine (eqEntryS_same go wo m gc wc XW _ (GG.rows GW (OG.erow GG.eb GG.fx).2) (OW5.erow GW.eb GW.fx).2 hE1 GW.sz).mono ?_
  rintro e w6 ⟨rfl, b6⟩
  have bw6 := bw5.trans (b6.mono bw5.size)
  have OW6 := OW5.keep b6
  have OG6 := OG.keep b6
  have x6 := x5.keep b6
  have s6 := b6.size
  clear OW5 OG x5 b6
  go_wp2_with fail
  refine (toByteS_any ao n cap f _ (hr.keep bw6) hn).mono ?_
  rintro e w7 ⟨rfl, o7, b7⟩
  have bw7 := bw6.trans (b7.mono bw6.size)
  have OW7 := OW6.keep b7
  have OG7 := OG6.keep b7
  have x7 := x6.keep b7
  have s7 := b7.size
  clear OW6 OG6 x6 b7
  go_wp2_with fail
  refine (eqByteS_same _ _ n n n f _ x7.row o7.row hn).mono ?_
  rintro e w8 ⟨rfl, b8⟩
  have bw8 := bw7.trans (b8.mono bw7.size)
  have OW8 := OW7.keep b8
  have OG8 := OG7.keep b8
  have x8 := x7.keep b8
  have s8 := b8.size
  clear OW7 OG7 x7 b8 o7
  have hmx := mark_one _ 0 n n f _ x8 hn
  go_wp2_with fail
  refine hmx.mono ?_
  rintro e w9 ⟨rfl, _, hco⟩
  have bw9 : Below w.heap.size w w9 := bw8.trans (hco.below bw3.size)
  have OW9 := OW8.same (by rw [hco.size]; exact Nat.le_refl _) (fun q _ hq => hco.block q (by omega))
  have OG9 := OG8.same (by rw [hco.size]; exact Nat.le_refl _) (fun q hq1 hq2 => hco.block q (by omega))
  have s9 := hco.size
  have hpos : ¬ ((n : Int) + 1) < 0 := by omega
  have hposd : decide (((n : Int) + 1) < 0) = false := by simp; omega
  generalize ((n : Int) + 1) = kk at hpos hposd ⊢
  clear OW8 OG8 x8 hco hmx
  go_wp2_with fail
  refine (eqEntryS_same go wo m gc wc XW _ (GG.rows GW (OG9.erow GG.eb GG.fx).2) (OW9.erow GW.eb GW.fx).2 hE1 GW.sz).mono ?_
  rintro e w10 ⟨rfl, b10⟩
  have bw10 := bw9.trans (b10.mono bw9.size)
  have OW10 := OW9.keep b10
  have OG10 := OG9.keep b10
  have s10 := b10.size
  clear OW9 OG9 b10
  go_wp2_with fail
  refine (markCX _ _ _ m XG _ OG10 (fun i hi => by have := GG.n8 i hi; omega) hE1 (by omega)).mono ?_
  rintro e w11 ⟨rfl, hheld, m1, m2, m3, m4, m5⟩
  have bw11 : Below w.heap.size w w11 := ⟨m1.trans bw10.os, m2.trans bw10.tape, m3.trans bw10.output, Nat.le_trans bw10.size m4, fun q hq => (m5 q (by have := bw10.size; omega) (.inl (by have := bw4.size; omega))).trans (bw10.block q hq)⟩
  have OW11 := OW10.same m4 (fun q _ hq => m5 q (by have := OW10.1; omega) (.inl (by omega)))
  have hqp : ¬ ((kOf XG 1 m : Nat) : Int) < 0 := by omega
  have hqd : decide (((kOf XG 1 m : Nat) : Int) < 0) = false := by simp
  generalize ((kOf XG 1 m : Nat) : Int) = qq at hheld hqp hqd ⊢
  clear OW10 OG10 m1 m2 m3 m4 m5
  go_wp2_with fail
  refine (hheld _ (Below.refl _ _)).mono ?_
  rintro e w12 ⟨rfl, b12⟩
  have bw12 := bw11.trans (b12.mono bw11.size)
  have OW12 := OW11.keep b12
  go_wp2_with fail
  refine (toByteS_any ao n cap f _ (hr.keep bw12) hn).mono ?_
  rintro e w13 ⟨rfl, o13, b13⟩
  have bw13 := bw12.trans (b13.mono bw12.size)
  have OW13 := OW12.keep b13
  go_wp2_with fail
  refine (readTable_impl Z m c _ 0 n n f _ HK.out o13.row o13.lt hn (Nat.le_refl _)).mono ?_
  rintro e w14 ⟨vh, XH, rfl, OH, GH, b14⟩
  have bw14 := bw13.trans (b14.mono bw13.size)
  have OW14 := OW13.keep b14
  obtain ⟨po, pc, rfl⟩ := OH.form
  go_wp2_with fail
  refine (eqEntryS_same po wo m pc wc XW _ (GH.rows GW (OH.erow GH.eb GH.fx).2) (OW14.erow GW.eb GW.fx).2 hE1 GW.sz).mono ?_
  rintro e w15 ⟨rfl, b15⟩
  have bw15 := bw14.trans (b15.mono bw14.size)
  have hfar : Below w11.heap.size w11 w15 := ((b12.trans (b13.mono b12.size)).trans (b14.mono (Nat.le_trans b12.size b13.size))).trans (b15.mono (Nat.le_trans (Nat.le_trans b12.size b13.size) b14.size))
  clear b12 b13 b14 b15 OW11 OW12 OW13 OW14 OH o13
  go_wp2_with fail
  refine (hheld _ hfar).mono ?_
  rintro e w16 ⟨rfl, b16⟩
  have bw16 := bw15.trans (b16.mono bw15.size)
  clear b16
  go_wp2
  go_ret
  exact ⟨rfl, bw16⟩
end Go.Proofs.YtpfjflbbpecbkaaGreat
