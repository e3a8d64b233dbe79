/- The program: openTable, and what stands on it alone. / The model: l7Read. / Answers of entries whose memory is their own: told by cells, kept, marked. / ReadTable in both texts, and its law. / Whether a filter may have a key, in the model. / What FindInTable answers, in numbers: of tables with the same bytes alike. / What is found in blocks, gathered: lists put behind one another; the blocks gone through in whatever order. -/
import Derived.Test.YtohjjigkfdhklaaGreatDe
import Derived.Test.YtohjjigkfdhklaaGreatEd
import Derived.Test.YtohjjigkfdhklaaGreatNq
import Derived.Test.YtohjjigkfdhklaaGreatGoS
import Derived.Test.YtohjjigkfdhklaaGreatBd
import Derived.Test.YtohjjigkfdhklaaGreatRa
import Derived.BigQuiet
import Derived.Test.YtohjjigkfdhklaaGreatHd
import Derived.Test.YtohjjigkfdhklaaGreatDg
import Derived.Test.YtohjjigkfdhklaaGreatPl
import Derived.Test.YtohjjigkfdhklaaGreatGf
import Derived.Test.YtohjjigkfdhklaaGreatOf
import Derived.Test.YtohjjigkfdhklaaGreatCh
import Derived.Test.YtohjjigkfdhklaaGreatTw
import Derived.Maps.OwnIn
namespace Go.Proofs.YtohjjigkfdhklaaGreat
set_option maxRecDepth 100000
open Go.RowKit
set_option linter.unusedSimpArgs false
set_option linter.unusedVariables false

/-- What openTable leaves. -/
def OTY (f : Nat → Int) (n : Nat) (w : World) (e : Ending) (w' : World) : Prop :=
  ∃ (X : Nat → Ent) (m : Nat) (p : Int) (v : Value) (V : Nat → Value) (fo : Option Addr) (fc : Nat), IsTb f n (fun i => nrE (X i)) m p ∧ e = .returned (.tuple #[.agg #[v, .int .i64 (fwI p), .slice fo (fbN (fun i => nrE (X i)) m p) fc], .int .i64 0]) ∧
    OutH w' w.heap.size v m (fun i => nrE (X i)) V ∧ (∀ i, i < m → EB (nrE (X i))) ∧ ESize m (fun i => nrE (X i)) ∧ Row w' fo (fbN (fun i => nrE (X i)) m p) (fl (fLt (fun i => nrE (X i)) m p)) ∧ Below w.heap.size w w'
/-- The code where there is no table. -/
def noC (f : Nat → Int) (n : Nat) : Int := if endC f n = 0 then 4 else endC f n
theorem noC_ne (f : Nat → Int) (n : Nat) : noC f n ≠ 0 := by unfold noC; split <;> omega
def OTN (f : Nat → Int) (n : Nat) (w : World) (e : Ending) (w' : World) : Prop :=
  (∀ X m p, ¬ IsTb f n X m p) ∧ e = .returned (.tuple #[.agg #[.slice none 0 0, .int .i64 0, .slice none 0 0], .int .i64 (noC f n)]) ∧ Below w.heap.size w w'
def OTO (f : Nat → Int) (n : Nat) (w : World) (e : Ending) (w' : World) : Prop := OTY f n w e w' ∨ OTN f n w e w'

set_option maxHeartbeats 3200000 in
theorem openTable_any (bb bo n cap : Nat) (f : Nat → Int) (w : World) (hr : Row w (some ⟨bb, bo, none⟩) n f) (hbb : bb < w.heap.size) (hn : n ≤ 1048576) (hcap : n ≤ cap) :
    Calls Tryz.prog 30 #[.slice (some ⟨bb, bo, none⟩) n cap] w fun e w' => OTO f n w e w' := by
  have hB0 := below_new w (.cells #[.slice none 0 0, .int .i64 0, .slice none 0 0] 64)
  have Z0 := TBx.new w (.slice none 0 0) (.int .i64 0) (.slice none 0 0) 64
  have hef := endFault_any bb bo n cap f _ (hr.keep hB0) hn hcap
  obtain ⟨c, hc⟩ : ∃ c, endC f n = c := ⟨_, rfl⟩
  have HC : Hid (endC f n = c) := hc
  rw [hc] at hef
  clear hc
  go_enter Tryz.func30, Tryz.ntmps30
  go_wp2_with fail
  refine hef.mono ?_
  rintro e w1 ⟨rfl, q1⟩
  have Z1 := Z0.keep q1
  have B1 := hB0.trans (q1.mono hB0.size)
  clear hef hB0 Z0 q1
  by_cases h0 : c = 0
  rotate_left
  · have hcb : (c != 0) = true := by simp [h0]
    obtain ⟨_, z0, z1, z2, zf⟩ := id Z1
    have g0 := zf 0
    have g1 := zf 1
    have g2 := zf 2
    have HN : Hid (∀ X m p, ¬ IsTb f n X m p) := fun X m p h => by
      have := h.plc.2.2.2.2.2.2.2.2
      exact h0 (by rw [← HC.out, this])
    have HM : Hid (noC f n = c) := by unfold Hid noC; rw [HC.out, if_neg h0]
    clear h0
    go_wp2
    refine bodyPost_ret (v := .tuple #[.agg #[.slice none 0 0, .int .i64 0, .slice none 0 0], .int .i64 c]) (by simp [results, Tryz.results30, go_sem, z0, z1, z2]) rfl (.inr ⟨HN.out, by rw [HM.out], ?_⟩)
    repeat' refine Below.setCell ?_ (by first | (simp; done) | (simp; omega)) _
    exact B1
  subst h0
  have hlen : 20 ≤ n ∧ n ≤ 8000 := by
    have := HC.out
    unfold endC at this
    split at this
    · omega
    · omega
  have hti := tableIn_any bb bo n cap f w1 (hr.keep B1) (by have := B1.size; omega) hcap hlen.1 hlen.2
  have hs1 := B1.size
  go_wp2_with fail
  refine hti.mono ?_
  rintro e w2 (⟨X0, m, p, v, V, fo, fc, hT, rfl, hO, hEB, hES, hrF, hloc, q2⟩ | ⟨hno, rfl, q2⟩)
  rotate_left
  · have Z2 := Z1.keep q2
    have B2 := B1.trans (q2.mono B1.size)
    have b3 := below_new w2 (.cells #[.slice none 0 0, .int .i64 0, .slice none 0 0] 64)
    have Z3 := Z2.keep b3
    have B3 := B2.trans (b3.mono B2.size)
    obtain ⟨_, z0, z1, z2, zf⟩ := id Z3
    have g0 := zf 0
    have g1 := zf 1
    have g2 := zf 2
    have HN : Hid (∀ X m p, ¬ IsTb f n X m p) := hno
    have HM : Hid (noC f n = 4) := by unfold Hid noC; rw [HC.out, if_pos rfl]
    clear hno hti
    go_wp2
    refine bodyPost_ret (v := .tuple #[.agg #[.slice none 0 0, .int .i64 0, .slice none 0 0], .int .i64 4]) (by simp [results, Tryz.results30, go_sem, z0, z1, z2]) rfl (.inr ⟨HN.out, by rw [HM.out], ?_⟩)
    repeat' refine Below.setCell ?_ (by first | (simp; done) | (simp; omega)) _
    exact B3
  obtain ⟨lo, lc, rfl⟩ := ownsRow_form hO.own
  have hlt := hO.own.lt
  have Z2 := Z1.keep q2
  have B2 := B1.trans (q2.mono B1.size)
  obtain ⟨X, hX⟩ : ∃ X, X = fun i => nrE (X0 i) := ⟨_, rfl⟩
  have HX : Hid (X = fun i => nrE (X0 i)) := hX
  have hT : Hid (IsTb f n X m p) := by rw [hX]; exact hT
  have hO : OutH w2 w1.heap.size (.slice lo m lc) m X V := by rw [hX]; exact hO
  have hEB : Hid (∀ i, i < m → EB (X i)) := by rw [hX]; exact hEB
  have hES : Hid (ESize m X) := by rw [hX]; exact hES
  obtain ⟨fn, hfn⟩ : ∃ fn, fn = fbN X m p := ⟨_, rfl⟩
  have HFn : Hid (fn = fbN X m p) := hfn
  have hrF : Row w2 fo fn (fl (fLt X m p)) := by rw [hfn, hX]; exact hrF
  have FNe : Hid (∀ b o, fo = some ⟨b, o, none⟩ → b ≠ w.heap.size) := fun b o e => by have := hloc b o e; have : w.heap.size < w1.heap.size := Z1.lt; omega
  rw [← hX, ← hfn]
  clear hX hloc hfn hti
  obtain ⟨y, hy⟩ : ∃ y, fwI p = y := ⟨_, rfl⟩
  have HY : Hid (fwI p = y) := hy
  rw [hy]
  clear hy
  have b3 := below_new w2 (.cells #[.slice lo m lc, .int .i64 y, .slice fo fn fc] 64)
  have T3 := TBx.new w2 (.slice lo m lc) (.int .i64 y) (.slice fo fn fc) 64
  have Z3 := Z2.keep b3
  have B3 := B2.trans (b3.mono B2.size)
  have O3 := hO.keep b3
  have F3 := hrF.keep b3
  obtain ⟨_, t0, t1, t2, _⟩ := id T3
  obtain ⟨_, z0, z1, z2, zf⟩ := id Z3
  have g0 := zf 0
  have g1 := zf 1
  have g2 := zf 2
  have hs2 := q2.size
  have hz3 : w.heap.size < w1.heap.size := Z1.lt
  clear Z1 Z2 hO hrF b3 T3 q2
  go_wp2
  generalize w2.alloc (.cells #[.slice lo m lc, .int .i64 y, .slice fo fn fc] 64) = w3 at *
  obtain ⟨W3, hW3⟩ : ∃ u, u = ((w3.setCell ⟨w.heap.size, 0, none⟩ (.slice lo m lc)).setCell ⟨w.heap.size, 1, none⟩ (.int .i64 y)).setCell ⟨w.heap.size, 2, none⟩ (.slice fo fn fc) := ⟨_, rfl⟩
  have hot : Others w.heap.size w3 W3 := by rw [hW3]; exact ((Others.setCell _ _ _ _).trans (Others.setCell _ _ _ _)).trans (Others.setCell _ _ _ _)
  show bodyPost Tryz.prog Tryz.f30 (fun e w' => OTO f n w e w') _ _ (((w3.setCell ⟨w.heap.size, 0, none⟩ (.slice lo m lc)).setCell ⟨w.heap.size, 1, none⟩ (.int .i64 y)).setCell ⟨w.heap.size, 2, none⟩ (.slice fo fn fc))
  refine bodyPost_ret (v := .tuple #[.agg #[.slice lo m lc, .int .i64 y, .slice fo fn fc], .int .i64 0]) (by simp [results, Tryz.results30, go_sem, z0, z1, z2]) rfl (.inl ?_)
  rw [← hW3]
  have hrow : Row W3 fo fn (fl (fLt X m p)) := by
    refine ⟨F3.bd, ?_⟩
    rcases F3.lies with h0 | ⟨b, o, e, hb, hc⟩
    · exact .inl h0
    · have hne := FNe.out b o e
      exact .inr ⟨b, o, e, by rw [hot.size]; exact hb, fun i hi => (World.cell?_of_block (w := w3) (a := ⟨b, o + i, none⟩) (hot.block b hne)).trans (hc i hi)⟩
  obtain rfl := HX.out
  rw [HFn.out] at hrow ⊢
  rw [← HY.out]
  refine ⟨X0, m, p, _, V, fo, fc, hT.out, rfl, ?_, hEB.out, hES.out, hrow, B3.trans (hot.below (Nat.le_refl _))⟩
  exact (O3.nm (Nm.of_others hot (.inl rfl)) hz3).lower (by omega)
end Go.Proofs.YtohjjigkfdhklaaGreat
namespace Go.Proofs.YtohjjigkfdhklaaGreat
set_option maxRecDepth 100000
open Go.RowKit
set_option linter.unusedSimpArgs false
set_option linter.unusedVariables false

/-- What l7Read leaves. -/
def SRO (f : Nat → Int) (n : Nat) (w : World) (e : Ending) (w' : World) : Prop :=
  (∃ (X : Nat → Ent) (m : Nat) (p : Int) (v : Value) (V : Nat → Value), IsTb f n (fun i => nrE (X i)) m p ∧ e = .returned (.tuple #[v, .int .i64 0]) ∧ OutH w' w.heap.size v m (fun i => nrE (X i)) V ∧ (∀ i, i < m → EB (nrE (X i))) ∧ ESize m (fun i => nrE (X i)) ∧ Below w.heap.size w w') ∨
  ((∀ X m p, ¬ IsTb f n X m p) ∧ e = .returned (.tuple #[.slice none 0 0, .int .i64 (noC f n)]) ∧ Below w.heap.size w w')
def pkL : List Int := [10, 1, 2, 3, 4, 5, 6, 7, 8, 9, 11, 12, 13, 14, 15, 16, 17, 18, 19, 20]
theorem pkL_bd (j : Nat) (h : j < 20) : 1 ≤ fi pkL j ∧ fi pkL j ≤ 20 := by
  have : ∀ j : Fin 20, 1 ≤ fi pkL j.1 ∧ fi pkL j.1 ≤ 20 := by decide
  exact this ⟨j, h⟩
theorem pkL_all (p : Int) (h : 1 ≤ p ∧ p ≤ 20) : ∃ j, j < 20 ∧ fi pkL j = p := by
  have : ∀ q : Fin 21, 1 ≤ q.1 → ∃ j : Fin 20, fi pkL j.1 = ((q.1 : Nat) : Int) := by decide
  obtain ⟨j, hj⟩ := this ⟨p.toNat, by omega⟩ (by show 1 ≤ p.toNat; omega)
  exact ⟨j.1, j.2, by rw [hj]; show ((p.toNat : Nat) : Int) = p; omega⟩
/-- A table's entries are read ahead of its end. -/
theorem IsTb.rdN {f : Nat → Int} {n : Nat} {X : Nat → Ent} {m : Nat} {p : Int} (h : IsTb f n X m p) : RdK f (n - 20) X m (tA X m) :=
  rdK_ens m h.1.1.2.1 h.plc.2.2.1 (by
    have h1 := h.plc.2.1
    have h2 : tB X m p = tA X m + 1 + fbN X m p := rfl
    show tA X m ≤ n - 20
    omega)

set_option maxRecDepth 100000 in
set_option maxHeartbeats 8000000 in
theorem l7Read_any (bb bo n cap : Nat) (f : Nat → Int) (w : World) (hr : Row w (some ⟨bb, bo, none⟩) n f) (hbb : bb < w.heap.size) (hn : n ≤ 1048576) (hcap : n ≤ cap) :
    Calls Tryz.prog 36 #[.slice (some ⟨bb, bo, none⟩) n cap] w fun e w' => SRO f n w e w' := by
  by_cases h1 : n < 20
  · have HC : Hid (endC f n = 1) := by unfold Hid endC; rw [if_pos (.inl h1)]
    have HM : Hid (noC f n = 1) := by unfold Hid noC; rw [HC.out]; rfl
    have HN : Hid (∀ X m p, ¬ IsTb f n X m p) := fun X m p h => by have := h.plc.1; omega
    have h1i : (n : Int) < 20 := by omega
    go_enter Tryz.func36, Tryz.ntmps36
    go_wp2
    exact bodyPost_ret (v := .tuple #[.slice none 0 0, .int .i64 1]) (by simp [results, Tryz.results36, go_sem]) rfl (.inr ⟨HN.out, by rw [HM.out], Below.refl _ _⟩)
  have h1i : ¬ (n : Int) < 20 := by omega
  by_cases h2 : 8000 < n
  · have HC : Hid (endC f n = 1) := by unfold Hid endC; rw [if_pos (.inr h2)]
    have HM : Hid (noC f n = 1) := by unfold Hid noC; rw [HC.out]; rfl
    have HN : Hid (∀ X m p, ¬ IsTb f n X m p) := fun X m p h => by have := h.plc.1; omega
    have h2i : (8000 : Int) < (n : Int) := by omega
    go_enter Tryz.func36, Tryz.ntmps36
    go_wp2
    exact bodyPost_ret (v := .tuple #[.slice none 0 0, .int .i64 1]) (by simp [results, Tryz.results36, go_sem]) rfl (.inr ⟨HN.out, by rw [HM.out], Below.refl _ _⟩)
  have h2i : ¬ (8000 : Int) < (n : Int) := by omega
  obtain ⟨s, hs⟩ : ∃ s, s = n - 4 := ⟨_, rfl⟩
  obtain ⟨u, hu⟩ : ∃ u, u = n - 8 := ⟨_, rfl⟩
  obtain ⟨x, hx⟩ : ∃ x, x = n - 12 := ⟨_, rfl⟩
  obtain ⟨y, hy⟩ : ∃ y, y = n - 20 := ⟨_, rfl⟩
  have HS : Hid (s + 4 = n ∧ u + 8 = n ∧ x + 12 = n ∧ y + 20 = n) := ⟨by omega, by omega, by omega, by omega⟩
  have hwS : IntKind.i64.wrap ((n : Int) - 4) = (s : Int) := by rw [IntKind.wrap_i64] <;> omega
  have hwU : IntKind.i64.wrap ((n : Int) - 8) = (u : Int) := by rw [IntKind.wrap_i64] <;> omega
  have hwX : IntKind.i64.wrap ((n : Int) - 12) = (x : Int) := by rw [IntKind.wrap_i64] <;> omega
  have hwY : IntKind.i64.wrap ((n : Int) - 20) = (y : Int) := by rw [IntKind.wrap_i64] <;> omega
  have hcs : ¬ cap = s := by omega
  have hcu' : ¬ cap = u := by omega
  have hcx : ¬ cap = x := by omega
  have hsn : s ≤ n := by omega
  have hun : u ≤ n := by omega
  have hus : u ≤ s := by omega
  have hxu : x ≤ u := by omega
  have hsc : s ≤ cap := by omega
  have hcu : u ≤ cap := by omega
  have hyc : y ≤ cap := by omega
  have hcv : (convert 22 9 (.slice (some ⟨bb, bo + s, none⟩) (n - s) (cap - s))).run Tryz.prog w = .ok (.string (strOfNums (segL f s 4))) w := by
    have := conv_row w (some ⟨bb, bo + s, none⟩) (cap - s) (segL f s 4) (hr.seg (by omega))
    rw [segL_len] at this
    rw [show n - s = 4 by omega]
    exact this
  have hT : ((strOfNums (segL f s 4)).toList == [84, 66, 76, 49]) = decide (segL f s 4 = [84, 66, 76, 49]) := by
    have := str_eql (segL_byt (q := s) (m := 4) hr.bd) (M := [84, 66, 76, 49]) (by intro x hx; simp at hx; omega)
    rw [tbl1_list] at this
    exact this
  have hsg : (segL f s 4 = [84, 66, 76, 49]) ↔ (f (n - 4) = 84 ∧ f (n - 3) = 66 ∧ f (n - 2) = 76 ∧ f (n - 1) = 49) := by
    rw [segL_four, hs, show n - 4 + 1 = n - 3 by omega, show n - 4 + 2 = n - 2 by omega, show n - 4 + 3 = n - 1 by omega]
    simp
  by_cases h3 : segL f s 4 = [84, 66, 76, 49]
  rotate_left
  · have HC : Hid (endC f n = 2) := by
      unfold Hid endC
      rw [if_neg (by omega), if_pos (fun hh => h3 (hsg.2 hh))]
    have HM : Hid (noC f n = 2) := by unfold Hid noC; rw [HC.out]; rfl
    have HN : Hid (∀ X m p, ¬ IsTb f n X m p) := fun X m p h => by have := h.plc.2.2.2.2.2.2.2.2; rw [HC.out] at this; omega
    have hT2 : ((strOfNums (segL f s 4)).toList == [84, 66, 76, 49]) = false := by rw [hT]; simp [h3]
    clear hsg h3 hT hs hu hx hy
    generalize strOfNums (segL f s 4) = S at *
    go_enter Tryz.func36, Tryz.ntmps36
    go_wp2
    exact bodyPost_ret (v := .tuple #[.slice none 0 0, .int .i64 2]) (by simp [results, Tryz.results36, go_sem]) rfl (.inr ⟨HN.out, by rw [HM.out], Below.refl _ _⟩)
  have HC : Hid (endC f n = if crcOf f u ≠ num f u 4 then 3 else 0) := by
    unfold Hid endC
    rw [if_neg (by omega), if_neg (fun hh => hh (hsg.1 h3)), hu]
  have hT1 : ((strOfNums (segL f s 4)).toList == [84, 66, 76, 49]) = true := by rw [hT]; simp [h3]
  have hb := num_bd f hr.bd u 4
  have hbm := num_bd f hr.bd x 4
  rw [show (256 : Int) ^ 4 = 4294967296 from by decide] at hb hbm
  have hcrc : Hid (∀ k, Calls Tryz.prog 61 #[.slice (some ⟨bb, bo, none⟩) u cap] (w.drewN k) fun e w' => e = .returned (.int .u32 (crcOf f u)) ∧ w' = w.drewN k) := fun k => crc_same _ u cap f _ ((hr.front hun).keep (below_drewN (Below.refl _ _) k)) (by omega)
  have hcb : 0 ≤ crcOf f u ∧ crcOf f u ≤ 4294967295 := xor_bd _ _
  have hwc : IntKind.i64.wrap (crcOf f u) = crcOf f u := by rw [IntKind.wrap_i64] <;> omega
  have hnb : ∀ q W, q + 4 ≤ n → Below w.heap.size w W → Calls Tryz.prog 70 #[.slice (some ⟨bb, bo + q, none⟩) 4 (cap - q)] W fun e w' => e = .returned (.int .i64 (num f q 4)) ∧ w' = W := fun q W hq hW => by
    have hb := num_bd f hr.bd q 4
    rw [show (256 : Int) ^ 4 = 4294967296 from by decide] at hb
    have rW := hr.keep hW
    have := l1Number_same bb (bo + q) 4 (cap - q) f q W hr.bd (by have := hW.size; omega) (fun i hi => by rw [Nat.add_assoc]; exact rW.cell (by omega)) (by omega)
    rw [show wrap64 (num f q 4) = num f q 4 from by unfold wrap64; omega] at this
    exact this
  have hnum : Hid (∀ k, Calls Tryz.prog 70 #[.slice (some ⟨bb, bo + u, none⟩) (s - u) (cap - u)] (w.drewN k) fun e w' => e = .returned (.int .i64 (num f u 4)) ∧ w' = w.drewN k) := fun k => by
    rw [show s - u = 4 by omega]
    exact hnb u _ (by omega) (below_drewN (Below.refl _ _) k)
  have HU : Hid (u - x = 4) := by show u - x = 4; omega
  clear hsg h3 hs hu hx hT hy
  generalize strOfNums (segL f s 4) = S at *
  generalize hA : num f u 4 = A at *
  have HA : Hid (num f u 4 = A) := hA
  clear hA
  obtain ⟨c, hc⟩ : ∃ c, crcOf f u = c := ⟨_, rfl⟩
  rw [hc] at hcrc hcb hwc HC
  clear hc
  go_enter Tryz.func36, Tryz.ntmps36
  by_cases h4 : c = A
  rotate_left
  · have h4b : (c != A) = true := by simp [h4]
    have HD : Hid (endC f n = 3) := by unfold Hid; rw [HC.out, if_pos h4]
    have HM : Hid (noC f n = 3) := by unfold Hid noC; rw [HD.out]; rfl
    have HN : Hid (∀ X m p, ¬ IsTb f n X m p) := fun X m p h => by have := h.plc.2.2.2.2.2.2.2.2; rw [HD.out] at this; omega
    clear h4
    go_wp2
    go_quiet (first | (go_at_call 61; exact Calls.quiet_of_same (hcrc.out _)) | (go_at_call 70; exact Calls.quiet_of_same (hnum.out _)))
    go_wp2
    exact bodyPost_ret (v := .tuple #[.slice none 0 0, .int .i64 3]) (by simp [results, Tryz.results36, go_sem]) rfl (.inr ⟨HN.out, by rw [HM.out], below_drewN (Below.refl _ _) _⟩)
  have h4b : (c != A) = false := by simp [h4]
  have HD : Hid (endC f n = 0) := by unfold Hid; rw [HC.out, if_neg (fun hh => hh h4)]
  have HM : Hid (noC f n = 4) := by unfold Hid noC; rw [HD.out]; rfl
  clear h4
  go_wp2
  go_quiet (first | (go_at_call 61; exact Calls.quiet_of_same (hcrc.out _)) | (go_at_call 70; exact Calls.quiet_of_same (hnum.out _)))
  have bw1 : Below w.heap.size w (w.drewN nq) := below_drewN (Below.refl _ _) nq
  generalize w.drewN nq = w1 at *
  obtain ⟨M, hMM⟩ : ∃ M : Nat, num f x 4 = (M : Int) := ⟨(num f x 4).toNat, by omega⟩
  have HMM : Hid (num f (n - 12) 4 = (M : Int)) := by have := HS.out; show num f (n - 12) 4 = _; rw [← hMM]; congr 1; omega
  have hcm : Calls Tryz.prog 70 #[.slice (some ⟨bb, bo + x, none⟩) (u - x) (cap - x)] w1 fun e w' => e = .returned (.int .i64 (M : Int)) ∧ w' = w1 := by
    rw [HU.out, ← hMM]
    exact hnb x w1 (by have := HS.out; omega) bw1
  have hMb : M < 4294967296 := by omega
  clear hcrc hnum hnb hcb hwc hb hbm hMM hcv hT1
  go_wp2_with fail
  refine hcm.mono ?_
  rintro e w2 ⟨rfl, hw2⟩
  subst w2
  clear hcm
  by_cases hM1 : 1 ≤ M ∧ M ≤ 100
  rotate_left
  · have hin := l1In_no (M : Int) 1 100 w1 (by omega)
    have HN : Hid (∀ X m p, ¬ IsTb f n X m p) := fun X m p h => by
      have e := h.plc.2.2.2.2.2.2.2.1
      rw [HMM.out] at e
      have := h.1.1.1
      omega
    go_wp2_with fail
    refine hin.mono ?_
    rintro e w2 ⟨rfl, hw2⟩
    subst w2
    go_wp2
    exact bodyPost_ret (v := .tuple #[.slice none 0 0, .int .i64 4]) (by simp [results, Tryz.results36, go_sem]) rfl (.inr ⟨HN.out, by rw [HM.out], bw1⟩)
  have hin := l1In_yes (M : Int) 1 100 w1 (by omega) (by omega)
  go_wp2_with fail
  refine hin.mono ?_
  rintro e w2 ⟨rfl, hw2⟩
  subst w2
  clear hin
  have hle := l7Entries_any bb bo y cap f M w1 ((hr.keep bw1).front (by have := HS.out; omega)) (by have := bw1.size; omega) (by have := HS.out; omega) (by have := HS.out; omega) (by omega)
  go_wp2_with fail
  refine hle.mono ?_
  rintro e w2 (⟨X0, V, v, q, hR0, rfl, hO0, q2⟩ | ⟨rfl, hno, q2⟩)
  rotate_left
  · have bw2 := bw1.trans (q2.mono bw1.size)
    have HN : Hid (∀ X m p, ¬ IsTb f n X m p) := fun X m p h => by
      have e := h.plc.2.2.2.2.2.2.2.1
      rw [HMM.out] at e
      obtain rfl : M = m := by omega
      have r := h.rdN
      rw [show n - 20 = y by have := HS.out; omega] at r
      exact hno X _ (fun i hi => h.1.1.2.1 i hi) r
    clear hno hle
    go_wp2
    exact bodyPost_ret (v := .tuple #[.slice none 0 0, .int .i64 4]) (by simp [results, Tryz.results36, go_sem]) rfl (.inr ⟨HN.out, by rw [HM.out], bw2⟩)
  have bw2 := bw1.trans (q2.mono bw1.size)
  have hR := rdK_nr hR0
  have hO := hO0.nr
  obtain ⟨hEB, hES⟩ := rdK_eb hR (by have := HS.out; omega)
  obtain ⟨g, gc, rfl, hgc, hgb, er2⟩ := hO.erow hEB (by omega)
  obtain ⟨X, hX⟩ : ∃ X, X = fun i => nrE (X0 i) := ⟨_, rfl⟩
  have HX : Hid (X = fun i => nrE (X0 i)) := hX
  have HR : Hid (RdK f y X M q) := by rw [hX]; exact hR
  have hO : OutH w2 w1.heap.size (.slice (some ⟨g, 0, none⟩) M gc) M X V := by rw [hX]; exact hO
  have hEB : Hid (∀ i, i < M → EB (X i)) := by rw [hX]; exact hEB
  have hES : ESize M X := by rw [hX]; exact hES
  have er2 : ERow w2 (some ⟨g, 0, none⟩) M X := by rw [hX]; exact er2
  have HAl : Hid (∀ X' m p, IsTb f n X' m p → m = M ∧ Alike X' X M) := fun X' m p h => by
    have e := h.plc.2.2.2.2.2.2.2.1
    rw [HMM.out] at e
    obtain rfl : M = m := by omega
    have r := h.rdN
    rw [show n - 20 = y by have := HS.out; omega] at r
    exact ⟨rfl, fun i hi => ⟨(rdK_det r HR.out).2 i hi, h.1.1.2.1 i hi⟩⟩
  have hgo := goodEntries_spec (some ⟨g, 0, none⟩) M gc X w2 er2 (by omega) hES
  clear hX hR0 hO0 hR hle q2
  go_wp2_with fail
  refine hgo.mono ?_
  rintro e w3 ⟨bq, rfl, hbq, q3⟩
  have bw3 := bw2.trans (q3.mono bw2.size)
  have O3 := hO.keep q3
  have er3 := er2.keep q3
  clear hgo hO er2
  cases bq
  · have HN : Hid (∀ X m p, ¬ IsTb f n X m p) := fun X' m p h => by
      obtain ⟨rfl, ha⟩ := HAl.out X' m p h
      have := hbq.2 (ha.fit h.1.1).2
      cases this
    clear hbq
    go_wp2
    exact bodyPost_ret (v := .tuple #[.slice none 0 0, .int .i64 4]) (by simp [results, Tryz.results36, go_sem]) rfl (.inr ⟨HN.out, by rw [HM.out], bw3⟩)
  have HF : Hid (FitT X M) := ⟨by omega, hbq.1 rfl⟩
  have hG := (hbq.1 rfl).1
  clear hbq
  have b4 := below_new w3 (.cells #[.int .i64 10, .int .i64 1, .int .i64 2, .int .i64 3, .int .i64 4, .int .i64 5, .int .i64 6, .int .i64 7, .int .i64 8, .int .i64 9, .int .i64 11, .int .i64 12, .int .i64 13, .int .i64 14, .int .i64 15, .int .i64 16, .int .i64 17, .int .i64 18, .int .i64 19, .int .i64 20] 3)
  have hcel := ints_new w3 pkL 3
  rw [show (pkL.map (Value.int .i64)).toArray = #[.int .i64 10, .int .i64 1, .int .i64 2, .int .i64 3, .int .i64 4, .int .i64 5, .int .i64 6, .int .i64 7, .int .i64 8, .int .i64 9, .int .i64 11, .int .i64 12, .int .i64 13, .int .i64 14, .int .i64 15, .int .i64 16, .int .i64 17, .int .i64 18, .int .i64 19, .int .i64 20] from rfl] at hcel
  have bw4 := bw3.trans (b4.mono bw3.size)
  have O4 := O3.keep b4
  have er4 := er3.keep b4
  have hBl : w3.heap.size < (w3.alloc (.cells #[.int .i64 10, .int .i64 1, .int .i64 2, .int .i64 3, .int .i64 4, .int .i64 5, .int .i64 6, .int .i64 7, .int .i64 8, .int .i64 9, .int .i64 11, .int .i64 12, .int .i64 13, .int .i64 14, .int .i64 15, .int .i64 16, .int .i64 17, .int .i64 18, .int .i64 19, .int .i64 20] 3)).heap.size := by simp
  clear O3 er3 b4
  go_wp2
  generalize w3.alloc (.cells #[.int .i64 10, .int .i64 1, .int .i64 2, .int .i64 3, .int .i64 4, .int .i64 5, .int .i64 6, .int .i64 7, .int .i64 8, .int .i64 9, .int .i64 11, .int .i64 12, .int .i64 13, .int .i64 14, .int .i64 15, .int .i64 16, .int .i64 17, .int .i64 18, .int .i64 19, .int .i64 20] 3) = w4 at *
  generalize w3.heap.size = BL at *
  have hcelF : Hid (∀ j, j < 20 → w4.cell? ⟨BL, j, none⟩ = some (.int .i64 (fi pkL j))) := fun j hj => hcel j hj
  clear hcel
  go_loopw [66] (fun i wr => ∃ k : Nat, k ≤ 20 ∧ i = .int .i64 k ∧ Hid (∀ j, j < k → tbP X M (fi pkL j) ≠ segL f 0 n) ∧ Below w4.heap.size w4 wr) (fun i _ => 20 - (intOf i).toNat)
  case atStart => exact ⟨0, by omega, rfl, (fun j hj => absurd hj (Nat.not_lt_zero _)), Below.refl _ _⟩
  case round =>
    obtain ⟨k, hk, rfl, HK, bk⟩ := hrel
    have bwk := bw4.trans (bk.mono bw4.size)
    by_cases hlt : k < 20
    rotate_left
    · obtain rfl : k = 20 := by omega
      have HN : Hid (∀ X m p, ¬ IsTb f n X m p) := fun X' m p h => by
        obtain ⟨rfl, ha⟩ := HAl.out X' m p h
        obtain ⟨j, hj, e⟩ := pkL_all p h.1.2.1
        refine HK.out j hj ?_
        rw [e, isTb_seg h, ha.tbP]
      go_wp2
      exact bodyPost_ret (v := .tuple #[.slice none 0 0, .int .i64 4]) (by simp [results, Tryz.results36, go_sem]) rfl (.inr ⟨HN.out, by rw [HM.out], bwk⟩)
    have hki : (k : Int) < 20 := by omega
    have ck := (bk.cell (p := ⟨BL, k, none⟩) hBl).trans (hcelF.out k hlt)
    have pb := pkL_bd k hlt
    obtain ⟨p, hp⟩ : ∃ p, fi pkL k = p := ⟨_, rfl⟩
    have HP : Hid (fi pkL k = p) := hp
    rw [hp] at ck pb
    clear hp
    have erk := er4.keep bk
    have hs4 := bk.size
    obtain ⟨T, hT⟩ : ∃ T, tbP X M p = T := ⟨_, rfl⟩
    have HT : Hid (tbP X M p = T) := hT
    have hbb2 : bb < wr.heap.size := by have := bwk.size; omega
    have hlb : ∀ W, ERow W (some ⟨g, 0, none⟩) M X → Calls Tryz.prog 29 #[.slice (some ⟨g, 0, none⟩) M gc, .int .i64 p] W fun e w' => ∃ ta tc, e = .returned (.slice ta T.length tc) ∧ Row w' ta T.length (fl T) ∧ Byt T ∧ Below W.heap.size W w' := fun W h => by
      refine (l7Build_any g 0 M gc X p W h hM1 hgc hG pb).mono ?_
      rintro e w' ⟨v, rfl, ho, hb⟩
      have ho : OwnL w' W.heap.size v T := by rw [← hT]; exact ho
      obtain ⟨ta, tc, rfl⟩ := ho.form
      exact ⟨ta, tc, rfl, ho.rowOf, ho.bd, hb⟩
    obtain ⟨SB, hSB⟩ : ∃ SB, strOfNums (segL f 0 n) = SB := ⟨_, rfl⟩
    obtain ⟨ST, hST⟩ : ∃ ST, strOfNums T = ST := ⟨_, rfl⟩
    have hcb : ∀ W, Below wr.heap.size wr W → (convert 22 9 (.slice (some ⟨bb, bo, none⟩) n cap)).run Tryz.prog W = .ok (.string SB) W := fun W hW => by
      have := conv_row W (some ⟨bb, bo, none⟩) cap (segL f 0 n) (((hr.keep bwk).keep hW).all)
      rw [segL_len, hSB] at this
      exact this
    have bd := (Below.refl wr.heap.size wr).drew
    clear hT
    by_cases hE : T = segL f 0 n
    · have heq : (ST.toList == SB.toList) = true := by rw [← hST, ← hSB, hE]; simp
      have HE : Hid (T = segL f 0 n) := hE
      clear hE
      obtain ⟨tn, htn⟩ : ∃ tn, T.length = tn := ⟨_, rfl⟩
      have HTl : Hid (T.length = tn) := htn
      rw [htn] at hlb
      clear htn
      go_wp2
      refine wp_region_w (fun w' : World => Below wr.heap.size wr w') (fun _ => true) (by kernel_rfl) ?_
      change wpW _ _ _ _ _ _ 7 _ _ wr.drew
      have hS0 : (fun w' : World => Below wr.heap.size wr w') wr.drew := bd
      refine wpW_take 0 _ (.slice (some ⟨g, 0, none⟩) M gc) rfl (by kernel_rfl) (by kernel_rfl) (by kernel_rfl) (fun _ _ _ h => h) (by kernel_rfl) (.inl ⟨rfl, fun w' hS' => by go_simp⟩) hS0 ?_
      simp only [Act.put, List.getElem_toArray, List.getElem_cons_succ, List.getElem_cons_zero, List.setIfInBounds_toArray, List.set_cons_zero, List.set_cons_succ]
      refine wpW_take 1 _ (.int .i64 p) rfl (by kernel_rfl) (by kernel_rfl) (by kernel_rfl) (fun _ _ _ h => h) (by kernel_rfl) (.inl ⟨rfl, fun w' hS' => by go_simp⟩) hS0 ?_
      simp only [Act.put, List.getElem_toArray, List.getElem_cons_succ, List.getElem_cons_zero, List.setIfInBounds_toArray, List.set_cons_zero, List.set_cons_succ]
      refine wpW_take 4 _ (.slice (some ⟨bb, bo, none⟩) n cap) rfl (by kernel_rfl) (by kernel_rfl) (by kernel_rfl) (fun _ _ _ h => h) (by kernel_rfl) (.inl ⟨rfl, fun w' hS' => by go_simp⟩) hS0 ?_
      simp only [Act.put, List.getElem_toArray, List.getElem_cons_succ, List.getElem_cons_zero, List.setIfInBounds_toArray, List.set_cons_zero, List.set_cons_succ]
      refine wpW_take 5 _ (.string SB) rfl (by kernel_rfl) (by kernel_rfl) (by kernel_rfl) (fun _ _ _ h => h) (by kernel_rfl) (.inl ⟨rfl, fun w' hS' => by have hq := hcb _ hS'; go_simp⟩) hS0 ?_
      simp only [Act.put, List.getElem_toArray, List.getElem_cons_succ, List.getElem_cons_zero, List.setIfInBounds_toArray, List.set_cons_zero, List.set_cons_succ]
      refine wpW_one 2 _ rfl (by kernel_rfl) (step_wanted rfl (op_call 29 #[.slice (some ⟨g, 0, none⟩) M gc, .int .i64 p] _ (by go_simp) (hlb _ (erk.keep bd)) ?_))
      rintro e w5 ⟨ta, tc, rfl, rt, tb, q5⟩
      have hS5 : (fun w' : World => Below wr.heap.size wr w') w5 := bd.trans (q5.mono bd.size)
      have hct := conv_row w5 ta tc T (by rw [HTl.out]; exact rt)
      rw [hST, HTl.out] at hct
      refine ⟨_, rfl, fun _ => hS5, ?_⟩
      simp only [Act.put, List.getElem_toArray, List.getElem_cons_succ, List.getElem_cons_zero, List.setIfInBounds_toArray, List.set_cons_zero, List.set_cons_succ]
      refine wpW_one 3 _ rfl (by kernel_rfl) (step_wanted rfl (op_val (.string ST) (w' := w5) (by go_simp) ?_))
      refine ⟨fun _ => hS5, ?_⟩
      simp only [Act.put, List.getElem_toArray, List.getElem_cons_succ, List.getElem_cons_zero, List.setIfInBounds_toArray, List.set_cons_zero, List.set_cons_succ]
      refine wpW_take 6 _ (.bool true) rfl (by kernel_rfl) (by kernel_rfl) (by kernel_rfl) (fun _ _ _ h => h) (by kernel_rfl) (.inl ⟨rfl, fun w' hS' => by go_simp⟩) hS5 ?_
      simp only [Act.put, List.getElem_toArray, List.getElem_cons_succ, List.getElem_cons_zero, List.setIfInBounds_toArray, List.set_cons_zero, List.set_cons_succ]
      refine wpW_done (by kernel_rfl) ?_
      try simp only [Act.put, List.getElem_toArray, List.getElem_cons_succ, List.getElem_cons_zero, List.setIfInBounds_toArray, List.set_cons_zero, List.set_cons_succ]
      have bw5 := bwk.trans (Below.mono hS5 bwk.size)
      go_wp2
      refine bodyPost_ret (v := .tuple #[.slice (some ⟨g, 0, none⟩) M gc, .int .i64 0]) (by simp [results, Tryz.results36, go_sem]) rfl (.inl ?_)
      have hTb : IsTb f n X M p := isTb_of HF.out pb (by have := HS.out; omega) (by rw [HT.out]; exact HE.out)
      have OF := (O4.keep (bk.trans (Below.mono hS5 bk.size))).lower (show w.heap.size ≤ w1.heap.size from bw1.size)
      obtain rfl := HX.out
      exact ⟨X0, M, p, _, V, hTb, rfl, OF, hEB.out, hES, bw5⟩
    · skip
      have HE : Hid (T ≠ segL f 0 n) := hE
      clear hE
      obtain ⟨tn, htn⟩ : ∃ tn, T.length = tn := ⟨_, rfl⟩
      have HTl : Hid (T.length = tn) := htn
      rw [htn] at hlb
      clear htn
      go_wp2
      refine wp_region_w (fun w' : World => Below wr.heap.size wr w') (fun _ => true) (by kernel_rfl) ?_
      change wpW _ _ _ _ _ _ 7 _ _ wr.drew
      have hS0 : (fun w' : World => Below wr.heap.size wr w') wr.drew := bd
      refine wpW_take 0 _ (.slice (some ⟨g, 0, none⟩) M gc) rfl (by kernel_rfl) (by kernel_rfl) (by kernel_rfl) (fun _ _ _ h => h) (by kernel_rfl) (.inl ⟨rfl, fun w' hS' => by go_simp⟩) hS0 ?_
      simp only [Act.put, List.getElem_toArray, List.getElem_cons_succ, List.getElem_cons_zero, List.setIfInBounds_toArray, List.set_cons_zero, List.set_cons_succ]
      refine wpW_take 1 _ (.int .i64 p) rfl (by kernel_rfl) (by kernel_rfl) (by kernel_rfl) (fun _ _ _ h => h) (by kernel_rfl) (.inl ⟨rfl, fun w' hS' => by go_simp⟩) hS0 ?_
      simp only [Act.put, List.getElem_toArray, List.getElem_cons_succ, List.getElem_cons_zero, List.setIfInBounds_toArray, List.set_cons_zero, List.set_cons_succ]
      refine wpW_take 4 _ (.slice (some ⟨bb, bo, none⟩) n cap) rfl (by kernel_rfl) (by kernel_rfl) (by kernel_rfl) (fun _ _ _ h => h) (by kernel_rfl) (.inl ⟨rfl, fun w' hS' => by go_simp⟩) hS0 ?_
      simp only [Act.put, List.getElem_toArray, List.getElem_cons_succ, List.getElem_cons_zero, List.setIfInBounds_toArray, List.set_cons_zero, List.set_cons_succ]
      refine wpW_take 5 _ (.string SB) rfl (by kernel_rfl) (by kernel_rfl) (by kernel_rfl) (fun _ _ _ h => h) (by kernel_rfl) (.inl ⟨rfl, fun w' hS' => by have hq := hcb _ hS'; go_simp⟩) hS0 ?_
      simp only [Act.put, List.getElem_toArray, List.getElem_cons_succ, List.getElem_cons_zero, List.setIfInBounds_toArray, List.set_cons_zero, List.set_cons_succ]
      refine wpW_one 2 _ rfl (by kernel_rfl) (step_wanted rfl (op_call 29 #[.slice (some ⟨g, 0, none⟩) M gc, .int .i64 p] _ (by go_simp) (hlb _ (erk.keep bd)) ?_))
      rintro e w5 ⟨ta, tc, rfl, rt, tb, q5⟩
      have hS5 : (fun w' : World => Below wr.heap.size wr w') w5 := bd.trans (q5.mono bd.size)
      have hct := conv_row w5 ta tc T (by rw [HTl.out]; exact rt)
      rw [hST, HTl.out] at hct
      have heq : (ST.toList == SB.toList) = false := (tl_ne fun e => HE.out (strOf_inj tb (segL_byt hr.bd) (by rw [hST, hSB]; exact e))).1
      refine ⟨_, rfl, fun _ => hS5, ?_⟩
      simp only [Act.put, List.getElem_toArray, List.getElem_cons_succ, List.getElem_cons_zero, List.setIfInBounds_toArray, List.set_cons_zero, List.set_cons_succ]
      refine wpW_one 3 _ rfl (by kernel_rfl) (step_wanted rfl (op_val (.string ST) (w' := w5) (by go_simp) ?_))
      refine ⟨fun _ => hS5, ?_⟩
      simp only [Act.put, List.getElem_toArray, List.getElem_cons_succ, List.getElem_cons_zero, List.setIfInBounds_toArray, List.set_cons_zero, List.set_cons_succ]
      refine wpW_take 6 _ (.bool false) rfl (by kernel_rfl) (by kernel_rfl) (by kernel_rfl) (fun _ _ _ h => h) (by kernel_rfl) (.inl ⟨rfl, fun w' hS' => by go_simp⟩) hS5 ?_
      simp only [Act.put, List.getElem_toArray, List.getElem_cons_succ, List.getElem_cons_zero, List.setIfInBounds_toArray, List.set_cons_zero, List.set_cons_succ]
      refine wpW_done (by kernel_rfl) ?_
      try simp only [Act.put, List.getElem_toArray, List.getElem_cons_succ, List.getElem_cons_zero, List.setIfInBounds_toArray, List.set_cons_zero, List.set_cons_succ]
      have bw5 := bwk.trans (Below.mono hS5 bwk.size)
      go_wp2
      go_roundw
      case rel =>
        refine ⟨k + 1, by omega, by go_num, (fun j hj => ?_), bk.trans (Below.mono hS5 bk.size)⟩
        by_cases e : j = k
        · subst e; rw [HP.out, HT.out]; exact HE.out
        · exact HK.out j (by omega)
      case measure => simp [intOf]; omega
end Go.Proofs.YtohjjigkfdhklaaGreat
namespace Go.Proofs.YtohjjigkfdhklaaGreat
set_option maxRecDepth 100000
open Go.RowKit
set_option linter.unusedSimpArgs false
set_option linter.unusedVariables false

/-- v is a list of m entries X, all of whose memory lies in blocks from base on and below top, and may be written. -/
def CX (w : World) (base top : Nat) (v : Value) (m : Nat) (X : Nat → Ent) : Prop :=
  top ≤ w.heap.size ∧ ((m = 0 ∧ ∃ lo lc, v = .slice lo 0 lc) ∨ ∃ g cap L C, v = .slice (some ⟨g, 0, none⟩) m cap ∧ m ≤ cap ∧ base ≤ g ∧ g < top ∧ CE w g m X L C ∧ ∀ i, i < m → 0 < (X i).n → ∀ c, L i = some ⟨c, 0, none⟩ → base ≤ c ∧ c < top)
/-- What the numbers of Hists are. -/
def FX (m : Nat) (X : Nat → Ent) : Prop := ∀ i, i < m → ∀ j, -9223372036854775808 ≤ (X i).f j ∧ (X i).f j ≤ 9223372036854775807
section
variable {w w' : World} {base base' top top' : Nat} {v : Value} {m : Nat} {X : Nat → Ent}
theorem cx_nil (w : World) (base : Nat) (lo : Option Addr) (lc : Nat) (X : Nat → Ent) : CX w base w.heap.size (.slice lo 0 lc) 0 X := ⟨Nat.le_refl _, .inl ⟨rfl, lo, lc, rfl⟩⟩
theorem CX.form (h : CX w base top v m X) : ∃ lo lc, v = .slice lo m lc := by
  rcases h.2 with ⟨rfl, lo, lc, e⟩ | ⟨g, cap, L, C, e, _⟩
  · exact ⟨lo, lc, e⟩
  · exact ⟨_, _, e⟩
theorem ce_same {b n : Nat} {X : Nat → Ent} {L : Nat → Option Addr} {C : Nat → Nat} (h : CE w b n X L C) (hs : w.heap.size ≤ w'.heap.size) (hb : w'.heap[b]? = w.heap[b]?) (hl : ∀ i, i < n → 0 < (X i).n → ∀ g, L i = some ⟨g, 0, none⟩ → w'.heap[g]? = w.heap[g]?) : CE w' b n X L C := by
  have k : ∀ j, w'.cell? ⟨b, j, none⟩ = w.cell? ⟨b, j, none⟩ := fun j => World.cell?_of_block (w := w) (a := ⟨b, j, none⟩) hb
  refine ⟨Nat.lt_of_lt_of_le h.lt hs, fun i hi => (h.ent i hi).move (Nat.lt_of_lt_of_le h.lt hs) k, fun j hj => (World.frozen?_of_block (w := w) (a := ⟨b, j, none⟩) hb).trans (h.free j hj), fun i hi => ?_, h.dis⟩
  rcases h.hist i hi with h0 | ⟨g, h1, h2, h3⟩
  · exact .inl h0
  · by_cases h0 : (X i).n = 0
    · exact .inl h0
    · have e := hl i hi (by omega) g h1
      exact .inr ⟨g, h1, h2, h3.bd, Nat.lt_of_lt_of_le h3.lt hs, fun j hj => (World.cell?_of_block (w := w) (a := ⟨g, 0 + j, none⟩) e).trans (h3.cell j hj), fun j hj => (World.frozen?_of_block (w := w) (a := ⟨g, 0 + j, none⟩) e).trans (h3.free j hj)⟩
theorem CX.same (h : CX w base top v m X) (hs : w.heap.size ≤ w'.heap.size) (hb : ∀ c, base ≤ c → c < top → w'.heap[c]? = w.heap[c]?) : CX w' base top v m X := by
  refine ⟨Nat.le_trans h.1 hs, ?_⟩
  rcases h.2 with h0 | ⟨g, cap, L, C, e, hcp, h1, h2, h3, h4⟩
  · exact .inl h0
  · exact .inr ⟨g, cap, L, C, e, hcp, h1, h2, ce_same h3 hs (hb g h1 h2) (fun i hi hp c hc => by have := h4 i hi hp c hc; exact hb c this.1 this.2), h4⟩
theorem CX.keep (h : CX w base top v m X) (hb : Below w.heap.size w w') : CX w' base top v m X :=
  h.same hb.size (fun c _ hc => hb.block c (Nat.lt_of_lt_of_le hc h.1))
theorem CX.erow {lo : Option Addr} {n lc : Nat} (h : CX w base top (.slice lo n lc) m X) (hbd : ∀ i, i < m → EB (X i)) (hf : FX m X) : n = m ∧ ERow w lo m X := by
  rcases h.2 with ⟨rfl, lo', lc', e⟩ | ⟨g, cap, L, C, e, hcp, h1, h2, h3, h4⟩
  · injection e with e1 e2 e3
    exact ⟨e2, hbd, .inl rfl⟩
  · injection e with e1 e2 e3
    subst e1 e2
    refine ⟨rfl, hbd, .inr ⟨g, 0, rfl, h3.lt, fun i hi => ⟨L i, C i, by rw [Nat.zero_add]; exact h3.ent i hi, ?_⟩⟩⟩
    rcases h3.hist i hi with h0 | ⟨q, h5, _, h6⟩
    · exact ⟨hf i hi, .inl h0⟩
    · rw [h5]; exact h6.row
theorem cx_of_outH {V : Nat → Value} (h : OutH w base v m X V) : CX w base w.heap.size v m X := by
  refine ⟨Nat.le_refl _, ?_⟩
  by_cases h0 : m = 0
  · obtain ⟨lo, lc, e⟩ := ownsRow_form h.own
    exact .inl ⟨h0, lo, lc, by rw [e, h0]⟩
  · obtain ⟨g, cap, L, C, e, hcp, hg, hce, hL⟩ := h.ce (by omega)
    refine .inr ⟨g, cap, L, C, e, hcp, hg, hce.lt, hce, fun i hi hp c hc => ⟨hL i hi hp c hc, ?_⟩⟩
    rcases hce.hist i hi with h0 | ⟨q, h1, _, h3⟩
    · omega
    · rw [hc] at h1
      injection h1 with h1
      injection h1 with h1 _ _
      rw [h1]; exact h3.lt
end
theorem markCX (v : Value) (base top m : Nat) (X : Nat → Ent) (w : World) (h : CX w base top v m X) (hz : ∀ i, i < m → (X i).n ≤ 1048576) (hn : m ≤ 1048576) (hbd : kOf X 1 m ≤ 16000000) :
    Calls Tryz.prog 19 #[v, .int .i64 1] w fun e w' => e = .returned (.int .i64 (kOf X 1 m : Int)) ∧ (∀ W, Below w'.heap.size w' W → Calls Tryz.prog 20 #[v, .int .i64 1] W fun e w'' => e = .returned (.int .i64 (kOf X 1 m : Int)) ∧ Below W.heap.size W w'') ∧ w'.os = w.os ∧ w'.tape = w.tape ∧ w'.output = w.output ∧ w.heap.size ≤ w'.heap.size ∧ ∀ c, c < w.heap.size → (c < base ∨ top ≤ c) → w'.heap[c]? = w.heap[c]? := by
  rcases h.2 with ⟨rfl, lo, lc, rfl⟩ | ⟨g, cap, L, C, rfl, _, h1, h2, h3, h4⟩
  · refine (markE_zero lo lc 1 w).mono ?_
    rintro e w' ⟨rfl, rfl⟩
    refine ⟨rfl, fun W hW => ?_, rfl, rfl, rfl, Nat.le_refl _, fun _ _ _ => rfl⟩
    refine (heldE_zero lo lc 1 W).mono ?_
    rintro e w'' ⟨rfl, rfl⟩
    exact ⟨rfl, Below.refl _ _⟩
  · refine (markEntryS_any g m cap 1 X L C w h3 (by omega) hz hn hbd).mono ?_
    rintro e w' ⟨rfl, hc', hco⟩
    refine ⟨rfl, fun W hW => ?_, hco.os, hco.tape, hco.output, hco.size, fun c hc hd => hco.block c hc (by omega) (fun i hi hp e => by have := h4 i hi hp c e; omega)⟩
    have hcW := hc'.keep hW
    refine heldEntryS_yes g m cap 1 X L C W (fun i hi => ?_) (fun i hi => ?_) (by omega) hz hn hbd
    · have := hcW.ent i hi
      simpa [hi] using this
    · have hh := hcW.hist i hi
      simp only [hi, if_true] at hh
      rcases hh with h0 | ⟨q, h1, _, h3⟩
      · have h0' : (X i).n = 0 := h0
        exact ⟨fun j => by simp [mkE, h0'], .inl h0'⟩
      · rw [h1]
        exact h3.row
/-- Rows of entries that hold the same are rows of one another. -/
theorem ERow.same {w : World} {ao : Option Addr} {n : Nat} {X Y : Nat → Ent} (h : ERow w ao n X) (hs : ∀ i, i < n → SameE (X i) (Y i)) (hb : ∀ i, i < n → EB (Y i)) (hf : FX n Y) : ERow w ao n Y := by
  refine ⟨hb, ?_⟩
  rcases h.lies with h0 | ⟨b, off, e, hl, hc⟩
  · exact .inl h0
  · refine .inr ⟨b, off, e, hl, fun i hi => ?_⟩
    obtain ⟨da, dc, hE, hI⟩ := hc i hi
    obtain ⟨s1, s2, s3, s4, s5, s6, s7, s8, s9, s10⟩ := hs i hi
    refine ⟨da, dc, ⟨hE.lt, ?_, ?_, ?_, ?_, ?_, ?_, ?_, ?_, ?_⟩, ⟨hf i hi, ?_⟩⟩
    · rw [← s1]; exact hE.c0
    · rw [← s2]; exact hE.c1
    · rw [← s3]; exact hE.c2
    · rw [← s4]; exact hE.c3
    · rw [← s5]; exact hE.c4
    · rw [← s6]; exact hE.c5
    · rw [← s7]; exact hE.c6
    · rw [← s8]; exact hE.c7
    · rw [← s10]; exact hE.c8
    · rw [← s8]
      rcases hI.lies with h0 | ⟨g, o, e2, hg, hcc⟩
      · exact .inl h0
      · exact .inr ⟨g, o, e2, hg, fun j hj => by rw [← s9 j hj]; exact hcc j hj⟩
theorem kOf_few {X : Nat → Ent} {m : Nat} (h : ∀ i, i < m → (X i).n ≤ 8) : ∀ k, k ≤ m → kOf X 1 k ≤ 1 + 16 * k
  | 0, _ => by simp [kOf]
  | k + 1, hk => by
    have := kOf_few h k (by omega)
    have h8 := h k (by omega)
    show kOf X 1 k + 8 + (X k).n ≤ _
    omega
end Go.Proofs.YtohjjigkfdhklaaGreat
namespace Go.Proofs.YtohjjigkfdhklaaGreat
set_option maxRecDepth 100000
open Go.RowKit
set_option linter.unusedSimpArgs false
set_option linter.unusedVariables false

/-- What ReadTable answers: m entries that hold what Z does, and a code. -/
def RTk (f : Nat → Int) (n : Nat) (Z : Nat → Ent) (m : Nat) (c : Int) : Prop :=
  (∃ p, IsTb f n Z m p ∧ c = 0) ∨ ((∀ X m p, ¬ IsTb f n X m p) ∧ m = 0 ∧ c = noC f n)
theorem rtk_ex (f : Nat → Int) (n : Nat) : ∃ Z m c, RTk f n Z m c := by
  by_cases h : ∃ X m p, IsTb f n X m p
  · obtain ⟨X, m, p, h⟩ := h
    exact ⟨X, m, 0, .inl ⟨p, h, rfl⟩⟩
  · exact ⟨fun _ => ⟨⟨#[]⟩, 0, 0, 0, 0, 0, 0, 0, fun _ => 0, false⟩, 0, noC f n, .inr ⟨fun X m p hh => h ⟨X, m, p, hh⟩, rfl, rfl⟩⟩
/-- Entries that hold what Z does, no greater than they may be. -/
structure GX (m : Nat) (X Z : Nat → Ent) : Prop where
  eb : ∀ i, i < m → EB (X i)
  fx : FX m X
  sz : ESize m X
  n8 : ∀ i, i < m → (X i).n ≤ 8
  same : ∀ i, i < m → SameE (X i) (Z i)
theorem gx_zero (X Z : Nat → Ent) : GX 0 X Z := ⟨fun i h => absurd h (Nat.not_lt_zero _), fun i h => absurd h (Nat.not_lt_zero _), fun i h => absurd h (Nat.not_lt_zero _), fun i h => absurd h (Nat.not_lt_zero _), fun i h => absurd h (Nat.not_lt_zero _)⟩
theorem SameE.trans {x y z : Ent} (h : SameE x y) (k : SameE y z) : SameE x z := by
  obtain ⟨h1, h2, h3, h4, h5, h6, h7, h8, h9, h10⟩ := h
  obtain ⟨k1, k2, k3, k4, k5, k6, k7, k8, k9, k10⟩ := k
  exact ⟨h1.trans k1, h2.trans k2, h3.trans k3, h4.trans k4, h5.trans k5, h6.trans k6, h7.trans k7, h8.trans k8, fun i hi => (h9 i hi).trans (k9 i (by omega)), h10.trans k10⟩
theorem GX.rows {m : Nat} {X Y Z : Nat → Ent} (h : GX m X Z) (k : GX m Y Z) {w : World} {ao : Option Addr} (hr : ERow w ao m X) : ERow w ao m Y :=
  hr.same (fun i hi => (h.same i hi).trans (k.same i hi).symm) k.eb k.fx
theorem gx_of {f : Nat → Int} {n : Nat} {X Z : Nat → Ent} {m k : Nat} {p q : Int} (h : IsTb f n (fun i => nrE (X i)) m p) (hZ : IsTb f n Z k q) (hEB : ∀ i, i < m → EB (nrE (X i))) (hES : ESize m (fun i => nrE (X i))) {w : World} {base : Nat} {v : Value} {V : Nat → Value} (hO : OutH w base v m (fun i => nrE (X i)) V) : k = m ∧ GX m (fun i => nrE (X i)) Z := by
  obtain ⟨e, ha⟩ := h.one hZ
  refine ⟨e, hEB, fun i hi => ?_, hES, fun i hi => ?_, fun i hi => (ha i hi).1⟩
  · obtain ⟨lo, lc, _, hI⟩ := (hO.row i hi).io
    exact hI.bd
  · rcases ((h.1.1.2.1 i hi).2.2) with ⟨_, hA⟩ | ⟨_, hz⟩
    · have h8 : (nrE (X i)).n = 8 := hA.2.1
      show (nrE (X i)).n ≤ 8
      omega
    · have h8 : (nrE (X i)).n = 0 := hz.2.2.2.2.1
      show (nrE (X i)).n ≤ 8
      omega
/-- What both texts leave. -/
def RTa (Z : Nat → Ent) (m : Nat) (c : Int) (w : World) (e : Ending) (w' : World) : Prop :=
  ∃ v X, e = .returned (.tuple #[v, .int .i64 c]) ∧ CX w' w.heap.size w'.heap.size v m X ∧ GX m X Z ∧ Below w.heap.size w w'

set_option maxHeartbeats 1600000 in
theorem readTable_impl (Z : Nat → Ent) (m : Nat) (c : Int) (bb bo n cap : Nat) (f : Nat → Int) (w : World) (hK : RTk f n Z m c) (hr : Row w (some ⟨bb, bo, none⟩) n f) (hbb : bb < w.heap.size) (hn : n ≤ 1048576) (hcap : n ≤ cap) :
    Calls Tryz.prog 8 #[.slice (some ⟨bb, bo, none⟩) n cap] w fun e w' => RTa Z m c w e w' := by
  have HKK : Hid (RTk f n Z m c) := hK
  clear hK
  go_enter Tryz.func8, Tryz.ntmps8
  go_wp2_with fail
  refine (openTable_any bb bo n cap f w hr hbb hn hcap).mono ?_
  rintro e w1 (⟨X, k, p, v, V, fo, fc, hT, rfl, hO, hEB, hES, hrF, q1⟩ | ⟨hno, rfl, q1⟩)
  · obtain ⟨lo, lc, rfl⟩ := ownsRow_form hO.own
    have HA : Hid (m = k ∧ c = 0 ∧ GX m (fun i => nrE (X i)) Z) := by
      rcases HKK.out with ⟨q, h1, h2⟩ | ⟨h1, _⟩
      · obtain ⟨e, hg⟩ := gx_of hT h1 hEB hES hO
        exact ⟨e, h2, by rw [e]; exact hg⟩
      · exact absurd hT (h1 _ _ _)
    have b2 := below_new w1 (.cells #[.slice lo k lc, .int .i64 (fwI p), .slice fo (fbN (fun i => nrE (X i)) k p) fc] 64)
    have bA := q1.trans (b2.mono q1.size)
    have O2 := hO.keep b2
    clear hT hO hEB hES hrF HKK b2
    generalize fbN (fun i => nrE (X i)) k p = fn at *
    go_wp2
    refine bodyPost_ret (v := .tuple #[.slice lo k lc, .int .i64 0]) (by simp [results, Tryz.results8, go_sem]) rfl ?_
    obtain ⟨e1, e2, hg⟩ := HA.out
    rw [e1] at hg
    exact ⟨_, fun i => nrE (X i), by rw [e2], by rw [e1]; exact cx_of_outH O2, by rw [e1]; exact hg, bA⟩
  · have HA : Hid (m = 0 ∧ c = noC f n) := by
      rcases HKK.out with ⟨q, h1, h2⟩ | ⟨_, h⟩
      · exact absurd h1 (hno _ _ _)
      · exact h
    have bA := q1.trans ((below_new w1 (.cells #[.slice none 0 0, .int .i64 0, .slice none 0 0] 64)).mono q1.size)
    clear hno HKK
    generalize noC f n = c' at *
    go_wp2
    refine bodyPost_ret (v := .tuple #[.slice none 0 0, .int .i64 c']) (by simp [results, Tryz.results8, go_sem]) rfl ?_
    obtain ⟨e1, e2⟩ := HA.out
    rw [e1, e2]
    exact ⟨_, Z, rfl, cx_nil _ _ _ _ _, gx_zero _ _, bA⟩
end Go.Proofs.YtohjjigkfdhklaaGreat
namespace Go.Proofs.YtohjjigkfdhklaaGreat
set_option maxRecDepth 100000
open Go.RowKit
set_option linter.unusedSimpArgs false
set_option linter.unusedVariables false

theorem plL_get {h d M : Int} {y k : Nat} (hk : k < y) : fi (plL h d M y) k = pl h d M k := by simp [fi, plL, hk]

set_option maxHeartbeats 1600000 in
theorem l6May_any (s : ByteArray) (y : Nat) (ao : Option Addr) (m cap : Nat) (f : Nat → Int) (w : World) (hr : Row w ao m f) (hs : s.size ≤ 1048576) (hy : y ≤ 8) (hm : 1 ≤ m ∧ m ≤ 200) :
    Calls Tryz.prog 37 #[.agg #[.int .i64 y, .slice ao m cap], .string s] w fun e w' => e = .returned (.bool (allSet f (plL (hOf s 0) (hOf s 1) (8 * m) y))) ∧ Below w.heap.size w w' := by
  have hB := below_new w (.cells #[.int .i64 y, .slice ao m cap] 55)
  have A0 := FAt.new w y (.slice ao m cap) 55
  have cP := fun W => l6Places_any s y m W hs hy hm
  generalize hOf s 0 = h at *
  generalize hOf s 1 = d at *
  obtain ⟨M, hMe⟩ : ∃ M : Int, 8 * (m : Int) = M := ⟨_, rfl⟩
  have hM : 0 < M := by omega
  rw [hMe] at cP ⊢
  obtain ⟨R, hR⟩ : ∃ R, allSet f (plL h d M y) = R := ⟨_, rfl⟩
  rw [hR]
  have HR : Hid (allSet f (plL h d M y) = R) := hR
  clear hR
  go_enter Tryz.func37, Tryz.ntmps37
  go_wp2_with fail
  refine (cP _).mono ?_
  rintro e w1 ⟨v, rfl, ho, hb1⟩
  obtain ⟨lo, lc, rfl, hlc, hI⟩ := ho.form
  have A1 := A0.keep hb1
  have B1 : Below w.heap.size w w1 := hB.trans (hb1.mono (by simp))
  have r1 := hr.keep B1
  have hl := plL_len h d M y
  rw [hl] at hI ⊢
  obtain ⟨b, off, rfl, hblt, hcell⟩ := r1.lies.resolve_left (by omega)
  clear cP hB A0 hb1 ho hr
  go_wp2
  go_loopw [15] (fun i wr => ∃ k : Nat, k ≤ y ∧ i = .int .i64 k ∧ Hid (∀ i, i < k → isSet f (pl h d M i) = true) ∧ wr = w1) (fun i _ => y - (intOf i).toNat)
  case atStart => exact ⟨0, Nat.zero_le _, rfl, fun i hi => by omega, rfl⟩
  case round =>
    obtain ⟨k, hk, rfl, HA, hw⟩ := hrel
    have hw2 := hw.symm
    clear hw
    subst hw2
    by_cases hlt : k < y
    · obtain ⟨b2, o2, rfl, hb2, hc2⟩ := hI.lies.resolve_left (by omega)
      have c1 := hc2 k hlt
      rw [plL_get hlt] at c1
      have hp := pl_bd h d hM k
      have HE : Hid (isSet f (pl h d M k) = false → R = false) := fun hh => by
        rw [← HR.out]
        unfold allSet
        rw [List.all_eq_false]
        exact ⟨pl h d M k, by simp [plL]; exact ⟨k, hlt, rfl⟩, by simp [hh]⟩
      have HN : Hid (isSet f (pl h d M k) = true → ∀ i, i < k + 1 → isSet f (pl h d M i) = true) := fun hh i hi => by
        rcases Nat.lt_succ_iff_lt_or_eq.1 hi with h' | rfl
        · exact HA.out i h'
        · exact hh
      generalize pl h d M k = x at *
      have hcq : w1.cell? ⟨b, off + (x / 8).toNat, none⟩ = some (.int .u8 (f (x / 8).toNat)) := hcell _ (by omega)
      have HS : Hid (isSet f x = !(bits .and .u8 (f (x / 8).toNat) (bt (x % 8)) == 0)) := rfl
      have hzb := r1.bd (x / 8).toNat
      have hqa : 0 ≤ x / 8 := by omega
      have hqb : x / 8 < (m : Int) := by omega
      have hqc : (x / 8).toNat < m := by omega
      generalize f (x / 8).toNat = z at hcq HS hzb
      obtain ⟨la, a0, a1⟩ := A1
      generalize isSet f x = B at HS HE HN
      clear hc2 hI hcell r1
      rcases bit_case hzb HS.out with ⟨hj, hz⟩ | ⟨hj, hz⟩ | ⟨hj, hz⟩ | ⟨hj, hz⟩ | ⟨hj, hz⟩ | ⟨hj, hz⟩ | ⟨hj, hz⟩ | ⟨hj, hz⟩
      all_goals
        clear HS
        cases B
        · have HF : Hid (R = false) := HE.out rfl
          simp only [Bool.not_false] at hz
          go_wp2
          exact bodyPost_ret (v := .bool false) (by simp [results, Tryz.results37, go_sem]) rfl ⟨by rw [HF.out], B1⟩
        · have HF : Hid (∀ i, i < k + 1 → isSet f (pl h d M i) = true) := HN.out rfl
          simp only [Bool.not_true] at hz
          go_wp2
          go_roundw
          case rel => exact ⟨k + 1, by omega, by go_num, HF, by first | rfl | trivial⟩
          case measure => simp [intOf]; omega
    · obtain rfl : k = y := by omega
      have HF : Hid (R = true) := by
        unfold Hid
        rw [← HR.out]
        unfold allSet
        rw [List.all_eq_true]
        intro x hx
        obtain ⟨i, hi, rfl⟩ := List.mem_map.1 hx
        exact HA.out i (List.mem_range.1 hi)
      go_wp2
      exact bodyPost_ret (v := .bool true) (by simp [results, Tryz.results37, go_sem]) rfl ⟨by rw [HF.out], B1⟩
end Go.Proofs.YtohjjigkfdhklaaGreat
namespace Go.Proofs.YtohjjigkfdhklaaGreat
set_option maxRecDepth 100000
open Go.RowKit
set_option linter.unusedSimpArgs false
set_option linter.unusedVariables false

/-- A table's filter may have the key. -/
def hasF (X : Nat → Ent) (m : Nat) (p : Int) (s : ByteArray) : Bool := allSet (fl (fLt X m p)) (plL (hOf s 0) (hOf s 1) (8 * fbN X m p) (fwI p).toNat)
theorem IsTb.has {f : Nat → Int} {n : Nat} {X Y : Nat → Ent} {m k : Nat} {p q : Int} (h : IsTb f n X m p) (h2 : IsTb f n Y k q) (s : ByteArray) : hasF X m p s = hasF Y k q s := by
  obtain ⟨_, _, _, _, _, hA, hB, _, _⟩ := h.plc
  obtain ⟨_, _, _, a1, a2⟩ := h.filter hA hB
  obtain ⟨_, _, _, b1, b2⟩ := h2.filter hA hB
  have e1 : fwI p = fwI q := a1.symm.trans b1
  have e2 : fLt X m p = fLt Y k q := a2.symm.trans b2
  have e3 : fbN X m p = fbN Y k q := (fLt_len X m p).symm.trans ((congrArg List.length e2).trans (fLt_len Y k q))
  unfold hasF
  rw [e1, e2, e3]
section
variable {X Y : Nat → Ent} {m : Nat} {s : ByteArray}
theorem fX_same (s : ByteArray) (h : ∀ i, i < m → SameE (X i) (Y i)) : ∀ k, k ≤ m → (fX X s k).length = (fX Y s k).length ∧ ∀ i, i < (fX X s k).length → SameE (eL (fX X s k) i) (eL (fX Y s k) i)
  | 0, _ => ⟨rfl, fun i hi => absurd hi (Nat.not_lt_zero _)⟩
  | k + 1, hk => by
    obtain ⟨h1, h2⟩ := fX_same s h k (by omega)
    have hS := h k (by omega)
    unfold fX
    rw [← hS.1]
    split
    · refine ⟨by simp [h1], fun i hi => ?_⟩
      rw [List.length_append, List.length_singleton] at hi
      rw [← eL_push _ _ i hi, ← eL_push _ _ i (by omega)]
      by_cases e : i = (fX X s k).length
      · rw [if_pos e, if_pos (by omega)]; exact hS
      · rw [if_neg e, if_neg (by omega)]; exact h2 i (by omega)
    · exact ⟨h1, h2⟩
theorem fd_same (s : ByteArray) (h : Alike X Y m) : ∀ j, j ≤ nbl m → (fd X m s j).1 = (fd Y m s j).1 ∧ (fd X m s j).2.1 = (fd Y m s j).2.1
  | 0, _ => ⟨rfl, rfl⟩
  | j + 1, hj => by
    obtain ⟨h1, h2⟩ := fd_same s h j (by omega)
    unfold fd
    rw [h.last (show j < nbl m by omega), h2]
    split
    · exact ⟨h1, h2⟩
    · exact ⟨by simp [h1], rfl⟩
theorem fd_le (X : Nat → Ent) (m : Nat) (s : ByteArray) : ∀ j, (fd X m s j).1 ≤ j
  | 0 => Nat.le_refl _
  | j + 1 => by
    have := fd_le X m s j
    unfold fd
    split
    · omega
    · show (fd X m s j).1 + 1 ≤ _
      omega
theorem fd_zero (X : Nat → Ent) (m : Nat) (s : ByteArray) : ∀ j, (fd X m s j).1 = 0 → (fd X m s j).2.2 = []
  | 0, _ => rfl
  | j + 1, h => by
    have ih := fd_zero X m s j
    unfold fd at h ⊢
    split
    · rename_i hc
      rw [if_pos hc] at h
      exact ih h
    · rename_i hc
      rw [if_neg hc] at h
      exact absurd h (Nat.succ_ne_zero _)
theorem fd_len (X : Nat → Ent) (m : Nat) (s : ByteArray) : ∀ j, (fd X m s j).2.2.length ≤ 4 * j
  | 0 => Nat.le_refl _
  | j + 1 => by
    have ih := fd_len X m s j
    have h1 := fX_len (fun i => X (4 * j + i)) s (bsz m j)
    have h2 := (bsz_le m j).1
    unfold fd
    split
    · omega
    · show ((fd X m s j).2.2 ++ fX (fun i => X (4 * j + i)) s (bsz m j)).length ≤ _
      rw [List.length_append]
      omega
end
/-- What is found of a table, and how many blocks are looked at. -/
def foE (X : Nat → Ent) (m : Nat) (p : Int) (s : ByteArray) : List Ent := if hasF X m p s = true then fX X s m else []
def foK (X : Nat → Ent) (m : Nat) (p : Int) (s : ByteArray) : Nat := if hasF X m p s = true then (fd X m s (nbl m)).1 else 0
/-- What FindInTable answers: k entries that hold what Z does, K blocks, and a code. -/
def FTk (f : Nat → Int) (n : Nat) (s : ByteArray) (Z : Nat → Ent) (k : Nat) (K c : Int) : Prop :=
  (∃ X m p, IsTb f n X m p ∧ Z = eL (foE X m p s) ∧ k = (foE X m p s).length ∧ K = (foK X m p s : Nat) ∧ c = 0) ∨ ((∀ X m p, ¬ IsTb f n X m p) ∧ k = 0 ∧ K = 0 ∧ c = noC f n)
theorem ftk_ex (f : Nat → Int) (n : Nat) (s : ByteArray) : ∃ Z k K c, FTk f n s Z k K c := by
  by_cases h : ∃ X m p, IsTb f n X m p
  · obtain ⟨X, m, p, h⟩ := h
    exact ⟨_, _, _, _, .inl ⟨X, m, p, h, rfl, rfl, rfl, rfl⟩⟩
  · exact ⟨eL [], 0, 0, noC f n, .inr ⟨fun X m p hh => h ⟨X, m, p, hh⟩, rfl, rfl, rfl⟩⟩
theorem foE_len (X : Nat → Ent) (m : Nat) (p : Int) (s : ByteArray) : (foE X m p s).length ≤ m := by
  unfold foE
  split
  · exact fX_len X s m
  · exact Nat.zero_le _
theorem FTk.few {f : Nat → Int} {n : Nat} {s : ByteArray} {Z : Nat → Ent} {k : Nat} {K c : Int} (h : FTk f n s Z k K c) : k ≤ 100 := by
  rcases h with ⟨X, m, p, h, _, e, _⟩ | ⟨_, e, _⟩
  · have := foE_len X m p s
    have := h.1.1.1.2
    omega
  · omega
/-- What is found of entries that hold the same. -/
theorem gx_found {X Z : Nat → Ent} {m : Nat} (h : GX m X Z) (s : ByteArray) : (fX X s m).length = (fX Z s m).length ∧ GX (fX X s m).length (eL (fX X s m)) (eL (fX Z s m)) := by
  obtain ⟨h1, h2⟩ := fX_same s h.same m (Nat.le_refl _)
  refine ⟨h1, fX_all h.eb, ?_, ?_, fX_all (P := fun x => x.n ≤ 8) h.n8, h2⟩
  · exact fX_all (P := fun x => ∀ j, -9223372036854775808 ≤ x.f j ∧ x.f j ≤ 9223372036854775807) h.fx
  · exact fX_all (P := fun x => x.key.size ≤ 1048576 ∧ x.n ≤ 1048576) h.sz
/-- What each text finds is what was asked. -/
theorem FTk.yes {f : Nat → Int} {n : Nat} {s : ByteArray} {Z : Nat → Ent} {k : Nat} {K c : Int} (h : FTk f n s Z k K c) {X : Nat → Ent} {m : Nat} {p : Int} (hT : IsTb f n X m p) (hX : ∀ Y, Alike X Y m → GX m X Y) :
    c = 0 ∧ (foE X m p s).length = k ∧ K = (foK X m p s : Nat) ∧ GX k (eL (foE X m p s)) Z := by
  rcases h with ⟨Y, m', p', h1, eZ, ek, eK, ec⟩ | ⟨h1, _⟩
  · obtain ⟨e, ha⟩ := hT.one h1
    subst e
    have hh := hT.has h1 s
    have hg := hX Y ha
    obtain ⟨g1, g2⟩ := gx_found hg s
    refine ⟨ec, ?_, ?_, ?_⟩
    · rw [ek]
      unfold foE
      rw [hh]
      split
      · exact g1
      · rfl
    · rw [eK]
      unfold foK
      rw [hh, (fd_same s ha (nbl m') (Nat.le_refl _)).1]
    · rw [ek, eZ]
      unfold foE
      rw [hh]
      split
      · rw [← g1]; exact g2
      · exact gx_zero _ _
  · exact absurd hT (h1 X m p)
theorem FTk.no {f : Nat → Int} {n : Nat} {s : ByteArray} {Z : Nat → Ent} {k : Nat} {K c : Int} (h : FTk f n s Z k K c) (hno : ∀ X m p, ¬ IsTb f n X m p) : k = 0 ∧ K = 0 ∧ c = noC f n := by
  rcases h with ⟨Y, m', p', h1, _⟩ | ⟨_, h⟩
  · exact absurd h1 (hno _ _ _)
  · exact h
/-- What both texts leave. -/
def FTa (Z : Nat → Ent) (k : Nat) (K c : Int) (w : World) (e : Ending) (w' : World) : Prop :=
  ∃ v X, e = .returned (.tuple #[v, .int .i64 K, .int .i64 c]) ∧ CX w' w.heap.size w'.heap.size v k X ∧ GX k X Z ∧ Below w.heap.size w w'
end Go.Proofs.YtohjjigkfdhklaaGreat
namespace Go.Proofs.YtohjjigkfdhklaaGreat
set_option maxRecDepth 100000
open Go.RowKit Go.Shelf
set_option linter.unusedSimpArgs false
set_option linter.unusedVariables false

/-- An append by its run's equation, within a round. -/
theorem wpListIn_append_eqE {F : Fence} {nF : Nat} {P : Program} (w : World) {ops : Array Oper} {rest : List Oper} {o : Oper} {a : Act} {Q : Exit → Act → World → Prop}
    (hg : o.guard = none) (s x : Operand) (t ty : TypeId) (hop : o.op = .call { callee := .builtin .append, args := #[s, x], argTypes := #[t, t] }) (hty : o.type = ty) (u v r : Value) (hs : a.eval s = u) (hx : a.eval x = v) (w' : World)
    (hrun : (Builtin.append_ #[t, t] ty #[u, v]).run P w = .ok r w') (hK : wpListIn F nF P ops Q rest (a.put o.dst r) w') : wpListIn F nF P ops Q (o :: rest) a w := by
  refine wpListIn_plain hg fun K' hK' => ?_
  subst hty
  unfold Oper.wpIn
  refine ⟨by simp [Oper.about, hop, resolve, Target.leads, Sem.run_pure], ?_⟩
  rw [Oper.semAt_plain F _ _ (by rw [hop]; intro c hc'; cases hc')]
  simp [execOp, hop, resolve, invoke, builtin, hs, hx, hrun, Result.andThen]
  exact hK' _ _ hK
theorem fm_addE (n k : Nat) (F : Nat → List Value) : (List.range (n + k)).flatMap F = (List.range n).flatMap F ++ (List.range k).flatMap (fun i => F (n + i)) := by
  induction k with
  | zero => simp
  | succ k ih => rw [← Nat.add_assoc, List.range_succ, List.flatMap_append, ih, List.range_succ, List.flatMap_append, List.append_assoc]; simp
theorem fm_congE {n : Nat} {F G : Nat → List Value} (h : ∀ i, i < n → F i = G i) : (List.range n).flatMap F = (List.range n).flatMap G := by
  unfold List.flatMap
  congr 1
  exact List.map_congr_left fun i hi => h i (List.mem_range.1 hi)
theorem eL_app1 {E P : List Ent} {i : Nat} (h : i < E.length) : eL (E ++ P) i = eL E i := by
  unfold eL
  simp [List.getD, List.getElem?_append_left h]
theorem eL_app2 (E P : List Ent) (i : Nat) : eL (E ++ P) (E.length + i) = eL P i := by
  unfold eL
  rw [List.getD_eq_getElem?_getD, List.getD_eq_getElem?_getD, List.getElem?_append_right (by omega), Nat.add_sub_cancel_left]
/-- Nothing put behind. -/
theorem app_noneE (w : World) (a : Option Addr) (n c : Nat) (ty : TypeId) (h : n ≤ c) : (Builtin.append_ #[23, 23] ty #[.slice a n c, .slice none 0 0]).run Tryz.prog w = .ok (.slice a n c) w := by
  obtain ⟨i0, hi, hz0, hz1, hz2⟩ := info_parts Tryz.infoEnt
  cases a <;> simp [Builtin.append_, run_underlying Tryz.underlying23, sizeOf, typeInfo, hi, Builtin.lenOf, Builtin.firstCells, loadCells, loadCellsFrom, storeCells, h]
theorem outE_low {w : World} {base base2 : Nat} {v : Value} {n : Nat} {X : Nat → Ent} {V : Nat → Value} (h : OutE w base v n X V) (hb : base2 ≤ base) : OutE w base2 v n X V :=
  ⟨ownsRow_mono h.own hb, fun i hi => ⟨(h.row i hi).bd, ownsRow_mono (h.row i hi).own hb⟩, h.dis, h.apart⟩

set_option maxRecDepth 100000 in
/-- Entries that another call gathered put behind. -/
theorem outE_app {w1 w : World} {base : Nat} {v pv : Value} {E P : List Ent} {V U : Nat → Value} (ty : TypeId) (h1 : OutE w1 base v E.length (eL E) V) (hb : Below w1.heap.size w1 w) (hp : OutE w w1.heap.size pv P.length (eL P) U) (hn : E.length + P.length ≤ 1048576) (hbase : base ≤ w1.heap.size) :
    ∃ v' V' w', (Builtin.append_ #[23, 23] ty #[v, pv]).run Tryz.prog w = .ok v' w' ∧ OutE w' base v' (E ++ P).length (eL (E ++ P)) V' ∧ w.grownBy w' v.ownBlock ∧ w.ownsRow base 35 9 v E.length ((List.range E.length).flatMap fun i => ecells (eL E i) (V i)) := by
  have h := h1.keep hb
  rcases hp.own.2 with ⟨rfl, h0⟩ | ⟨g, cap, cur, rfl, hbg, hg, hnc, _⟩
  · obtain rfl : P = [] := List.eq_nil_of_length_eq_zero h0
    rw [List.append_nil]
    rcases h.own.2 with ⟨rfl, h00⟩ | ⟨g, cap, cur, rfl, _, _, hnc, _⟩
    · refine ⟨_, V, w, app_noneE w none 0 0 ty (Nat.le_refl _), h, ⟨rfl, rfl, rfl, Nat.le_refl _, fun _ _ _ => rfl⟩, h.own⟩
    · exact ⟨_, V, w, app_noneE w _ _ cap ty hnc, h, ⟨rfl, rfl, rfl, Nat.le_refl _, fun _ _ _ => rfl⟩, h.own⟩
  · obtain ⟨i0, hi, hz0, hz1, hz2⟩ := info_parts Tryz.infoEnt
    have hcells : ∀ i j, i < P.length → j < 9 → w.cell? ⟨g, i * 9 + j, none⟩ = (ecells (eL P i) (U i))[j]? := fun i j hi hj => by rw [hp.own.cellAt (i * 9 + j) (by omega), fm9_get P.length (eL P) U hi hj]
    obtain ⟨v', w', hrun, hown, hgr, _, hat⟩ := run_append_own_at (P := Tryz.prog) w base 23 ty 35 i0 _ 9 96 Tryz.underlying23 hi hz0 hz1 hz2 rfl (by decide) v E.length _ h.own ⟨g, 0, none⟩ P.length cap ((List.range P.length).flatMap fun i => ecells (eL P i) (U i)) (by rw [fm9_len]) (fun j u hj => by
        have hlt : j < P.length * 9 := by
          have := (List.getElem?_eq_some_iff.1 hj).1
          rwa [fm9_len] at this
        rw [Addr.add_lit, Nat.zero_add, hp.own.cellAt j (by omega)]
        exact hj) (fun u hu => by
        obtain ⟨i, hi, hu⟩ := List.mem_flatMap.1 hu
        obtain ⟨lo, lc, e, _⟩ := (hp.row i (List.mem_range.1 hi)).row
        rw [e] at hu
        simp only [ecells, List.mem_cons, List.not_mem_nil, or_false] at hu
        rcases hu with rfl | rfl | rfl | rfl | rfl | rfl | rfl | rfl | rfl <;> rfl) (by unfold maxLen; omega) (by omega) (Nat.le_trans hbase hb.size)
    have ltV : ∀ i, i < E.length → ∀ k, (V i).ownBlock = some k → k < w1.heap.size := fun i hi k hk => ((h1.row i hi).own.lt k hk).2
    have ltv : ∀ k, v.ownBlock = some k → k < w1.heap.size := fun k hk => (h1.own.lt k hk).2
    have geU : ∀ i, i < P.length → ∀ k, (U i).ownBlock = some k → w1.heap.size ≤ k ∧ k < w.heap.size := fun i hi k hk => (hp.row i hi).own.lt k hk
    have hs := hb.size
    refine ⟨v', fun i => if i < E.length then V i else U (i - E.length), w', hrun, ⟨?_, fun i hi => ?_, fun i j hi hj hij k k1 k2 => ?_, fun i hi k k1 k2 => ?_⟩, hgr, h.own⟩
    · rw [List.length_append, fm_addE]
      have e1 : ((List.range E.length).flatMap fun i => ecells (eL (E ++ P) i) (if i < E.length then V i else U (i - E.length))) = ((List.range E.length).flatMap fun i => ecells (eL E i) (V i)) := fm_congE fun i hi => by rw [eL_app1 hi, if_pos hi]
      have e2 : ((List.range P.length).flatMap fun i => ecells (eL (E ++ P) (E.length + i)) (if E.length + i < E.length then V (E.length + i) else U (E.length + i - E.length))) = ((List.range P.length).flatMap fun i => ecells (eL P i) (U i)) := fm_congE fun i hi => by rw [eL_app2, if_neg (by omega), Nat.add_sub_cancel_left]
      rw [e1, e2]
      exact hown
    · rw [List.length_append] at hi
      by_cases e : i < E.length
      · rw [eL_app1 e]
        simp only [e, if_true]
        exact ⟨(h.row i e).bd, ownsRow_kept (h.row i e).own hgr (fun k hk hh => h.apart i e k hh hk)⟩
      · have ei : i = E.length + (i - E.length) := by omega
        rw [ei, eL_app2]
        have e' : ¬ E.length + (i - E.length) < E.length := by omega
        simp only [e', if_false, Nat.add_sub_cancel_left]
        have hr := hp.row (i - E.length) (by omega)
        exact ⟨hr.bd, ownsRow_mono (ownsRow_kept hr.own hgr (fun k hk hh => by have := ltv k hk; have := (geU _ (by omega) k hh).1; omega)) hbase⟩
    · rw [List.length_append] at hi hj
      by_cases e : i < E.length
      · simp only [e, if_true] at k1
        by_cases e' : j < E.length
        · simp only [e', if_true] at k2
          exact h.dis i j e e' hij k k1 k2
        · simp only [e', if_false] at k2
          have := ltV i e k k1
          have := (geU (j - E.length) (by omega) k k2).1
          omega
      · simp only [e, if_false] at k1
        by_cases e' : j < E.length
        · simp only [e', if_true] at k2
          have := ltV j e' k k2
          have := (geU (i - E.length) (by omega) k k1).1
          omega
        · simp only [e', if_false] at k2
          exact hp.dis (i - E.length) (j - E.length) (by omega) (by omega) (by omega) k k1 k2
    · rw [List.length_append] at hi
      by_cases e : i < E.length
      · simp only [e, if_true] at k1
        rcases hat with hat | hat
        · rw [hat] at k2
          exact h.apart i e k k1 k2
        · rw [hat] at k2
          injection k2 with k2
          have := ltV i e k k1
          omega
      · simp only [e, if_false] at k1
        have hk := geU (i - E.length) (by omega) k k1
        rcases hat with hat | hat
        · rw [hat] at k2
          have := ltv k k2
          omega
        · rw [hat] at k2
          injection k2 with k2
          omega

/-- Going through the blocks P with no end. -/
def gF (X : Nat → Ent) (m : Nat) (s : ByteArray) (P : List Nat) : Nat × List Ent := P.foldl (fun st j => if Op.bytesLess (lastK X m j).toList s.toList = true then st else (st.1 + 1, st.2 ++ fX (fun i => X (4 * j + i)) s (bsz m j))) (0, [])
section
variable {X : Nat → Ent} {m : Nat} {s : ByteArray} {P : List Nat} {j : Nat}
theorem gF_lt (h : Op.bytesLess (lastK X m j).toList s.toList = true) : gF X m s (P ++ [j]) = gF X m s P := by simp [gF, List.foldl_append, h]
theorem gF_ge (h : Op.bytesLess (lastK X m j).toList s.toList = false) : gF X m s (P ++ [j]) = ((gF X m s P).1 + 1, (gF X m s P).2 ++ fX (fun i => X (4 * j + i)) s (bsz m j)) := by simp [gF, List.foldl_append, h]
theorem gF_one (X : Nat → Ent) (m : Nat) (s : ByteArray) (st : Nat × List Ent) (P : List Nat) (c d : Nat) (h1 : st.1 ≤ c) (h2 : st.2.length ≤ d) : (P.foldl (fun st j => if Op.bytesLess (lastK X m j).toList s.toList = true then st else (st.1 + 1, st.2 ++ fX (fun i => X (4 * j + i)) s (bsz m j))) st).1 ≤ c + P.length ∧ (P.foldl (fun st j => if Op.bytesLess (lastK X m j).toList s.toList = true then st else (st.1 + 1, st.2 ++ fX (fun i => X (4 * j + i)) s (bsz m j))) st).2.length ≤ d + 4 * P.length := by
  induction P generalizing st c d with
  | nil => exact ⟨h1, h2⟩
  | cons j P ih =>
    rw [List.foldl_cons, List.length_cons]
    have hl := fX_len (fun i => X (4 * j + i)) s (bsz m j)
    have hb := (bsz_le m j).1
    split
    · have := ih st c d h1 h2
      omega
    · have := ih (st.1 + 1, st.2 ++ fX (fun i => X (4 * j + i)) s (bsz m j)) (c + 1) (d + 4) (by show st.1 + 1 ≤ _; omega) (by show (st.2 ++ _).length ≤ _; rw [List.length_append]; omega)
      omega
theorem gF_le (X : Nat → Ent) (m : Nat) (s : ByteArray) (P : List Nat) : (gF X m s P).1 ≤ P.length ∧ (gF X m s P).2.length ≤ 4 * P.length := by
  have := gF_one X m s (0, []) P 0 0 (Nat.le_refl _) (Nat.le_refl _)
  unfold gF
  omega
/-- None of the blocks was the end. -/
def NoB (X : Nat → Ent) (m : Nat) (s : ByteArray) (P : List Nat) : Prop := ∀ j ∈ P, Op.bytesLess (lastK X m j).toList s.toList = false → (lastK X m j).toList = s.toList
theorem NoB.push (h : NoB X m s P) (hj : Op.bytesLess (lastK X m j).toList s.toList = false → (lastK X m j).toList = s.toList) : NoB X m s (P ++ [j]) := fun i hi => by
  rcases List.mem_append.1 hi with hi | hi
  · exact h i hi
  · rw [List.mem_singleton.1 hi]; exact hj
theorem fd_gF : ∀ k, NoB X m s (List.range k) → fd X m s k = ((gF X m s (List.range k)).1, false, (gF X m s (List.range k)).2)
  | 0, _ => rfl
  | k + 1, h => by
    have ih := fd_gF k fun j hj => h j (List.mem_range.2 (by have := List.mem_range.1 hj; omega))
    have hk := h k (List.mem_range.2 (Nat.lt_succ_self k))
    rw [List.range_succ]
    cases hl : Op.bytesLess (lastK X m k).toList s.toList with
    | true =>
      rw [gF_lt hl]
      show (if _ then _ else _) = _
      rw [if_pos (.inr hl), ih]
    | false =>
      rw [gF_ge hl]
      show (if _ then _ else _) = _
      rw [if_neg (by rw [ih]; rintro (g | g); cases g; rw [hl] at g; cases g), ih, hk hl]
      simp
theorem fd_stop {k : Nat} (h : NoB X m s (List.range k)) (hl : Op.bytesLess (lastK X m k).toList s.toList = false) (hne : (lastK X m k).toList ≠ s.toList) : ∀ d, fd X m s (k + 1 + d) = ((gF X m s (List.range k ++ [k])).1, true, (gF X m s (List.range k ++ [k])).2)
  | 0 => by
    rw [gF_ge hl]
    show (if _ then _ else _) = _
    rw [if_neg (by rw [fd_gF k h]; rintro (g | g); cases g; rw [hl] at g; cases g), fd_gF k h]
    simp [hne]
  | d + 1 => by
    have ih := fd_stop h hl hne d
    have e : fd X m s (k + 1 + (d + 1)) = if (fd X m s (k + 1 + d)).2.1 = true ∨ Op.bytesLess (lastK X m (k + 1 + d)).toList s.toList = true then fd X m s (k + 1 + d) else ((fd X m s (k + 1 + d)).1 + 1, decide ((lastK X m (k + 1 + d)).toList ≠ s.toList), (fd X m s (k + 1 + d)).2.2 ++ fX (fun i => X (4 * (k + 1 + d) + i)) s (bsz m (k + 1 + d))) := rfl
    rw [e, if_pos (.inl (by rw [ih])), ih]
/-- A part of good entries. -/
theorem GoodL.part {X : Nat → Ent} {n o c : Nat} (h : GoodL X n) (hc : o + c ≤ n) : GoodL (fun i => X (o + i)) c :=
  ⟨fun i hi => h.1 (o + i) (by omega), fun i hi => h.2.1 (o + i) (by omega), fun i j hij hj => h.2.2 (o + i) (o + j) (by omega) (by omega)⟩
end
/-- Behind the blocks P: what is held. -/
def FSt (X : Nat → Ent) (m : Nat) (s : ByteArray) (w w4 : World) (P : List Nat) (W : World) : Prop :=
  ∃ v V, Boxed W (w.heap.size + 1) 9 (.string s) ∧ Boxed W (w.heap.size + 1 + 1) 23 v ∧ Boxed W (w.heap.size + 1 + 1 + 1) 3 (.int .i64 ((gF X m s P).1 : Nat)) ∧
    OutE W w4.heap.size v (gF X m s P).2.length (eL (gF X m s P).2) V ∧ Below w.heap.size w W ∧ w4.heap.size ≤ W.heap.size
theorem box_kept {W W' : World} {row : Option Nat} {B : Nat} {t : TypeId} {v : Value} (h : Boxed W B t v) (hg : W.grownBy W' row) (hr : ∀ r, row = some r → ∃ x : Obj, W.heap[r]? = some x ∧ x.isCells = false) : Boxed W' B t v :=
  h.kept hg fun e => obj_ne h.cell (hr B e.symm) rfl
theorem fst_own (X : Nat → Ent) (m : Nat) (s : ByteArray) (w w4 : World) (hs : w.heap.size ≤ w4.heap.size) : OwnFrom w4.heap.size (FSt X m s w w4) := by
  rintro P A B row ⟨v, V, h1, h2, h3, h4, h5, h6⟩ hg hr
  have hr2 := fun r e => (hr r e).2
  refine ⟨v, V, box_kept h1 hg hr2, box_kept h2 hg hr2, box_kept h3 hg hr2, ⟨ownsRow_kept h4.own hg (fun k e => own_ne h4.own (hr2 k e)), fun i hi => ⟨(h4.row i hi).bd, ownsRow_kept (h4.row i hi).own hg (fun k e => own_ne (h4.row i hi).own (hr2 k e))⟩, h4.dis, h4.apart⟩, h5.grown hg (Nat.le_trans hs h6) (fun k hk => Nat.le_trans hs (hr k hk).1), Nat.le_trans h6 hg.size⟩
end Go.Proofs.YtohjjigkfdhklaaGreat
