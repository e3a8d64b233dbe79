/- The model's check and its numbers of fixed length, the world as it was. / The program: openTable, and what stands on it alone. -/
import Derived.Test.YtohjjigkfdhklaaGreatBV
import Derived.Test.YtohjjigkfdhklaaGreatFixR
import Derived.Test.YtohjjigkfdhklaaGreatDe
namespace Go.Proofs.YtohjjigkfdhklaaGreat
set_option maxRecDepth 100000
open Go.RowKit
set_option linter.unusedSimpArgs false
set_option linter.unusedVariables false

set_option maxHeartbeats 400000 in
theorem crc_same (ao : Option Addr) (n cap : Nat) (f : Nat → Int) (w : World) (hr : Row w ao n f) (hn : n ≤ 1048576) :
    Calls Tryz.prog 61 #[.slice ao n cap] w fun e w' => e = .returned (.int .u32 (crcOf f n)) ∧ w' = w := by
  obtain ⟨hbd, hl⟩ := hr
  go_enter Tryz.func61, Tryz.ntmps61
  go_wp2
  go_loopw [3, 9] (fun s i wr => ∃ k : Nat, k ≤ n ∧ i = .int .i64 k ∧ s = .int .u32 (crcTo f k) ∧ wr = w) (fun _ i _ => n - (intOf i).toNat)
  case atStart => exact ⟨0, Nat.zero_le _, rfl, rfl, rfl⟩
  case round =>
    obtain ⟨k, hk, rfl, rfl, hbk⟩ := hrel
    subst hbk
    by_cases hlt : k < n
    · obtain ⟨b, off, rfl, hblt, hc⟩ := hl.resolve_left (by omega)
      have h1 : wr.cell? ⟨b, off + k, none⟩ = some (.int .u8 (f k)) := hc k hlt
      have hb := hbd k
      clear hc hl
      go_wp2
      go_loopw [3, 6] (fun s i ws => ∃ j : Nat, j ≤ 8 ∧ i = .int .i64 j ∧ s = .int .u32 (cbits j (bits .xor .u32 (crcTo f k) (f k))) ∧ ws = wr) (fun _ i _ => 8 - (intOf i).toNat)
      case atStart => exact ⟨0, by omega, rfl, rfl, rfl⟩
      case round =>
        obtain ⟨j, hj, rfl, rfl, rfl⟩ := hrel
        have hx := cbits_bd j _ (xor_bd (crcTo f k) (f k))
        have hsu : Hid (cbits (j + 1) (bits .xor .u32 (crcTo f k) (f k)) = cbit (cbits j (bits .xor .u32 (crcTo f k) (f k)))) := rfl
        have hs8 : Hid (j = 8 → cbits j (bits .xor .u32 (crcTo f k) (f k)) = crcTo f (k + 1)) := fun h => by subst h; rfl
        generalize bits .xor .u32 (crcTo f k) (f k) = y at *
        generalize cbits j y = c1 at *
        by_cases hlt8 : j < 8
        · go_wp2
          all_goals go_roundw
          all_goals first
            | (case rel => exact ⟨j + 1, by omega, by go_num, by rw [hsu.out]; first | rw [cbit_yes _ ‹_›] | rw [cbit_no _ ‹_›], by trivial⟩)
            | skip
          all_goals (case measure => simp [intOf]; omega)
        · go_wp2
          go_roundw
          case rel => exact ⟨k + 1, by omega, by go_num, by rw [hs8.out (by omega)], by trivial⟩
          case measure => simp [intOf]; omega
    · go_wp2
      go_ret
      have : k = n := by omega
      subst this
      exact ⟨rfl, rfl⟩

set_option maxHeartbeats 400000 in
theorem l1Number_same (b off m cap : Nat) (f : Nat → Int) (q : Nat) (w : World) (hbd : ∀ i, 0 ≤ f i ∧ f i ≤ 255) (hblt : b < w.heap.size) (hc : ∀ i, i < m → w.cell? ⟨b, off + i, none⟩ = some (.int .u8 (f (q + i)))) (hm : m ≤ 8) :
    Calls Tryz.prog 70 #[.slice (some ⟨b, off, none⟩) m cap] w fun e w' => e = .returned (.int .i64 (wrap64 (num f q m))) ∧ w' = w := by
  go_enter Tryz.func70, Tryz.ntmps70
  go_wp2
  go_loopw [3, 8] (fun s i wr => ∃ k : Nat, ∃ c : Int, k ≤ m ∧ i = .int .i64 k ∧ s = .int .i64 c ∧ Hid (c = wrap64 (num f q k)) ∧ wr = w) (fun _ i _ => m - (intOf i).toNat)
  case atStart => exact ⟨0, 0, by omega, rfl, rfl, (by unfold Hid wrap64; simp [num]), rfl⟩
  case round =>
    obtain ⟨k, c, hk, rfl, rfl, HC, hbk⟩ := hrel
    subst hbk
    by_cases hlt : k < m
    · have h1 : wr.cell? ⟨b, off + k, none⟩ = some (.int .u8 (f (q + k))) := hc k hlt
      have hb := hbd (q + k)
      have HS : Hid (bits .or .i64 (wrap64 (c * 256)) (f (q + k)) = wrap64 (num f q (k + 1))) := by
        unfold Hid; rw [HC.out, or_step_i _ _ (num_bd7 f hbd q k (by omega)) hb]; rfl
      clear hc
      go_wp2
      go_roundw
      case rel => exact ⟨k + 1, _, by omega, by go_num, rfl, HS, by trivial⟩
      case measure => simp [intOf]; omega
    · have e : k = m := by omega
      subst e
      go_wp2
      go_ret
      rw [HC.out]
      exact ⟨rfl, rfl⟩


end Go.Proofs.YtohjjigkfdhklaaGreat
namespace Go.Proofs.YtohjjigkfdhklaaGreat
set_option maxRecDepth 100000
open Go.RowKit
set_option linter.unusedSimpArgs false
set_option linter.unusedVariables false

/-- What openTable leaves. -/
def OTY (f : Nat → Int) (n : Nat) (w : World) (e : Ending) (w' : World) : Prop :=
  ∃ (X : Nat → Ent) (m : Nat) (p : Int) (v : Value) (V : Nat → Value) (fo : Option Addr) (fc : Nat), IsTb f n (fun i => nrE (X i)) m p ∧ e = .returned (.tuple #[.agg #[v, .int .i64 (fwI p), .slice fo (fbN (fun i => nrE (X i)) m p) fc], .int .i64 0]) ∧
    OutH w' w.heap.size v m (fun i => nrE (X i)) V ∧ (∀ i, i < m → EB (nrE (X i))) ∧ ESize m (fun i => nrE (X i)) ∧ Row w' fo (fbN (fun i => nrE (X i)) m p) (fl (fLt (fun i => nrE (X i)) m p)) ∧ Below w.heap.size w w'
/-- The code where there is no table. -/
def noC (f : Nat → Int) (n : Nat) : Int := if endC f n = 0 then 4 else endC f n
theorem noC_ne (f : Nat → Int) (n : Nat) : noC f n ≠ 0 := by unfold noC; split <;> omega
def OTN (f : Nat → Int) (n : Nat) (w : World) (e : Ending) (w' : World) : Prop :=
  (∀ X m p, ¬ IsTb f n X m p) ∧ e = .returned (.tuple #[.agg #[.slice none 0 0, .int .i64 0, .slice none 0 0], .int .i64 (noC f n)]) ∧ Below w.heap.size w w'
def OTO (f : Nat → Int) (n : Nat) (w : World) (e : Ending) (w' : World) : Prop := OTY f n w e w' ∨ OTN f n w e w'

set_option maxHeartbeats 3200000 in
theorem openTable_any (bb bo n cap : Nat) (f : Nat → Int) (w : World) (hr : Row w (some ⟨bb, bo, none⟩) n f) (hbb : bb < w.heap.size) (hn : n ≤ 1048576) (hcap : n ≤ cap) :
    Calls Tryz.prog 30 #[.slice (some ⟨bb, bo, none⟩) n cap] w fun e w' => OTO f n w e w' := by
  have hB0 := below_new w (.cells #[.slice none 0 0, .int .i64 0, .slice none 0 0] 64)
  have Z0 := TBx.new w (.slice none 0 0) (.int .i64 0) (.slice none 0 0) 64
  have hef := endFault_any bb bo n cap f _ (hr.keep hB0) hn hcap
  obtain ⟨c, hc⟩ : ∃ c, endC f n = c := ⟨_, rfl⟩
  have HC : Hid (endC f n = c) := hc
  rw [hc] at hef
  clear hc
  go_enter Tryz.func30, Tryz.ntmps30
  go_wp2_with fail
  refine hef.mono ?_
  rintro e w1 ⟨rfl, q1⟩
  have Z1 := Z0.keep q1
  have B1 := hB0.trans (q1.mono hB0.size)
  clear hef hB0 Z0 q1
  by_cases h0 : c = 0
  rotate_left
  · have hcb : (c != 0) = true := by simp [h0]
    obtain ⟨_, z0, z1, z2, zf⟩ := id Z1
    have g0 := zf 0
    have g1 := zf 1
    have g2 := zf 2
    have HN : Hid (∀ X m p, ¬ IsTb f n X m p) := fun X m p h => by
      have := h.plc.2.2.2.2.2.2.2.2
      exact h0 (by rw [← HC.out, this])
    have HM : Hid (noC f n = c) := by unfold Hid noC; rw [HC.out, if_neg h0]
    clear h0
    go_wp2
    refine bodyPost_ret (v := .tuple #[.agg #[.slice none 0 0, .int .i64 0, .slice none 0 0], .int .i64 c]) (by simp [results, Tryz.results30, go_sem, z0, z1, z2]) rfl (.inr ⟨HN.out, by rw [HM.out], ?_⟩)
    repeat' refine Below.setCell ?_ (by first | (simp; done) | (simp; omega)) _
    exact B1
  subst h0
  have hlen : 20 ≤ n ∧ n ≤ 8000 := by
    have := HC.out
    unfold endC at this
    split at this
    · omega
    · omega
  have hti := tableIn_any bb bo n cap f w1 (hr.keep B1) (by have := B1.size; omega) hcap hlen.1 hlen.2
  have hs1 := B1.size
  go_wp2_with fail
  refine hti.mono ?_
  rintro e w2 (⟨X0, m, p, v, V, fo, fc, hT, rfl, hO, hEB, hES, hrF, hloc, q2⟩ | ⟨hno, rfl, q2⟩)
  rotate_left
  · have Z2 := Z1.keep q2
    have B2 := B1.trans (q2.mono B1.size)
    have b3 := below_new w2 (.cells #[.slice none 0 0, .int .i64 0, .slice none 0 0] 64)
    have Z3 := Z2.keep b3
    have B3 := B2.trans (b3.mono B2.size)
    obtain ⟨_, z0, z1, z2, zf⟩ := id Z3
    have g0 := zf 0
    have g1 := zf 1
    have g2 := zf 2
    have HN : Hid (∀ X m p, ¬ IsTb f n X m p) := hno
    have HM : Hid (noC f n = 4) := by unfold Hid noC; rw [HC.out, if_pos rfl]
    clear hno hti
    go_wp2
    refine bodyPost_ret (v := .tuple #[.agg #[.slice none 0 0, .int .i64 0, .slice none 0 0], .int .i64 4]) (by simp [results, Tryz.results30, go_sem, z0, z1, z2]) rfl (.inr ⟨HN.out, by rw [HM.out], ?_⟩)
    repeat' refine Below.setCell ?_ (by first | (simp; done) | (simp; omega)) _
    exact B3
  obtain ⟨lo, lc, rfl⟩ := ownsRow_form hO.own
  have hlt := hO.own.lt
  have Z2 := Z1.keep q2
  have B2 := B1.trans (q2.mono B1.size)
  obtain ⟨X, hX⟩ : ∃ X, X = fun i => nrE (X0 i) := ⟨_, rfl⟩
  have HX : Hid (X = fun i => nrE (X0 i)) := hX
  have hT : Hid (IsTb f n X m p) := by rw [hX]; exact hT
  have hO : OutH w2 w1.heap.size (.slice lo m lc) m X V := by rw [hX]; exact hO
  have hEB : Hid (∀ i, i < m → EB (X i)) := by rw [hX]; exact hEB
  have hES : Hid (ESize m X) := by rw [hX]; exact hES
  obtain ⟨fn, hfn⟩ : ∃ fn, fn = fbN X m p := ⟨_, rfl⟩
  have HFn : Hid (fn = fbN X m p) := hfn
  have hrF : Row w2 fo fn (fl (fLt X m p)) := by rw [hfn, hX]; exact hrF
  have FNe : Hid (∀ b o, fo = some ⟨b, o, none⟩ → b ≠ w.heap.size) := fun b o e => by have := hloc b o e; have : w.heap.size < w1.heap.size := Z1.lt; omega
  rw [← hX, ← hfn]
  clear hX hloc hfn hti
  obtain ⟨y, hy⟩ : ∃ y, fwI p = y := ⟨_, rfl⟩
  have HY : Hid (fwI p = y) := hy
  rw [hy]
  clear hy
  have b3 := below_new w2 (.cells #[.slice lo m lc, .int .i64 y, .slice fo fn fc] 64)
  have T3 := TBx.new w2 (.slice lo m lc) (.int .i64 y) (.slice fo fn fc) 64
  have Z3 := Z2.keep b3
  have B3 := B2.trans (b3.mono B2.size)
  have O3 := hO.keep b3
  have F3 := hrF.keep b3
  obtain ⟨_, t0, t1, t2, _⟩ := id T3
  obtain ⟨_, z0, z1, z2, zf⟩ := id Z3
  have g0 := zf 0
  have g1 := zf 1
  have g2 := zf 2
  have hs2 := q2.size
  have hz3 : w.heap.size < w1.heap.size := Z1.lt
  clear Z1 Z2 hO hrF b3 T3 q2
  go_wp2
  generalize w2.alloc (.cells #[.slice lo m lc, .int .i64 y, .slice fo fn fc] 64) = w3 at *
  obtain ⟨W3, hW3⟩ : ∃ u, u = ((w3.setCell ⟨w.heap.size, 0, none⟩ (.slice lo m lc)).setCell ⟨w.heap.size, 1, none⟩ (.int .i64 y)).setCell ⟨w.heap.size, 2, none⟩ (.slice fo fn fc) := ⟨_, rfl⟩
  have hot : Others w.heap.size w3 W3 := by rw [hW3]; exact ((Others.setCell _ _ _ _).trans (Others.setCell _ _ _ _)).trans (Others.setCell _ _ _ _)
  show bodyPost Tryz.prog Tryz.f30 (fun e w' => OTO f n w e w') _ _ (((w3.setCell ⟨w.heap.size, 0, none⟩ (.slice lo m lc)).setCell ⟨w.heap.size, 1, none⟩ (.int .i64 y)).setCell ⟨w.heap.size, 2, none⟩ (.slice fo fn fc))
  refine bodyPost_ret (v := .tuple #[.agg #[.slice lo m lc, .int .i64 y, .slice fo fn fc], .int .i64 0]) (by simp [results, Tryz.results30, go_sem, z0, z1, z2]) rfl (.inl ?_)
  rw [← hW3]
  have hrow : Row W3 fo fn (fl (fLt X m p)) := by
    refine ⟨F3.bd, ?_⟩
    rcases F3.lies with h0 | ⟨b, o, e, hb, hc⟩
    · exact .inl h0
    · have hne := FNe.out b o e
      exact .inr ⟨b, o, e, by rw [hot.size]; exact hb, fun i hi => (World.cell?_of_block (w := w3) (a := ⟨b, o + i, none⟩) (hot.block b hne)).trans (hc i hi)⟩
  obtain rfl := HX.out
  rw [HFn.out] at hrow ⊢
  rw [← HY.out]
  refine ⟨X0, m, p, _, V, fo, fc, hT.out, rfl, ?_, hEB.out, hES.out, hrow, B3.trans (hot.below (Nat.le_refl _))⟩
  exact (O3.nm (Nm.of_others hot (.inl rfl)) hz3).lower (by omega)
end Go.Proofs.YtohjjigkfdhklaaGreat
