/- FindInTable, in the program. / From what a row's form says of a slice of bytes that came in to what the walks are told of it. -/
import Derived.Test.YtohjjigkfdhklaaGreatQc
import Derived.Test.YtohjjigkfdhklaaGreatMh
import Derived.Test.YtohjjigkfdhklaaGreatQf
import Derived.Test.YtohjjigkfdhklaaGreatBase
import Derived.OpenShut
namespace Go.Proofs.YtohjjigkfdhklaaGreat
set_option maxRecDepth 100000
open Go.RowKit Go.Shelf
set_option linter.unusedSimpArgs false
set_option linter.unusedVariables false

set_option maxHeartbeats 3200000 in
theorem findInTable_impl (Z : Nat → Ent) (k : Nat) (K c : Int) (bb bo n cap : Nat) (f : Nat → Int) (s : ByteArray) (w : World) (hK : FTk f n s Z k K c) (hr : Row w (some ⟨bb, bo, none⟩) n f) (hbb : bb < w.heap.size) (hn : n ≤ 1048576) (hcap : n ≤ cap) (hs : s.size ≤ 1048576) :
    Calls Tryz.prog 11 #[.slice (some ⟨bb, bo, none⟩) n cap, .string s] w fun e w' => FTa Z k K c w e w' := by
  have HKK : Hid (FTk f n s Z k K c) := hK
  clear hK
  go_enter Tryz.func11, Tryz.ntmps11
  go_wp2_with fail
  refine (openTable_any bb bo n cap f w hr hbb hn hcap).mono ?_
  rintro e w1 (⟨X0, m, p, v, V, fo, fc, hT, rfl, hO, hEB, hES, hrF, q1⟩ | ⟨hno, rfl, q1⟩)
  · obtain ⟨ec, ek, eK, hg⟩ := HKK.out.yes hT (gx_al hT hEB hES hO)
    have hm := hT.1.1.1
    obtain ⟨g, gc, rfl, hgc, hbg, hER⟩ := hO.erow hEB (by omega)
    have hGL := hT.1.1.2
    obtain ⟨X, hX⟩ : ∃ X, X = fun i => nrE (X0 i) := ⟨_, rfl⟩
    rw [← hX] at ek eK hg hER hGL hES hrF ⊢
    have hfb := fbN_le X m p
    have hfw := @fwI_bd p
    obtain ⟨Y, hY⟩ : ∃ Y : Nat, fwI p = (Y : Int) := ⟨(fwI p).toNat, by omega⟩
    have HH : Hid (allSet (fl (fLt X m p)) (plL (hOf s 0) (hOf s 1) (8 * fbN X m p) Y) = hasF X m p s) := by
      unfold Hid hasF
      rw [hY, Int.toNat_natCast]
    rw [hY] at hfw ⊢
    have HE : Hid (foE X m p s = if hasF X m p s = true then fX X s m else []) := rfl
    have HKe : Hid (foK X m p s = if hasF X m p s = true then (fd X m s (nbl m)).1 else 0) := rfl
    have hfa : Hid ((fd X m s (nbl m)).2.2 = fX X s m) := fd_all hGL.2.1
    have HA : Hid (c = 0 ∧ (foE X m p s).length = k ∧ K = (foK X m p s : Nat) ∧ GX k (eL (foE X m p s)) Z) := ⟨ec, ek, eK, hg⟩
    have b2 := below_new w1 (.cells #[.slice (some ⟨g, 0, none⟩) m gc, .int .i64 Y, .slice fo (fbN X m p) fc] 64)
    have T2 := TBx.new w1 (.slice (some ⟨g, 0, none⟩) m gc) (.int .i64 Y) (.slice fo (fbN X m p) fc) 64
    have B2 := q1.trans (b2.mono q1.size)
    have R2 := hrF.keep b2
    have E2 := hER.keep b2
    have hmh := mayHave_m s Y fo (fbN X m p) fc (fl (fLt X m p)) _ R2 hs (by omega) hfb
    rw [HH.out] at hmh
    clear ec ek eK hg hO hEB hT hrF hER q1 b2 hX hY HKK R2 hfb
    generalize fbN X m p = fb at *
    obtain ⟨_, t0, t1, t2, _⟩ := id T2
    generalize hhB : hasF X m p s = hB at *
    clear hhB
    go_wp2_with fail
    generalize w1.alloc (.cells #[.slice (some ⟨g, 0, none⟩) m gc, .int .i64 Y, .slice fo fb fc] 64) = w2 at *
    refine hmh.mono ?_
    rintro e w3 ⟨rfl, b3⟩
    have T3 := T2.keep b3
    have B3 := B2.trans (b3.mono B2.size)
    have E3 := E2.keep b3
    obtain ⟨_, x0, x1, x2, _⟩ := id T3
    clear T2 T3 B2 E2 b3 hmh t0 t1 t2
    cases hB
    · go_wp2
      refine bodyPost_ret (v := .tuple #[.slice none 0 0, .int .i64 0, .int .i64 0]) (by simp [results, Tryz.results11, go_sem]) rfl ?_
      obtain ⟨e1, e2, e3, e4⟩ := HA.out
      rw [HE.out] at e2
      rw [HKe.out] at e3
      simp at e2 e3
      rw [e1, e3, ← e2]
      exact fta_none B3
    · have hfi := find_any g 0 m gc X Y fo fb fc s w3 E3 hm hgc hGL hES
      clear E3 hGL hES
      go_wp2_with fail
      refine hfi.mono ?_
      rintro e w4 ⟨v4, V4, rfl, O4, b4⟩
      rw [hfa.out] at O4
      obtain ⟨lo4, lc4, rfl⟩ := ownsRow_form O4.own
      have B4 := B3.trans (b4.mono B3.size)
      have HO : Hid (OutE w4 w3.heap.size (.slice lo4 (fX X s m).length lc4) (fX X s m).length (eL (fX X s m)) V4) := O4
      have hz3 := B3.size
      clear O4 b4 hfi
      generalize (fd X m s (nbl m)).1 = dd at *
      go_wp2
      refine bodyPost_ret (v := .tuple #[.slice lo4 (fX X s m).length lc4, .int .i64 (dd : Nat), .int .i64 0]) (by simp [results, Tryz.results11, go_sem]) rfl ?_
      obtain ⟨e1, e2, e3, e4⟩ := HA.out
      rw [HKe.out] at e3
      rw [HE.out] at e2 e4
      simp only [if_true] at e2 e3 e4
      rw [e1, e3, ← e2]
      rw [← e2] at e4
      exact fta_found HO.out hz3 e4 B4
  · obtain ⟨e1, e2, e3⟩ := HKK.out.no hno
    have HA : Hid (k = 0 ∧ K = 0 ∧ c = noC f n) := ⟨e1, e2, e3⟩
    have hc0 : (noC f n != 0) = true := by have := noC_ne f n; simp [this]
    have bA := q1.trans ((below_new w1 (.cells #[.slice none 0 0, .int .i64 0, .slice none 0 0] 64)).mono q1.size)
    clear hno HKK e1 e2 e3
    generalize noC f n = c' at *
    go_wp2
    refine bodyPost_ret (v := .tuple #[.slice none 0 0, .int .i64 0, .int .i64 c']) (by simp [results, Tryz.results11, go_sem]) rfl ?_
    obtain ⟨e1, e2, e3⟩ := HA.out
    rw [e1, e2, e3]
    exact fta_none bA
end Go.Proofs.YtohjjigkfdhklaaGreat
namespace Go.Proofs.YtohjjigkfdhklaaGreat
set_option maxRecDepth 100000
open Go.RowKit

/-- A slice of integers that came in: nil, or it leads to 'cap' cells. -/
def IsRow (k : IntKind) (w : World) (a : Option Addr) (len cap : Nat) (zs : List Int) : Prop :=
  (a = none ∧ len = 0 ∧ cap = 0 ∧ zs = []) ∨
  ∃ x, a = some x ∧ len ≤ cap ∧ cap ≤ maxLen ∧ zs.length = cap ∧ (∀ i, i < zs.length → w.cell? (x.add i) = some (.int k (zs.getD i 0))) ∧ ∀ n ∈ zs, (Lit.int k n).wf = true

theorem lt_of_cell {w : World} {b o : Nat} {v : Value} (h : w.cell? ⟨b, o, none⟩ = some v) : b < w.heap.size := by
  unfold World.cell? at h
  split at h
  · rename_i hb
    exact (Array.getElem?_eq_some_iff.1 hb).1
  · simp at h

theorem row_of {w : World} {a : Option Addr} {len cap : Nat} {zs : List Int} (h : IsRow .u8 w a len cap zs) : ∃ f, Row w a len f ∧ len ≤ maxLen := by
  rcases h with ⟨rfl, rfl, rfl, rfl⟩ | ⟨x, rfl, hl, hm, hz, hcell, hwz⟩
  · exact ⟨fun _ => 0, ⟨fun _ => by omega, .inl rfl⟩, Nat.zero_le _⟩
  · refine ⟨fun i => zs[i]?.getD 0, ⟨fun i => range_u8 hwz i, ?_⟩, Nat.le_trans hl hm⟩
    by_cases h0 : len = 0
    · exact .inl h0
    · obtain ⟨b, off, spot⟩ := x
      have hc := hcell 0 (by omega)
      have hspot : spot = none := by simpa [Addr.add] using World.cell?_spot hc
      subst hspot
      have hc0 : w.cell? ⟨b, off, none⟩ = some (.int .u8 (zs.getD 0 0)) := by simpa [Addr.add] using hc
      refine .inr ⟨b, off, rfl, lt_of_cell hc0, fun i hi => ?_⟩
      have := hcell i (by omega)
      by_cases hi0 : i = 0
      · subst hi0; simpa [Addr.add] using this
      · simpa [Addr.add, hi0] using this

end Go.Proofs.YtohjjigkfdhklaaGreat
