/- From what a row's form says of edits that came in to what the walks are told of them. -/
import Derived.Test.YtofdhgffnkhdfaaEr
import Derived.Test.YtofdhgffnkhdfaaLift
namespace Go.Proofs.Ytofdhgffnkhdfaa
open Go.RowKit Go.Deep Go.ChangeShapes Go.WideShapes
set_option linter.unusedSimpArgs false
set_option linter.unusedVariables false

theorem lsI_fi (f : Nat → Int) (n : Nat) : (iL f n).length = n := by simp [iL]
theorem iL_at (f : Nat → Int) {n i : Nat} (h : i < n) : fi (iL f n) i = f i := by simp [fi, iL, h]
def lsA (Y : Nat → Adm) (n : Nat) : List Adm := (List.range n).map Y
theorem lsA_len (Y : Nat → Adm) (n : Nat) : (lsA Y n).length = n := by simp [lsA]
theorem lsA_at (Y : Nat → Adm) {n j : Nat} (h : j < n) : dL (lsA Y n) j = Y j := by simp [dL, lsA, h]
theorem irow_list {w : World} {da : Option Addr} {nd : Nat} {f : Nat → Int} (hi : IRow w da nd f) : IRow w da (iL f nd).length (fi (iL f nd)) := by
  rw [lsI_fi f nd]
  refine ⟨fun i => ?_, hi.lies.elim .inl fun ⟨b, off, e, hlt, hc⟩ => .inr ⟨b, off, e, hlt, fun i hi2 => ?_⟩⟩
  · by_cases h : i < nd
    · rw [iL_at f h]; exact hi.bd i
    · simp [fi, iL, h]
  · rw [iL_at f hi2]; exact hc i hi2
theorem drow_list {w : World} {aa : Option Addr} {na : Nat} {Y : Nat → Adm} (hy : DRow w aa na Y) : DRow w aa (lsA Y na).length (dL (lsA Y na)) := by
  rw [lsA_len Y na]
  exact hy.congr (fun i h => (lsA_at Y h).symm)
theorem add_flat2 (b off k : Nat) : (⟨b, off, none⟩ : Addr).add k = ⟨b, off + k, none⟩ := by
  unfold Addr.add
  split
  · simp_all
  · rfl
/-- No edit. -/
def noEd : Edt := ⟨0, 0, 0, [], []⟩

set_option maxRecDepth 100000 in
set_option maxHeartbeats 1600000 in
/-- A slice of edits that came in. -/
theorem edits_cs {H : Type} {enc : TypeId × Value → H} {w : World} {base : Nat} {held : Bool} {fuel : Nat} {cs : List Value} {y : DataW H × List MemPlace}
    (hf : DataW.trod enc Try.prog w base (fun _ => true) held fuel 22 cs = some y) :
    ∃ (ao : Option Addr) (n cap : Nat) (E : Nat → Edt), cs = [.slice ao n cap] ∧ EdRow false w ao n E ∧ n ≤ 9223372036854775807 := by
  have ce : Try.prog.cellsOf 40 = 5 := by kernel_rfl
  rcases open_slice Try.underlying22 hf with h0 | ⟨a, len, cap, m, n, D, Pl, hcs, hb, hl, hm, hmm, hy, hx⟩
  · exact ⟨none, 0, 0, fun _ => noEd, h0.1, ⟨fun i hi => by omega, .inl rfl⟩, by omega⟩
  · have hlm : len ≤ m := by rw [hmm]; split <;> omega
    unfold maxLen at hm
    rw [ce] at hx
    by_cases h0 : len = 0
    · subst h0
      exact ⟨some a, 0, cap, fun _ => noEd, hcs, ⟨fun i hi => by omega, .inl rfl⟩, by omega⟩
    have hsp : a.spot = none := by
      obtain ⟨cs', h1, h2⟩ := hx 0 (by omega)
      obtain ⟨nx, lg, sq, da, nd, cd, f, aa, na, ca, Y, rfl, hr, hy', b0, b1, b2, hd, ha⟩ := edit_cs h2
      obtain ⟨_, _, hcell⟩ := World.cells?_some h1
      have e0 := World.cell?_spot (hcell 0 (by simp))
      simpa [Addr.add] using e0
    obtain ⟨b, off, spot⟩ := a
    simp only at hsp
    subst hsp
    have key : ∀ i, ∃ x : Edt, i < len → (x.D.length ≤ 9223372036854775807 ∧ x.A.length ≤ 9223372036854775807) ∧ ∃ da aa cd ca, EdAt w b (off + i * 5) x da aa cd ca ∧ IRow w da x.D.length (fi x.D) ∧ DRow w aa x.A.length (dL x.A) ∧ (false = true → x.D.length ≤ cd) := by
      intro i
      by_cases hi : i < len
      · obtain ⟨cs', h1, h2⟩ := hx i (by omega)
        obtain ⟨nx, lg, sq, da, nd, cd, f, aa, na, ca, Y, rfl, hr, hy', b0, b1, b2, hd, ha⟩ := edit_cs h2
        obtain ⟨_, _, hcell⟩ := World.cells?_some h1
        have e0 := hcell 0 (by simp)
        have e1 := hcell 1 (by simp)
        have e2 := hcell 2 (by simp)
        have e3 := hcell 3 (by simp)
        have e4 := hcell 4 (by simp)
        simp [add_flat2] at e0 e1 e2 e3 e4
        refine ⟨⟨nx, lg, sq, iL f nd, lsA Y na⟩, fun _ => ⟨⟨?_, ?_⟩, da, aa, cd, ca, ⟨lt_of_cell e0, e0, e1, e2, ?_, ?_⟩, irow_list hr, drow_list hy', fun h => by cases h⟩⟩
        · show (iL f nd).length ≤ _; rw [lsI_fi]; first | exact hd | (unfold maxLen at hd; omega)
        · show (lsA Y na).length ≤ _; rw [lsA_len]; first | exact ha | (unfold maxLen at ha; omega)
        · show _ = some (Value.slice da (iL f nd).length cd); rw [lsI_fi]; exact e3
        · show _ = some (Value.slice aa (lsA Y na).length ca); rw [lsA_len]; exact e4
      · exact ⟨noEd, fun h => absurd h hi⟩
    obtain ⟨X, hX⟩ := Classical.axiomOfChoice key
    exact ⟨some ⟨b, off, none⟩, len, cap, X, hcs, ⟨fun i hi => (hX i hi).1, .inr ⟨b, off, rfl, by obtain ⟨_, a0, a1, c0, c1, h1, _⟩ := hX 0 (by omega); exact h1.lt, fun i hi => (hX i hi).2⟩⟩, by omega⟩
theorem edits_of {H : Type} {enc : TypeId × Value → H} {w : World} {base : Nat} {held : Bool} {v : Value} {d : DataW H} {p : List MemPlace}
    (h : DataW.Trod enc Try.prog w base (fun _ => true) held 22 v d p) :
    ∃ (ao : Option Addr) (n cap : Nat) (E : Nat → Edt), v.cells.toList = [.slice ao n cap] ∧ EdRow false w ao n E ∧ n ≤ 9223372036854775807 := by
  obtain ⟨fuel, h⟩ := h
  exact edits_cs h
end Go.Proofs.Ytofdhgffnkhdfaa
