/- From what a row's form says of a slice of slices of entries that came in to what the walks are told of it. -/
import Derived.Test.YtfdbhkjmkpgomaaGreatLift
import Derived.Test.YtfdbhkjmkpgomaaGreatRr
namespace Go.Proofs.YtfdbhkjmkpgomaaGreat
set_option maxRecDepth 100000
open Go.RowKit Go.Deep
set_option linter.unusedVariables false

set_option maxRecDepth 100000 in
set_option maxHeartbeats 800000 in
/-- Cells that read as a slice of entries. -/
theorem entries_cs {H : Type} {enc : TypeId × Value → H} {w : World} {base : Nat} {held : Bool} {fuel : Nat} {cs : List Value} {y : DataW H × List MemPlace}
    (hf : DataW.trod enc Tryz.prog w base (fun _ => true) held fuel 37 cs = some y) :
    ∃ (ao : Option Addr) (n cap : Nat) (X : Nat → Ent), cs = [.slice ao n cap] ∧ ERow w ao n X ∧ n ≤ 9223372036854775807 := by
  have ce : Tryz.prog.cellsOf 55 = 9 := by kernel_rfl
  rcases open_slice Tryz.underlying37 hf with h0 | ⟨a, len, cap, m, n, D, Pl, hcs, hb, hl, hm, hmm, hy, hx⟩
  · exact ⟨none, 0, 0, fun _ => ⟨.empty, 0, 0, 0, 0, 0, 0, 0, fun _ => 0, false⟩, h0.1, ⟨fun i hi => by omega, .inl rfl⟩, by omega⟩
  · have hlm : len ≤ m := by rw [hmm]; split <;> omega
    unfold maxLen at hm
    rw [ce] at hx
    by_cases h0 : len = 0
    · subst h0
      exact ⟨some a, 0, cap, fun _ => ⟨.empty, 0, 0, 0, 0, 0, 0, 0, fun _ => 0, false⟩, hcs, ⟨fun i hi => by omega, .inl rfl⟩, by omega⟩
    have hsp : a.spot = none := by
      obtain ⟨cs', h1, h2⟩ := hx 0 (by omega)
      obtain ⟨x, da, dc, rfl, hr, hbd⟩ := ent_of h2
      obtain ⟨_, _, hcell⟩ := World.cells?_some h1
      have e0 := World.cell?_spot (hcell 0 (by simp))
      simpa [Addr.add] using e0
    obtain ⟨b, off, spot⟩ := a
    simp only at hsp
    subst hsp
    have key : ∀ i, ∃ x : Ent, i < len → EB x ∧ ∃ da dc, EAt w b (off + i * 9) x da dc ∧ IRow w da x.n x.f := by
      intro i
      by_cases hi : i < len
      · obtain ⟨cs', h1, h2⟩ := hx i (by omega)
        obtain ⟨x, da, dc, rfl, hr, hbd⟩ := ent_of h2
        obtain ⟨_, _, hcell⟩ := World.cells?_some h1
        have e0 := hcell 0 (by simp)
        have e1 := hcell 1 (by simp)
        have e2 := hcell 2 (by simp)
        have e3 := hcell 3 (by simp)
        have e4 := hcell 4 (by simp)
        have e5 := hcell 5 (by simp)
        have e6 := hcell 6 (by simp)
        have e7 := hcell 7 (by simp)
        have e8 := hcell 8 (by simp)
        simp [add_flat] at e0 e1 e2 e3 e4 e5 e6 e7 e8
        exact ⟨x, fun _ => ⟨hbd, da, dc, ⟨lt_of_cell e0, e0, e1, e2, e3, e4, e5, e6, e7, e8⟩, hr⟩⟩
      · exact ⟨⟨.empty, 0, 0, 0, 0, 0, 0, 0, fun _ => 0, false⟩, fun h => absurd h hi⟩
    obtain ⟨X, hX⟩ := Classical.axiomOfChoice key
    exact ⟨some ⟨b, off, none⟩, len, cap, X, hcs, ⟨fun i hi => (hX i hi).1, .inr ⟨b, off, rfl, by obtain ⟨_, da, dc, h1, _⟩ := hX 0 (by omega); exact h1.lt, fun i hi => (hX i hi).2⟩⟩, by omega⟩

set_option maxRecDepth 100000 in
set_option maxHeartbeats 800000 in
/-- A slice of slices of entries that came in. -/
theorem rows_of {H : Type} {enc : TypeId × Value → H} {w : World} {base : Nat} {held : Bool} {v : Value} {d : DataW H} {p : List MemPlace}
    (h : DataW.Trod enc Tryz.prog w base (fun _ => true) held 22 v d p) :
    ∃ (ao : Option Addr) (N cap : Nat) (R : Nat → Nat → Ent) (M : Nat → Nat), v.cells.toList = [.slice ao N cap] ∧ RRow w ao N R M ∧ N ≤ 9223372036854775807 := by
  obtain ⟨fuel, hf⟩ := h
  have ce : Tryz.prog.cellsOf 37 = 1 := by kernel_rfl
  rcases open_slice Tryz.underlying22 hf with h0 | ⟨a, len, cap, m, n, D, Pl, hcs, hb, hl, hm, hmm, hy, hx⟩
  · exact ⟨none, 0, 0, fun _ _ => ⟨.empty, 0, 0, 0, 0, 0, 0, 0, fun _ => 0, false⟩, fun _ => 0, h0.1, ⟨fun i hi => by omega, fun i hi => by omega, .inl rfl⟩, by omega⟩
  · have hlm : len ≤ m := by rw [hmm]; split <;> omega
    unfold maxLen at hm
    rw [ce] at hx
    by_cases h0 : len = 0
    · subst h0
      exact ⟨some a, 0, cap, fun _ _ => ⟨.empty, 0, 0, 0, 0, 0, 0, 0, fun _ => 0, false⟩, fun _ => 0, hcs, ⟨fun i hi => by omega, fun i hi => by omega, .inl rfl⟩, by omega⟩
    have hsp : a.spot = none := by
      obtain ⟨cs', h1, h2⟩ := hx 0 (by omega)
      obtain ⟨ao, k, c, X, rfl, hr, hbd⟩ := entries_cs h2
      obtain ⟨_, _, hcell⟩ := World.cells?_some h1
      have e0 := World.cell?_spot (hcell 0 (by simp))
      simpa [Addr.add] using e0
    obtain ⟨b, off, spot⟩ := a
    simp only at hsp
    subst hsp
    have key : ∀ i, ∃ q : (Nat → Ent) × Nat, i < len → q.2 ≤ 9223372036854775807 ∧ b < w.heap.size ∧ ∃ da dc, w.cell? ⟨b, off + i, none⟩ = some (.slice da q.2 dc) ∧ ERow w da q.2 q.1 := by
      intro i
      by_cases hi : i < len
      · obtain ⟨cs', h1, h2⟩ := hx i (by omega)
        obtain ⟨ao, k, c, X, rfl, hr, hbd⟩ := entries_cs h2
        obtain ⟨_, _, hcell⟩ := World.cells?_some h1
        have e0 := hcell 0 (by simp)
        simp [add_flat] at e0
        exact ⟨(X, k), fun _ => ⟨hbd, lt_of_cell e0, ao, c, e0, hr⟩⟩
      · exact ⟨(fun _ => ⟨.empty, 0, 0, 0, 0, 0, 0, 0, fun _ => 0, false⟩, 0), fun h => absurd h hi⟩
    obtain ⟨Q, hQ⟩ := Classical.axiomOfChoice key
    refine ⟨some ⟨b, off, none⟩, len, cap, fun i => (Q i).1, fun i => (Q i).2, hcs, ⟨fun i hi j hj => ?_, fun i hi => (hQ i hi).1, .inr ⟨b, off, rfl, (hQ 0 (by omega)).2.1, fun i hi => (hQ i hi).2.2⟩⟩, by omega⟩
    obtain ⟨_, _, da, dc, _, hr⟩ := hQ i hi
    exact hr.bd j hj
end Go.Proofs.YtfdbhkjmkpgomaaGreat
