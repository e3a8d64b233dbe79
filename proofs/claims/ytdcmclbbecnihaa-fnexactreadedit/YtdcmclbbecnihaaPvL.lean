/- PutVar's bytes as a list. -/
import Derived.Test.YtdcmclbbecnihaaPutVar
import Derived.Test.YtdcmclbbecnihaaLists
namespace Go.Proofs.Ytdcmclbbecnihaa
open Go.RowKit
set_option linter.unusedSimpArgs false
set_option linter.unusedVariables false

/-- How many groups come ahead of the last. -/
def pk (u : Int) : Nat :=
  if pv u 0 ≤ 127 then 0 else if pv u 1 ≤ 127 then 1 else if pv u 2 ≤ 127 then 2 else if pv u 3 ≤ 127 then 3 else if pv u 4 ≤ 127 then 4
  else if pv u 5 ≤ 127 then 5 else if pv u 6 ≤ 127 then 6 else if pv u 7 ≤ 127 then 7 else if pv u 8 ≤ 127 then 8 else 9
theorem pk_le (u : Int) : pk u ≤ 9 := by
  unfold pk
  repeat' split
  all_goals omega
def pvL (u : Int) : List Int := (List.range (pk u + 1)).map (pb u (pk u))
theorem pvL_length (u : Int) : (pvL u).length = pk u + 1 := by simp [pvL]

theorem plen_pk {u : Int} {k : Nat} (h : PLen u k) : pk u = k := by
  obtain ⟨hk, hgt, hle⟩ := h
  have g : ∀ j, j < k → ¬ pv u j ≤ 127 := fun j hj => by have := hgt j hj; omega
  have hc : k = 0 ∨ k = 1 ∨ k = 2 ∨ k = 3 ∨ k = 4 ∨ k = 5 ∨ k = 6 ∨ k = 7 ∨ k = 8 ∨ k = 9 := by omega
  clear hk hgt
  unfold pk
  rcases hc with rfl | rfl | rfl | rfl | rfl | rfl | rfl | rfl | rfl | rfl
  · rw [if_pos hle]
  · rw [if_neg (g 0 (by omega)), if_pos hle]
  · rw [if_neg (g 0 (by omega)), if_neg (g 1 (by omega)), if_pos hle]
  · rw [if_neg (g 0 (by omega)), if_neg (g 1 (by omega)), if_neg (g 2 (by omega)), if_pos hle]
  · rw [if_neg (g 0 (by omega)), if_neg (g 1 (by omega)), if_neg (g 2 (by omega)), if_neg (g 3 (by omega)), if_pos hle]
  · rw [if_neg (g 0 (by omega)), if_neg (g 1 (by omega)), if_neg (g 2 (by omega)), if_neg (g 3 (by omega)), if_neg (g 4 (by omega)), if_pos hle]
  · rw [if_neg (g 0 (by omega)), if_neg (g 1 (by omega)), if_neg (g 2 (by omega)), if_neg (g 3 (by omega)), if_neg (g 4 (by omega)), if_neg (g 5 (by omega)), if_pos hle]
  · rw [if_neg (g 0 (by omega)), if_neg (g 1 (by omega)), if_neg (g 2 (by omega)), if_neg (g 3 (by omega)), if_neg (g 4 (by omega)), if_neg (g 5 (by omega)), if_neg (g 6 (by omega)), if_pos hle]
  · rw [if_neg (g 0 (by omega)), if_neg (g 1 (by omega)), if_neg (g 2 (by omega)), if_neg (g 3 (by omega)), if_neg (g 4 (by omega)), if_neg (g 5 (by omega)), if_neg (g 6 (by omega)), if_neg (g 7 (by omega)), if_pos hle]
  · rw [if_neg (g 0 (by omega)), if_neg (g 1 (by omega)), if_neg (g 2 (by omega)), if_neg (g 3 (by omega)), if_neg (g 4 (by omega)), if_neg (g 5 (by omega)), if_neg (g 6 (by omega)), if_neg (g 7 (by omega)), if_neg (g 8 (by omega))]

/-- What a PutVar leaves, by its list. -/
def PVL (u : Int) (w : World) (e : Ending) (w' : World) : Prop :=
  ∃ g cap, e = .returned (.slice (some ⟨g, 0, none⟩) (pvL u).length cap) ∧ w.heap.size ≤ g ∧ At w' g 0 (pvL u) ∧ Below w.heap.size w w'
theorem pvl_of {u : Int} {w w' : World} {e : Ending} (h : PVOut u w e w') : PVL u w e w' := by
  obtain ⟨k, g, cap, hp, rfl, hg, ho, hb⟩ := h
  have ek := plen_pk hp
  subst ek
  refine ⟨g, cap, by rw [pvL_length], hg, ⟨fun x hx => ?_, ho.lt, fun i hi => ?_⟩, hb⟩
  · obtain ⟨i, hi, rfl⟩ := List.mem_map.1 hx
    exact ho.bd i
  · rw [pvL_length] at hi
    rw [ho.cell i hi]
    simp [fl, pvL, hi]

/-- The sign folded in. -/
def foldI (n : Int) : Int := if n < 0 then -2 * n - 1 else 2 * n
theorem foldI_bd {n : Int} (h : -1000000000000000000 ≤ n ∧ n ≤ 1000000000000000000) : 0 ≤ foldI n ∧ foldI n ≤ 18446744073709551615 := by
  unfold foldI
  split <;> omega
end Go.Proofs.Ytdcmclbbecnihaa
