/- l5Put: an entry at its place, in the model. -/
import Derived.Test.YtfdbhkjmkpgomaaAm
import Derived.Test.YtfdbhkjmkpgomaaEi
import Derived.Test.YtfdbhkjmkpgomaaLo
import Derived.Test.YtfdbhkjmkpgomaaBef
namespace Go.Proofs.Ytfdbhkjmkpgomaa
open Go.RowKit
set_option linter.unusedSimpArgs false
set_option linter.unusedVariables false

/-- The cells of entries, whose lists are V. -/
def fm (X : Nat → Ent) (V : Nat → Value) (p m : Nat) : List Value := (List.range m).flatMap fun i => ecells (X (p + i)) (V (p + i))
theorem fm_len (X : Nat → Ent) (V : Nat → Value) (p m : Nat) : (fm X V p m).length = m * 9 := fm9_len m (fun i => X (p + i)) (fun i => V (p + i))
theorem fm_zero (X : Nat → Ent) (V : Nat → Value) (m : Nat) : fm X V 0 m = (List.range m).flatMap fun i => ecells (X i) (V i) := by simp [fm]
/-- What is known of the lists of entries that lie at an address. -/
structure EV (w : World) (b off n : Nat) (X : Nat → Ent) (V : Nat → Value) : Prop where
  row : ∀ i, i < n → ∃ lo lc, V i = .slice lo (X i).n lc ∧ IRow w lo (X i).n (X i).f
  cell : ∀ w', Below w.heap.size w w' → ∀ i, i < n → ∀ j, j < 9 → w'.cell? ⟨b, off + i * 9 + j, none⟩ = (ecells (X i) (V i))[j]?
theorem ev_of {w : World} {b off n : Nat} {X : Nat → Ent} (h : ERow w (some ⟨b, off, none⟩) n X) : ∃ V, EV w b off n X V := by
  obtain ⟨hbd, hl⟩ := h
  rcases hl with rfl | ⟨b', off', e, hlt, hc⟩
  · exact ⟨fun _ => .slice none 0 0, fun i hi => absurd hi (Nat.not_lt_zero _), fun _ _ i hi => absurd hi (Nat.not_lt_zero _)⟩
  · injection e with e
    injection e with e1 e2 _
    subst e1 e2
    have hc' : ∀ i, ∃ v : Value, i < n → ∃ da dc, v = .slice da (X i).n dc ∧ EAt w b (off + i * 9) (X i) da dc ∧ IRow w da (X i).n (X i).f := fun i => by
      by_cases hi : i < n
      · obtain ⟨da, dc, h1, h2⟩ := hc i hi
        exact ⟨_, fun _ => ⟨da, dc, rfl, h1, h2⟩⟩
      · exact ⟨.slice none 0 0, fun h => absurd h hi⟩
    refine ⟨fun i => (hc' i).choose, fun i hi => ?_, fun w' hb i hi j hj => ?_⟩
    · obtain ⟨da, dc, h1, _, h3⟩ := (hc' i).choose_spec hi
      exact ⟨da, dc, h1, h3⟩
    · obtain ⟨da, dc, h1, h2, _⟩ := (hc' i).choose_spec hi
      show _ = (ecells (X i) (hc' i).choose)[j]?
      rw [h1]
      obtain ⟨_, a0, a1, a2, a3, a4, a5, a6, a7, a8⟩ := h2.keep hb
      rcases j with _ | _ | _ | _ | _ | _ | _ | _ | _ | j
      · exact a0
      · exact a1
      · exact a2
      · exact a3
      · exact a4
      · exact a5
      · exact a6
      · exact a7
      · exact a8
      · omega
theorem EV.src {w w' : World} {b off n p m : Nat} {X : Nat → Ent} {V : Nat → Value} (h : EV w b off n X V) (hb : Below w.heap.size w w') (hp : p + m ≤ n) : ∀ j u, (fm X V p m)[j]? = some u → w'.cell? ((⟨b, off + p * 9, none⟩ : Addr).add j) = some u := by
  intro j u hj
  have hlt : j < m * 9 := by
    have := (List.getElem?_eq_some_iff.1 hj).1
    rwa [fm_len] at this
  have e1 : j = j / 9 * 9 + j % 9 := by omega
  have h2 : j / 9 < m := by omega
  have h3 : j % 9 < 9 := by omega
  rw [show (⟨b, off + p * 9, none⟩ : Addr).add j = ⟨b, off + p * 9 + j, none⟩ from by simp [Addr.add]]
  have e2 : off + p * 9 + j = off + (p + j / 9) * 9 + j % 9 := by omega
  rw [e2, h.cell w' hb (p + j / 9) (by omega) (j % 9) h3, ← hj]
  have h4 := fm9_get m (fun i => X (p + i)) (fun i => V (p + i)) h2 h3
  rw [← e1] at h4
  exact h4.symm
theorem ecells_one {x : Ent} {hv : Value} {lo : Option Addr} {a c : Nat} (h : hv = .slice lo a c) : ∀ u ∈ ecells x hv, u.oneCell' = true := by
  subst h
  intro u hu
  simp only [ecells, List.mem_cons, List.not_mem_nil, or_false] at hu
  rcases hu with rfl | rfl | rfl | rfl | rfl | rfl | rfl | rfl | rfl <;> rfl
theorem EV.one {w : World} {b off n p m : Nat} {X : Nat → Ent} {V : Nat → Value} (h : EV w b off n X V) (hp : p + m ≤ n) : ∀ u ∈ fm X V p m, u.oneCell' = true := by
  intro u hu
  obtain ⟨i, hi, hu⟩ := List.mem_flatMap.1 hu
  obtain ⟨lo, lc, e, _⟩ := h.row (p + i) (by have := List.mem_range.1 hi; omega)
  exact ecells_one e u hu
end Go.Proofs.Ytfdbhkjmkpgomaa
