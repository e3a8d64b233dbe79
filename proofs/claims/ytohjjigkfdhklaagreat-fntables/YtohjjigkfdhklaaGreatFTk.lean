/- One agg taken into another, in the program. -/
import Derived.Test.YtohjjigkfdhklaaGreatFTkS
import Derived.BigRegion
import Derived.BigQuiet
import Derived.Deep.CutRange
import Derived.Deep.DeepCutAuto
import Derived.Deep.RegionHeld3
namespace Go.Proofs.YtohjjigkfdhklaaGreat
set_option maxRecDepth 100000
open Go.RowKit
set_option linter.unusedSimpArgs false
set_option linter.unusedVariables false

/-- How what is written in the end is made of what was there: c, s, l, h, u, f. -/
structure FIN (y b : Ent) (c s l h : Int) (u : Bool) (f : Nat → Int) : Prop where
  ec : y.c = min (c + b.c) 1000000000
  efu : y.fu = ((u || b.fu || decide ((1000000000 : Int) < c + b.c)) || ov f b.f 8)
  es : y.s = if y.fu = true then 0 else IntKind.i64.wrap (s + b.s)
  elo : y.lo = if b.lo < l then b.lo else l
  ehi : y.hi = if h < b.hi then b.hi else h
  ef : ∀ i, y.f i = if i < 8 then min (f i + b.f i) 1000000000 else 0
theorem ov_zero {g : Nat → Int} (h : ∀ i, i < 8 → g i ≤ 1000000000) : ∀ k, k ≤ 8 → ov (fun _ => 0) g k = false
  | 0, _ => rfl
  | k + 1, hk => by
    unfold ov
    have := h k (by omega)
    simp [ov_zero h k (by omega)]
    omega
theorem fin_zero {a b : Ent} (hac : a.c = 0) (hb : GA b) : FIN (jn a b) b 0 0 b.lo b.hi false (fun _ => 0) := by
  have hc := hb.c
  have hs := hb.s
  have hz := ov_zero (fun i hi => (hb.f i hi).2) 8 (Nat.le_refl _)
  have hd : decide ((1000000000 : Int) < 0 + b.c) = false := decide_eq_false (by omega)
  have e : jn a b = cA b := by unfold jn; rw [if_pos hac]
  rw [e]
  refine ⟨by show b.c = _; omega, by show b.fu = _; rw [hz, hd]; simp, ?_, by show b.lo = _; simp, by show b.hi = _; simp, fun i => ?_⟩
  · show b.s = if b.fu = true then 0 else _
    split
    · rename_i h; exact hb.full h
    · rw [IntKind.wrap_i64]; omega
  · show (if i < 8 then b.f i else 0) = _
    split
    · rename_i hi
      have := hb.f i hi
      omega
    · rfl
theorem fin_two {a b : Ent} (hac : a.c ≠ 0) (hbc : b.c ≠ 0) : FIN (jn a b) b a.c a.s a.lo a.hi a.fu a.f := by
  have e : jn a b = ⟨.empty, 0, 0, min (a.c + b.c) 1000000000, if fuJ a b = true then 0 else IntKind.i64.wrap (a.s + b.s), min a.lo b.lo, max a.hi b.hi, 8, fun i => if i < 8 then min (a.f i + b.f i) 1000000000 else 0, fuJ a b⟩ := by
    unfold jn; rw [if_neg hac, if_neg hbc]
  rw [e]
  exact ⟨rfl, rfl, rfl, by show min a.lo b.lo = _; split <;> omega, by show max a.hi b.hi = _; split <;> omega, fun i => rfl⟩

/-- What is left when an agg is taken. -/
def TkO (B G : Nat) (y : Ent) (w : World) (e : Ending) (w' : World) : Prop :=
  (∃ v, e = .returned v) ∧ AAt w' B y.c y.s y.lo y.hi (.slice (some ⟨G, 0, none⟩) 8 8) y.fu ∧ (∀ j, j < 6 → w'.frozen? ⟨B, j, none⟩ = false) ∧ IOwn w' G 0 8 y.f ∧ w'.os = w.os ∧ w'.tape = w.tape ∧ w'.output = w.output ∧ w.heap.size ≤ w'.heap.size ∧ ∀ c, c < w.heap.size → c ≠ B → c ≠ G → w'.heap[c]? = w.heap[c]?

end Go.Proofs.YtohjjigkfdhklaaGreat
