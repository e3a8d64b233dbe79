/- Rows as texts; what the two readings of a log have. -/
import Derived.Test.YtimlggomjjkhlaaDr3
import Derived.Test.YtimlggomjjkhlaaLgR
import Derived.Test.YtimlggomjjkhlaaRdN
import Derived.Test.YtimlggomjjkhlaaRdLaw
import Derived.Laws.BytesArg
import Derived.Laws.BytesString
namespace Go.Proofs.Ytimlggomjjkhlaa
open Go.RowKit
set_option linter.unusedSimpArgs false
set_option linter.unusedVariables false

theorem conv_row (w : World) (ao : Option Addr) (c : Nat) (L : List Int) (hr : Row w ao L.length (fl L)) : (convert 22 9 (.slice ao L.length c)).run Try.prog w = .ok (.string (strOfNums L)) w := by
  by_cases h0 : L.length = 0
  · have e : L = [] := List.eq_nil_of_length_eq_zero h0
    subst e
    cases ao with
    | none => exact run_convert_bytes_nil (P := Try.prog) w 22 5 Try.underlying22 Try.underlying5 0 c 9 Try.underlying9
    | some p =>
      show (convert 22 9 (.slice (some p) 0 c)).run Try.prog w = .ok (.string (strOfNums [])) w
      rw [run_convert_bytes_string w 22 9 5 (some p) 0 c Try.underlying22 Try.underlying5 Try.underlying9, run_bytesToString w p 0 c [] (by simp [loadCells, loadCellsFrom])]
      rfl
  · obtain ⟨b, off, rfl, hlt, hc⟩ := hr.lies.resolve_left h0
    exact run_convert_bytes_arg (P := Try.prog) w 22 5 Try.underlying22 Try.underlying5 b off L.length c L rfl (fun i hi => hc i hi) 9 Try.underlying9

/-- All of the log is read. -/
theorem read_all {Rs Qs : Nat → List Int} {m n wh : Nat} (h : Fin (logL Rs m) 0 [] false [] 0 (recs n Qs, wh)) : n = m ∧ wh = (logL Rs m).length ∧ ∀ i, i < m → Qs i = Rs i := by
  obtain ⟨j, j1, j2, j3, j4⟩ := log_read Rs m (logL Rs m).length (Nat.le_refl _)
  rw [List.take_of_length_le (Nat.le_refl _)] at j4
  obtain rfl := j3 rfl
  have e := h.det j4
  simp only [Prod.mk.injEq] at e
  obtain ⟨rfl, e2⟩ := recs_same e.1
  exact ⟨rfl, e.2, e2⟩
/-- The beginning of the log is read. -/
theorem read_part {Rs Qs : Nat → List Int} {m n wh k : Nat} (hk : k ≤ (logL Rs m).length) (h : Fin ((logL Rs m).take k) 0 [] false [] 0 (recs n Qs, wh)) : n ≤ m ∧ wh ≤ k ∧ ∀ i, i < n → Qs i = Rs i := by
  obtain ⟨j, j1, j2, j3, j4⟩ := log_read Rs m k hk
  have e := h.det j4
  simp only [Prod.mk.injEq] at e
  obtain ⟨rfl, e2⟩ := recs_same e.1
  exact ⟨j1, by rw [e.2]; exact j2, e2⟩

theorem own_lies {w : World} {base : Nat} {v : Value} {L : List Int} (h : OwnL w base v L) : ∃ ao c, v = .slice ao L.length c ∧ Row w ao L.length (fl L) ∧ ((ao = none ∧ L = [] ∧ c = 0) ∨ ∃ g, ao = some ⟨g, 0, none⟩ ∧ At w g 0 L ∧ L.length ≤ c) := by
  rcases h.own.2 with ⟨rfl, h0⟩ | ⟨g, cap, cur, rfl, hbg, hg, hnc, _⟩
  · have e : L = [] := List.eq_nil_of_length_eq_zero h0
    subst e
    exact ⟨none, 0, rfl, ⟨h.bd.fl, .inl rfl⟩, .inl ⟨rfl, rfl, rfl⟩⟩
  · have hA : At w g 0 L := ⟨h.bd, (Array.getElem?_eq_some_iff.1 hg).1, fun i hi => by rw [Nat.zero_add, h.own.cellAt i (by omega), vb_get hi]⟩
    exact ⟨_, cap, rfl, hA.row, .inr ⟨g, rfl, hA, hnc⟩⟩
theorem RdA.rd {w : World} {ao : Option Addr} {n : Nat} {V : Nat → Value} {Rs : Nat → List Int} (h : RdA w ao n V Rs) : RdS w ao n V Rs := by
  refine ⟨fun i hi => ?_, h.lies⟩
  obtain ⟨g, off, c, e, _, hA⟩ := h.rows i hi
  exact ⟨_, c, e, hA.row⟩
theorem str_same (s : ByteArray) : (s.toList == s.toList) = true := by simp
end Go.Proofs.Ytimlggomjjkhlaa
