/- From what a row's form says of a slice of slices of bytes that came in to what the walks are told of it. -/
import Derived.Test.YtimlggomjjkhlaaSSb
import Derived.Test.YtimlggomjjkhlaaPcLaw
import Derived.Test.YtimlggomjjkhlaaLift
import Derived.Deep.Matrix
namespace Go.Proofs.Ytimlggomjjkhlaa
open Go.RowKit Go.Deep
set_option linter.unusedVariables false

theorem Row.list {w : World} {a : Option Addr} {n : Nat} {f : Nat → Int} (h : Row w a n f) : Row w a (ls f n).length (fl (ls f n)) := by
  rw [ls_length]
  refine ⟨(ls_bd h.bd n).fl, ?_⟩
  rcases h.lies with h0 | ⟨b, off, e, hlt, hc⟩
  · exact .inl h0
  · exact .inr ⟨b, off, e, hlt, fun i hi => by rw [hc i hi]; simp [fl, ls, hi]⟩

theorem rds_of {H : Type} {enc : TypeId × Value → H} {w : World} {base : Nat} {held : Bool} {fuel : Nat} {v : Value} {x : DataW H × List MemPlace}
    (h : DataW.trod enc Try.prog w base (fun _ => true) held fuel 23 [v] = some x) :
    ∃ ao n cap V Rs, v = .slice ao n cap ∧ RdS w ao n V Rs ∧ n ≤ maxLen ∧ ∀ i, i < n → Byt (Rs i) ∧ (Rs i).length ≤ maxLen := by
  rcases open_int_rows Try.underlying23 Try.underlying22 Try.underlying5 (by kernel_rfl) (by kernel_rfl) h with ⟨hcs, _⟩ | ⟨a, len, cap, A, L, C, Z, hcs, _, hl, hm, _, hx⟩
  · simp at hcs
    exact ⟨none, 0, 0, fun _ => .slice none 0 0, fun _ => [], hcs, ⟨fun i hi => absurd hi (Nat.not_lt_zero _), .inl rfl⟩, Nat.zero_le _, fun i hi => absurd hi (Nat.not_lt_zero _)⟩
  · simp at hcs
    have each : ∀ r, r < len → ∃ R : List Int, R.length = L r ∧ Byt R ∧ Row w (A r) R.length (fl R) := by
      intro r hr
      obtain ⟨_, h1, h2, h3, h4, h5, h6⟩ := hx r (by omega)
      have hI : IsRow .u8 w (A r) (L r) (C r) (Z r) := by
        cases hA : A r with
        | none =>
          have hc := h5 hA
          exact .inl ⟨rfl, by omega, hc, List.eq_nil_of_length_eq_zero (by omega)⟩
        | some a' => exact .inr ⟨a', rfl, h1, h2, h3, fun i hi => (h6 a' hA).2 i (by omega), h4⟩
      obtain ⟨f, hf, _⟩ := row_of hI
      exact ⟨ls f (L r), ls_length _ _, ls_bd hf.bd _, hf.list⟩
    obtain ⟨Rs, hRs⟩ := choose_lt each
    refine ⟨some a, len, cap, fun r => .slice (A r) (L r) (C r), Rs, hcs, ⟨fun i hi => ⟨A i, C i, by rw [(hRs i hi).1], (hRs i hi).2.2⟩, ?_⟩, Nat.le_trans hl hm, fun i hi => ⟨(hRs i hi).2.1, by rw [(hRs i hi).1]; exact Nat.le_trans (hx i (by omega)).2.1 (hx i (by omega)).2.2.1⟩⟩
    by_cases h0 : len = 0
    · exact .inl h0
    · obtain ⟨b, off, spot⟩ := a
      have hc := (hx 0 (by omega)).1
      have hspot : spot = none := by simpa [Addr.add] using World.cell?_spot hc
      subst hspot
      have hc0 : w.cell? ⟨b, off, none⟩ = some (.slice (A 0) (L 0) (C 0)) := by simpa [Addr.add] using hc
      refine .inr ⟨b, off, rfl, lt_of_cell hc0, fun i hi => ?_⟩
      have := (hx i (by omega)).1
      by_cases hi0 : i = 0
      · subst hi0; simpa [Addr.add] using this
      · simpa [Addr.add, hi0] using this
theorem rds_val {H : Type} {enc : TypeId × Value → H} {w : World} {base : Nat} {held : Bool} {a : Option Addr} {n c : Nat} {d : DataW H} {p : List MemPlace}
    (h : DataW.Trod enc Try.prog w base (fun _ => true) held 23 (.slice a n c) d p) :
    ∃ V Rs, RdS w a n V Rs ∧ n ≤ maxLen ∧ ∀ i, i < n → Byt (Rs i) ∧ (Rs i).length ≤ maxLen := by
  obtain ⟨fuel, hf⟩ := h
  simp only [Value.cells] at hf
  obtain ⟨ao, n', cap, V, Rs, e, h1, h2, h3⟩ := rds_of hf
  injection e with e1 e2 e3
  subst e1 e2 e3
  exact ⟨V, Rs, h1, h2, h3⟩
end Go.Proofs.Ytimlggomjjkhlaa
