/- Texts that came in. -/
import Derived.Test.YtjcmjoipicaoeaaLift
import Derived.Test.YtjcmjoipicaoeaaTx
namespace Go.Proofs.Ytjcmjoipicaoeaa
open Go.RowKit Go.Deep Go.ChangeShapes Go.WideShapes
set_option linter.unusedSimpArgs false
set_option linter.unusedVariables false

theorem add_flatT (b off i : Nat) : (⟨b, off, none⟩ : Addr).add i = ⟨b, off + i, none⟩ := by unfold Addr.add; split <;> simp_all
set_option maxHeartbeats 800000 in
theorem texts_of {H : Type} {enc : TypeId × Value → H} {w : World} {base : Nat} {held : Bool} {v : Value} {d : DataW H} {p : List MemPlace}
    (h : DataW.Trod enc Try.prog w base (fun _ => true) held 35 v d p) :
    ∃ (ao : Option Addr) (n cap : Nat) (K : Nat → ByteArray), v.cells.toList = [.slice ao n cap] ∧ TRow w ao n K ∧ (n ≤ 9223372036854775807 ∧ ∀ i, i < n → (K i).size ≤ 9223372036854775807) := by
  obtain ⟨fuel, hf⟩ := h
  rcases open_slice1 Try.underlying35 (by kernel_rfl) hf with h0 | ⟨a, len, cap, m, n, V, D, Pl, hcs, hb, hl, hm, hmm, hy, hx⟩
  · exact ⟨none, 0, 0, fun _ => .empty, h0.1, ⟨.inl rfl⟩, by omega, fun i hi => by omega⟩
  · have hlm : len ≤ m := by rw [hmm]; split <;> omega
    have key : ∀ i, ∃ s : ByteArray, i < len → w.cell? (a.add i) = some (.string s) ∧ s.size ≤ 9223372036854775807 := by
      intro i
      by_cases hi : i < len
      · obtain ⟨h1, h2⟩ := hx i (by omega)
        obtain ⟨s, e, _, hs⟩ := DataW.trod_string Try.underlying9 h2
        simp at e
        unfold maxLen at hs
        exact ⟨s, fun _ => ⟨by rw [h1, e], by omega⟩⟩
      · exact ⟨.empty, fun h => absurd h hi⟩
    obtain ⟨K, hK⟩ := Classical.axiomOfChoice key
    unfold maxLen at hm
    refine ⟨some a, len, cap, K, hcs, ⟨?_⟩, by omega, fun i hi => (hK i hi).2⟩
    by_cases h0 : len = 0
    · exact .inl h0
    · have c0 := (hK 0 (by omega)).1
      have hsp : a.spot = none := by simpa [Addr.add] using World.cell?_spot c0
      obtain ⟨b, off, spot⟩ := a
      simp only at hsp
      subst hsp
      refine .inr ⟨b, off, rfl, lt_of_cell (by rw [add_flatT] at c0; exact c0), fun i hi => ?_⟩
      have := (hK i hi).1
      rwa [add_flatT] at this
end Go.Proofs.Ytjcmjoipicaoeaa
