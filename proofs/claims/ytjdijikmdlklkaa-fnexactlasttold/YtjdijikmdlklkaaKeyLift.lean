/- From what a row's form says of a key that came in to what the walks are told of it. -/
import Derived.Test.YtjdijikmdlklkaaSzKey
import Derived.OpenShut
import Derived.Lib.SmallJoins
import Derived.Deep.SlicePairs
namespace Go.Proofs.Ytjdijikmdlklkaa
open Go.RowKit Go.Deep Go.ChangeShapes Go.WideShapes
set_option linter.unusedSimpArgs false
set_option linter.unusedVariables false

theorem lt_of_cell {w : World} {b o : Nat} {v : Value} (h : w.cell? ⟨b, o, none⟩ = some v) : b < w.heap.size := by
  unfold World.cell? at h
  split at h
  · rename_i hb
    exact (Array.getElem?_eq_some_iff.1 hb).1
  · simp at h

set_option maxRecDepth 100000 in
theorem trow_of {H : Type} {enc : TypeId × Value → H} {w : World} {base : Nat} {spare : Nat → Bool} {held : Bool} {fuel : Nat} {v : Value} {x : DataW H × List MemPlace}
    (h : DataW.trod enc Try.prog w base spare held fuel 32 [v] = some x) :
    ∃ ao n cap nm vl, v = .slice ao n cap ∧ TRow w ao n nm vl ∧ n ≤ 9223372036854775807 ∧ TSize n nm vl 9223372036854775807 := by
  rcases open_slice_pairs Try.underlying32 Try.underlying87 (by kernel_rfl) rfl rfl (by kernel_rfl) (by kernel_rfl) h with ⟨hcs, _⟩ | ⟨a, len, cap, m, n, V0, V1, D0, D1, P0, P1, hcs, _, hl, hm, hmm, _, hx⟩
  · simp at hcs
    exact ⟨none, 0, 0, fun _ => ByteArray.empty, fun _ => ByteArray.empty, hcs, ⟨.inl rfl⟩, by omega, fun i hi => by omega⟩
  · simp at hcs
    have hlm : len ≤ m := by rw [hmm]; split <;> omega
    have hx' : ∀ i, i < len → ∃ q : ByteArray × ByteArray, w.cell? (a.add (i * 2)) = some (.string q.1) ∧ w.cell? (a.add (i * 2 + 1)) = some (.string q.2) ∧ q.1.size ≤ maxLen ∧ q.2.size ≤ maxLen := by
      intro i hi
      obtain ⟨h0, h1, h2, h3⟩ := hx i (by omega)
      obtain ⟨s0, e0, _, z0⟩ := DataW.trod_string Try.underlying9 h2
      obtain ⟨s1, e1, _, z1⟩ := DataW.trod_string Try.underlying9 h3
      simp at e0 e1
      exact ⟨(s0, s1), by rw [h0, e0], by rw [h1, e1], z0, z1⟩
    obtain ⟨f, hf⟩ := choose_lt (α := ByteArray × ByteArray) hx'
    unfold maxLen at hm hf
    refine ⟨some a, len, cap, fun i => (f i).1, fun i => (f i).2, hcs, ⟨?_⟩, by omega, fun i hi => ⟨(hf i hi).2.2.1, (hf i hi).2.2.2⟩⟩
    by_cases h0 : len = 0
    · exact .inl h0
    · obtain ⟨b, off, spot⟩ := a
      have hc := (hf 0 (by omega)).1
      have hspot : spot = none := by simpa [Addr.add] using World.cell?_spot hc
      subst hspot
      have hc0 : w.cell? ⟨b, off, none⟩ = some (.string (f 0).1) := by simpa [Addr.add] using hc
      refine .inr ⟨b, off, rfl, lt_of_cell hc0, fun i hi => ⟨?_, ?_⟩⟩
      · have := (hf i hi).1
        by_cases hi0 : i = 0
        · subst hi0; simpa [Addr.add] using this
        · simpa [Addr.add, show ¬ i * 2 = 0 by omega] using this
      · have := (hf i hi).2.1
        simpa [Addr.add, Nat.add_assoc] using this

set_option maxRecDepth 100000 in
theorem key_of {H : Type} {enc : TypeId × Value → H} {w : World} {r : Reach} {b0 base : Nat} {spare : Nat → Bool} {held : Bool} {v : Value} {d : DataW H} {p : List MemPlace}
    (hv : Value.okWide Try.prog w r b0 34 v) (h : DataW.Trod enc Try.prog w base spare held 34 v d p) :
    ∃ m ao n cap nm vl st, v = .agg #[.string m, .slice ao n cap, .int .i64 st] ∧ TRow w ao n nm vl ∧ m.size ≤ 9223372036854775807 ∧ n ≤ 9223372036854775807 ∧ TSize n nm vl 9223372036854775807 ∧ (-9223372036854775808 ≤ st ∧ st ≤ 9223372036854775807) := by
  obtain ⟨c0, c1, c2, y0, y1, y2, k, rfl, _, _, h0, h1, h2⟩ := Joins.open_agg3 Try.underlying34 (by kernel_rfl) (by kernel_rfl) hv h
  obtain ⟨m, e0, _, hm⟩ := DataW.trod_string Try.underlying9 h0
  obtain ⟨ao, n, cap, nm, vl, e1, hr, hn, hs⟩ := trow_of h1
  obtain ⟨st, e2, _, hst⟩ := DataW.trod_int Try.underlying3 h2
  simp at e0 e2
  subst e0 e1 e2
  unfold maxLen at hm
  exact ⟨m, ao, n, cap, nm, vl, st, rfl, hr, hm, hn, hs, bounds_i64 hst⟩
end Go.Proofs.Ytjdijikmdlklkaa
