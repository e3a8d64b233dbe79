/- What FindInTable leaves, out of what was gathered. -/
import Derived.Test.YtohjjigkfdhklaaGreatQb
namespace Go.Proofs.YtohjjigkfdhklaaGreat
set_option maxRecDepth 100000
open Go.RowKit Go.Shelf
set_option linter.unusedSimpArgs false
set_option linter.unusedVariables false

theorem outH_of {w : World} {base : Nat} {v : Value} {n : Nat} {X : Nat → Ent} {V : Nat → Value} (h : OutE w base v n X V) : OutH w base v n X V := by
  refine ⟨h.own, fun i hi => ?_, h.dis⟩
  have hr := h.row i hi
  have ho := hr.own
  have ha := h.apart i hi
  rcases ho.2 with ⟨e, h0⟩ | ⟨g, cap, cur, e, hbg, hg, hnc, _⟩
  · exact ⟨none, 0, by rw [e, h0], .inl ⟨h0, rfl⟩⟩
  · refine ⟨some ⟨g, 0, none⟩, cap, e, .inr ⟨g, rfl, hbg, ⟨hr.bd, (Array.getElem?_eq_some_iff.1 hg).1, fun j hj => ?_, fun j hj => ?_⟩, ha g (by rw [e]; rfl)⟩⟩
    · rw [e] at ho
      rw [Nat.zero_add, ho.cellAt j (by omega)]
      simp [icells, hj]
    · rw [e] at ho
      rw [Nat.zero_add]
      simpa using ho.frozenAt j
theorem gx_al {f : Nat → Int} {n : Nat} {X : Nat → Ent} {m : Nat} {p : Int} (h : IsTb f n (fun i => nrE (X i)) m p) (hEB : ∀ i, i < m → EB (nrE (X i))) (hES : ESize m (fun i => nrE (X i))) {w : World} {base : Nat} {v : Value} {V : Nat → Value} (hO : OutH w base v m (fun i => nrE (X i)) V) : ∀ Y, Alike (fun i => nrE (X i)) Y m → GX m (fun i => nrE (X i)) Y := fun Y ha => by
  refine ⟨hEB, fun i hi => ?_, hES, fun i hi => ?_, fun i hi => (ha i hi).1⟩
  · obtain ⟨lo, lc, _, hI⟩ := (hO.row i hi).io
    exact hI.bd
  · rcases ((h.1.1.2.1 i hi).2.2) with ⟨_, hA⟩ | ⟨_, hz⟩
    · have h8 : (nrE (X i)).n = 8 := hA.2.1
      show (nrE (X i)).n ≤ 8
      omega
    · have h8 : (nrE (X i)).n = 0 := hz.2.2.2.2.1
      show (nrE (X i)).n ≤ 8
      omega
theorem fta_none {Z : Nat → Ent} {c : Int} {w w' : World} (hb : Below w.heap.size w w') : FTa Z 0 0 c w (.returned (.tuple #[.slice none 0 0, .int .i64 0, .int .i64 c])) w' :=
  ⟨_, Z, rfl, cx_nil _ _ _ _ _, gx_zero _ _, hb⟩
theorem fta_found {Z : Nat → Ent} {E : List Ent} {K : Int} {w w' : World} {v : Value} {V : Nat → Value} {base : Nat} (hO : OutE w' base v E.length (eL E) V) (hbase : w.heap.size ≤ base) (hg : GX E.length (eL E) Z) (hb : Below w.heap.size w w') : FTa Z E.length K 0 w (.returned (.tuple #[v, .int .i64 K, .int .i64 0])) w' :=
  ⟨_, _, rfl, cx_of_outH (outH_of (outE_low hO hbase)), hg, hb⟩

end Go.Proofs.YtohjjigkfdhklaaGreat
