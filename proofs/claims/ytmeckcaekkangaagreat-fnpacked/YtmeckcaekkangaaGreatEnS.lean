/- Rows of entries. / Rows of entries: measured, copied, compared. -/
import Derived.Test.YtmeckcaekkangaaGreatEn
import Derived.Laws.IdiomCopy
import Derived.Deep.RegionHeld3
namespace Go.Proofs.YtmeckcaekkangaaGreat
set_option maxRecDepth 100000
open Go.RowKit
set_option linter.unusedSimpArgs false
set_option linter.unusedVariables false

/-- What its type says of an entry. -/
structure EB (x : Ent) : Prop where
  seq : -9223372036854775808 ≤ x.seq ∧ x.seq ≤ 9223372036854775807
  s : -9223372036854775808 ≤ x.s ∧ x.s ≤ 9223372036854775807
  key : x.key.size ≤ 9223372036854775807
  n : x.n ≤ 9223372036854775807

/-- n entries lie at ao. -/
structure ERow (w : World) (ao : Option Addr) (n : Nat) (X : Nat → Ent) : Prop where
  bd : ∀ i, i < n → EB (X i)
  lies : n = 0 ∨ ∃ b off, ao = some ⟨b, off, none⟩ ∧ b < w.heap.size ∧ ∀ i, i < n → ∃ da dc, EAt w b (off + i * 9) (X i) da dc ∧ IRow w da (X i).n (X i).f
theorem ERow.keep {w w' : World} {ao : Option Addr} {n : Nat} {X : Nat → Ent} (h : ERow w ao n X) (hb : Below w.heap.size w w') : ERow w' ao n X :=
  ⟨h.bd, h.lies.elim .inl fun ⟨b, off, e, hlt, hc⟩ => .inr ⟨b, off, e, Nat.lt_of_lt_of_le hlt hb.size, fun i hi => by obtain ⟨da, dc, h1, h2⟩ := hc i hi; exact ⟨da, dc, h1.keep hb, h2.keep hb⟩⟩⟩
end Go.Proofs.YtmeckcaekkangaaGreat
namespace Go.Proofs.YtmeckcaekkangaaGreat
set_option maxRecDepth 100000
open Go.RowKit
set_option linter.unusedSimpArgs false
set_option linter.unusedVariables false

theorem Tryz.infoEnt : (Tryz.prog.info? 48).map (fun i => (i.zero, i.size, i.bytes)) = some (some (.agg #[.string ByteArray.empty, .int .i64 0, .int .i64 0, .int .i64 0, .int .i64 0, .int .i64 0, .int .i64 0, .slice none 0 0, .bool false]), 9, 96) := by kernel_rfl

/-- Each entry's text and Hist are no longer than what is measured. -/
def ESize (n : Nat) (X : Nat → Ent) : Prop := ∀ i, i < n → (X i).key.size ≤ 1048576 ∧ (X i).n ≤ 1048576

/-- n entries of the call's own in block b, the first k of them laid, their lists in blocks of their own. -/
structure EOwn (w : World) (b n k : Nat) (X : Nat → Ent) (G : Nat → Nat) : Prop where
  lt : b < w.heap.size
  ent : ∀ i, i < k → EAt w b (i * 9) (X i) (some ⟨G i, 0, none⟩) (X i).n
  data : ∀ i, i < k → b < G i ∧ IOwn w (G i) 0 (X i).n (X i).f
  mono : ∀ i j, i < j → j < k → G i < G j
  there : ∀ j, j < n * 9 → (w.cell? ⟨b, j, none⟩).isSome = true
  free : ∀ j, j < n * 9 → w.frozen? ⟨b, j, none⟩ = false
section
variable {w w' : World} {b n k : Nat} {X : Nat → Ent} {G : Nat → Nat}
theorem EOwn.row (h : EOwn w b n n X G) (hbd : ∀ i, i < n → EB (X i)) : ERow w (some ⟨b, 0, none⟩) n X :=
  ⟨hbd, .inr ⟨b, 0, rfl, h.lt, fun i hi => ⟨_, _, by rw [Nat.zero_add]; exact h.ent i hi, (h.data i hi).2.row⟩⟩⟩
theorem EOwn.keep (h : EOwn w b n k X G) (hb : Below w.heap.size w w') : EOwn w' b n k X G :=
  ⟨Nat.lt_of_lt_of_le h.lt hb.size, fun i hi => (h.ent i hi).keep hb, fun i hi => ⟨(h.data i hi).1, (h.data i hi).2.keep hb⟩, h.mono,
    fun j hj => by rw [hb.cell (p := ⟨b, j, none⟩) h.lt]; exact h.there j hj, fun j hj => (hb.frozen (p := ⟨b, j, none⟩) h.lt).trans (h.free j hj)⟩
end
theorem setCells_others (b : Nat) : ∀ (vs : List Value) (o : Nat) (w : World), Others b w (w.setCells b o vs)
  | [], _, _ => Others.refl _ _
  | v :: r, o, w => (Others.setCell w b o v).trans (setCells_others b r (o + 1) _)

set_option maxRecDepth 10000 in
theorem EOwn.store {w : World} {b n k : Nat} {X : Nat → Ent} {G : Nat → Nat} (h : EOwn w b n k X G) (hk : k < n) {g : Nat} (ho : IOwn w g 0 (X k).n (X k).f) (hg : b < g) (hm : ∀ i, i < k → G i < g) :
    EOwn (w.setCells b (k * 9) [.string (X k).key, .int .i64 (X k).seq, .int .i64 (X k).kind, .int .i64 (X k).c, .int .i64 (X k).s, .int .i64 (X k).lo, .int .i64 (X k).hi, .slice (some ⟨g, 0, none⟩) (X k).n (X k).n, .bool (X k).fu]) b n (k + 1) X (fun i => if i = k then g else G i) := by
  generalize hL : ([.string (X k).key, .int .i64 (X k).seq, .int .i64 (X k).kind, .int .i64 (X k).c, .int .i64 (X k).s, .int .i64 (X k).lo, .int .i64 (X k).hi, .slice (some ⟨g, 0, none⟩) (X k).n (X k).n, .bool (X k).fu] : List Value) = L
  have hlen : L.length = 9 := by rw [← hL]; rfl
  have hoth := setCells_others b L (k * 9) w
  have hin := World.cell?_setCells_in b L (k * 9) w (fun j hj => h.there _ (by omega))
  have hout : ∀ j, j < k * 9 ∨ k * 9 + 9 ≤ j → (w.setCells b (k * 9) L).cell? ⟨b, j, none⟩ = w.cell? ⟨b, j, none⟩ := fun j hj => World.cell?_setCells_out b L (k * 9) w ⟨b, j, none⟩ (fun _ _ => by simp only [hlen]; exact hj)
  have hlt : b < (w.setCells b (k * 9) L).heap.size := by rw [hoth.size]; exact h.lt
  refine ⟨hlt, fun i hi => ?_, fun i hi => ?_, fun i j hij hj => ?_, fun j hj => ?_, fun j hj => by rw [World.frozen?_setCells]; exact h.free j hj⟩
  · by_cases e : i = k
    · subst e
      simp only [if_true]
      subst hL
      exact ⟨hlt, hin 0 (by simp), hin 1 (by simp), hin 2 (by simp), hin 3 (by simp), hin 4 (by simp), hin 5 (by simp), hin 6 (by simp), hin 7 (by simp), hin 8 (by simp)⟩
    · simp only [e, if_false]
      have h0 := h.ent i (by omega)
      have c : ∀ q, q < 9 → (w.setCells b (k * 9) L).cell? ⟨b, i * 9 + q, none⟩ = w.cell? ⟨b, i * 9 + q, none⟩ := fun q hq => hout _ (by omega)
      exact ⟨hlt, (c 0 (by omega)).trans h0.c0, (c 1 (by omega)).trans h0.c1, (c 2 (by omega)).trans h0.c2, (c 3 (by omega)).trans h0.c3, (c 4 (by omega)).trans h0.c4, (c 5 (by omega)).trans h0.c5, (c 6 (by omega)).trans h0.c6, (c 7 (by omega)).trans h0.c7, (c 8 (by omega)).trans h0.c8⟩
  · by_cases e : i = k
    · subst e
      simp only [if_true]
      exact ⟨hg, hoth.irow ho (by omega)⟩
    · simp only [e, if_false]
      have := h.data i (by omega)
      exact ⟨this.1, hoth.irow this.2 (by omega)⟩
  · by_cases e : j = k
    · subst e
      simp only [if_true, show ¬ i = j by omega, if_false]
      exact hm i hij
    · simp only [e, show ¬ i = k by omega, if_false]
      exact h.mono i j hij (by omega)
  · by_cases hj2 : j < k * 9 ∨ k * 9 + 9 ≤ j
    · rw [hout j hj2]; exact h.there j hj
    · obtain ⟨q, rfl⟩ : ∃ q, j = k * 9 + q := ⟨j - k * 9, by omega⟩
      rw [hin q (by omega)]
      rfl

end Go.Proofs.YtmeckcaekkangaaGreat
