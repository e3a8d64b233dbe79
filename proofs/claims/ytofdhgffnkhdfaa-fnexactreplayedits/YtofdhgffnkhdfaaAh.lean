/- A row with one put in between, as a list. -/
import Derived.Test.YtofdhgffnkhdfaaAf
namespace Go.Proofs.Ytofdhgffnkhdfaa
open Go.RowKit
set_option linter.unusedSimpArgs false
set_option linter.unusedVariables false

/-- x put in ahead of the i-th. -/
def putAt (L : List Met) (i : Nat) (x : Met) : List Met := L.take i ++ x :: L.drop i
theorem putAt_len {L : List Met} {i : Nat} {x : Met} (h : i ≤ L.length) : (putAt L i x).length = L.length + 1 := by
  simp [putAt]; omega
theorem putAt_end (L : List Met) (x : Met) : putAt L L.length x = L ++ [x] := by simp [putAt]
theorem mf_take (L : List Met) (i : Nat) (h : i ≤ L.length) : (L.take i).flatMap mc = (L.flatMap mc).take (i * 4) ∧ (L.drop i).flatMap mc = (L.flatMap mc).drop (i * 4) := by
  have e : L.flatMap mc = (L.take i).flatMap mc ++ (L.drop i).flatMap mc := by
    rw [← List.flatMap_append, List.take_append_drop]
  have hl : ((L.take i).flatMap mc).length = i * 4 := by rw [mf_len, List.length_take]; congr 1; omega
  rw [e]
  exact ⟨(List.take_left' hl).symm, (List.drop_left' hl).symm⟩
theorem mf_put (L : List Met) (i : Nat) (x : Met) (h : i ≤ L.length) : (putAt L i x).flatMap mc = (L.flatMap mc).take (i * 4) ++ (mc x ++ (L.flatMap mc).drop (i * 4)) := by
  obtain ⟨h1, h2⟩ := mf_take L i h
  rw [putAt, List.flatMap_append, List.flatMap_cons, h1, h2]

theorem own_of_cells {w : World} {base g cap : Nat} {cur : Array Value} {L : List Met} (hb : base ≤ g) (hg : w.heap[g]? = some (.cells cur 65 (0, 0))) (hs : cur.size = cap * 4) (hn : L.length ≤ cap) (hm : cap ≤ maxLen) (hbd : ∀ x ∈ L, MB x)
    (hc : ∀ j v, (L.flatMap mc)[j]? = some v → w.cell? ⟨g, j, none⟩ = some v) : OwnM w base (.slice (some ⟨g, 0, none⟩) L.length cap) L := by
  refine ⟨hbd, mf_len L, .inr ⟨g, cap, cur, rfl, hb, hg, hn, hm, hs, ?_⟩⟩
  apply List.ext_getElem?
  intro j
  rw [List.getElem?_take]
  split
  · next h =>
    have hj : j < (L.flatMap mc).length := by rw [mf_len]; exact h
    have h1 := hc j _ (List.getElem?_eq_getElem hj)
    rw [List.getElem?_eq_getElem hj, ← h1]
    simp [World.cell?, hg]
  · next h =>
    rw [List.getElem?_eq_none (by rw [mf_len]; omega)]

theorem setCells_heap (g : Nat) (e : TypeId) : ∀ (vs : List Value) (o : Nat) (w : World) (cur : Array Value), w.heap[g]? = some (.cells cur e (0, 0)) → ∃ cur', (w.setCells g o vs).heap[g]? = some (.cells cur' e (0, 0)) ∧ cur'.size = cur.size
  | [], o, w, cur, h => ⟨cur, h, rfl⟩
  | v :: vs, o, w, cur, h => by
    obtain ⟨cur', h1, h2⟩ := setCells_heap g e vs (o + 1) (w.setCell ⟨g, o, none⟩ v) (cur.setIfInBounds o v) (heap_setCell_same w g o cur e v h)
    exact ⟨cur', h1, by rw [h2]; simp⟩

theorem lay3 {W : World} {B i n : Nat} {cs vs : List Value} (hvl : vs.length = 4) (hcl : cs.length = n * 4) (hi : i ≤ n)
    (hA : ∀ j v, j < i * 4 → cs[j]? = some v → W.cell? ⟨B, j, none⟩ = some v) (hV : ∀ j v, vs[j]? = some v → W.cell? ⟨B, i * 4 + j, none⟩ = some v) (hC : ∀ j v, (cs.drop (i * 4))[j]? = some v → W.cell? ⟨B, (i + 1) * 4 + j, none⟩ = some v) :
    ∀ j v, (cs.take (i * 4) ++ (vs ++ cs.drop (i * 4)))[j]? = some v → W.cell? ⟨B, j, none⟩ = some v := by
  intro j v hj
  have hl : (cs.take (i * 4)).length = i * 4 := by rw [List.length_take, hcl]; omega
  by_cases h1 : j < i * 4
  · rw [List.getElem?_append_left (by omega), List.getElem?_take, if_pos h1] at hj
    exact hA j v h1 hj
  · rw [List.getElem?_append_right (by omega), hl] at hj
    by_cases h2 : j - i * 4 < 4
    · rw [List.getElem?_append_left (by omega)] at hj
      have := hV _ v hj
      rwa [show i * 4 + (j - i * 4) = j by omega] at this
    · rw [List.getElem?_append_right (by omega), hvl] at hj
      have := hC _ v hj
      rwa [show (i + 1) * 4 + (j - i * 4 - 4) = j by omega] at this
end Go.Proofs.Ytofdhgffnkhdfaa
