/- A map of files, written and struck by name. -/
import Derived.Test.YtgedpjabjoodjaaDoorTell
import Derived.Test.YtgedpjabjoodjaaDoorFind
namespace Go.Proofs.YtgedpjabjoodjaaDoor
open Go.RowKit
open Go.ChangeMaps (setBlock)
set_option linter.unusedSimpArgs false
set_option linter.unusedVariables false

theorem set_same {α : Type} : ∀ (l : List α) (j : Nat) (a : α), l[j]? = some a → l.set j a = l
  | [], _, _, h => by simp at h
  | b :: l, 0, a, h => by simp at h; subst h; rfl
  | b :: l, j + 1, a, h => by simp at h; simp [set_same l j a h]
theorem nodup_at {α : Type} {l : List α} (h : l.Nodup) {i j : Nat} {a : α} (hi : l[i]? = some a) (hj : l[j]? = some a) : i = j := by
  obtain ⟨h1, e1⟩ := List.getElem?_eq_some_iff.1 hi
  obtain ⟨h2, e2⟩ := List.getElem?_eq_some_iff.1 hj
  have hp := List.pairwise_iff_getElem.1 h
  rcases Nat.lt_trichotomy i j with g | g | g
  · exact absurd (e1.trans e2.symm) (hp i j h1 h2 g)
  · exact g
  · exact absurd (e2.trans e1.symm) (hp j i h2 h1 g)
theorem heap_setBlock (w : World) (r : Nat) (o : Obj) (h : r < w.heap.size) : (setBlock w r o).heap[r]? = some o := by simp [setBlock, h]
theorem heap_setBlock_ne (w : World) (r : Nat) (o : Obj) {k : Nat} (h : k ≠ r) : (setBlock w r o).heap[k]? = w.heap[k]? := by simp [setBlock, Ne.symm h]
theorem size_setBlock (w : World) (r : Nat) (o : Obj) : (setBlock w r o).heap.size = w.heap.size := by simp [setBlock]
theorem below_setBlock {B r : Nat} {w w' : World} (h : Below B w w') (hr : B ≤ r) (o : Obj) : Below B w (setBlock w' r o) :=
  ⟨h.os, h.tape, h.output, by rw [size_setBlock]; exact h.size, fun k hk => (heap_setBlock_ne w' r o (by omega)).trans (h.block k hk)⟩
theorem esOf_keys (L : List (FT × Nat)) : ∀ x ∈ (esOf L).toList, MapKept.IsKey .string x.key := fun x hx => by
  obtain ⟨p, _, rfl⟩ := mem_esOf hx
  simp [mkE, MapKept.IsKey]
/-- Where the name is found. -/
theorem find_at {P : Program} {w : World} {L : List (FT × Nat)} {bm clock j : Nat} {p : FT × Nat} (hM : MHas w bm L clock) (hj : L[j]? = some p) {s : ByteArray} (hs : s = p.1.1) : ∃ v, Instr.findNow .string (.string s) (esOf L).toList 0 = some (some (j, v)) := by
  have hk : MapKept.IsKey .string (.string s) := by simp [MapKept.IsKey]
  have hp : p ∈ L := List.mem_of_getElem? hj
  rcases MapKept.findNow_spec hk (esOf L).toList 0 (esOf_keys L) with ⟨_, h2⟩ | ⟨i, e, h1, h2, h3⟩
  · exact absurd (by rw [hs]; rfl) (h2 (mkE p) (by simp only [esOf, List.mem_map]; exact ⟨p, hp, rfl⟩))
  · refine ⟨e.val, ?_⟩
    have hi : (esOf L).toList[i]? = (L[i]?).map mkE := by simp [esOf]
    rw [hi] at h2
    obtain ⟨q, hq, rfl⟩ := Option.map_eq_some_iff.1 h2
    have e1 : q.1.1 = s := by
      have : (mkE q).key = .string q.1.1 := rfl
      rw [this] at h3
      injection h3
    have : i = j := nodup_at hM.names (a := s) (by rw [List.getElem?_map, hq]; exact congrArg some e1) (by rw [List.getElem?_map, hj]; exact congrArg some hs.symm)
    subst this
    rw [h1, Nat.zero_add]
theorem upd_old {P : Program} {mty kt et : TypeId} {w : World} {L : List (FT × Nat)} {bm clock j : Nat} {p : FT × Nat} (hm : P.underlying mty = some (.map kt et)) (hd : P.underlying kt = some .string) (hM : MHas w bm L clock) (hj : L[j]? = some p) (x : FT) (hx : x.1 = p.1.1) :
    (Instr.mapUpdate mty (.map (some bm)) (.string x.1) (fval x)).run P w = .ok () (setBlock w bm (.map (esOf (L.set j (x, p.2))) clock)) := by
  have hk : MapKept.IsKey .string (.string x.1) := by simp [MapKept.IsKey]
  obtain ⟨v, h1⟩ := find_at (P := P) hM hj hx
  have hek : ((esOf L)[j]?.map (·.key)).getD (.string x.1) = .string x.1 := by simp [esOf, hj, mkE, hx]
  have hes : (esOf L).modify j (fun e => { e with key := .string x.1, val := fval x }) = esOf (L.set j (x, p.2)) := by
    apply Array.ext_getElem?
    intro i
    rw [Array.getElem?_modify]
    simp only [esOf, List.getElem?_toArray, List.getElem?_map, List.getElem?_set]
    by_cases e : j = i
    · subst e
      obtain ⟨hl, he⟩ := List.getElem?_eq_some_iff.1 hj
      simp [hl, mkE, he]
    · simp [e]
  simp [Instr.mapUpdate, run_underlying hm, MapKept.run_getObj_map hM.map, MapKept.run_checkKey hd hk, MapKept.run_findKey hd h1, hek, MapKept.run_keyThatStays hk, MapKept.run_setObj_map _ hM.map, Result.andThen, setBlock, hes]
theorem MHas.upd {w wX : World} {L : List (FT × Nat)} {bm clock j : Nat} {p : FT × Nat} (hM : MHas w bm L clock) (hj : L[j]? = some p) (x : FT) (hx : x.1 = p.1.1) (hlt : bm < wX.heap.size) : MHas (setBlock wX bm (.map (esOf (L.set j (x, p.2))) clock)) bm (L.set j (x, p.2)) clock := by
  refine ⟨heap_setBlock _ _ _ hlt, ?_, ?_, ?_⟩
  · rw [List.map_set, set_same _ _ _ (by rw [List.getElem?_map, hj]; rfl)]
    exact hM.born
  · intro q hq
    rcases List.mem_or_eq_of_mem_set hq with h | h
    · exact hM.old q h
    · rw [h]; exact hM.old p (List.mem_of_getElem? hj)
  · rw [List.map_set, set_same _ _ _ (by rw [List.getElem?_map, hj]; exact congrArg some hx.symm)]
    exact hM.names
end Go.Proofs.YtgedpjabjoodjaaDoor
