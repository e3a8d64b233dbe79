/- A map of files, written and struck by name. / slices.SortFunc of the library, found again at the files (for the Door alone). -/
import Derived.Test.YtgedpjabjoodjaaDoorTell
import Derived.Test.YtgedpjabjoodjaaDoorFind
import Derived.Shelf.SlSortCmp.WholeK
import Derived.Test.YtgedpjabjoodjaaDoorProg
namespace Go.Proofs.YtgedpjabjoodjaaDoor
open Go.RowKit
open Go.ChangeMaps (setBlock)
set_option linter.unusedSimpArgs false
set_option linter.unusedVariables false

theorem set_same {α : Type} : ∀ (l : List α) (j : Nat) (a : α), l[j]? = some a → l.set j a = l
  | [], _, _, h => by simp at h
  | b :: l, 0, a, h => by simp at h; subst h; rfl
  | b :: l, j + 1, a, h => by simp at h; simp [set_same l j a h]
theorem nodup_at {α : Type} {l : List α} (h : l.Nodup) {i j : Nat} {a : α} (hi : l[i]? = some a) (hj : l[j]? = some a) : i = j := by
  obtain ⟨h1, e1⟩ := List.getElem?_eq_some_iff.1 hi
  obtain ⟨h2, e2⟩ := List.getElem?_eq_some_iff.1 hj
  have hp := List.pairwise_iff_getElem.1 h
  rcases Nat.lt_trichotomy i j with g | g | g
  · exact absurd (e1.trans e2.symm) (hp i j h1 h2 g)
  · exact g
  · exact absurd (e2.trans e1.symm) (hp j i h2 h1 g)
theorem heap_setBlock (w : World) (r : Nat) (o : Obj) (h : r < w.heap.size) : (setBlock w r o).heap[r]? = some o := by simp [setBlock, h]
theorem heap_setBlock_ne (w : World) (r : Nat) (o : Obj) {k : Nat} (h : k ≠ r) : (setBlock w r o).heap[k]? = w.heap[k]? := by simp [setBlock, Ne.symm h]
theorem size_setBlock (w : World) (r : Nat) (o : Obj) : (setBlock w r o).heap.size = w.heap.size := by simp [setBlock]
theorem below_setBlock {B r : Nat} {w w' : World} (h : Below B w w') (hr : B ≤ r) (o : Obj) : Below B w (setBlock w' r o) :=
  ⟨h.os, h.tape, h.output, by rw [size_setBlock]; exact h.size, fun k hk => (heap_setBlock_ne w' r o (by omega)).trans (h.block k hk)⟩
theorem esOf_keys (L : List (FT × Nat)) : ∀ x ∈ (esOf L).toList, MapKept.IsKey .string x.key := fun x hx => by
  obtain ⟨p, _, rfl⟩ := mem_esOf hx
  simp [mkE, MapKept.IsKey]
/-- Where the name is found. -/
theorem find_at {P : Program} {w : World} {L : List (FT × Nat)} {bm clock j : Nat} {p : FT × Nat} (hM : MHas w bm L clock) (hj : L[j]? = some p) {s : ByteArray} (hs : s = p.1.1) : ∃ v, Instr.findNow .string (.string s) (esOf L).toList 0 = some (some (j, v)) := by
  have hk : MapKept.IsKey .string (.string s) := by simp [MapKept.IsKey]
  have hp : p ∈ L := List.mem_of_getElem? hj
  rcases MapKept.findNow_spec hk (esOf L).toList 0 (esOf_keys L) with ⟨_, h2⟩ | ⟨i, e, h1, h2, h3⟩
  · exact absurd (by rw [hs]; rfl) (h2 (mkE p) (by simp only [esOf, List.mem_map]; exact ⟨p, hp, rfl⟩))
  · refine ⟨e.val, ?_⟩
    have hi : (esOf L).toList[i]? = (L[i]?).map mkE := by simp [esOf]
    rw [hi] at h2
    obtain ⟨q, hq, rfl⟩ := Option.map_eq_some_iff.1 h2
    have e1 : q.1.1 = s := by
      have : (mkE q).key = .string q.1.1 := rfl
      rw [this] at h3
      injection h3
    have : i = j := nodup_at hM.names (a := s) (by rw [List.getElem?_map, hq]; exact congrArg some e1) (by rw [List.getElem?_map, hj]; exact congrArg some hs.symm)
    subst this
    rw [h1, Nat.zero_add]
theorem upd_old {P : Program} {mty kt et : TypeId} {w : World} {L : List (FT × Nat)} {bm clock j : Nat} {p : FT × Nat} (hm : P.underlying mty = some (.map kt et)) (hd : P.underlying kt = some .string) (hM : MHas w bm L clock) (hj : L[j]? = some p) (x : FT) (hx : x.1 = p.1.1) :
    (Instr.mapUpdate mty (.map (some bm)) (.string x.1) (fval x)).run P w = .ok () (setBlock w bm (.map (esOf (L.set j (x, p.2))) clock)) := by
  have hk : MapKept.IsKey .string (.string x.1) := by simp [MapKept.IsKey]
  obtain ⟨v, h1⟩ := find_at (P := P) hM hj hx
  have hek : ((esOf L)[j]?.map (·.key)).getD (.string x.1) = .string x.1 := by simp [esOf, hj, mkE, hx]
  have hes : (esOf L).modify j (fun e => { e with key := .string x.1, val := fval x }) = esOf (L.set j (x, p.2)) := by
    apply Array.ext_getElem?
    intro i
    rw [Array.getElem?_modify]
    simp only [esOf, List.getElem?_toArray, List.getElem?_map, List.getElem?_set]
    by_cases e : j = i
    · subst e
      obtain ⟨hl, he⟩ := List.getElem?_eq_some_iff.1 hj
      simp [hl, mkE, he]
    · simp [e]
  simp [Instr.mapUpdate, run_underlying hm, MapKept.run_getObj_map hM.map, MapKept.run_checkKey hd hk, MapKept.run_findKey hd h1, hek, MapKept.run_keyThatStays hk, MapKept.run_setObj_map _ hM.map, Result.andThen, setBlock, hes]
theorem MHas.upd {w wX : World} {L : List (FT × Nat)} {bm clock j : Nat} {p : FT × Nat} (hM : MHas w bm L clock) (hj : L[j]? = some p) (x : FT) (hx : x.1 = p.1.1) (hlt : bm < wX.heap.size) : MHas (setBlock wX bm (.map (esOf (L.set j (x, p.2))) clock)) bm (L.set j (x, p.2)) clock := by
  refine ⟨heap_setBlock _ _ _ hlt, ?_, ?_, ?_⟩
  · rw [List.map_set, set_same _ _ _ (by rw [List.getElem?_map, hj]; rfl)]
    exact hM.born
  · intro q hq
    rcases List.mem_or_eq_of_mem_set hq with h | h
    · exact hM.old q h
    · rw [h]; exact hM.old p (List.mem_of_getElem? hj)
  · rw [List.map_set, set_same _ _ _ (by rw [List.getElem?_map, hj]; exact congrArg some hx.symm)]
    exact hM.names
end Go.Proofs.YtgedpjabjoodjaaDoor
namespace Go.Proofs.YtgedpjabjoodjaaDoor
open Go.Shelf
def sortFile_ren : Go.Shelf.Ren := ⟨fun | 6 => 80 | 15 => 87 | 14 => 86 | 28 => 99 | 29 => 100 | 20 => 91 | 21 => 92 | 22 => 93 | 23 => 94 | 24 => 95 | 25 => 96 | 26 => 97 | 27 => 98 | 46 => 102 | 47 => 103 | 48 => 104 | 49 => 105 | 50 => 106 | 57 => 107 | n => n, fun | 22 => 26 | 24 => 73 | 25 => 107 | 3 => 3 | 39 => 131 | 0 => 0 | 53 => 147 | 55 => 149 | 4 => 4 | 46 => 140 | 45 => 139 | 50 => 144 | 5 => 5 | 9 => 9 | 66 => 150 | 70 => 154 | 76 => 156 | 77 => 157 | n => n, fun | n => n⟩
theorem sortFile : Go.Proofs.SlLaysF0.n6 Tryd.prog sortFile_ren := {
  mixed := by kernel_rfl
  f6 := ⟨Tryd.f80.name, by decide, Tryd.func80.trans (congrArg some (by kernel_rfl))⟩
  f14 := ⟨Tryd.f86.name, by decide, Tryd.func86.trans (congrArg some (by kernel_rfl))⟩
  f15 := Tryd.func87.trans (congrArg some (by kernel_rfl))
  f20 := ⟨Tryd.f91.name, by decide, Tryd.func91.trans (congrArg some (by kernel_rfl))⟩
  f21 := ⟨Tryd.f92.name, by decide, Tryd.func92.trans (congrArg some (by kernel_rfl))⟩
  f22 := ⟨Tryd.f93.name, by decide, Tryd.func93.trans (congrArg some (by kernel_rfl))⟩
  f23 := ⟨Tryd.f94.name, by decide, Tryd.func94.trans (congrArg some (by kernel_rfl))⟩
  f24 := ⟨Tryd.f95.name, by decide, Tryd.func95.trans (congrArg some (by kernel_rfl))⟩
  f25 := ⟨Tryd.f96.name, by decide, Tryd.func96.trans (congrArg some (by kernel_rfl))⟩
  f26 := ⟨Tryd.f97.name, by decide, Tryd.func97.trans (congrArg some (by kernel_rfl))⟩
  f27 := ⟨Tryd.f98.name, by decide, Tryd.func98.trans (congrArg some (by kernel_rfl))⟩
  f28 := Tryd.func99.trans (congrArg some (by kernel_rfl))
  f29 := Tryd.func100.trans (congrArg some (by kernel_rfl))
  f46 := ⟨Tryd.f102.name, by decide, Tryd.func102.trans (congrArg some (by kernel_rfl))⟩
  f47 := Tryd.func103.trans (congrArg some (by kernel_rfl))
  f48 := Tryd.func104.trans (congrArg some (by kernel_rfl))
  f49 := ⟨Tryd.f105.name, by decide, Tryd.func105.trans (congrArg some (by kernel_rfl))⟩
  f50 := ⟨Tryd.f106.name, by decide, Tryd.func106.trans (congrArg some (by kernel_rfl))⟩
  f57 := ⟨Tryd.f107.name, by decide, Tryd.func107.trans (congrArg some (by kernel_rfl))⟩
  t0 := Tryd.underlying0
  a0 := Tryd.isAgg0
  z0 := Tryd.sizeOf0
  v0 := Tryd.zeroValue0
  t3 := Tryd.underlying3
  a3 := Tryd.isAgg3
  z3 := Tryd.sizeOf3
  v3 := Tryd.zeroValue3
  t4 := Tryd.underlying4
  a4 := Tryd.isAgg4
  z4 := Tryd.sizeOf4
  v4 := Tryd.zeroValue4
  t5 := Tryd.underlying5
  a5 := Tryd.isAgg5
  z5 := Tryd.sizeOf5
  v5 := Tryd.zeroValue5
  t9 := Tryd.underlying9
  a9 := Tryd.isAgg9
  z9 := Tryd.sizeOf9
  v9 := Tryd.zeroValue9
  t22 := Tryd.underlying26
  a22 := Tryd.isAgg26
  z22 := Tryd.sizeOf26
  v22 := Tryd.zeroValue26
  t25 := Tryd.underlying107
  a25 := Tryd.isAgg107
  z25 := Tryd.sizeOf107
  v25 := Tryd.zeroValue107
  t39 := Tryd.underlying131
  a39 := Tryd.isAgg131
  z39 := Tryd.sizeOf131
  v39 := Tryd.zeroValue131
  t45 := Tryd.underlying139
  a45 := Tryd.isAgg139
  z45 := Tryd.sizeOf139
  v45 := Tryd.zeroValue139
  t46 := Tryd.underlying140
  a46 := Tryd.isAgg140
  z46 := Tryd.sizeOf140
  v46 := Tryd.zeroValue140
  t50 := Tryd.underlying144
  a50 := Tryd.isAgg144
  z50 := Tryd.sizeOf144
  v50 := Tryd.zeroValue144
  t53 := Tryd.underlying147
  a53 := Tryd.isAgg147
  z53 := Tryd.sizeOf147
  v53 := Tryd.zeroValue147
  t55 := Tryd.underlying149
  a55 := Tryd.isAgg149
  z55 := Tryd.sizeOf149
  v55 := Tryd.zeroValue149
  t66 := Tryd.underlying150
  a66 := Tryd.isAgg150
  z66 := Tryd.sizeOf150
  v66 := Tryd.zeroValue150
  t70 := Tryd.underlying154
  a70 := Tryd.isAgg154
  z70 := Tryd.sizeOf154
  v70 := Tryd.zeroValue154
  t76 := Tryd.underlying156
  a76 := Tryd.isAgg156
  z76 := Tryd.sizeOf156
  v76 := Tryd.zeroValue156
  t77 := Tryd.underlying157
  a77 := Tryd.isAgg157
  z77 := Tryd.sizeOf157
  v77 := Tryd.zeroValue157 }
end Go.Proofs.YtgedpjabjoodjaaDoor
