/- A file looked for by its name: in the map, in the list. / A map of files, written and struck by name. -/
import Derived.Test.YtapmbgmmonhdoaaGreatDoorDiskN
import Derived.Test.YtapmbgmmonhdoaaGreatDoorTellN
namespace Go.Proofs.YtapmbgmmonhdoaaGreatDoor
set_option maxRecDepth 100000
open Go.RowKit
set_option linter.unusedSimpArgs false
set_option linter.unusedVariables false

section
variable {P : Program} {w : World} {mty kt et : TypeId} {r : Nat} {es : Array MapEntry} {clock : Nat}
theorem run_lookup_hit {s : ByteArray} (hm : P.underlying mty = some (.map kt et)) (hd : P.underlying kt = some .string) (hb : w.heap[r]? = some (.map es clock)) (hks : ∀ x ∈ es.toList, MapKept.IsKey .string x.key) {v : Value} (hv : ∀ x ∈ es.toList, x.key = .string s → x.val = v) (hex : ∃ x ∈ es.toList, x.key = .string s) :
    (Instr.lookup mty (.map (some r)) (.string s) true).run P w = .ok (.tuple #[v, .bool true]) w := by
  have hk : MapKept.IsKey .string (.string s) := by simp [MapKept.IsKey]
  rcases MapKept.findNow_spec hk es.toList 0 hks with ⟨h1, h2⟩ | ⟨j, e, h1, h2, h3⟩
  · obtain ⟨x, hx, he⟩ := hex
    exact absurd he (h2 x hx)
  · have := hv e (List.mem_of_getElem? h2) h3
    subst this
    simp [Instr.lookup, run_underlying hm, MapKept.run_getObj_map hb, MapKept.run_checkKey hd hk, MapKept.run_findKey hd h1, Result.andThen]
theorem run_lookup_miss {s : ByteArray} (hm : P.underlying mty = some (.map kt et)) (hd : P.underlying kt = some .string) (hb : w.heap[r]? = some (.map es clock)) (hks : ∀ x ∈ es.toList, MapKept.IsKey .string x.key) (hne : ∀ x ∈ es.toList, x.key ≠ .string s) {z : Value} (hz : (zeroValue et).run P w = .ok z w) :
    (Instr.lookup mty (.map (some r)) (.string s) true).run P w = .ok (.tuple #[z, .bool false]) w := by
  have hk : MapKept.IsKey .string (.string s) := by simp [MapKept.IsKey]
  rcases MapKept.findNow_spec hk es.toList 0 hks with ⟨h1, h2⟩ | ⟨j, e, h1, h2, h3⟩
  · simp [Instr.lookup, run_underlying hm, MapKept.run_getObj_map hb, MapKept.run_checkKey hd hk, MapKept.run_findKey hd h1, hz, Result.andThen]
  · exact absurd h3 (hne e (List.mem_of_getElem? h2))
end

theorem names_inj {F : Nat → Fil} {n : Nat} (h : ∀ i, i < n → fileOk F i = true) {i j : Nat} (hi : i < n) (hj : j < n) (e : (F i).nm = (F j).nm) : i = j := by
  rcases Nat.lt_trichotomy i j with g | g | g
  · exact absurd e (names_ne h g hj)
  · exact g
  · exact absurd e.symm (names_ne h g hi)

theorem Tryz.zeroFile (w : World) : (zeroValue 40).run Tryz.prog w = .ok (.agg #[.string ⟨#[]⟩, .slice none 0 0, .int .i64 0]) w := by kernel_rfl

set_option maxHeartbeats 1000000 in
theorem find_hit (Q : Int) (bm n : Nat) (F : Nat → Fil) (S : Nat → Value) (j : Nat) (hj : j < n) (HK : Hid (∀ i, i < n → fileOk F i = true)) (w : World) (hb : w.heap[bm]? = some (.map (ents F S n) n)) (da : Option Addr) (dc : Nat) (hS : S j = .slice da (F j).len dc) :
    Calls Tryz.prog 81 #[.agg #[.int .i64 Q, .map (some bm)], .string (F j).nm] w fun e w' => e = .returned (.tuple #[.agg #[.string (F j).nm, .slice da (F j).len dc, .int .i64 (F j).sy], .nilIface]) ∧ Below w.heap.size w w' := by
  have hlt : bm < w.heap.size := (Array.getElem?_eq_some_iff.1 hb).1
  have hb2 : ((w.alloc (.cells #[.int .i64 Q, .map (some bm)] 68)).alloc (.cells #[.string ⟨#[]⟩, .slice none 0 0, .int .i64 0] 40)).heap[bm]? = some (.map (ents F S n) n) := (heap_alloc_old _ _ (by simp; omega)).trans ((heap_alloc_old _ _ hlt).trans hb)
  have hlk := run_lookup_hit (P := Tryz.prog) (mty := 66) (kt := 9) (et := 40) (s := (F j).nm) Tryz.underlying66 Tryz.underlying9 hb2 ents_keys (v := .agg #[.string (F j).nm, S j, .int .i64 (F j).sy]) (fun x hx he => by
    obtain ⟨i, hi, rfl⟩ := mem_ents hx
    simp only [ent, Value.string.injEq] at he
    have := names_inj HK.out hi hj he
    subst this
    rfl) ⟨ent F S j, by simp only [ents, List.mem_map, List.mem_range]; exact ⟨j, hj, rfl⟩, rfl⟩
  rw [hS] at hlk
  clear hb hb2 hS
  go_enter Tryz.func81, Tryz.ntmps81
  go_wp2
  refine bodyPost_ret (v := .tuple #[.agg #[.string (F j).nm, .slice da (F j).len dc, .int .i64 (F j).sy], .nilIface]) (by simp [results, Tryz.results81, go_sem]) rfl ⟨rfl, ?_⟩
  exact (((Below.refl _ _).alloc (Nat.le_refl _) _).alloc (by simp) _).alloc (by simp; omega) _

set_option maxHeartbeats 1000000 in
theorem find_miss (Q : Int) (bm n : Nat) (F : Nat → Fil) (S : Nat → Value) (s : ByteArray) (hs : ∀ j, j < n → (F j).nm ≠ s) (w : World) (hb : w.heap[bm]? = some (.map (ents F S n) n)) :
    Calls Tryz.prog 81 #[.agg #[.int .i64 Q, .map (some bm)], .string s] w fun e w' => e = .returned (.tuple #[.agg #[.string ⟨#[]⟩, .slice none 0 0, .int .i64 0], .iface 94 (.agg #[.string s, .int .i64 2])]) ∧ Below w.heap.size w w' := by
  have hlt : bm < w.heap.size := (Array.getElem?_eq_some_iff.1 hb).1
  have hb2 : ((w.alloc (.cells #[.int .i64 Q, .map (some bm)] 68)).alloc (.cells #[.string ⟨#[]⟩, .slice none 0 0, .int .i64 0] 40)).heap[bm]? = some (.map (ents F S n) n) := (heap_alloc_old _ _ (by simp; omega)).trans ((heap_alloc_old _ _ hlt).trans hb)
  have hlk := run_lookup_miss (P := Tryz.prog) (mty := 66) (kt := 9) (et := 40) (s := s) Tryz.underlying66 Tryz.underlying9 hb2 ents_keys (fun x hx he => by
    obtain ⟨i, hi, rfl⟩ := mem_ents hx
    simp only [ent, Value.string.injEq] at he
    exact hs i hi he) (Tryz.zeroFile _)
  clear hb hb2 hs
  go_enter Tryz.func81, Tryz.ntmps81
  go_wp2
  refine bodyPost_ret (v := .tuple #[.agg #[.string ⟨#[]⟩, .slice none 0 0, .int .i64 0], .iface 94 (.agg #[.string s, .int .i64 2])]) (by simp [results, Tryz.results81, go_sem]) rfl ⟨rfl, ?_⟩
  exact (((Below.refl _ _).alloc (Nat.le_refl _) _).alloc (by simp) _).alloc (by simp; omega) _

/-- Where the name stands first: its place, or below 0. -/
structure AtN (F : Nat → Fil) (n : Nat) (s : ByteArray) (v : Int) : Prop where
  hit : 0 ≤ v → v.toNat < n ∧ (F v.toNat).nm = s
  miss : v < 0 → ∀ j, j < n → (F j).nm ≠ s
  low : -1 ≤ v
  up : v ≤ (n : Int)

end Go.Proofs.YtapmbgmmonhdoaaGreatDoor
namespace Go.Proofs.YtapmbgmmonhdoaaGreatDoor
set_option maxRecDepth 100000
open Go.RowKit
open Go.ChangeMaps (setBlock)
set_option linter.unusedSimpArgs false
set_option linter.unusedVariables false

theorem set_same {α : Type} : ∀ (l : List α) (j : Nat) (a : α), l[j]? = some a → l.set j a = l
  | [], _, _, h => by simp at h
  | b :: l, 0, a, h => by simp at h; subst h; rfl
  | b :: l, j + 1, a, h => by simp at h; simp [set_same l j a h]
theorem nodup_at {α : Type} {l : List α} (h : l.Nodup) {i j : Nat} {a : α} (hi : l[i]? = some a) (hj : l[j]? = some a) : i = j := by
  obtain ⟨h1, e1⟩ := List.getElem?_eq_some_iff.1 hi
  obtain ⟨h2, e2⟩ := List.getElem?_eq_some_iff.1 hj
  have hp := List.pairwise_iff_getElem.1 h
  rcases Nat.lt_trichotomy i j with g | g | g
  · exact absurd (e1.trans e2.symm) (hp i j h1 h2 g)
  · exact g
  · exact absurd (e2.trans e1.symm) (hp j i h2 h1 g)
theorem heap_setBlock (w : World) (r : Nat) (o : Obj) (h : r < w.heap.size) : (setBlock w r o).heap[r]? = some o := by simp [setBlock, h]
theorem heap_setBlock_ne (w : World) (r : Nat) (o : Obj) {k : Nat} (h : k ≠ r) : (setBlock w r o).heap[k]? = w.heap[k]? := by simp [setBlock, Ne.symm h]
theorem size_setBlock (w : World) (r : Nat) (o : Obj) : (setBlock w r o).heap.size = w.heap.size := by simp [setBlock]
theorem below_setBlock {B r : Nat} {w w' : World} (h : Below B w w') (hr : B ≤ r) (o : Obj) : Below B w (setBlock w' r o) :=
  ⟨h.os, h.tape, h.output, by rw [size_setBlock]; exact h.size, fun k hk => (heap_setBlock_ne w' r o (by omega)).trans (h.block k hk)⟩
theorem esOf_keys (L : List (FT × Nat)) : ∀ x ∈ (esOf L).toList, MapKept.IsKey .string x.key := fun x hx => by
  obtain ⟨p, _, rfl⟩ := mem_esOf hx
  simp [mkE, MapKept.IsKey]
/-- Where the name is found. -/
theorem find_at {P : Program} {w : World} {L : List (FT × Nat)} {bm clock j : Nat} {p : FT × Nat} (hM : MHas w bm L clock) (hj : L[j]? = some p) {s : ByteArray} (hs : s = p.1.1) : ∃ v, Instr.findNow .string (.string s) (esOf L).toList 0 = some (some (j, v)) := by
  have hk : MapKept.IsKey .string (.string s) := by simp [MapKept.IsKey]
  have hp : p ∈ L := List.mem_of_getElem? hj
  rcases MapKept.findNow_spec hk (esOf L).toList 0 (esOf_keys L) with ⟨_, h2⟩ | ⟨i, e, h1, h2, h3⟩
  · exact absurd (by rw [hs]; rfl) (h2 (mkE p) (by simp only [esOf, List.mem_map]; exact ⟨p, hp, rfl⟩))
  · refine ⟨e.val, ?_⟩
    have hi : (esOf L).toList[i]? = (L[i]?).map mkE := by simp [esOf]
    rw [hi] at h2
    obtain ⟨q, hq, rfl⟩ := Option.map_eq_some_iff.1 h2
    have e1 : q.1.1 = s := by
      have : (mkE q).key = .string q.1.1 := rfl
      rw [this] at h3
      injection h3
    have : i = j := nodup_at hM.names (a := s) (by rw [List.getElem?_map, hq]; exact congrArg some e1) (by rw [List.getElem?_map, hj]; exact congrArg some hs.symm)
    subst this
    rw [h1, Nat.zero_add]
theorem upd_old {P : Program} {mty kt et : TypeId} {w : World} {L : List (FT × Nat)} {bm clock j : Nat} {p : FT × Nat} (hm : P.underlying mty = some (.map kt et)) (hd : P.underlying kt = some .string) (hM : MHas w bm L clock) (hj : L[j]? = some p) (x : FT) (hx : x.1 = p.1.1) :
    (Instr.mapUpdate mty (.map (some bm)) (.string x.1) (fval x)).run P w = .ok () (setBlock w bm (.map (esOf (L.set j (x, p.2))) clock)) := by
  have hk : MapKept.IsKey .string (.string x.1) := by simp [MapKept.IsKey]
  obtain ⟨v, h1⟩ := find_at (P := P) hM hj hx
  have hek : ((esOf L)[j]?.map (·.key)).getD (.string x.1) = .string x.1 := by simp [esOf, hj, mkE, hx]
  have hes : (esOf L).modify j (fun e => { e with key := .string x.1, val := fval x }) = esOf (L.set j (x, p.2)) := by
    apply Array.ext_getElem?
    intro i
    rw [Array.getElem?_modify]
    simp only [esOf, List.getElem?_toArray, List.getElem?_map, List.getElem?_set]
    by_cases e : j = i
    · subst e
      obtain ⟨hl, he⟩ := List.getElem?_eq_some_iff.1 hj
      simp [hl, mkE, he]
    · simp [e]
  simp [Instr.mapUpdate, run_underlying hm, MapKept.run_getObj_map hM.map, MapKept.run_checkKey hd hk, MapKept.run_findKey hd h1, hek, MapKept.run_keyThatStays hk, MapKept.run_setObj_map _ hM.map, Result.andThen, setBlock, hes]
theorem MHas.upd {w wX : World} {L : List (FT × Nat)} {bm clock j : Nat} {p : FT × Nat} (hM : MHas w bm L clock) (hj : L[j]? = some p) (x : FT) (hx : x.1 = p.1.1) (hlt : bm < wX.heap.size) : MHas (setBlock wX bm (.map (esOf (L.set j (x, p.2))) clock)) bm (L.set j (x, p.2)) clock := by
  refine ⟨heap_setBlock _ _ _ hlt, ?_, ?_, ?_⟩
  · rw [List.map_set, set_same _ _ _ (by rw [List.getElem?_map, hj]; rfl)]
    exact hM.born
  · intro q hq
    rcases List.mem_or_eq_of_mem_set hq with h | h
    · exact hM.old q h
    · rw [h]; exact hM.old p (List.mem_of_getElem? hj)
  · rw [List.map_set, set_same _ _ _ (by rw [List.getElem?_map, hj]; exact congrArg some hx.symm)]
    exact hM.names
end Go.Proofs.YtapmbgmmonhdoaaGreatDoor
