/- A file looked for by its name: in the map, in the list. -/
import Derived.Test.YtgedpjabjoodjaaDoorDiskN
namespace Go.Proofs.YtgedpjabjoodjaaDoor
open Go.RowKit
set_option linter.unusedSimpArgs false
set_option linter.unusedVariables false

section
variable {P : Program} {w : World} {mty kt et : TypeId} {r : Nat} {es : Array MapEntry} {clock : Nat}
theorem run_lookup_hit {s : ByteArray} (hm : P.underlying mty = some (.map kt et)) (hd : P.underlying kt = some .string) (hb : w.heap[r]? = some (.map es clock)) (hks : ∀ x ∈ es.toList, MapKept.IsKey .string x.key) {v : Value} (hv : ∀ x ∈ es.toList, x.key = .string s → x.val = v) (hex : ∃ x ∈ es.toList, x.key = .string s) :
    (Instr.lookup mty (.map (some r)) (.string s) true).run P w = .ok (.tuple #[v, .bool true]) w := by
  have hk : MapKept.IsKey .string (.string s) := by simp [MapKept.IsKey]
  rcases MapKept.findNow_spec hk es.toList 0 hks with ⟨h1, h2⟩ | ⟨j, e, h1, h2, h3⟩
  · obtain ⟨x, hx, he⟩ := hex
    exact absurd he (h2 x hx)
  · have := hv e (List.mem_of_getElem? h2) h3
    subst this
    simp [Instr.lookup, run_underlying hm, MapKept.run_getObj_map hb, MapKept.run_checkKey hd hk, MapKept.run_findKey hd h1, Result.andThen]
theorem run_lookup_miss {s : ByteArray} (hm : P.underlying mty = some (.map kt et)) (hd : P.underlying kt = some .string) (hb : w.heap[r]? = some (.map es clock)) (hks : ∀ x ∈ es.toList, MapKept.IsKey .string x.key) (hne : ∀ x ∈ es.toList, x.key ≠ .string s) {z : Value} (hz : (zeroValue et).run P w = .ok z w) :
    (Instr.lookup mty (.map (some r)) (.string s) true).run P w = .ok (.tuple #[z, .bool false]) w := by
  have hk : MapKept.IsKey .string (.string s) := by simp [MapKept.IsKey]
  rcases MapKept.findNow_spec hk es.toList 0 hks with ⟨h1, h2⟩ | ⟨j, e, h1, h2, h3⟩
  · simp [Instr.lookup, run_underlying hm, MapKept.run_getObj_map hb, MapKept.run_checkKey hd hk, MapKept.run_findKey hd h1, hz, Result.andThen]
  · exact absurd h3 (hne e (List.mem_of_getElem? h2))
end

theorem names_inj {F : Nat → Fil} {n : Nat} (h : ∀ i, i < n → fileOk F i = true) {i j : Nat} (hi : i < n) (hj : j < n) (e : (F i).nm = (F j).nm) : i = j := by
  rcases Nat.lt_trichotomy i j with g | g | g
  · exact absurd e (names_ne h g hj)
  · exact g
  · exact absurd e.symm (names_ne h g hi)

theorem Tryd.zeroFile (w : World) : (zeroValue 73).run Tryd.prog w = .ok (.agg #[.string ⟨#[]⟩, .slice none 0 0, .int .i64 0]) w := by kernel_rfl

set_option maxHeartbeats 1000000 in
theorem find_hit (Q : Int) (bm n : Nat) (F : Nat → Fil) (S : Nat → Value) (j : Nat) (hj : j < n) (HK : Hid (∀ i, i < n → fileOk F i = true)) (w : World) (hb : w.heap[bm]? = some (.map (ents F S n) n)) (da : Option Addr) (dc : Nat) (hS : S j = .slice da (F j).len dc) :
    Calls Tryd.prog 59 #[.agg #[.int .i64 Q, .map (some bm)], .string (F j).nm] w fun e w' => e = .returned (.tuple #[.agg #[.string (F j).nm, .slice da (F j).len dc, .int .i64 (F j).sy], .nilIface]) ∧ Below w.heap.size w w' := by
  have hlt : bm < w.heap.size := (Array.getElem?_eq_some_iff.1 hb).1
  have hb2 : ((w.alloc (.cells #[.int .i64 Q, .map (some bm)] 60)).alloc (.cells #[.string ⟨#[]⟩, .slice none 0 0, .int .i64 0] 73)).heap[bm]? = some (.map (ents F S n) n) := (heap_alloc_old _ _ (by simp; omega)).trans ((heap_alloc_old _ _ hlt).trans hb)
  have hlk := run_lookup_hit (P := Tryd.prog) (mty := 58) (kt := 9) (et := 73) (s := (F j).nm) Tryd.underlying58 Tryd.underlying9 hb2 ents_keys (v := .agg #[.string (F j).nm, S j, .int .i64 (F j).sy]) (fun x hx he => by
    obtain ⟨i, hi, rfl⟩ := mem_ents hx
    simp only [ent, Value.string.injEq] at he
    have := names_inj HK.out hi hj he
    subst this
    rfl) ⟨ent F S j, by simp only [ents, List.mem_map, List.mem_range]; exact ⟨j, hj, rfl⟩, rfl⟩
  rw [hS] at hlk
  clear hb hb2 hS
  go_enter Tryd.func59, Tryd.ntmps59
  go_wp2
  refine bodyPost_ret (v := .tuple #[.agg #[.string (F j).nm, .slice da (F j).len dc, .int .i64 (F j).sy], .nilIface]) (by simp [results, Tryd.results59, go_sem]) rfl ⟨rfl, ?_⟩
  exact (((Below.refl _ _).alloc (Nat.le_refl _) _).alloc (by simp) _).alloc (by simp; omega) _

set_option maxHeartbeats 1000000 in
theorem find_miss (Q : Int) (bm n : Nat) (F : Nat → Fil) (S : Nat → Value) (s : ByteArray) (hs : ∀ j, j < n → (F j).nm ≠ s) (w : World) (hb : w.heap[bm]? = some (.map (ents F S n) n)) :
    Calls Tryd.prog 59 #[.agg #[.int .i64 Q, .map (some bm)], .string s] w fun e w' => e = .returned (.tuple #[.agg #[.string ⟨#[]⟩, .slice none 0 0, .int .i64 0], .iface 90 (.agg #[.string s, .int .i64 2])]) ∧ Below w.heap.size w w' := by
  have hlt : bm < w.heap.size := (Array.getElem?_eq_some_iff.1 hb).1
  have hb2 : ((w.alloc (.cells #[.int .i64 Q, .map (some bm)] 60)).alloc (.cells #[.string ⟨#[]⟩, .slice none 0 0, .int .i64 0] 73)).heap[bm]? = some (.map (ents F S n) n) := (heap_alloc_old _ _ (by simp; omega)).trans ((heap_alloc_old _ _ hlt).trans hb)
  have hlk := run_lookup_miss (P := Tryd.prog) (mty := 58) (kt := 9) (et := 73) (s := s) Tryd.underlying58 Tryd.underlying9 hb2 ents_keys (fun x hx he => by
    obtain ⟨i, hi, rfl⟩ := mem_ents hx
    simp only [ent, Value.string.injEq] at he
    exact hs i hi he) (Tryd.zeroFile _)
  clear hb hb2 hs
  go_enter Tryd.func59, Tryd.ntmps59
  go_wp2
  refine bodyPost_ret (v := .tuple #[.agg #[.string ⟨#[]⟩, .slice none 0 0, .int .i64 0], .iface 90 (.agg #[.string s, .int .i64 2])]) (by simp [results, Tryd.results59, go_sem]) rfl ⟨rfl, ?_⟩
  exact (((Below.refl _ _).alloc (Nat.le_refl _) _).alloc (by simp) _).alloc (by simp; omega) _

/-- Where the name stands first: its place, or below 0. -/
structure AtN (F : Nat → Fil) (n : Nat) (s : ByteArray) (v : Int) : Prop where
  hit : 0 ≤ v → v.toNat < n ∧ (F v.toNat).nm = s
  miss : v < 0 → ∀ j, j < n → (F j).nm ≠ s
  low : -1 ≤ v
  up : v ≤ (n : Int)

set_option maxHeartbeats 1000000 in
theorem l2At_any (Q : Int) (ao : Option Addr) (n cap : Nat) (F : Nat → Fil) (s : ByteArray) (w : World) (hr : FRow w ao n F) (hn : n ≤ 1048576) :
    Calls Tryd.prog 52 #[.agg #[.int .i64 Q, .slice ao n cap], .string s] w fun e w' => ∃ v, e = .returned (.int .i64 v) ∧ AtN F n s v ∧ Below w.heap.size w w' := by
  have hB : Below w.heap.size w (w.alloc (.cells #[.int .i64 Q, .slice ao n cap] 28)) := (Below.refl _ _).alloc (Nat.le_refl _) _
  go_enter Tryd.func52, Tryd.ntmps52
  go_wp2
  go_loopw [10] (fun i wr => ∃ k : Nat, k ≤ n ∧ i = .int .i64 k ∧ Hid (∀ j, j < k → (F j).nm ≠ s) ∧ Below w.heap.size w wr) (fun i _ => n - (intOf i).toNat)
  case atStart => exact ⟨0, Nat.zero_le _, rfl, fun j h => by omega, hB⟩
  case round =>
    obtain ⟨k, hk, rfl, HN, hbk⟩ := hrel
    by_cases hlt : k < n
    · obtain ⟨b, off, rfl, hblt, hc⟩ := hr.lies.resolve_left (by omega)
      obtain ⟨da, dc, hf⟩ := hc k hlt
      have hc1 : wr.cell? ⟨b, off + k * 3, none⟩ = some (.string (F k).nm) := (hbk.cell (p := ⟨b, off + k * 3, none⟩) hblt).trans hf.c0
      have hc2 : wr.cell? ⟨b, off + k * 3 + 1, none⟩ = some (.slice da (F k).len dc) := (hbk.cell (p := ⟨b, off + k * 3 + 1, none⟩) hblt).trans hf.c1
      have hc3 : wr.cell? ⟨b, off + k * 3 + 2, none⟩ = some (.int .i64 (F k).sy) := (hbk.cell (p := ⟨b, off + k * 3 + 2, none⟩) hblt).trans hf.c2
      have hbn := fun O => hbk.alloc (B := w.heap.size) hbk.size O
      clear hc hf
      by_cases he : (F k).nm = s
      · have HE : Hid ((F k).nm = s) := he
        subst he
        go_wp2
        go_ret
        exact ⟨(k : Int), rfl, ⟨fun _ => ⟨by omega, by simp⟩, fun h => by omega, by omega, by omega⟩, hbn _⟩
      · have HN' : Hid (∀ j, j < k + 1 → (F j).nm ≠ s) := fun j h => by
          rcases Nat.lt_succ_iff_lt_or_eq.1 h with h | h
          · exact HN.out j h
          · subst h; exact he
        have hb2 : ((F k).nm.toList == s.toList) = false := by
          cases h : (F k).nm.toList == s.toList with
          | false => rfl
          | true =>
            have h2 := beq_iff_eq.1 h
            rw [ByteArray.toList_eq, ByteArray.toList_eq] at h2
            exact absurd (ByteArray.ext (Array.toList_inj.1 h2)) he
        go_wp2
        go_roundw
        case rel => exact ⟨k + 1, by omega, by go_num, HN', hbn _⟩
        case measure => simp [intOf]; omega
    · have e : k = n := by omega
      subst e
      go_wp2
      go_ret
      exact ⟨-1, rfl, ⟨fun h => by omega, fun _ => HN.out, by omega, by omega⟩, hbk⟩
end Go.Proofs.YtgedpjabjoodjaaDoor
