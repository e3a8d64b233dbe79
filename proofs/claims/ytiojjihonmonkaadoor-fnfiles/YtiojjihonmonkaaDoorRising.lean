/- The code of an error. / ReadFile, both texts. / The files of a map, collected in whatever order it is told. -/
import Derived.Test.YtiojjihonmonkaaDoorAsFault
import Derived.Test.YtiojjihonmonkaaDoorAsFacts
import Derived.Test.YtiojjihonmonkaaDoorUsed
namespace Go.Proofs.YtiojjihonmonkaaDoor
open Go.RowKit
set_option linter.unusedSimpArgs false
set_option linter.unusedVariables false

/-- errors.errorType holds the handle of the type error. -/
def ET (w : World) : Prop := w.cell? ⟨0, 0, none⟩ = some (.iface 93 (.agg #[.pointer (some ⟨1, 48, none⟩)]))
theorem ET.lt {w : World} (h : ET w) : 0 < w.heap.size := by
  rcases Nat.eq_zero_or_pos w.heap.size with h0 | h1
  · simp [ET, World.cell?, h0] at h
  · exact h1
theorem ET.keep {w w' : World} (h : ET w) (hb : Below w.heap.size w w') : ET w' := (hb.cell (p := ⟨0, 0, none⟩) h.lt).trans h

theorem code_nil (w : World) : Calls Tryd.prog 34 #[.nilIface] w fun e w' => e = .returned (.int .i64 0) ∧ Below w.heap.size w w' := by
  go_enter Tryd.func34, Tryd.ntmps34
  go_wp2_with fail
  refine (as_nil _ _).mono ?_
  rintro e w1 ⟨rfl, rfl⟩
  go_wp2
  go_ret
  exact ⟨rfl, (Below.refl _ _).alloc (Nat.le_refl _) _⟩

set_option maxHeartbeats 1000000 in
theorem code_kind (k : Int) (w : World) (hg : ET w) : Calls Tryd.prog 34 #[.iface 66 (.int .i64 k)] w fun e w' => e = .returned (.int .i64 k) ∧ Below w.heap.size w w' := by
  have hB : Below w.heap.size w (w.alloc (.cells #[.int .i64 0] 66)) := (Below.refl _ _).alloc (Nat.le_refl _) _
  have hgA := hg.keep hB
  have hc : (w.alloc (.cells #[.int .i64 0] 66)).cell? ⟨w.heap.size, 0, none⟩ = some (.int .i64 0) := by simp [go_sem]
  have hf : (w.alloc (.cells #[.int .i64 0] 66)).frozen? ⟨w.heap.size, 0, none⟩ = false := by simp [go_sem]
  go_enter Tryd.func34, Tryd.ntmps34
  go_wp2_with fail
  refine (as_kind k _ _ _ hgA hc hf).mono ?_
  rintro e w' ⟨rfl, w1, hb1, rfl⟩
  have hc1 := (hb1.cell (p := ⟨w.heap.size, 0, none⟩) (by simp)).trans hc
  have hc2 : (w1.setCell ⟨w.heap.size, 0, none⟩ (.int .i64 k)).cell? ⟨w.heap.size, 0, none⟩ = some (.int .i64 k) := World.cell?_setCell_same _ _ _ hc1
  have bw1 : Below w.heap.size w w1 := hB.trans (hb1.mono (by simp))
  clear hgA hc hf hb1 hB
  go_wp2
  go_ret
  exact ⟨rfl, bw1.setCell (Nat.le_refl _) _⟩

set_option maxHeartbeats 1000000 in
theorem code_fault (s : ByteArray) (k : Int) (w : World) (hg : ET w) : Calls Tryd.prog 34 #[.iface 68 (.agg #[.string s, .int .i64 k])] w fun e w' => e = .returned (.int .i64 k) ∧ Below w.heap.size w w' := by
  have hB : Below w.heap.size w (w.alloc (.cells #[.int .i64 0] 66)) := (Below.refl _ _).alloc (Nat.le_refl _) _
  have hgA := hg.keep hB
  have hc : (w.alloc (.cells #[.int .i64 0] 66)).cell? ⟨w.heap.size, 0, none⟩ = some (.int .i64 0) := by simp [go_sem]
  have hf : (w.alloc (.cells #[.int .i64 0] 66)).frozen? ⟨w.heap.size, 0, none⟩ = false := by simp [go_sem]
  go_enter Tryd.func34, Tryd.ntmps34
  go_wp2_with fail
  refine (as_fault s k _ _ _ hgA hc hf).mono ?_
  rintro e w' ⟨rfl, w1, hb1, rfl⟩
  have hc1 := (hb1.cell (p := ⟨w.heap.size, 0, none⟩) (by simp)).trans hc
  have hc2 : (w1.setCell ⟨w.heap.size, 0, none⟩ (.int .i64 k)).cell? ⟨w.heap.size, 0, none⟩ = some (.int .i64 k) := World.cell?_setCell_same _ _ _ hc1
  have bw1 : Below w.heap.size w w1 := hB.trans (hb1.mono (by simp))
  clear hgA hc hf hb1 hB
  go_wp2
  go_ret
  exact ⟨rfl, bw1.setCell (Nat.le_refl _) _⟩
end Go.Proofs.YtiojjihonmonkaaDoor
namespace Go.Proofs.YtiojjihonmonkaaDoor
open Go.RowKit
set_option linter.unusedSimpArgs false
set_option linter.unusedVariables false

/-- A copy made by an append to an empty slice in block B0. -/
theorem copy2_run (w : World) (B0 : Nat) (hB0 : w.heap[B0]? = some (.cells #[] 5 (0, 0))) (da : Option Addr) (len dc : Nat) (f : Nat → Int) (hr : Row w da len f) (hn : len ≤ 1048576) :
    ∃ g c w', (∀ ty, (Builtin.append_ #[22, 22] ty #[.slice (some ⟨B0, 0, none⟩) 0 0, .slice da len dc]).run Tryd.prog w = .ok (.slice g len c) w') ∧ Below B0 w w' ∧ Row w' g len f := by
  obtain ⟨i0, hi, hz0, hz1, hz2⟩ := info_parts Tryd.info5
  have hB0lt : B0 < w.heap.size := (Array.getElem?_eq_some_iff.1 hB0).1
  by_cases h0 : len = 0
  · subst h0
    refine ⟨some ⟨B0, 0, none⟩, 0, w, fun ty => ?_, Below.refl _ _, hr.bd, .inl rfl⟩
    cases da <;> simp [Builtin.append_, run_underlying Tryd.underlying22, sizeOf, typeInfo, hi, Builtin.lenOf, Builtin.firstCells, loadCells, loadCellsFrom, storeCells]
  · obtain ⟨b, off, rfl, hlt, hc⟩ := hr.lies.resolve_left h0
    obtain ⟨g, cap, w', hrun, hown, hgrow, hat, hlt'⟩ := run_append_lies (P := Tryd.prog) w 22 0 B0 5 i0 (.int .u8 0) 1 1 Tryd.underlying22 hi hz0 hz1 hz2 rfl (by decide) (.slice (some ⟨B0, 0, none⟩) 0 0) 0 [] ⟨rfl, .inr ⟨B0, 0, #[], rfl, Nat.le_refl _, hB0, Nat.le_refl _, Nat.zero_le _, rfl, rfl⟩⟩ ⟨b, off, none⟩ len dc ((List.range len).map fun i => Value.int .u8 (f i)) (by simp)
      (fun j u hu => by
        have hj : j < len := by
          have := (List.getElem?_eq_some_iff.1 hu).1
          simpa using this
        have e : u = .int .u8 (f j) := by simpa [hj] using hu.symm
        subst e
        have := hc j hj
        by_cases hj0 : j = 0
        · subst hj0; simpa [Addr.add] using this
        · simpa [Addr.add, hj0] using this)
      (fun u hu => by simp only [List.mem_map] at hu; obtain ⟨i, _, rfl⟩ := hu; rfl) (by omega) (by unfold maxLen; omega) (by omega) (by omega) w.heap.size rfl
    rw [Nat.zero_add] at hrun hown
    rw [List.nil_append] at hown
    have hO : Own w' g 0 len f := by
      refine ⟨hr.bd, hlt', fun i hi => ?_, fun i _ => by simpa using hown.frozenAt i⟩
      rw [Nat.zero_add, hown.cellAt i (by omega)]
      simp [hi]
    have hB : Below B0 w w' := (Below.refl _ _).grown hgrow (Nat.le_of_lt hB0lt) (fun k h => by simp [Value.ownBlock] at h; omega)
    exact ⟨_, cap, w', fun ty => hrun, hB, hO.row⟩

/-- ReadFile's names: one. -/
theorem one_name (w : World) (s : ByteArray) (T : Nat) : NRow (w.alloc (.cells #[.string s] T)) (some ⟨w.heap.size, 0, none⟩) 1 (fun _ => s) :=
  ⟨.inr ⟨w.heap.size, 0, rfl, by simp, fun i hi => by
    have : i = 0 := by omega
    subst this
    simp [go_sem]⟩⟩

end Go.Proofs.YtiojjihonmonkaaDoor
namespace Go.Proofs.YtiojjihonmonkaaDoor
open Go.RowKit
open Go.ChangeMaps (setBlock)
set_option linter.unusedSimpArgs false
set_option linter.unusedVariables false

/-- A file's three cells: its name, where its bytes lie, how many are synced. -/
abbrev FT : Type := ByteArray × (Option Addr × Nat × Nat) × Int
def fenc (x : FT) : List Value := [.string x.1, .slice x.2.1.1 x.2.1.2.1 x.2.1.2.2, .int .i64 x.2.2]
def fval (x : FT) : Value := .agg #[.string x.1, .slice x.2.1.1 x.2.1.2.1 x.2.1.2.2, .int .i64 x.2.2]
def mkE (p : FT × Nat) : MapEntry := { key := .string p.1.1, val := fval p.1, born := p.2 }
def esOf (L : List (FT × Nat)) : Array MapEntry := (L.map mkE).toArray
/-- Block bm is a map of these files, each with its stamp. -/
structure MHas (w : World) (bm : Nat) (L : List (FT × Nat)) (clock : Nat) : Prop where
  map : w.heap[bm]? = some (.map (esOf L) clock)
  born : (L.map (·.2)).Nodup
  old : ∀ p ∈ L, p.2 < clock
  names : (L.map (·.1.1)).Nodup
theorem MHas.lt {w : World} {bm clock : Nat} {L : List (FT × Nat)} (h : MHas w bm L clock) : bm < w.heap.size := (Array.getElem?_eq_some_iff.1 h.map).1
theorem MHas.keep {w w' : World} {bm clock : Nat} {L : List (FT × Nat)} (h : MHas w bm L clock) (hb : Below w.heap.size w w') : MHas w' bm L clock :=
  ⟨(hb.block bm h.lt).trans h.map, h.born, h.old, h.names⟩
theorem mem_esOf {L : List (FT × Nat)} {x : MapEntry} (h : x ∈ (esOf L).toList) : ∃ p ∈ L, x = mkE p := by
  simp only [esOf, List.mem_map] at h
  obtain ⟨p, hp, rfl⟩ := h
  exact ⟨p, hp, rfl⟩
/-- What the range has still to tell. -/
def leftF (L : List (FT × Nat)) (seen : Array Nat) : List FT := (L.filter fun p => !seen.contains p.2).map (·.1)
theorem left_esOf (L : List (FT × Nat)) (seen : Array Nat) : (leftOf (esOf L) seen).toList = (L.filter fun p => !seen.contains p.2).map mkE := by
  simp only [leftOf, esOf, Array.toList_filter, List.filter_map]
  rfl
theorem filter_step : ∀ (L : List (FT × Nat)) (seen : Array Nat) (p : FT × Nat), (L.map (·.2)).Nodup → p ∈ L → seen.contains p.2 = false →
    (L.filter fun q => !seen.contains q.2).Perm (p :: L.filter fun q => !(seen.push p.2).contains q.2)
  | [], _, _, _, h, _ => by simp at h
  | q :: L, seen, p, hn, hp, hs => by
    have hn' : q.2 ∉ L.map (·.2) ∧ (L.map (·.2)).Nodup := List.nodup_cons.1 hn
    rcases List.mem_cons.1 hp with e | hp'
    · subst e
      have same : (L.filter fun r => !(seen.push p.2).contains r.2) = L.filter fun r => !seen.contains r.2 := by
        apply List.filter_congr
        intro r hr
        have : (r.2 == p.2) = false := by
          cases hc : r.2 == p.2 with
          | false => rfl
          | true => exact absurd (List.mem_map.2 ⟨r, hr, beq_iff_eq.1 hc⟩) hn'.1
        rw [contains_push, this, Bool.or_false]
      rw [List.filter_cons, List.filter_cons, same]
      have h1 : (!seen.contains p.2) = true := by rw [hs]; rfl
      have h2 : (!(seen.push p.2).contains p.2) = false := by rw [contains_push, beq_self_eq_true, Bool.or_true]; rfl
      rw [if_pos h1, h2]
      exact List.Perm.refl _
    · have hne : (q.2 == p.2) = false := by
        cases hc : q.2 == p.2 with
        | false => rfl
        | true => exact absurd (List.mem_map.2 ⟨p, hp', (beq_iff_eq.1 hc).symm⟩) hn'.1
      have ih := filter_step L seen p hn'.2 hp' hs
      rw [List.filter_cons, List.filter_cons, contains_push, hne, Bool.or_false]
      by_cases hq : (!seen.contains q.2) = true
      · rw [if_pos hq, if_pos hq]
        exact (List.Perm.cons q ih).trans (List.Perm.swap p q _)
      · rw [if_neg hq, if_neg hq]
        exact ih
theorem left_step {L : List (FT × Nat)} {seen : Array Nat} {p : FT × Nat} (hn : (L.map (·.2)).Nodup) (hp : p ∈ L) (hs : seen.contains p.2 = false) : (leftF L seen).Perm (p.1 :: leftF L (seen.push p.2)) :=
  (filter_step L seen p hn hp hs).map _
theorem left_none {L : List (FT × Nat)} {seen : Array Nat} (h : (leftOf (esOf L) seen).size = 0) : leftF L seen = [] := by
  have h2 : (leftOf (esOf L) seen).toList = [] := List.eq_nil_of_length_eq_zero (by rw [Array.length_toList]; exact h)
  rw [left_esOf] at h2
  unfold leftF
  rw [List.map_eq_nil_iff] at h2
  rw [h2]; rfl
theorem left_all (L : List (FT × Nat)) : leftF L #[] = L.map (·.1) := by
  unfold leftF
  rw [List.filter_eq_self.2 (fun p _ => by simp)]
theorem fenc_len (xs : List FT) : (xs.flatMap fenc).length = xs.length * 3 := by
  induction xs with
  | nil => rfl
  | cons x xs ih => simp only [List.flatMap_cons, List.length_append, ih, fenc, List.length_cons, List.length_nil]; omega
theorem fenc_one (x : FT) : ∀ u ∈ fenc x, u.oneCell' = true := fun u hu => by
  simp only [fenc, List.mem_cons, List.not_mem_nil, or_false] at hu
  rcases hu with rfl | rfl | rfl <;> rfl

/-- What slices.SortFunc by the names leaves. -/
def SortOut (base : Nat) (v : Value) (xs : List FT) (w : World) (e : Ending) (w' : World) : Prop :=
  e = .returned (.tuple #[]) ∧ ∃ ys : List FT, ys.Perm xs ∧ ys.Pairwise (fun x y => Op.bytesLess x.1.toList y.1.toList = true) ∧ w'.ownsRow base 35 3 v ys.length (ys.flatMap fenc) ∧ w.grownBy w' v.ownBlock

/-- What rising leaves: the files of the map, rising by name, in memory of their own. -/
def RiseOut (L : List (FT × Nat)) (w : World) (e : Ending) (w' : World) : Prop :=
  ∃ (v : Value) (ys : List FT), e = .returned v ∧ ys.Perm (L.map (·.1)) ∧ ys.Pairwise (fun x y => Op.bytesLess x.1.toList y.1.toList = true) ∧ w'.ownsRow (w.heap.size + 2) 35 3 v ys.length (ys.flatMap fenc) ∧ Below w.heap.size w w'

theorem below_row {B : Nat} {w wr w' : World} {base n : Nat} {v : Value} {xs : List Value} (hb : Below B w wr) (ho : wr.ownsRow base 35 3 v n xs) (hg : wr.grownBy w' v.ownBlock) (hB : B ≤ base) (hs : B ≤ wr.heap.size) : Below B w w' := by
  refine hb.grown hg hs fun k hk => ?_
  rcases ho.2 with ⟨rfl, _⟩ | ⟨g, cap, cur, rfl, hbg, _⟩
  · simp [Value.ownBlock] at hk
  · simp [Value.ownBlock] at hk; omega
theorem row_ne {w : World} {base n b : Nat} {v : Value} {xs : List Value} (ho : w.ownsRow base 35 3 v n xs) (hb : b < base) : some b ≠ v.ownBlock := fun e => by
  rcases ho.2 with ⟨rfl, _⟩ | ⟨g, cap, cur, rfl, hbg, _⟩
  · simp [Value.ownBlock] at e
  · simp [Value.ownBlock] at e; omega
/-- A row of the call's own stays while blocks below it are written. -/
theorem row_low {w w' : World} {base n : Nat} {v : Value} {xs : List Value} (h : w.ownsRow base 35 3 v n xs) (hbl : ∀ j, base ≤ j → j < w.heap.size → w'.heap[j]? = w.heap[j]?) : w'.ownsRow base 35 3 v n xs := by
  rcases h with ⟨h0, h1 | ⟨g, cap, cur, rfl, hbg, hg, h2⟩⟩
  · exact ⟨h0, .inl h1⟩
  · exact ⟨h0, .inr ⟨g, cap, cur, rfl, hbg, by rw [hbl g hbg (Array.getElem?_eq_some_iff.1 hg).1]; exact hg, h2⟩⟩
end Go.Proofs.YtiojjihonmonkaaDoor
