/- The files of a map, collected in whatever order it is told. -/
import Derived.Test.YtapmbgmmonhdoaaGreatDoorUsed
namespace Go.Proofs.YtapmbgmmonhdoaaGreatDoor
set_option maxRecDepth 100000
open Go.RowKit
open Go.ChangeMaps (setBlock)
set_option linter.unusedSimpArgs false
set_option linter.unusedVariables false

/-- A file's three cells: its name, where its bytes lie, how many are synced. -/
abbrev FT : Type := ByteArray × (Option Addr × Nat × Nat) × Int
def fenc (x : FT) : List Value := [.string x.1, .slice x.2.1.1 x.2.1.2.1 x.2.1.2.2, .int .i64 x.2.2]
def fval (x : FT) : Value := .agg #[.string x.1, .slice x.2.1.1 x.2.1.2.1 x.2.1.2.2, .int .i64 x.2.2]
def mkE (p : FT × Nat) : MapEntry := { key := .string p.1.1, val := fval p.1, born := p.2 }
def esOf (L : List (FT × Nat)) : Array MapEntry := (L.map mkE).toArray
/-- Block bm is a map of these files, each with its stamp. -/
structure MHas (w : World) (bm : Nat) (L : List (FT × Nat)) (clock : Nat) : Prop where
  map : w.heap[bm]? = some (.map (esOf L) clock)
  born : (L.map (·.2)).Nodup
  old : ∀ p ∈ L, p.2 < clock
  names : (L.map (·.1.1)).Nodup
theorem MHas.lt {w : World} {bm clock : Nat} {L : List (FT × Nat)} (h : MHas w bm L clock) : bm < w.heap.size := (Array.getElem?_eq_some_iff.1 h.map).1
theorem MHas.keep {w w' : World} {bm clock : Nat} {L : List (FT × Nat)} (h : MHas w bm L clock) (hb : Below w.heap.size w w') : MHas w' bm L clock :=
  ⟨(hb.block bm h.lt).trans h.map, h.born, h.old, h.names⟩
theorem mem_esOf {L : List (FT × Nat)} {x : MapEntry} (h : x ∈ (esOf L).toList) : ∃ p ∈ L, x = mkE p := by
  simp only [esOf, List.mem_map] at h
  obtain ⟨p, hp, rfl⟩ := h
  exact ⟨p, hp, rfl⟩
/-- What the range has still to tell. -/
def leftF (L : List (FT × Nat)) (seen : Array Nat) : List FT := (L.filter fun p => !seen.contains p.2).map (·.1)
theorem left_esOf (L : List (FT × Nat)) (seen : Array Nat) : (leftOf (esOf L) seen).toList = (L.filter fun p => !seen.contains p.2).map mkE := by
  simp only [leftOf, esOf, Array.toList_filter, List.filter_map]
  rfl
theorem filter_step : ∀ (L : List (FT × Nat)) (seen : Array Nat) (p : FT × Nat), (L.map (·.2)).Nodup → p ∈ L → seen.contains p.2 = false →
    (L.filter fun q => !seen.contains q.2).Perm (p :: L.filter fun q => !(seen.push p.2).contains q.2)
  | [], _, _, _, h, _ => by simp at h
  | q :: L, seen, p, hn, hp, hs => by
    have hn' : q.2 ∉ L.map (·.2) ∧ (L.map (·.2)).Nodup := List.nodup_cons.1 hn
    rcases List.mem_cons.1 hp with e | hp'
    · subst e
      have same : (L.filter fun r => !(seen.push p.2).contains r.2) = L.filter fun r => !seen.contains r.2 := by
        apply List.filter_congr
        intro r hr
        have : (r.2 == p.2) = false := by
          cases hc : r.2 == p.2 with
          | false => rfl
          | true => exact absurd (List.mem_map.2 ⟨r, hr, beq_iff_eq.1 hc⟩) hn'.1
        rw [contains_push, this, Bool.or_false]
      rw [List.filter_cons, List.filter_cons, same]
      have h1 : (!seen.contains p.2) = true := by rw [hs]; rfl
      have h2 : (!(seen.push p.2).contains p.2) = false := by rw [contains_push, beq_self_eq_true, Bool.or_true]; rfl
      rw [if_pos h1, h2]
      exact List.Perm.refl _
    · have hne : (q.2 == p.2) = false := by
        cases hc : q.2 == p.2 with
        | false => rfl
        | true => exact absurd (List.mem_map.2 ⟨p, hp', (beq_iff_eq.1 hc).symm⟩) hn'.1
      have ih := filter_step L seen p hn'.2 hp' hs
      rw [List.filter_cons, List.filter_cons, contains_push, hne, Bool.or_false]
      by_cases hq : (!seen.contains q.2) = true
      · rw [if_pos hq, if_pos hq]
        exact (List.Perm.cons q ih).trans (List.Perm.swap p q _)
      · rw [if_neg hq, if_neg hq]
        exact ih
theorem left_step {L : List (FT × Nat)} {seen : Array Nat} {p : FT × Nat} (hn : (L.map (·.2)).Nodup) (hp : p ∈ L) (hs : seen.contains p.2 = false) : (leftF L seen).Perm (p.1 :: leftF L (seen.push p.2)) :=
  (filter_step L seen p hn hp hs).map _
theorem left_none {L : List (FT × Nat)} {seen : Array Nat} (h : (leftOf (esOf L) seen).size = 0) : leftF L seen = [] := by
  have h2 : (leftOf (esOf L) seen).toList = [] := List.eq_nil_of_length_eq_zero (by rw [Array.length_toList]; exact h)
  rw [left_esOf] at h2
  unfold leftF
  rw [List.map_eq_nil_iff] at h2
  rw [h2]; rfl
theorem left_all (L : List (FT × Nat)) : leftF L #[] = L.map (·.1) := by
  unfold leftF
  rw [List.filter_eq_self.2 (fun p _ => by simp)]
theorem fenc_len (xs : List FT) : (xs.flatMap fenc).length = xs.length * 3 := by
  induction xs with
  | nil => rfl
  | cons x xs ih => simp only [List.flatMap_cons, List.length_append, ih, fenc, List.length_cons, List.length_nil]; omega
theorem fenc_one (x : FT) : ∀ u ∈ fenc x, u.oneCell' = true := fun u hu => by
  simp only [fenc, List.mem_cons, List.not_mem_nil, or_false] at hu
  rcases hu with rfl | rfl | rfl <;> rfl

/-- What slices.SortFunc by the names leaves. -/
def SortOut (base : Nat) (v : Value) (xs : List FT) (w : World) (e : Ending) (w' : World) : Prop :=
  e = .returned (.tuple #[]) ∧ ∃ ys : List FT, ys.Perm xs ∧ ys.Pairwise (fun x y => Op.bytesLess x.1.toList y.1.toList = true) ∧ w'.ownsRow base 40 3 v ys.length (ys.flatMap fenc) ∧ w.grownBy w' v.ownBlock

/-- What rising leaves: the files of the map, rising by name, in memory of their own. -/
def RiseOut (L : List (FT × Nat)) (w : World) (e : Ending) (w' : World) : Prop :=
  ∃ (v : Value) (ys : List FT), e = .returned v ∧ ys.Perm (L.map (·.1)) ∧ ys.Pairwise (fun x y => Op.bytesLess x.1.toList y.1.toList = true) ∧ w'.ownsRow (w.heap.size + 2) 40 3 v ys.length (ys.flatMap fenc) ∧ Below w.heap.size w w'

theorem below_row {B : Nat} {w wr w' : World} {base n : Nat} {v : Value} {xs : List Value} (hb : Below B w wr) (ho : wr.ownsRow base 40 3 v n xs) (hg : wr.grownBy w' v.ownBlock) (hB : B ≤ base) (hs : B ≤ wr.heap.size) : Below B w w' := by
  refine hb.grown hg hs fun k hk => ?_
  rcases ho.2 with ⟨rfl, _⟩ | ⟨g, cap, cur, rfl, hbg, _⟩
  · simp [Value.ownBlock] at hk
  · simp [Value.ownBlock] at hk; omega
theorem row_ne {w : World} {base n b : Nat} {v : Value} {xs : List Value} (ho : w.ownsRow base 40 3 v n xs) (hb : b < base) : some b ≠ v.ownBlock := fun e => by
  rcases ho.2 with ⟨rfl, _⟩ | ⟨g, cap, cur, rfl, hbg, _⟩
  · simp [Value.ownBlock] at e
  · simp [Value.ownBlock] at e; omega
/-- A row of the call's own stays while blocks below it are written. -/
theorem row_low {w w' : World} {base n : Nat} {v : Value} {xs : List Value} (h : w.ownsRow base 40 3 v n xs) (hbl : ∀ j, base ≤ j → j < w.heap.size → w'.heap[j]? = w.heap[j]?) : w'.ownsRow base 40 3 v n xs := by
  rcases h with ⟨h0, h1 | ⟨g, cap, cur, rfl, hbg, hg, h2⟩⟩
  · exact ⟨h0, .inl h1⟩
  · exact ⟨h0, .inr ⟨g, cap, cur, rfl, hbg, by rw [hbl g hbg (Array.getElem?_eq_some_iff.1 hg).1]; exact hg, h2⟩⟩
end Go.Proofs.YtapmbgmmonhdoaaGreatDoor
