/- The files of a map, collected in whatever order it is told. / rising, walked over the sort's contract. -/
import Derived.Test.YtgedpjabjoodjaaDoorUsed
namespace Go.Proofs.YtgedpjabjoodjaaDoor
open Go.RowKit
open Go.ChangeMaps (setBlock)
set_option linter.unusedSimpArgs false
set_option linter.unusedVariables false

/-- A file's three cells: its name, where its bytes lie, how many are synced. -/
abbrev FT : Type := ByteArray × (Option Addr × Nat × Nat) × Int
def fenc (x : FT) : List Value := [.string x.1, .slice x.2.1.1 x.2.1.2.1 x.2.1.2.2, .int .i64 x.2.2]
def fval (x : FT) : Value := .agg #[.string x.1, .slice x.2.1.1 x.2.1.2.1 x.2.1.2.2, .int .i64 x.2.2]
def mkE (p : FT × Nat) : MapEntry := { key := .string p.1.1, val := fval p.1, born := p.2 }
def esOf (L : List (FT × Nat)) : Array MapEntry := (L.map mkE).toArray
/-- Block bm is a map of these files, each with its stamp. -/
structure MHas (w : World) (bm : Nat) (L : List (FT × Nat)) (clock : Nat) : Prop where
  map : w.heap[bm]? = some (.map (esOf L) clock)
  born : (L.map (·.2)).Nodup
  old : ∀ p ∈ L, p.2 < clock
  names : (L.map (·.1.1)).Nodup
theorem MHas.lt {w : World} {bm clock : Nat} {L : List (FT × Nat)} (h : MHas w bm L clock) : bm < w.heap.size := (Array.getElem?_eq_some_iff.1 h.map).1
theorem MHas.keep {w w' : World} {bm clock : Nat} {L : List (FT × Nat)} (h : MHas w bm L clock) (hb : Below w.heap.size w w') : MHas w' bm L clock :=
  ⟨(hb.block bm h.lt).trans h.map, h.born, h.old, h.names⟩
theorem mem_esOf {L : List (FT × Nat)} {x : MapEntry} (h : x ∈ (esOf L).toList) : ∃ p ∈ L, x = mkE p := by
  simp only [esOf, List.mem_map] at h
  obtain ⟨p, hp, rfl⟩ := h
  exact ⟨p, hp, rfl⟩
/-- What the range has still to tell. -/
def leftF (L : List (FT × Nat)) (seen : Array Nat) : List FT := (L.filter fun p => !seen.contains p.2).map (·.1)
theorem left_esOf (L : List (FT × Nat)) (seen : Array Nat) : (leftOf (esOf L) seen).toList = (L.filter fun p => !seen.contains p.2).map mkE := by
  simp only [leftOf, esOf, Array.toList_filter, List.filter_map]
  rfl
theorem filter_step : ∀ (L : List (FT × Nat)) (seen : Array Nat) (p : FT × Nat), (L.map (·.2)).Nodup → p ∈ L → seen.contains p.2 = false →
    (L.filter fun q => !seen.contains q.2).Perm (p :: L.filter fun q => !(seen.push p.2).contains q.2)
  | [], _, _, _, h, _ => by simp at h
  | q :: L, seen, p, hn, hp, hs => by
    have hn' : q.2 ∉ L.map (·.2) ∧ (L.map (·.2)).Nodup := List.nodup_cons.1 hn
    rcases List.mem_cons.1 hp with e | hp'
    · subst e
      have same : (L.filter fun r => !(seen.push p.2).contains r.2) = L.filter fun r => !seen.contains r.2 := by
        apply List.filter_congr
        intro r hr
        have : (r.2 == p.2) = false := by
          cases hc : r.2 == p.2 with
          | false => rfl
          | true => exact absurd (List.mem_map.2 ⟨r, hr, beq_iff_eq.1 hc⟩) hn'.1
        rw [contains_push, this, Bool.or_false]
      rw [List.filter_cons, List.filter_cons, same]
      have h1 : (!seen.contains p.2) = true := by rw [hs]; rfl
      have h2 : (!(seen.push p.2).contains p.2) = false := by rw [contains_push, beq_self_eq_true, Bool.or_true]; rfl
      rw [if_pos h1, h2]
      exact List.Perm.refl _
    · have hne : (q.2 == p.2) = false := by
        cases hc : q.2 == p.2 with
        | false => rfl
        | true => exact absurd (List.mem_map.2 ⟨p, hp', (beq_iff_eq.1 hc).symm⟩) hn'.1
      have ih := filter_step L seen p hn'.2 hp' hs
      rw [List.filter_cons, List.filter_cons, contains_push, hne, Bool.or_false]
      by_cases hq : (!seen.contains q.2) = true
      · rw [if_pos hq, if_pos hq]
        exact (List.Perm.cons q ih).trans (List.Perm.swap p q _)
      · rw [if_neg hq, if_neg hq]
        exact ih
theorem left_step {L : List (FT × Nat)} {seen : Array Nat} {p : FT × Nat} (hn : (L.map (·.2)).Nodup) (hp : p ∈ L) (hs : seen.contains p.2 = false) : (leftF L seen).Perm (p.1 :: leftF L (seen.push p.2)) :=
  (filter_step L seen p hn hp hs).map _
theorem left_none {L : List (FT × Nat)} {seen : Array Nat} (h : (leftOf (esOf L) seen).size = 0) : leftF L seen = [] := by
  have h2 : (leftOf (esOf L) seen).toList = [] := List.eq_nil_of_length_eq_zero (by rw [Array.length_toList]; exact h)
  rw [left_esOf] at h2
  unfold leftF
  rw [List.map_eq_nil_iff] at h2
  rw [h2]; rfl
theorem left_all (L : List (FT × Nat)) : leftF L #[] = L.map (·.1) := by
  unfold leftF
  rw [List.filter_eq_self.2 (fun p _ => by simp)]
theorem fenc_len (xs : List FT) : (xs.flatMap fenc).length = xs.length * 3 := by
  induction xs with
  | nil => rfl
  | cons x xs ih => simp only [List.flatMap_cons, List.length_append, ih, fenc, List.length_cons, List.length_nil]; omega
theorem fenc_one (x : FT) : ∀ u ∈ fenc x, u.oneCell' = true := fun u hu => by
  simp only [fenc, List.mem_cons, List.not_mem_nil, or_false] at hu
  rcases hu with rfl | rfl | rfl <;> rfl

/-- What slices.SortFunc by the names leaves. -/
def SortOut (base : Nat) (v : Value) (xs : List FT) (w : World) (e : Ending) (w' : World) : Prop :=
  e = .returned (.tuple #[]) ∧ ∃ ys : List FT, ys.Perm xs ∧ ys.Pairwise (fun x y => Op.bytesLess x.1.toList y.1.toList = true) ∧ w'.ownsRow base 73 3 v ys.length (ys.flatMap fenc) ∧ w.grownBy w' v.ownBlock

/-- What rising leaves: the files of the map, rising by name, in memory of their own. -/
def RiseOut (L : List (FT × Nat)) (w : World) (e : Ending) (w' : World) : Prop :=
  ∃ (v : Value) (ys : List FT), e = .returned v ∧ ys.Perm (L.map (·.1)) ∧ ys.Pairwise (fun x y => Op.bytesLess x.1.toList y.1.toList = true) ∧ w'.ownsRow (w.heap.size + 2) 73 3 v ys.length (ys.flatMap fenc) ∧ Below w.heap.size w w'

theorem below_row {B : Nat} {w wr w' : World} {base n : Nat} {v : Value} {xs : List Value} (hb : Below B w wr) (ho : wr.ownsRow base 73 3 v n xs) (hg : wr.grownBy w' v.ownBlock) (hB : B ≤ base) (hs : B ≤ wr.heap.size) : Below B w w' := by
  refine hb.grown hg hs fun k hk => ?_
  rcases ho.2 with ⟨rfl, _⟩ | ⟨g, cap, cur, rfl, hbg, _⟩
  · simp [Value.ownBlock] at hk
  · simp [Value.ownBlock] at hk; omega
theorem row_ne {w : World} {base n b : Nat} {v : Value} {xs : List Value} (ho : w.ownsRow base 73 3 v n xs) (hb : b < base) : some b ≠ v.ownBlock := fun e => by
  rcases ho.2 with ⟨rfl, _⟩ | ⟨g, cap, cur, rfl, hbg, _⟩
  · simp [Value.ownBlock] at e
  · simp [Value.ownBlock] at e; omega
/-- A row of the call's own stays while blocks below it are written. -/
theorem row_low {w w' : World} {base n : Nat} {v : Value} {xs : List Value} (h : w.ownsRow base 73 3 v n xs) (hbl : ∀ j, base ≤ j → j < w.heap.size → w'.heap[j]? = w.heap[j]?) : w'.ownsRow base 73 3 v n xs := by
  rcases h with ⟨h0, h1 | ⟨g, cap, cur, rfl, hbg, hg, h2⟩⟩
  · exact ⟨h0, .inl h1⟩
  · exact ⟨h0, .inr ⟨g, cap, cur, rfl, hbg, by rw [hbl g hbg (Array.getElem?_eq_some_iff.1 hg).1]; exact hg, h2⟩⟩
end Go.Proofs.YtgedpjabjoodjaaDoor
namespace Go.Proofs.YtgedpjabjoodjaaDoor
open Go.RowKit
open Go.ChangeMaps (setBlock)
set_option linter.unusedSimpArgs false
set_option linter.unusedVariables false

theorem step_other {wr w1 : World} {r : Nat} {o : Obj} (hw : w1 = wr ∨ w1 = wr.drew) {j : Nat} (hj : j ≠ r) : (setBlock w1 r o).heap[j]? = wr.heap[j]? := by
  have hh : w1.heap = wr.heap := by rcases hw with rfl | rfl <;> rfl
  simp [setBlock, hh, Ne.symm hj]

/-- The sort by names, wherever the row lies. -/
def SortC (base : Nat) : Prop := ∀ (xs : List FT) (v : Value) (W : World), W.ownsRow base 73 3 v xs.length (xs.flatMap fenc) → (xs.map (·.1)).Nodup → xs.length ≤ 1048576 →
  Calls Tryd.prog 80 #[v, .func (.func 81) #[] #[]] W fun e w' => SortOut base v xs W e w'

set_option maxHeartbeats 2000000 in
theorem rising_any (Q : Int) (bm clock : Nat) (L : List (FT × Nat)) (w : World) (hM : MHas w bm L clock) (hL : L.length ≤ 1048576) (hsort : SortC (w.heap.size + 2)) :
    Calls Tryd.prog 69 #[.agg #[.int .i64 Q, .map (some bm)]] w fun e w' => RiseOut L w e w' := by
  obtain ⟨i0, hi, hz0, hz1, hz2⟩ := info_parts Tryd.infoFile
  have hlt := hM.lt
  have hB : Below w.heap.size w (w.alloc (.cells #[.int .i64 Q, .map (some bm)] 60)) := (Below.refl _ _).alloc (Nat.le_refl _) _
  have hb' := (hM.keep hB).map
  have hrg := run_range_map (P := Tryd.prog) _ 58 9 73 bm _ clock Tryd.underlying58 hb'
  have hI : ((w.alloc (.cells #[.int .i64 Q, .map (some bm)] 60)).alloc (.mapIter (some bm) clock #[] clock)).heap[w.heap.size + 1]? = some (.mapIter (some bm) clock #[] clock) := by
    have := heap_alloc_new (w.alloc (.cells #[.int .i64 Q, .map (some bm)] 60)) (.mapIter (some bm) clock #[] clock)
    simpa using this
  have hM0 : ((w.alloc (.cells #[.int .i64 Q, .map (some bm)] 60)).alloc (.mapIter (some bm) clock #[] clock)).heap[bm]? = some (.map (esOf L) clock) := (heap_alloc_old _ _ (by simp; omega)).trans hb'
  have hB2 : Below w.heap.size w ((w.alloc (.cells #[.int .i64 Q, .map (some bm)] 60)).alloc (.mapIter (some bm) clock #[] clock)) := hB.alloc (by simp) _
  have hold : ∀ x ∈ (esOf L).toList, x.born < clock := fun x hx => by obtain ⟨p, hp, rfl⟩ := mem_esOf hx; exact hM.old p hp
  have hnd : ((esOf L).toList.map (·.born)).Nodup := by
    have : (esOf L).toList.map (·.born) = L.map (·.2) := by simp only [esOf, List.map_map]; rfl
    rw [this]; exact hM.born
  have hbn := hM.born
  have hnm := hM.names
  have hP0 : (([] : List FT) ++ leftF L #[]).Perm (L.map (·.1)) := by rw [left_all, List.nil_append]
  rw [World.size_alloc] at hrg
  generalize hE : esOf L = E at hrg hI hM0 hB2 hold hnd
  have HE : Hid (esOf L = E) := hE
  clear hE hb' hB hM
  go_enter Tryd.func69, Tryd.ntmps69
  go_wp2
  go_loopw [3] (fun o wr => ∃ (seen : Array Nat) (c0 : Nat) (xs : List FT), clock ≤ c0 ∧ wr.heap[w.heap.size + 1]? = some (.mapIter (some bm) clock seen c0) ∧ wr.heap[bm]? = some (.map E clock) ∧ Below w.heap.size w wr ∧ Hid ((xs ++ leftF L seen).Perm (L.map (·.1))) ∧ wr.ownsRow (w.heap.size + 2) 73 3 o xs.length (xs.flatMap fenc)) (fun _ wr => (leftOf E (wr.iterSeen (w.heap.size + 1))).size)
  case atStart => exact ⟨#[], clock, [], Nat.le_refl _, hI, hM0, hB2, hP0, World.ownsRow_nil _ _ _ _⟩
  case round =>
    obtain ⟨seen, c0, xs, hc0, hr, hbm, hbk, HP, hown⟩ := hrel
    clear hrg hI hM0 hB2 hP0
    have law := run_next_at (P := Tryd.prog) wr 0 (w.heap.size + 1) bm clock c0 seen E clock hr hbm hold hc0
    have hrl : w.heap.size + 1 < wr.heap.size := (Array.getElem?_eq_some_iff.1 hr).1
    have hxs : xs.length ≤ 1048576 := by
      have := HP.out.length_eq
      simp only [List.length_append, List.length_map] at this
      omega
    rcases law with ⟨h0, hrun⟩ | ⟨e, he, w1, hw1, hrun⟩
    · have hnx : ∀ ty, (Instr.next (.pointer (some ⟨w.heap.size + 1, 0, none⟩)) false ty).run Tryd.prog wr = _ := fun _ => hrun
      have HP2 : Hid (xs.Perm (L.map (·.1))) := by
        subst HE
        have := HP.out
        rw [left_none h0, List.append_nil] at this
        exact this
      have hnx2 : (xs.map (·.1)).Nodup := by
        have h1 := HP2.out.map (·.1)
        rw [List.map_map] at h1
        exact h1.nodup_iff.2 hnm
      clear hrun h0 HP
      go_wp2_with fail
      refine (hsort xs _ _ hown hnx2 hxs).mono ?_
      rintro e w' ⟨rfl, ys, hp, hpw, hown', hg⟩
      have bw' := below_row hbk hown hg (by omega) hbk.size
      have HY : Hid (ys.Perm (L.map (·.1))) := hp.trans HP2.out
      clear hp hg hown HP2 hsort
      go_wp2
      go_ret
      exact ⟨_, ys, rfl, HY.out, hpw, hown', bw'⟩
    · have hme := (mem_left he).1
      have hns := (mem_left he).2
      have hls := left_shrinks E seen e he
      obtain ⟨p, hp, ei⟩ := mem_esOf (HE.out ▸ hme)
      have hborn : e.born = p.2 := by rw [ei]; rfl
      have hkey : e.key = .string p.1.1 := by rw [ei]; rfl
      have hval : e.val = .agg #[.string p.1.1, .slice p.1.2.1.1 p.1.2.1.2.1 p.1.2.1.2.2, .int .i64 p.1.2.2] := by rw [ei]; rfl
      rw [hborn] at hls hns
      have HP' : Hid (((xs ++ [p.1]) ++ leftF L (seen.push p.2)).Perm (L.map (·.1))) := by
        unfold Hid
        rw [List.append_assoc]
        exact (List.Perm.append_left xs (left_step hbn hp hns).symm).trans HP.out
      have hen := fun (w2 : World) h1 h2 => run_entry_at (P := Tryd.prog) w2 (w.heap.size + 1) bm clock seen E clock e h1 h2 hme hnd
      rw [hborn, hkey, hval] at hrun
      rw [hborn, hkey, hval] at hen
      obtain ⟨f1, f2, f3, f4⟩ := step_next (o := .mapIter (some bm) clock (seen.push p.2) clock) hw1 hrl hbm (by omega) (Nat.le_succ _) hbk
      have hown2 : (setBlock w1 (w.heap.size + 1) (.mapIter (some bm) clock (seen.push p.2) clock)).ownsRow (w.heap.size + 2) 73 3 _ xs.length (xs.flatMap fenc) := row_low hown (fun j h1 h2 => step_other hw1 (by omega))
      generalize setBlock w1 (w.heap.size + 1) (.mapIter (some bm) clock (seen.push p.2) clock) = w2 at hrun f1 f2 f3 f4 hown2
      have hen2 := hen w2 f1 f2
      have hnx : ∀ ty, (Instr.next (.pointer (some ⟨w.heap.size + 1, 0, none⟩)) false ty).run Tryd.prog wr = _ := fun _ => hrun
      have hm0 := iter_seen hr
      have hfl : (xs ++ [p.1]).flatMap fenc = xs.flatMap fenc ++ fenc p.1 := by simp
      have hxl : xs.length + 1 ≤ 1048577 := by omega
      have hbl : bm < w.heap.size := hlt
      generalize hpx : p.1 = x at hrun hen2 HP' hfl hnx
      obtain ⟨nm, ⟨da, len, dc⟩, sy⟩ := x
      have e1 := World.news_of_block (heap_alloc_new (w2.alloc (.cells #[.string nm, .slice da len dc, .int .i64 sy] 73)) (.cells #[.string nm, .slice da len dc, .int .i64 sy] 73))
      rw [World.size_alloc] at e1
      clear hrun hen he hme ei hborn hkey hval hw1 hown HP
      have own3 := (hown2.alloc (.cells #[.string nm, .slice da len dc, .int .i64 sy] 73)).alloc (.cells #[.string nm, .slice da len dc, .int .i64 sy] 73)
      have fz : w.heap.size + 1 < w2.heap.size := by omega
      clear f4
      go_wp2_with (at_builtin; refine wpList_append_lies _ rfl (.tmp 13) (.tmp 15) 26 rfl (w.heap.size + 2) 73 i0 (.agg #[.string ByteArray.empty, .slice none 0 0, .int .i64 0]) 3 48 Tryd.underlying26 hi hz0 hz1 hz2 rfl (by decide) _ _ _ rfl own3 ⟨w2.heap.size + 1, 0, none⟩ 1 1 [.string nm, .slice da len dc, .int .i64 sy] rfl rfl e1 (fenc_one (nm, (da, len, dc), sy)) (by omega) (by unfold maxLen; omega) (by omega) (by simp; omega) (w2.heap.size + 1 + 1) (by simp) ?_; intro g cp' w3 hown3 hgrow hat hlg)
      have n1 := row_ne own3 (show w.heap.size + 1 < w.heap.size + 2 by omega)
      have n2 := row_ne own3 (show bm < w.heap.size + 2 by omega)
      have h1 : w3.heap[w.heap.size + 1]? = some (.mapIter (some bm) clock (seen.push p.2) clock) := (hgrow.block _ (by simp; omega) n1).trans ((heap_alloc_old _ _ (by simp; omega)).trans ((heap_alloc_old _ _ (by omega)).trans f1))
      have h2 : w3.heap[bm]? = some (.map E clock) := (hgrow.block _ (by simp; omega) n2).trans ((heap_alloc_old _ _ (by simp; omega)).trans ((heap_alloc_old _ _ (by omega)).trans f2))
      have h3 := below_row ((f3.alloc (B := w.heap.size) f3.size (.cells #[.string nm, .slice da len dc, .int .i64 sy] 73)).alloc (B := w.heap.size) (by have := f3.size; simp; omega) (.cells #[.string nm, .slice da len dc, .int .i64 sy] 73)) own3 hgrow (by omega) (by have := f3.size; simp; omega)
      have h4 : w3.ownsRow (w.heap.size + 2) 73 3 (.slice (some ⟨g, 0, none⟩) (xs.length + 1) cp') (xs ++ [((nm, (da, len, dc), sy) : FT)]).length ((xs ++ [((nm, (da, len, dc), sy) : FT)]).flatMap fenc) := by
        rw [hfl, List.length_append]
        exact hown3
      clear hown2 own3 hown3 hgrow hat hlg n1 n2 f1 f2 f3 e1 hen2 hnx hfl
      go_wp2
      go_roundw
      case rel => exact ⟨seen.push p.2, clock, _, Nat.le_refl _, h1, h2, h3, HP', h4⟩
      case measure =>
        rw [hm0, iter_seen h1]
        exact hls
end Go.Proofs.YtgedpjabjoodjaaDoor
