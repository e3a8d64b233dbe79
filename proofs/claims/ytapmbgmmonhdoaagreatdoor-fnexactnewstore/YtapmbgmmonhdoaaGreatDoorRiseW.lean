/- rising, walked over the sort's contract. -/
import Derived.Test.YtapmbgmmonhdoaaGreatDoorRising
namespace Go.Proofs.YtapmbgmmonhdoaaGreatDoor
set_option maxRecDepth 100000
open Go.RowKit
open Go.ChangeMaps (setBlock)
set_option linter.unusedSimpArgs false
set_option linter.unusedVariables false

theorem step_other {wr w1 : World} {r : Nat} {o : Obj} (hw : w1 = wr ∨ w1 = wr.drew) {j : Nat} (hj : j ≠ r) : (setBlock w1 r o).heap[j]? = wr.heap[j]? := by
  have hh : w1.heap = wr.heap := by rcases hw with rfl | rfl <;> rfl
  simp [setBlock, hh, Ne.symm hj]

/-- The sort by names, wherever the row lies. -/
def SortC (base : Nat) : Prop := ∀ (xs : List FT) (v : Value) (W : World), W.ownsRow base 40 3 v xs.length (xs.flatMap fenc) → (xs.map (·.1)).Nodup → xs.length ≤ 1048576 →
  Calls Tryz.prog 108 #[v, .func (.func 109) #[] #[]] W fun e w' => SortOut base v xs W e w'

set_option maxHeartbeats 2000000 in
theorem risingD_any (Q : Int) (bm clock : Nat) (L : List (FT × Nat)) (w : World) (hM : MHas w bm L clock) (hL : L.length ≤ 1048576) (hsort : SortC (w.heap.size + 2)) :
    Calls Tryz.prog 66 #[.agg #[.int .i64 Q, .map (some bm)]] w fun e w' => RiseOut L w e w' := by
  obtain ⟨i0, hi, hz0, hz1, hz2⟩ := info_parts Tryz.infoFile
  have hlt := hM.lt
  have hB : Below w.heap.size w (w.alloc (.cells #[.int .i64 Q, .map (some bm)] 68)) := (Below.refl _ _).alloc (Nat.le_refl _) _
  have hb' := (hM.keep hB).map
  have hrg := run_range_map (P := Tryz.prog) _ 66 9 40 bm _ clock Tryz.underlying66 hb'
  have hI : ((w.alloc (.cells #[.int .i64 Q, .map (some bm)] 68)).alloc (.mapIter (some bm) clock #[] clock)).heap[w.heap.size + 1]? = some (.mapIter (some bm) clock #[] clock) := by
    have := heap_alloc_new (w.alloc (.cells #[.int .i64 Q, .map (some bm)] 68)) (.mapIter (some bm) clock #[] clock)
    simpa using this
  have hM0 : ((w.alloc (.cells #[.int .i64 Q, .map (some bm)] 68)).alloc (.mapIter (some bm) clock #[] clock)).heap[bm]? = some (.map (esOf L) clock) := (heap_alloc_old _ _ (by simp; omega)).trans hb'
  have hB2 : Below w.heap.size w ((w.alloc (.cells #[.int .i64 Q, .map (some bm)] 68)).alloc (.mapIter (some bm) clock #[] clock)) := hB.alloc (by simp) _
  have hold : ∀ x ∈ (esOf L).toList, x.born < clock := fun x hx => by obtain ⟨p, hp, rfl⟩ := mem_esOf hx; exact hM.old p hp
  have hnd : ((esOf L).toList.map (·.born)).Nodup := by
    have : (esOf L).toList.map (·.born) = L.map (·.2) := by simp only [esOf, List.map_map]; rfl
    rw [this]; exact hM.born
  have hbn := hM.born
  have hnm := hM.names
  have hP0 : (([] : List FT) ++ leftF L #[]).Perm (L.map (·.1)) := by rw [left_all, List.nil_append]
  rw [World.size_alloc] at hrg
  generalize hE : esOf L = E at hrg hI hM0 hB2 hold hnd
  have HE : Hid (esOf L = E) := hE
  clear hE hb' hB hM
  go_enter Tryz.func66, Tryz.ntmps66
  go_wp2
  go_loopw [3] (fun o wr => ∃ (seen : Array Nat) (c0 : Nat) (xs : List FT), clock ≤ c0 ∧ wr.heap[w.heap.size + 1]? = some (.mapIter (some bm) clock seen c0) ∧ wr.heap[bm]? = some (.map E clock) ∧ Below w.heap.size w wr ∧ Hid ((xs ++ leftF L seen).Perm (L.map (·.1))) ∧ wr.ownsRow (w.heap.size + 2) 40 3 o xs.length (xs.flatMap fenc)) (fun _ wr => (leftOf E (wr.iterSeen (w.heap.size + 1))).size)
  case atStart => exact ⟨#[], clock, [], Nat.le_refl _, hI, hM0, hB2, hP0, World.ownsRow_nil _ _ _ _⟩
  case round =>
    obtain ⟨seen, c0, xs, hc0, hr, hbm, hbk, HP, hown⟩ := hrel
    clear hrg hI hM0 hB2 hP0
    have law := run_next_at (P := Tryz.prog) wr 0 (w.heap.size + 1) bm clock c0 seen E clock hr hbm hold hc0
    have hrl : w.heap.size + 1 < wr.heap.size := (Array.getElem?_eq_some_iff.1 hr).1
    have hxs : xs.length ≤ 1048576 := by
      have := HP.out.length_eq
      simp only [List.length_append, List.length_map] at this
      omega
    rcases law with ⟨h0, hrun⟩ | ⟨e, he, w1, hw1, hrun⟩
    · have hnx : ∀ ty, (Instr.next (.pointer (some ⟨w.heap.size + 1, 0, none⟩)) false ty).run Tryz.prog wr = _ := fun _ => hrun
      have HP2 : Hid (xs.Perm (L.map (·.1))) := by
        subst HE
        have := HP.out
        rw [left_none h0, List.append_nil] at this
        exact this
      have hnx2 : (xs.map (·.1)).Nodup := by
        have h1 := HP2.out.map (·.1)
        rw [List.map_map] at h1
        exact h1.nodup_iff.2 hnm
      clear hrun h0 HP
      go_wp2_with fail
      refine (hsort xs _ _ hown hnx2 hxs).mono ?_
      rintro e w' ⟨rfl, ys, hp, hpw, hown', hg⟩
      have bw' := below_row hbk hown hg (by omega) hbk.size
      have HY : Hid (ys.Perm (L.map (·.1))) := hp.trans HP2.out
      clear hp hg hown HP2 hsort
      go_wp2
      go_ret
      exact ⟨_, ys, rfl, HY.out, hpw, hown', bw'⟩
    · have hme := (mem_left he).1
      have hns := (mem_left he).2
      have hls := left_shrinks E seen e he
      obtain ⟨p, hp, ei⟩ := mem_esOf (HE.out ▸ hme)
      have hborn : e.born = p.2 := by rw [ei]; rfl
      have hkey : e.key = .string p.1.1 := by rw [ei]; rfl
      have hval : e.val = .agg #[.string p.1.1, .slice p.1.2.1.1 p.1.2.1.2.1 p.1.2.1.2.2, .int .i64 p.1.2.2] := by rw [ei]; rfl
      rw [hborn] at hls hns
      have HP' : Hid (((xs ++ [p.1]) ++ leftF L (seen.push p.2)).Perm (L.map (·.1))) := by
        unfold Hid
        rw [List.append_assoc]
        exact (List.Perm.append_left xs (left_step hbn hp hns).symm).trans HP.out
      have hen := fun (w2 : World) h1 h2 => run_entry_at (P := Tryz.prog) w2 (w.heap.size + 1) bm clock seen E clock e h1 h2 hme hnd
      rw [hborn, hkey, hval] at hrun
      rw [hborn, hkey, hval] at hen
      obtain ⟨f1, f2, f3, f4⟩ := step_next (o := .mapIter (some bm) clock (seen.push p.2) clock) hw1 hrl hbm (by omega) (Nat.le_succ _) hbk
      have hown2 : (setBlock w1 (w.heap.size + 1) (.mapIter (some bm) clock (seen.push p.2) clock)).ownsRow (w.heap.size + 2) 40 3 _ xs.length (xs.flatMap fenc) := row_low hown (fun j h1 h2 => step_other hw1 (by omega))
      generalize setBlock w1 (w.heap.size + 1) (.mapIter (some bm) clock (seen.push p.2) clock) = w2 at hrun f1 f2 f3 f4 hown2
      have hen2 := hen w2 f1 f2
      have hnx : ∀ ty, (Instr.next (.pointer (some ⟨w.heap.size + 1, 0, none⟩)) false ty).run Tryz.prog wr = _ := fun _ => hrun
      have hm0 := iter_seen hr
      have hfl : (xs ++ [p.1]).flatMap fenc = xs.flatMap fenc ++ fenc p.1 := by simp
      have hxl : xs.length + 1 ≤ 1048577 := by omega
      have hbl : bm < w.heap.size := hlt
      generalize hpx : p.1 = x at hrun hen2 HP' hfl hnx
      obtain ⟨nm, ⟨da, len, dc⟩, sy⟩ := x
      have e1 := World.news_of_block (heap_alloc_new (w2.alloc (.cells #[.string nm, .slice da len dc, .int .i64 sy] 40)) (.cells #[.string nm, .slice da len dc, .int .i64 sy] 40))
      rw [World.size_alloc] at e1
      clear hrun hen he hme ei hborn hkey hval hw1 hown HP
      have own3 := (hown2.alloc (.cells #[.string nm, .slice da len dc, .int .i64 sy] 40)).alloc (.cells #[.string nm, .slice da len dc, .int .i64 sy] 40)
      have fz : w.heap.size + 1 < w2.heap.size := by omega
      clear f4
      go_wp2_with (at_builtin; refine wpList_append_lies _ rfl (.tmp 13) (.tmp 15) 22 rfl (w.heap.size + 2) 40 i0 (.agg #[.string ByteArray.empty, .slice none 0 0, .int .i64 0]) 3 48 Tryz.underlying22 hi hz0 hz1 hz2 rfl (by decide) _ _ _ rfl own3 ⟨w2.heap.size + 1, 0, none⟩ 1 1 [.string nm, .slice da len dc, .int .i64 sy] rfl rfl e1 (fenc_one (nm, (da, len, dc), sy)) (by omega) (by unfold maxLen; omega) (by omega) (by simp; omega) (w2.heap.size + 1 + 1) (by simp) ?_; intro g cp' w3 hown3 hgrow hat hlg)
      have n1 := row_ne own3 (show w.heap.size + 1 < w.heap.size + 2 by omega)
      have n2 := row_ne own3 (show bm < w.heap.size + 2 by omega)
      have h1 : w3.heap[w.heap.size + 1]? = some (.mapIter (some bm) clock (seen.push p.2) clock) := (hgrow.block _ (by simp; omega) n1).trans ((heap_alloc_old _ _ (by simp; omega)).trans ((heap_alloc_old _ _ (by omega)).trans f1))
      have h2 : w3.heap[bm]? = some (.map E clock) := (hgrow.block _ (by simp; omega) n2).trans ((heap_alloc_old _ _ (by simp; omega)).trans ((heap_alloc_old _ _ (by omega)).trans f2))
      have h3 := below_row ((f3.alloc (B := w.heap.size) f3.size (.cells #[.string nm, .slice da len dc, .int .i64 sy] 40)).alloc (B := w.heap.size) (by have := f3.size; simp; omega) (.cells #[.string nm, .slice da len dc, .int .i64 sy] 40)) own3 hgrow (by omega) (by have := f3.size; simp; omega)
      have h4 : w3.ownsRow (w.heap.size + 2) 40 3 (.slice (some ⟨g, 0, none⟩) (xs.length + 1) cp') (xs ++ [((nm, (da, len, dc), sy) : FT)]).length ((xs ++ [((nm, (da, len, dc), sy) : FT)]).flatMap fenc) := by
        rw [hfl, List.length_append]
        exact hown3
      clear hown2 own3 hown3 hgrow hat hlg n1 n2 f1 f2 f3 e1 hen2 hnx hfl
      go_wp2
      go_roundw
      case rel => exact ⟨seen.push p.2, clock, _, Nat.le_refl _, h1, h2, h3, HP', h4⟩
      case measure =>
        rw [hm0, iter_seen h1]
        exact hls
end Go.Proofs.YtapmbgmmonhdoaaGreatDoor
