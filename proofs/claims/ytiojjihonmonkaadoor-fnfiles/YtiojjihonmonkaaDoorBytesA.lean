/- l2Remove. / l2Append. / Bytes that lie at an address. -/
import Derived.Test.YtiojjihonmonkaaDoorRemM
import Derived.Deep.RegionHeld3
import Derived.Test.YtiojjihonmonkaaDoorFiles
namespace Go.Proofs.YtiojjihonmonkaaDoor
open Go.RowKit
set_option linter.unusedSimpArgs false
set_option linter.unusedVariables false

set_option maxHeartbeats 1000000 in
theorem l2Remove_miss (Q : Int) (fb : Nat) (p : Option Addr) (n c base : Nat) (F : Nat → Fil) (s : ByteArray) (hat : ∀ v, AtN F n s v → v < 0) (w : World) (hq : QAt w fb Q (.slice p n c)) (hr : SRow w base (.slice p n c) n F) (hn : n ≤ 1048576) :
    Calls Tryd.prog 42 #[.pointer (some ⟨fb, 0, none⟩), .string s] w fun e w' => LOut Q 2 n F fb base w e w' := by
  obtain ⟨l1, x0, x1⟩ := id hq
  go_enter Tryd.func42, Tryd.ntmps42
  go_wp2_with fail
  refine (l2At_any Q p n c F s _ hr.row hn).mono ?_
  rintro e w1 ⟨v, rfl, hv, hb1⟩
  have hv0 := hat v hv
  clear x0 x1
  go_wp2
  go_ret
  exact ⟨p, c, rfl, hq.keep hb1, hr.keep hb1, hb1.size, hb1.mono (Nat.le_of_lt l1), fun k _ _ hk => hb1.block k hk⟩

set_option maxHeartbeats 4000000 in
theorem l2Remove_hit (Q : Int) (fb : Nat) (p : Option Addr) (n c base : Nat) (F : Nat → Fil) (s : ByteArray) (j : Nat) (hj : j < n) (hat : ∀ v, AtN F n s v → v = (j : Int)) (w : World) (hq : QAt w fb Q (.slice p n c)) (hfb : fb < base) (hr : SRow w base (.slice p n c) n F) (hff : ∀ j, w.frozen? ⟨fb, j, none⟩ = false) (hn : n ≤ 1048576) :
    Calls Tryd.prog 42 #[.pointer (some ⟨fb, 0, none⟩), .string s] w fun e w' => LOut Q 0 (n - 1) (remF F j) fb base w e w' := by
  obtain ⟨l1, x0, x1⟩ := id hq
  go_enter Tryd.func42, Tryd.ntmps42
  go_wp2_with fail
  refine (l2At_any Q p n c F s _ hr.row hn).mono ?_
  rintro e w1 ⟨v, rfl, hv, hb1⟩
  obtain rfl := hat v hv
  have hq1 := hq.keep hb1
  have hr1 := hr.keep hb1
  have hff1 : ∀ j, w1.frozen? ⟨fb, j, none⟩ = false := fun j => (hb1.frozen (p := ⟨fb, j, none⟩) l1).trans (hff j)
  clear x0 x1 hv
  obtain ⟨g, rfl, hg1, hg2, _, _⟩ := hr1.at (by omega)
  obtain ⟨xs, hxl, hown, hdat⟩ := id hr1
  have hnc : n ≤ c := by
    rcases hown.2 with ⟨_, h0⟩ | ⟨g', cap, cur, e, _, _, h, _⟩
    · omega
    · injection e with _ _ e3
      omega
  have hcell := hown.cells (g := g) rfl
  have htl : (xs.take j).length = j := by rw [List.length_take]; omega
  have hdl : (xs.drop (j + 1)).length = n - (j + 1) := by rw [List.length_drop, hxl]
  obtain ⟨p2, c2, w2, hrun1, hown2, hgr2, hat2⟩ := app_run w1 base none 0 [] (xs.take j) 0 j rfl htl ⟨g, 0, none⟩ c (World.ownsRow_nil _ _ _ _) (fun t u hu => hcell t u (by
    have e : xs.flatMap fenc = (xs.take j).flatMap fenc ++ (xs.drop j).flatMap fenc := by rw [← List.flatMap_append, List.take_append_drop]
    rw [e, List.getElem?_append_left (List.getElem?_eq_some_iff.1 hu).1]
    exact hu)) (by omega) (by omega)
  rw [Nat.zero_add] at hrun1 hown2 hat2
  rw [List.nil_append] at hown2
  have bl2 : ∀ k, k < w1.heap.size → w2.heap[k]? = w1.heap[k]? := fun k hk => hgr2.block k hk (by simp [Value.ownBlock])
  have hs2 := hgr2.size
  obtain ⟨l1', x0, x1⟩ := id hq1
  have z0 : w2.cell? ⟨fb, 0, none⟩ = some (.int .i64 Q) := (World.cell?_of_block (w := w1) (a := ⟨fb, 0, none⟩) (bl2 fb l1')).trans x0
  have z1 : w2.cell? ⟨fb, 1, none⟩ = some (.slice (some ⟨g, 0, none⟩) n c) := (World.cell?_of_block (w := w1) (a := ⟨fb, 1, none⟩) (bl2 fb l1')).trans x1
  have j1 : (0 : Int) ≤ j := by omega
  have j2 : (j : Int) ≤ n := by omega
  have j3 : (j : Int) ≤ c := by omega
  have jw : IntKind.i64.wrap ((j : Int) + 1) = (j : Int) + 1 := by rw [IntKind.wrap_i64] <;> omega
  have j4 : (j : Int) + 1 ≤ n := by omega
  have j5 : (n : Int) ≤ c := by omega
  have src2 : ∀ t u, ((xs.drop (j + 1)).flatMap fenc)[t]? = some u → w2.cell? ((⟨g, (j + 1) * 3, none⟩ : Addr).add t) = some u := fun t u hu => by
    have e : xs.flatMap fenc = (xs.take (j + 1)).flatMap fenc ++ (xs.drop (j + 1)).flatMap fenc := by rw [← List.flatMap_append, List.take_append_drop]
    have hl : ((xs.take (j + 1)).flatMap fenc).length = (j + 1) * 3 := by rw [fenc_len, List.length_take]; congr 1; omega
    have h1 : (xs.flatMap fenc)[(j + 1) * 3 + t]? = some u := by
      rw [e, List.getElem?_append_right (by omega), hl, Nat.add_sub_cancel_left]
      exact hu
    have h2 : (j + 1) * 3 + t < n * 3 := by
      have := (List.getElem?_eq_some_iff.1 h1).1
      rw [fenc_len, hxl] at this
      exact this
    have h3 := hown.cellAt ((j + 1) * 3 + t) h2
    rw [h1] at h3
    have h4 : w2.cell? ⟨g, (j + 1) * 3 + t, none⟩ = some u := (World.cell?_of_block (w := w1) (a := ⟨g, (j + 1) * 3 + t, none⟩) (bl2 g hg2)).trans h3
    by_cases ht : t = 0
    · subst ht; simpa [Addr.add] using h4
    · simpa [Addr.add, ht] using h4
  obtain ⟨ad, hade, srcA⟩ : ∃ ad : Addr, (if c = j + 1 then some (⟨g, 0, none⟩ : Addr) else some ⟨g, (j + 1) * 3, none⟩) = some ad ∧ ∀ t u, ((xs.drop (j + 1)).flatMap fenc)[t]? = some u → w2.cell? (ad.add t) = some u := by
    by_cases hc : c = j + 1
    · exact ⟨⟨g, 0, none⟩, if_pos hc, fun t u hu => by rw [List.drop_eq_nil_of_le (by omega)] at hu; simp at hu⟩
    · exact ⟨⟨g, (j + 1) * 3, none⟩, if_neg hc, src2⟩
  obtain ⟨p3, c3, w3, hrun2, hown3, hgr3, hat3⟩ := app_run w2 base p2 c2 (xs.take j) (xs.drop (j + 1)) j (n - (j + 1)) htl hdl ad (c - (j + 1)) hown2 srcA (by omega) (by omega)
  rw [← hade] at hrun2
  have hnn : j + (n - (j + 1)) = n - 1 := by omega
  rw [hnn] at hrun2 hown3 hat3
  have own2 : ∀ b, some b = (Value.slice p2 j c2).ownBlock → b = w1.heap.size := fun b e => by
    rcases hat2 b e with h | h
    · simp [Value.ownBlock] at h
    · exact h
  have own3 : ∀ b, some b = (Value.slice p3 (n - 1) c3).ownBlock → w1.heap.size ≤ b := fun b e => by
    rcases hat3 b e with h | h
    · have := own2 b h; omega
    · omega
  have bl3 : ∀ k, k < w1.heap.size → w3.heap[k]? = w1.heap[k]? := fun k hk => (hgr3.block k (by omega) (fun e => by have := own2 k e; omega)).trans (bl2 k hk)
  have hs3 := hgr3.size
  have v1 : w3.cell? ⟨fb, 1, none⟩ = some (.slice (some ⟨g, 0, none⟩) n c) := (World.cell?_of_block (w := w1) (a := ⟨fb, 1, none⟩) (bl3 fb l1')).trans x1
  have v0 : w3.cell? ⟨fb, 0, none⟩ = some (.int .i64 Q) := (World.cell?_of_block (w := w1) (a := ⟨fb, 0, none⟩) (bl3 fb l1')).trans x0
  have vf : ∀ j, w3.frozen? ⟨fb, j, none⟩ = false := fun j => (World.frozen?_of_block (w := w1) (a := ⟨fb, j, none⟩) (bl3 fb l1')).trans (hff1 j)
  have hS3 : SRow w3 base (.slice p3 (n - 1) c3) (n - 1) (remF F j) := by
    have hel : xs.take j ++ xs.drop (j + 1) = xs.eraseIdx j := (List.eraseIdx_eq_take_drop_succ xs j).symm
    refine ⟨xs.take j ++ xs.drop (j + 1), by rw [List.length_append, htl, hdl]; exact hnn, hown3, fun i x hx => ?_⟩
    have hx2 : xs[sh j i]? = some x := by
      rw [← hx, hel, List.getElem?_eraseIdx]
      unfold sh
      split <;> rfl
    exact (hdat _ _ hx2).to (by omega) (fun b _ hlt _ => bl3 b hlt) (fun b hlt _ e => by have := own3 b e; omega)
  have hS4 : SRow (w3.setCell ⟨fb, 1, none⟩ (.slice p3 (n - 1) c3)) base (.slice p3 (n - 1) c3) (n - 1) (remF F j) := hS3.low (by simp) (fun k h1 _ => Below.heap_setCell _ _ _ _ (by show k ≠ fb; omega))
  have hq4 : QAt (w3.setCell ⟨fb, 1, none⟩ (.slice p3 (n - 1) c3)) fb Q (.slice p3 (n - 1) c3) := ⟨by simp; omega, (World.cell?_setCell_other _ _ _ _ (by intro hh; injection hh with _ h3 _; omega)).trans v0, World.cell?_setCell_same _ _ _ v1⟩
  have hoth4 : ∀ k, k ≠ fb → k < w.heap.size → (w3.setCell ⟨fb, 1, none⟩ (.slice p3 (n - 1) c3)).heap[k]? = w.heap[k]? := fun k hk hlt => (Below.heap_setCell _ _ _ _ hk).trans ((bl3 k (by have := hb1.size; omega)).trans (hb1.block k hlt))
  have hbel4 : Below fb w (w3.setCell ⟨fb, 1, none⟩ (.slice p3 (n - 1) c3)) := ⟨hgr3.os.trans (hgr2.os.trans hb1.os), hgr3.tape.trans (hgr2.tape.trans hb1.tape), hgr3.output.trans (hgr2.output.trans hb1.output), by have := hb1.size; simp; omega, fun k hk => hoth4 k (by omega) (by omega)⟩
  have hsz4 : w.heap.size ≤ (w3.setCell ⟨fb, 1, none⟩ (.slice p3 (n - 1) c3)).heap.size := hbel4.size
  clear hown hdat hcell hr1 hr hq hq1 hff hff1 hown2 hown3 src2 srcA hade bl2 bl3 hgr2 hgr3 hat2 hat3 own2 own3 hS3 v0 htl hdl hat hs2 hs3
  have hd : decide ((j : Int) < 0) = false := by simp
  have tok : True := trivial
  go_wp2_with (first | (at_builtin; clear tok; refine wpList_append_run _ rfl (.tmp 14) (.tmp 20) 23 rfl (.slice none 0 0) (.slice (some ⟨g, 0, none⟩) j c) (.slice p2 j c2) rfl rfl w2 hrun1 ?_) | (at_builtin; (refine wpList_append_run _ rfl (.tmp 23) (.tmp 30) 23 rfl (.slice p2 j c2) (.slice (if c = j + 1 then some ⟨g, 0, none⟩ else some ⟨g, (j + 1) * 3, none⟩) (n - (j + 1)) (c - (j + 1))) (.slice p3 (n - 1) c3) rfl rfl w3 hrun2 ?_)))
  all_goals
    go_ret
    exact ⟨p3, c3, rfl, hq4, hS4, hsz4, hbel4, fun k _ hk hlt => hoth4 k hk hlt⟩
end Go.Proofs.YtiojjihonmonkaaDoor
namespace Go.Proofs.YtiojjihonmonkaaDoor
open Go.RowKit
set_option linter.unusedSimpArgs false
set_option linter.unusedVariables false

set_option maxHeartbeats 1000000 in
theorem l2Append_miss (Q : Int) (fb : Nat) (p : Option Addr) (n c base : Nat) (F : Nat → Fil) (s : ByteArray) (bo : Option Addr) (bl bc : Nat) (hat : ∀ v, AtN F n s v → v < 0) (w : World) (hq : QAt w fb Q (.slice p n c)) (hr : SRow w base (.slice p n c) n F) (hn : n ≤ 1048576) :
    Calls Tryd.prog 43 #[.pointer (some ⟨fb, 0, none⟩), .string s, .slice bo bl bc] w fun e w' => LOut Q 2 n F fb base w e w' := by
  obtain ⟨l1, x0, x1⟩ := id hq
  go_enter Tryd.func43, Tryd.ntmps43
  go_wp2_with fail
  refine (l2At_any Q p n c F s _ hr.row hn).mono ?_
  rintro e w1 ⟨v, rfl, hv, hb1⟩
  have hv0 := hat v hv
  clear x0 x1
  go_wp2
  go_ret
  exact ⟨p, c, rfl, hq.keep hb1, hr.keep hb1, hb1.size, hb1.mono (Nat.le_of_lt l1), fun k _ _ hk => hb1.block k hk⟩

set_option maxHeartbeats 1000000 in
theorem l2Append_full (Q : Int) (fb : Nat) (p : Option Addr) (n c base : Nat) (F : Nat → Fil) (s : ByteArray) (bo : Option Addr) (bl bc : Nat) (hat : ∀ v, AtN F n s v → 0 ≤ v) (hu : used F n ≤ 60000) (hbl : bl ≤ 1048576) (hfull : Q < ((used F n + bl : Nat) : Int)) (w : World) (hq : QAt w fb Q (.slice p n c)) (hr : SRow w base (.slice p n c) n F) (hn : n ≤ 1048576) (hz : FSize n F 1048576) :
    Calls Tryd.prog 43 #[.pointer (some ⟨fb, 0, none⟩), .string s, .slice bo bl bc] w fun e w' => LOut Q 4 n F fb base w e w' := by
  obtain ⟨l1, x0, x1⟩ := id hq
  go_enter Tryd.func43, Tryd.ntmps43
  go_wp2_with fail
  refine (l2At_any Q p n c F s _ hr.row hn).mono ?_
  rintro e w1 ⟨v, rfl, hv, hb1⟩
  have hv0 := hat v hv
  have hv1 : ¬ v < 0 := by omega
  have hq1 := hq.keep hb1
  have hr1 := (hr.keep hb1).row.keep (Below.refl _ _).drew
  obtain ⟨_, y0, y1⟩ := id hq1
  have l2 : fb < w1.heap.size := hq1.lt
  have hwr : IntKind.i64.wrap (((used F n : Nat) : Int) + (bl : Int)) = ((used F n : Nat) : Int) + (bl : Int) := by rw [IntKind.wrap_i64] <;> omega
  have hlt : Q < ((used F n : Nat) : Int) + (bl : Int) := by omega
  have hb1' := hb1
  clear x0 x1 hv hq1
  go_wp2
  go_region_held3 (fun w' => w'.cell? ⟨fb, 0, none⟩ = some (.int .i64 Q) ∧ w'.cell? ⟨fb, 1, none⟩ = some (.slice p n c)) (go_keep) (first | (go_at_call 37; refine (l2Used_any Q p n c F _ hr1 hn hz).mono ?_; rintro e w2 ⟨rfl, hb2⟩; have hb2' := (Below.refl _ w1).drew.trans hb2; have g0 := (hb2'.cell (p := ⟨fb, 0, none⟩) l2).trans y0; have g1 := (hb2'.cell (p := ⟨fb, 1, none⟩) l2).trans y1))
  go_wp2
  go_ret
  have hb3 := hb1.trans (hb2'.mono hb1.size)
  exact ⟨p, c, rfl, hq.keep hb3, hr.keep hb3, hb3.size, hb3.mono (Nat.le_of_lt l1), fun k _ _ hk => hb3.block k hk⟩
end Go.Proofs.YtiojjihonmonkaaDoor
namespace Go.Proofs.YtiojjihonmonkaaDoor
open Go.RowKit
set_option linter.unusedVariables false

/-- m bytes lie at ad. -/
def BA (w : World) (ad : Addr) (m : Nat) (h : Nat → Int) : Prop := ad.block < w.heap.size ∧ ad.spot = none ∧ ∀ i, i < m → w.cell? (ad.add i) = some (.int .u8 (h i))
theorem BA.keep {w w' : World} {ad : Addr} {m : Nat} {h : Nat → Int} (hA : BA w ad m h) (hb : Below w.heap.size w w') : BA w' ad m h := by
  obtain ⟨h1, h2, h3⟩ := hA
  refine ⟨Nat.lt_of_lt_of_le h1 hb.size, h2, fun i hi => ?_⟩
  have e : (ad.add i).block = ad.block := by unfold Addr.add; split <;> rfl
  exact (World.cell?_of_block (w := w) (a := ad.add i) (hb.block _ (by rw [e]; exact h1))).trans (h3 i hi)
theorem BA.own {w : World} {g n : Nat} {f : Nat → Int} (h : Own w g 0 n f) : BA w ⟨g, 0, none⟩ n f := by
  refine ⟨h.lt, rfl, fun i hi => ?_⟩
  have := h.cell i hi
  by_cases e : i = 0
  · subst e; simpa [Addr.add] using this
  · simpa [Addr.add, e] using this
/-- The same of a slice that may be nil. -/
def BAO (w : World) (ao : Option Addr) (m bc : Nat) (h : Nat → Int) : Prop := (ao = none ∧ m = 0 ∧ bc = 0) ∨ ∃ ad, ao = some ad ∧ BA w ad m h
theorem BAO.keep {w w' : World} {ao : Option Addr} {m bc : Nat} {h : Nat → Int} (hA : BAO w ao m bc h) (hb : Below w.heap.size w w') : BAO w' ao m bc h := by
  rcases hA with h1 | ⟨ad, h1, h2⟩
  · exact .inl h1
  · exact .inr ⟨ad, h1, h2.keep hb⟩
end Go.Proofs.YtiojjihonmonkaaDoor
