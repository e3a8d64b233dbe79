/- The three appends of l2Insert. -/
import Derived.Test.YtiojjihonmonkaaDoorRemM
import Derived.Test.YtiojjihonmonkaaDoorCreM
import Derived.Laws.OwnMore
namespace Go.Proofs.YtiojjihonmonkaaDoor
open Go.RowKit
set_option linter.unusedSimpArgs false
set_option linter.unusedVariables false

/-- A row of files, or nil, put behind a row of the call's own. -/
theorem app_run2 (w : World) (base : Nat) (p : Option Addr) (c : Nat) (xs ys : List FT) (N M : Nat) (hN : xs.length = N) (hMl : ys.length = M) (ao : Option Addr) (sc : Nat) (hown : w.ownsRow base 35 3 (.slice p N c) N (xs.flatMap fenc))
    (hsrc : (ao = none ∧ M = 0 ∧ sc = 0) ∨ ∃ ad, ao = some ad ∧ ∀ j u, (ys.flatMap fenc)[j]? = some u → w.cell? (ad.add j) = some u) (hl : N + M ≤ 1048577) (hb : base ≤ w.heap.size) :
    ∃ p' c' w', (∀ ty, (Builtin.append_ #[23, 23] ty #[.slice p N c, .slice ao M sc]).run Tryd.prog w = .ok (.slice p' (N + M) c') w') ∧
      w'.ownsRow base 35 3 (.slice p' (N + M) c') (N + M) ((xs ++ ys).flatMap fenc) ∧ w.grownBy w' (Value.slice p N c).ownBlock ∧ ∀ b, some b = (Value.slice p' (N + M) c').ownBlock → some b = (Value.slice p N c).ownBlock ∨ b = w.heap.size := by
  rcases hsrc with ⟨rfl, rfl, rfl⟩ | ⟨ad, rfl, hs⟩
  · obtain ⟨i0, hi, hz0, hz1, hz2⟩ := info_parts Tryd.infoFile
    obtain rfl := List.length_eq_zero_iff.1 hMl
    exact ⟨p, c, w, fun ty => run_append_owned_none (P := Tryd.prog) (w := w) base 23 ty 35 i0 3 Tryd.underlying23 hi _ N _ hown, by simpa using hown, ⟨rfl, rfl, rfl, Nat.le_refl _, fun _ _ _ => rfl⟩, fun b hb => .inl hb⟩
  · exact app_run w base p c xs ys N M hN hMl ad sc hown hs hl hb

def insG (F : Nat → Fil) (y : Fil) (k i : Nat) : Fil := if i < k then F i else if i = k then y else F (i - 1)

theorem ins_runs (Q : Int) (fb : Nat) (p : Option Addr) (n c base : Nat) (F : Nat → Fil) (x : FT) (y : Fil) (k : Nat) (hk : k ≤ n) (A3 : Option Addr)
    (hA3 : (p = none ∧ A3 = none ∧ n = 0 ∧ c = 0) ∨ ∃ g, p = some ⟨g, 0, none⟩ ∧ n ≤ c ∧ ((c = k ∧ A3 = some ⟨g, 0, none⟩) ∨ A3 = some ⟨g, k * 3, none⟩))
    (w : World) (hq : QAt w fb Q (.slice p n c)) (hfb : fb < base) (hbs : base ≤ w.heap.size) (hr : SRow w base (.slice p n c) n F) (hx : FTis w base (Value.slice p n c).ownBlock x y) (hn : n < 1048576) :
    ∃ p1 c1 w1 p2 c2 w2 p3 c3 w3,
      (∀ ty, (Builtin.append_ #[23, 23] ty #[.slice none 0 0, .slice p k c]).run Tryd.prog w = .ok (.slice p1 k c1) w1) ∧
      (∀ ty, (Builtin.append_ #[23, 23] ty #[.slice p1 k c1, .slice (some ⟨w1.heap.size, 0, none⟩) 1 1]).run Tryd.prog (w1.alloc (.cells #[.string x.1, .slice x.2.1.1 x.2.1.2.1 x.2.1.2.2, .int .i64 x.2.2] 35)) = .ok (.slice p2 (k + 1) c2) w2) ∧
      (∀ ty, (Builtin.append_ #[23, 23] ty #[.slice p2 (k + 1) c2, .slice A3 (n - k) (c - k)]).run Tryd.prog w2 = .ok (.slice p3 (n + 1) c3) w3) ∧
      (∀ j, j < w.heap.size → w1.heap[j]? = w.heap[j]?) ∧ (∀ j, j < w.heap.size → w2.heap[j]? = w.heap[j]?) ∧ (∀ j, j < w.heap.size → w3.heap[j]? = w.heap[j]?) ∧
      QAt (w3.setCell ⟨fb, 1, none⟩ (.slice p3 (n + 1) c3)) fb Q (.slice p3 (n + 1) c3) ∧ SRow (w3.setCell ⟨fb, 1, none⟩ (.slice p3 (n + 1) c3)) base (.slice p3 (n + 1) c3) (n + 1) (insG F y k) ∧
      w.heap.size ≤ (w3.setCell ⟨fb, 1, none⟩ (.slice p3 (n + 1) c3)).heap.size ∧ Below fb w (w3.setCell ⟨fb, 1, none⟩ (.slice p3 (n + 1) c3)) ∧ ∀ j, j ≠ fb → j < w.heap.size → (w3.setCell ⟨fb, 1, none⟩ (.slice p3 (n + 1) c3)).heap[j]? = w.heap[j]? := by
  obtain ⟨xs, hxl, hown, hdat⟩ := id hr
  obtain ⟨l1, x0, x1⟩ := id hq
  have htl : (xs.take k).length = k := by rw [List.length_take]; omega
  have hdl : (xs.drop k).length = n - k := by rw [List.length_drop, hxl]
  have hcut : xs.flatMap fenc = (xs.take k).flatMap fenc ++ (xs.drop k).flatMap fenc := by rw [← List.flatMap_append, List.take_append_drop]
  have hglt : ∀ g, p = some ⟨g, 0, none⟩ → g < w.heap.size := fun g e => by
    subst e
    rcases hown.2 with ⟨e, _⟩ | ⟨g', cap, cur, e, _, hg, _⟩
    · cases e
    · injection e with e _ _
      injection e with e
      injection e with e _ _
      subst e
      exact (Array.getElem?_eq_some_iff.1 hg).1
  have hsrc1 : (p = none ∧ k = 0 ∧ c = 0) ∨ ∃ ad, p = some ad ∧ ∀ t u, ((xs.take k).flatMap fenc)[t]? = some u → w.cell? (ad.add t) = some u := by
    rcases hA3 with ⟨rfl, _, rfl, rfl⟩ | ⟨g, rfl, _⟩
    · exact .inl ⟨rfl, by omega, rfl⟩
    · exact .inr ⟨_, rfl, fun t u hu => hown.cells (g := g) rfl t u (by
        rw [hcut, List.getElem?_append_left (List.getElem?_eq_some_iff.1 hu).1]
        exact hu)⟩
  obtain ⟨p1, c1, w1, hrun1, hown1, hgr1, hat1⟩ := app_run2 w base none 0 [] (xs.take k) 0 k rfl htl p c (World.ownsRow_nil _ _ _ _) hsrc1 (by omega) hbs
  rw [Nat.zero_add] at hrun1 hown1 hat1
  rw [List.nil_append] at hown1
  have bl1 : ∀ j, j < w.heap.size → w1.heap[j]? = w.heap[j]? := fun j hj => hgr1.block j hj (by simp [Value.ownBlock])
  have own1 : ∀ b, some b = (Value.slice p1 k c1).ownBlock → b = w.heap.size := fun b e => by
    rcases hat1 b e with h | h
    · simp [Value.ownBlock] at h
    · exact h
  have hs1 := hgr1.size
  -- the new file in a block of its own
  generalize hwA : w1.alloc (.cells #[.string x.1, .slice x.2.1.1 x.2.1.2.1 x.2.1.2.2, .int .i64 x.2.2] 35) = wA
  have hsA : wA.heap.size = w1.heap.size + 1 := by rw [← hwA, World.size_alloc]
  have blA : ∀ j, j < w1.heap.size → wA.heap[j]? = w1.heap[j]? := fun j hj => by rw [← hwA]; exact ((Below.refl w1.heap.size w1).alloc (Nat.le_refl _) _).block j hj
  have hownA : wA.ownsRow base 35 3 (.slice p1 k c1) k ((xs.take k).flatMap fenc) := row_low hown1 (fun j _ hj => blA j hj)
  have hsrcA : ∀ t u, (([x] : List FT).flatMap fenc)[t]? = some u → wA.cell? ((⟨w1.heap.size, 0, none⟩ : Addr).add t) = some u := fun t u hu => by
    rw [← hwA]
    simp only [List.flatMap_cons, List.flatMap_nil, List.append_nil, fenc] at hu
    match t, hu with
    | 0, hu => simp at hu; subst hu; simp [Addr.add, go_sem]
    | 1, hu => simp at hu; subst hu; simp [Addr.add, go_sem]
    | 2, hu => simp at hu; subst hu; simp [Addr.add, go_sem]
    | t + 3, hu => simp at hu
  obtain ⟨p2, c2, w2, hrun2, hown2, hgr2, hat2⟩ := app_run2 wA base p1 c1 (xs.take k) [x] k 1 htl rfl (some ⟨w1.heap.size, 0, none⟩) 1 hownA (.inr ⟨_, rfl, hsrcA⟩) (by omega) (by omega)
  have own2 : ∀ b, some b = (Value.slice p2 (k + 1) c2).ownBlock → w.heap.size ≤ b := fun b e => by
    rcases hat2 b e with h | h
    · have := own1 b h; omega
    · omega
  have hs2 := hgr2.size
  have bl2 : ∀ j, j < w.heap.size → w2.heap[j]? = w.heap[j]? := fun j hj => (hgr2.block j (by omega) (fun e => by have := own1 j e; omega)).trans ((blA j (by omega)).trans (bl1 j hj))
  have hsrc3 : (A3 = none ∧ n - k = 0 ∧ c - k = 0) ∨ ∃ ad, A3 = some ad ∧ ∀ t u, ((xs.drop k).flatMap fenc)[t]? = some u → w2.cell? (ad.add t) = some u := by
    rcases hA3 with ⟨rfl, rfl, rfl, rfl⟩ | ⟨g, rfl, hnc, hA⟩
    · exact .inl ⟨rfl, by omega, by omega⟩
    · refine .inr ?_
      rcases hA with ⟨hc, rfl⟩ | rfl
      · exact ⟨_, rfl, fun t u hu => by rw [List.drop_eq_nil_of_le (by omega)] at hu; simp at hu⟩
      · refine ⟨_, rfl, fun t u hu => ?_⟩
        have hl : ((xs.take k).flatMap fenc).length = k * 3 := by rw [fenc_len, htl]
        have h1 : (xs.flatMap fenc)[k * 3 + t]? = some u := by
          rw [hcut, List.getElem?_append_right (by omega), hl, Nat.add_sub_cancel_left]
          exact hu
        have h2 : k * 3 + t < n * 3 := by
          have := (List.getElem?_eq_some_iff.1 h1).1
          rw [fenc_len, hxl] at this
          exact this
        have h3 := hown.cellAt (k * 3 + t) h2
        rw [h1] at h3
        have h4 : w2.cell? ⟨g, k * 3 + t, none⟩ = some u := (World.cell?_of_block (w := w) (a := ⟨g, k * 3 + t, none⟩) (bl2 g (hglt g rfl))).trans h3
        by_cases ht : t = 0
        · subst ht; simpa [Addr.add] using h4
        · simpa [Addr.add, ht] using h4
  obtain ⟨p3, c3, w3, hrun3, hown3, hgr3, hat3⟩ := app_run2 w2 base p2 c2 (xs.take k ++ [x]) (xs.drop k) (k + 1) (n - k) (by rw [List.length_append, htl]; rfl) hdl A3 (c - k) hown2 hsrc3 (by omega) (by omega)
  have hnn : k + 1 + (n - k) = n + 1 := by omega
  rw [hnn] at hrun3 hown3 hat3
  have own3 : ∀ b, some b = (Value.slice p3 (n + 1) c3).ownBlock → w.heap.size ≤ b := fun b e => by
    rcases hat3 b e with h | h
    · exact own2 b h
    · omega
  have hs3 := hgr3.size
  have bl3 : ∀ j, j < w.heap.size → w3.heap[j]? = w.heap[j]? := fun j hj => (hgr3.block j (by omega) (fun e => by have := own2 j e; omega)).trans (bl2 j hj)
  have v0 : w3.cell? ⟨fb, 0, none⟩ = some (.int .i64 Q) := (World.cell?_of_block (w := w) (a := ⟨fb, 0, none⟩) (bl3 fb l1)).trans x0
  have v1 : w3.cell? ⟨fb, 1, none⟩ = some (.slice p n c) := (World.cell?_of_block (w := w) (a := ⟨fb, 1, none⟩) (bl3 fb l1)).trans x1
  have hS3 : SRow w3 base (.slice p3 (n + 1) c3) (n + 1) (insG F y k) := by
    refine ⟨xs.take k ++ [x] ++ xs.drop k, by rw [List.length_append, List.length_append, htl, hdl]; exact hnn, hown3, fun i z hz => ?_⟩
    rw [List.append_assoc] at hz
    have key : (i < k ∧ xs[i]? = some z) ∨ (i = k ∧ z = x) ∨ (k < i ∧ xs[i - 1]? = some z) := insL_at (l := xs) (by omega) hz
    have mv : ∀ {z : FT} {y : Fil}, FTis w base (Value.slice p n c).ownBlock z y → FTis w3 base (Value.slice p3 (n + 1) c3).ownBlock z y := fun h => h.to (by omega) (fun b _ hlt _ => bl3 b hlt) (fun b hlt _ e => by have := own3 b e; omega)
    unfold insG
    rcases key with ⟨h1, h2⟩ | ⟨h1, h2⟩ | ⟨h1, h2⟩
    · rw [if_pos h1]; exact mv (hdat i z h2)
    · rw [if_neg (by omega), if_pos h1, h2]; exact mv hx
    · rw [if_neg (by omega), if_neg (by omega)]; exact mv (hdat (i - 1) z h2)
  have hoth4 : ∀ j, j ≠ fb → j < w.heap.size → (w3.setCell ⟨fb, 1, none⟩ (.slice p3 (n + 1) c3)).heap[j]? = w.heap[j]? := fun j hj hlt => (Below.heap_setCell _ _ _ _ hj).trans (bl3 j hlt)
  have hbel4 : Below fb w (w3.setCell ⟨fb, 1, none⟩ (.slice p3 (n + 1) c3)) := ⟨hgr3.os.trans (hgr2.os.trans (by rw [← hwA]; exact hgr1.os)), hgr3.tape.trans (hgr2.tape.trans (by rw [← hwA]; exact hgr1.tape)), hgr3.output.trans (hgr2.output.trans (by rw [← hwA]; exact hgr1.output)), by simp; omega, fun j hj => hoth4 j (by omega) (by omega)⟩
  exact ⟨p1, c1, w1, p2, c2, w2, p3, c3, w3, hrun1, by rw [hwA]; exact hrun2, hrun3, bl1, bl2, bl3, ⟨by simp; omega, (World.cell?_setCell_other _ _ _ _ (by intro hh; injection hh with _ h3 _; omega)).trans v0, World.cell?_setCell_same _ _ _ v1⟩, hS3.low (by simp) (fun j h1 _ => Below.heap_setCell _ _ _ _ (by show j ≠ fb; omega)), hbel4.size, hbel4, hoth4⟩
end Go.Proofs.YtiojjihonmonkaaDoor
