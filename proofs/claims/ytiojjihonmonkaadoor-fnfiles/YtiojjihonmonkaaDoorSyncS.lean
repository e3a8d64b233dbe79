/- SyncFile, the model's text. -/
import Derived.Test.YtiojjihonmonkaaDoorOwnS
import Derived.Test.YtiojjihonmonkaaDoorSortF
import Derived.Test.YtiojjihonmonkaaDoorTell
import Derived.Laws.Rows
namespace Go.Proofs.YtiojjihonmonkaaDoor
open Go.RowKit
set_option linter.unusedSimpArgs false
set_option linter.unusedVariables false

theorem fm_cells (xs : List FT) {i : Nat} {x : FT} (hx : xs[i]? = some x) : (xs.flatMap fenc)[i * 3]? = some (.string x.1) ∧ (xs.flatMap fenc)[i * 3 + 1]? = some (.slice x.2.1.1 x.2.1.2.1 x.2.1.2.2) ∧ (xs.flatMap fenc)[i * 3 + 2]? = some (.int .i64 x.2.2) := by
  obtain ⟨hi, e⟩ := List.getElem?_eq_some_iff.1 hx
  have e2 : xs[i]! = x := by rw [getElem!_pos xs i hi, e]
  refine ⟨?_, ?_, ?_⟩
  · rw [fm_get? xs _ (by omega), show i * 3 / 3 = i by omega, show i * 3 % 3 = 0 by omega, e2]; rfl
  · rw [fm_get? xs _ (by omega), show (i * 3 + 1) / 3 = i by omega, show (i * 3 + 1) % 3 = 1 by omega, e2]; rfl
  · rw [fm_get? xs _ (by omega), show (i * 3 + 2) / 3 = i by omega, show (i * 3 + 2) % 3 = 2 by omega, e2]; rfl
/-- The row of files, told cell by cell. -/
theorem SRow.at {w : World} {base n : Nat} {p : Option Addr} {c : Nat} {F : Nat → Fil} (h : SRow w base (.slice p n c) n F) (hn : n ≠ 0) :
    ∃ g, p = some ⟨g, 0, none⟩ ∧ base ≤ g ∧ g < w.heap.size ∧ (∀ j, w.frozen? ⟨g, j, none⟩ = false) ∧ ∀ i, i < n → ∃ da dc, FAt w g (i * 3) (F i) da dc ∧ ∀ b off, da = some ⟨b, off, none⟩ → (F i).len ≠ 0 → b ≠ g ∧ base ≤ b := by
  obtain ⟨xs, hl, hown, hdat⟩ := h
  rcases id hown.2 with ⟨_, h0⟩ | ⟨g, cap, cur, e, hbg, hg, _⟩
  · omega
  · injection e with e1 e2 e3
    subst e1 e3
    refine ⟨g, rfl, hbg, (Array.getElem?_eq_some_iff.1 hg).1, fun j => hown.frozenAt j, fun i hi => ?_⟩
    obtain ⟨x, hx⟩ : ∃ x, xs[i]? = some x := ⟨_, List.getElem?_eq_getElem (by omega)⟩
    obtain ⟨k0, k1, k2⟩ := fm_cells xs hx
    obtain ⟨d1, d2, d3, d4, d5, d6⟩ := hdat i x hx
    refine ⟨x.2.1.1, x.2.1.2.2, ⟨?_, ?_, ?_, d4⟩, fun b off e h0 => ⟨fun eb => (d5 b off e h0).1 (by rw [eb]; rfl), (d5 b off e h0).2⟩⟩
    · rw [hown.cellAt _ (by omega), k0, d1]
    · rw [hown.cellAt _ (by omega), k1, d2]
    · rw [hown.cellAt _ (by omega), k2, d3]
theorem SRow.row {w : World} {base n : Nat} {p : Option Addr} {c : Nat} {F : Nat → Fil} (h : SRow w base (.slice p n c) n F) : FRow w p n F := by
  by_cases hn : n = 0
  · exact ⟨.inl hn⟩
  · obtain ⟨g, rfl, h1, h2, h3, h4⟩ := h.at hn
    exact ⟨.inr ⟨g, 0, rfl, h2, fun i hi => by obtain ⟨da, dc, hf, _⟩ := h4 i hi; exact ⟨da, dc, by rw [Nat.zero_add]; exact hf⟩⟩⟩
theorem SRow.keep {w w' : World} {base n : Nat} {v : Value} {F : Nat → Fil} (h : SRow w base v n F) (hb : Below w.heap.size w w') : SRow w' base v n F := by
  obtain ⟨xs, hl, hown, hdat⟩ := h
  exact ⟨xs, hl, row_low hown (fun j _ hj => hb.block j hj), hdat.to hb.size (fun b _ hlt _ => hb.block b hlt) (fun _ _ h => h)⟩
theorem SRow.low {w w' : World} {base n : Nat} {v : Value} {F : Nat → Fil} (h : SRow w base v n F) (hs : w.heap.size ≤ w'.heap.size) (hb : ∀ j, base ≤ j → j < w.heap.size → w'.heap[j]? = w.heap[j]?) : SRow w' base v n F := by
  obtain ⟨xs, hl, hown, hdat⟩ := h
  exact ⟨xs, hl, row_low hown hb, hdat.to hs (fun b h1 hlt _ => hb b h1 hlt) (fun _ _ h => h)⟩

/-- File j is synced. -/
def syncF (F : Nat → Fil) (j i : Nat) : Fil := if i = j then { F j with sy := ((F j).len : Int) } else F i

/-- n files at ao, in blocks from base on: they stay while blocks below it are written. -/
def FLow (w : World) (base : Nat) (ao : Option Addr) (n : Nat) (F : Nat → Fil) : Prop := ∀ u : World, w.heap.size ≤ u.heap.size → (∀ j, base ≤ j → j < w.heap.size → u.heap[j]? = w.heap[j]?) → FRow u ao n F
theorem SRow.flow {w : World} {base n : Nat} {p : Option Addr} {c : Nat} {F : Nat → Fil} (h : SRow w base (.slice p n c) n F) : FLow w base p n F := fun u hs hb => (h.low hs hb).row
theorem FLow.row {w : World} {base n : Nat} {p : Option Addr} {F : Nat → Fil} (h : FLow w base p n F) : FRow w p n F := h w (Nat.le_refl _) (fun _ _ _ => rfl)
theorem FLow.low {w w' : World} {base n : Nat} {p : Option Addr} {F : Nat → Fil} (h : FLow w base p n F) (hs : w.heap.size ≤ w'.heap.size) (hb : ∀ j, base ≤ j → j < w.heap.size → w'.heap[j]? = w.heap[j]?) : FLow w' base p n F :=
  fun u h1 h2 => h u (Nat.le_trans hs h1) (fun j h3 h4 => (h2 j h3 (Nat.lt_of_lt_of_le h4 hs)).trans (hb j h3 h4))
theorem low_of {w : World} {g n base : Nat} {F : Nat → Fil} (hg1 : base ≤ g) (hg2 : g < w.heap.size) (h : ∀ i, i < n → ∃ da dc, FAt w g (i * 3) (F i) da dc ∧ ∀ b off, da = some ⟨b, off, none⟩ → (F i).len ≠ 0 → base ≤ b) : FLow w base (some ⟨g, 0, none⟩) n F := by
  intro u hs hb
  refine ⟨.inr ⟨g, 0, rfl, Nat.lt_of_lt_of_le hg2 hs, fun i hi => ?_⟩⟩
  obtain ⟨da, dc, ⟨f0, f1, f2, frow⟩, hda⟩ := h i hi
  have cl : ∀ j, u.cell? ⟨g, j, none⟩ = w.cell? ⟨g, j, none⟩ := fun j => World.cell?_of_block (w := w) (a := ⟨g, j, none⟩) (hb g hg1 hg2)
  exact ⟨da, dc, by rw [Nat.zero_add]; exact ⟨(cl _).trans f0, (cl _).trans f1, (cl _).trans f2, row_blocks frow hs (fun b off e h0 hlt => hb b (hda b off e h0) hlt)⟩⟩

/-- A row of files in one block, told cell by cell, is a row of the call's own. -/
theorem srow_of {w : World} {g n base cap : Nat} {cur : Array Value} {F : Nat → Fil} (hg1 : base ≤ g) (hb : w.heap[g]? = some (.cells cur 35 (0, 0))) (hsz : cur.size = cap * 3) (hnc : n ≤ cap) (hmx : cap ≤ maxLen)
    (h : ∀ i, i < n → ∃ da dc, FAt w g (i * 3) (F i) da dc ∧ (∀ b off, da = some ⟨b, off, none⟩ → (F i).len ≠ 0 → b ≠ g ∧ base ≤ b) ∧ CapO da (F i).len dc) : SRow w base (.slice (some ⟨g, 0, none⟩) n cap) n F := by
  have hcell : ∀ j, w.cell? ⟨g, j, none⟩ = cur[j]? := fun j => cell_of_row _ _ _ _ _ _ hb
  have key : ∀ m, m ≤ n → ∃ xs : List FT, xs.length = m ∧ cur.toList.take (m * 3) = xs.flatMap fenc ∧ DatF w base (some g) F xs := by
    intro m
    induction m with
    | zero => intro _; exact ⟨[], rfl, by simp, fun i x hx => by simp at hx⟩
    | succ m ih =>
      intro hm
      obtain ⟨xs, h1, h2, h3⟩ := ih (by omega)
      obtain ⟨da, dc, ⟨f0, f1, f2, frow⟩, hda, hcO⟩ := h m (by omega)
      rw [hcell] at f0 f1 f2
      refine ⟨xs ++ [((F m).nm, (da, (F m).len, dc), (F m).sy)], by simp [h1], ?_, ?_⟩
      · rw [List.flatMap_append, ← h2]
        have e0 : cur.toList[m * 3]? = some (.string (F m).nm) := by rw [Array.getElem?_toList]; exact f0
        have e1 : cur.toList[m * 3 + 1]? = some (.slice da (F m).len dc) := by rw [Array.getElem?_toList]; exact f1
        have e2 : cur.toList[m * 3 + 2]? = some (.int .i64 (F m).sy) := by rw [Array.getElem?_toList]; exact f2
        rw [show (m + 1) * 3 = m * 3 + 1 + 1 + 1 by omega, List.take_add_one, List.take_add_one, List.take_add_one, e0, e1, e2]
        simp [fenc]
      · intro i x hx
        by_cases hi : i < xs.length
        · rw [List.getElem?_append_left hi] at hx
          exact h3 i x hx
        · have hlt := (List.getElem?_eq_some_iff.1 hx).1
          rw [List.length_append] at hlt
          simp at hlt
          have e : i = m := by omega
          subst e
          rw [List.getElem?_append_right (by omega), h1] at hx
          simp at hx
          subst hx
          exact ⟨rfl, rfl, rfl, frow, fun b off e h0 => ⟨fun eb => (hda b off e h0).1 (Option.some.inj eb), (hda b off e h0).2⟩, hcO⟩
  obtain ⟨xs, h1, h2, h3⟩ := key n (Nat.le_refl _)
  exact ⟨xs, h1, ⟨by rw [← h2, List.length_take]; simp; omega, .inr ⟨g, cap, cur, rfl, hg1, hb, hnc, hmx, hsz, h2⟩⟩, h3⟩
theorem SRow.cap {w : World} {base n : Nat} {g c : Nat} {F : Nat → Fil} (h : SRow w base (.slice (some ⟨g, 0, none⟩) n c) n F) {i : Nat} (hi : i < n) {da : Option Addr} {len dc : Nat} (hc : w.cell? ⟨g, i * 3 + 1, none⟩ = some (.slice da len dc)) : CapO da len dc := by
  obtain ⟨xs, hl, hown, hdat⟩ := h
  obtain ⟨x, hx⟩ : ∃ x, xs[i]? = some x := ⟨_, List.getElem?_eq_getElem (by omega)⟩
  obtain ⟨k0, k1, k2⟩ := fm_cells xs hx
  obtain ⟨d1, d2, d3, d4, d5, d6⟩ := hdat i x hx
  have e := hown.cellAt (i * 3 + 1) (by omega)
  rw [hc, k1] at e
  injection e with e
  injection e with e1 e2 e3
  subst e1 e2 e3
  exact d6
theorem SRow.blk {w : World} {base n : Nat} {g c : Nat} {F : Nat → Fil} (h : SRow w base (.slice (some ⟨g, 0, none⟩) n c) n F) : ∃ cur : Array Value, w.heap[g]? = some (.cells cur 35 (0, 0)) ∧ cur.size = c * 3 ∧ n ≤ c ∧ c ≤ maxLen := by
  obtain ⟨xs, hl, hown, hdat⟩ := h
  rcases hown.2 with ⟨e, _⟩ | ⟨g', cap, cur, e, h1, h2, h3, h4, h5, h6⟩
  · cases e
  · injection e with e1 e2 e3
    injection e1 with e1
    injection e1 with e1 _ _
    subst e1 e3
    exact ⟨cur, h2, h5, h3, h4⟩
theorem blk_set {w : World} {g c k : Nat} {cur : Array Value} (v : Value) (h : w.heap[g]? = some (.cells cur 35 (0, 0))) (hs : cur.size = c * 3) : ∃ cur' : Array Value, (w.setCell ⟨g, k, none⟩ v).heap[g]? = some (.cells cur' 35 (0, 0)) ∧ cur'.size = c * 3 :=
  ⟨_, heap_setCell_same w g k cur _ v h, by simpa using hs⟩

theorem sync_row {w : World} {g n base j : Nat} {F : Nat → Fil} {c : Nat} (hj : j < n) (hg1 : base ≤ g) (hg2 : g < w.heap.size) (hS : SRow w base (.slice (some ⟨g, 0, none⟩) n c) n F) (hgc : ∀ i, i < n → ∃ da dc, FAt w g (i * 3) (F i) da dc ∧ ∀ b off, da = some ⟨b, off, none⟩ → (F i).len ≠ 0 → b ≠ g ∧ base ≤ b) :
    SRow (w.setCell ⟨g, j * 3 + 2, none⟩ (.int .i64 ((F j).len : Int))) base (.slice (some ⟨g, 0, none⟩) n c) n (syncF F j) := by
  obtain ⟨cur, hcur, hsz, hnc, hmx⟩ := hS.blk
  obtain ⟨cur', hcur', hsz'⟩ := blk_set (k := j * 3 + 2) (.int .i64 ((F j).len : Int)) hcur hsz
  refine srow_of hg1 hcur' hsz' hnc hmx fun i hi => ?_
  obtain ⟨da, dc, ⟨f0, f1, f2, frow⟩, hda⟩ := hgc i hi
  have hcO := hS.cap hi f1
  have hrow : Row (w.setCell ⟨g, j * 3 + 2, none⟩ (.int .i64 ((F j).len : Int))) da (F i).len (F i).f := row_blocks frow (by simp) (fun b off e h0 hlt => Below.heap_setCell _ _ _ _ (hda b off e h0).1)
  have oth : ∀ k, k ≠ j * 3 + 2 → (w.setCell ⟨g, j * 3 + 2, none⟩ (.int .i64 ((F j).len : Int))).cell? ⟨g, k, none⟩ = w.cell? ⟨g, k, none⟩ := fun k hk => World.cell?_setCell_other _ _ _ _ (by intro hh; injection hh with _ h3 _; omega)
  have hl : (syncF F j i).len = (F i).len := by
    unfold syncF
    by_cases e : i = j
    · rw [if_pos e, e]
    · rw [if_neg e]
  refine ⟨da, dc, ?_, fun b off e h0 => hda b off e (by rw [← hl]; exact h0), by rw [hl]; exact hcO⟩
  by_cases e : i = j
  · subst e
    have e2 : syncF F i i = { F i with sy := ((F i).len : Int) } := by simp [syncF]
    rw [e2]
    exact ⟨(oth _ (by omega)).trans f0, (oth _ (by omega)).trans f1, World.cell?_setCell_same _ _ _ f2, hrow⟩
  · have e2 : syncF F j i = F i := by simp [syncF, e]
    rw [e2]
    exact ⟨(oth _ (by omega)).trans f0, (oth _ (by omega)).trans f1, (oth _ (by omega)).trans f2, hrow⟩

set_option maxHeartbeats 1000000 in
theorem l2Sync_miss (Q : Int) (fb : Nat) (p : Option Addr) (n c : Nat) (F : Nat → Fil) (s : ByteArray) (hat : ∀ v, AtN F n s v → v < 0) (w : World) (hq : QAt w fb Q (.slice p n c)) (hr : FRow w p n F) (hn : n ≤ 1048576) :
    Calls Tryd.prog 41 #[.pointer (some ⟨fb, 0, none⟩), .string s] w fun e w' => e = .returned (.int .i64 2) ∧ Below w.heap.size w w' := by
  obtain ⟨l1, x0, x1⟩ := id hq
  go_enter Tryd.func41, Tryd.ntmps41
  go_wp2_with fail
  refine (l2At_any Q p n c F s _ hr hn).mono ?_
  rintro e w1 ⟨v, rfl, hv, hb1⟩
  have hv0 := hat v hv
  clear hq x0 x1
  go_wp2
  go_ret
  exact ⟨rfl, hb1⟩

set_option maxHeartbeats 2000000 in
theorem l2Sync_hit (Q : Int) (fb : Nat) (p : Option Addr) (n c base : Nat) (F : Nat → Fil) (s : ByteArray) (j : Nat) (hj : j < n) (hat : ∀ v, AtN F n s v → v = (j : Int)) (w : World) (hq : QAt w fb Q (.slice p n c)) (hfb : fb < base) (hbs : base ≤ w.heap.size) (hr : SRow w base (.slice p n c) n F) (hn : n ≤ 1048576) :
    Calls Tryd.prog 41 #[.pointer (some ⟨fb, 0, none⟩), .string s] w fun e w' => e = .returned (.int .i64 0) ∧ QAt w' fb Q (.slice p n c) ∧ SRow w' base (.slice p n c) n (syncF F j) ∧ Below base w w' := by
  obtain ⟨l1, x0, x1⟩ := id hq
  go_enter Tryd.func41, Tryd.ntmps41
  go_wp2_with fail
  refine (l2At_any Q p n c F s _ hr.row hn).mono ?_
  rintro e w1 ⟨v, rfl, hv, hb1⟩
  obtain rfl := hat v hv
  have hq1 := hq.keep hb1
  have hr1 := hr.keep hb1
  obtain ⟨g, rfl, hg1, hg2, hgf, hgc⟩ := hr1.at (by omega)
  obtain ⟨da, dc, hf, hda⟩ := hgc j hj
  obtain ⟨f0, f1, f2, frow⟩ := id hf
  clear x0 x1 hq hr
  obtain ⟨l1', x0, x1⟩ := id hq1
  have hj2 : (j : Int) < (n : Int) := by omega
  have hd : decide ((j : Int) < 0) = false := by simp
  have hrow := sync_row hj hg1 hg2 hr1 hgc
  have hbel : Below base w (w1.setCell ⟨g, j * 3 + 2, none⟩ (.int .i64 ((F j).len : Int))) := Below.setCell (p := ⟨g, j * 3 + 2, none⟩) (hb1.mono hbs) hg1 _
  have hqs : QAt (w1.setCell ⟨g, j * 3 + 2, none⟩ (.int .i64 ((F j).len : Int))) fb Q (.slice (some ⟨g, 0, none⟩) n c) := ⟨by simpa using l1', (World.cell?_setCell_other _ _ _ _ (by intro hh; injection hh with h3 _ _; omega)).trans x0, (World.cell?_setCell_other _ _ _ _ (by intro hh; injection hh with h3 _ _; omega)).trans x1⟩
  have hk1 : (w1.setCell ⟨g, j * 3 + 2, none⟩ (.int .i64 ((F j).len : Int))).drew.cell? ⟨g, j * 3 + 1, none⟩ = some (.slice da (F j).len dc) := (World.cell?_setCell_other _ _ _ _ (by intro hh; injection hh with _ h3 _; omega)).trans f1
  clear hgc hr1 hf frow hda hq1
  go_wp2
  go_region_held3 (fun w' => w'.cell? ⟨fb, 1, none⟩ = some (.slice (some ⟨g, 0, none⟩) n c) ∧ w'.cell? ⟨g, j * 3 + 1, none⟩ = some (.slice da (F j).len dc)) (first | exact ⟨hqs.c1, hk1⟩ | go_keep) (fail)
  go_wp2
  go_ret
  exact ⟨rfl, ⟨hqs.lt, hqs.c0, hqs.c1⟩, hrow.low (Nat.le_refl _) (fun _ _ _ => rfl), hbel.drew⟩

/-- What the model leaves: files that lie anywhere, and a code. -/
def SOut (Q c : Int) (m : Nat) (Fo : Nat → Fil) (w : World) (e : Ending) (w' : World) : Prop :=
  ∃ ao cap, e = .returned (.tuple #[.agg #[.int .i64 Q, .slice ao m cap], .int .i64 c]) ∧ FRow w' ao m Fo ∧ Below w.heap.size w w'

/-- The same where the files are the call's own. -/
def SOutS (Q c : Int) (m : Nat) (Fo : Nat → Fil) (w : World) (e : Ending) (w' : World) : Prop :=
  ∃ ao cap, e = .returned (.tuple #[.agg #[.int .i64 Q, .slice ao m cap], .int .i64 c]) ∧ SRow w' w.heap.size (.slice ao m cap) m Fo ∧ Below w.heap.size w w'
theorem SRow.base {w : World} {base base' n : Nat} {v : Value} {F : Nat → Fil} (h : SRow w base' v n F) (hb : base ≤ base') : SRow w base v n F := by
  obtain ⟨xs, hl, hown, hdat⟩ := h
  exact ⟨xs, hl, row_base hown hb, fun i x hx => by
    obtain ⟨h1, h2, h3, h4, h5, h6⟩ := hdat i x hx
    exact ⟨h1, h2, h3, h4, fun b off e h0 => ⟨(h5 b off e h0).1, Nat.le_trans hb (h5 b off e h0).2⟩, h6⟩⟩

set_option maxHeartbeats 1000000 in
theorem syncFile_spec_bad (Q : Int) (ao : Option Addr) (n cap : Nat) (F Fo : Nat → Fil) (s : ByteArray) (hs : s.size ≤ 1048576) (G N : Bool) (HG : Hid (goodF Q n F = G)) (HN : Hid (fnB s = N)) (hbad : (G && N) = false) (w : World) (hr : FRow w ao n F) (hq : -9223372036854775808 ≤ Q ∧ Q ≤ 9223372036854775807) (hn : n ≤ 1048576) (hz : FSize n F 1048576) :
    Calls Tryd.prog 23 #[.agg #[.int .i64 Q, .slice ao n cap], .string s] w fun e w' => SOut 0 1 0 Fo w e w' := by
  have hB : Below w.heap.size w ((w.alloc (.cells #[.int .i64 Q, .slice ao n cap] 25)).alloc (.cells #[.int .i64 0, .slice none 0 0] 25)) := ((Below.refl _ _).alloc (Nat.le_refl _) _).alloc (by simp) _
  have Z0 := QAt.new (w.alloc (.cells #[.int .i64 Q, .slice ao n cap] 25)) 0 (.slice none 0 0) 25
  rw [World.size_alloc] at Z0
  have zf : ∀ j, ((w.alloc (.cells #[.int .i64 Q, .slice ao n cap] 25)).alloc (.cells #[.int .i64 0, .slice none 0 0] 25)).frozen? ⟨w.heap.size + 1, j, none⟩ = false := fun j => by simp [go_sem]
  go_enter Tryd.func23, Tryd.ntmps23
  go_wp2_with fail
  refine (goodFiles_spec Q ao n cap F G HG _ (hr.keep hB) hq hn hz).mono ?_
  rintro e w1 ⟨rfl, hb1⟩
  have bw1 : Below w.heap.size w w1 := hB.trans (hb1.mono (by simp; omega))
  have zf1 : ∀ j, w1.frozen? ⟨w.heap.size + 1, j, none⟩ = false := fun j => (hb1.frozen (p := ⟨w.heap.size + 1, j, none⟩) (by simp)).trans (zf j)
  obtain ⟨lz, z0, z1⟩ := Z0.keep hb1
  clear hb1 hB Z0 zf
  cases G
  · go_wp2
    refine bodyPost_ret (v := .tuple #[.agg #[.int .i64 0, .slice none 0 0], .int .i64 1]) (by simp [results, Tryd.results23, go_sem, z0, z1]) rfl ⟨none, 0, rfl, ⟨.inl rfl⟩, ?_⟩
    exact (bw1.setCell (p := ⟨w.heap.size + 1, 0, none⟩) (Nat.le_succ _) _).setCell (p := ⟨w.heap.size + 1, 1, none⟩) (Nat.le_succ _) _
  · obtain rfl : N = false := by simpa using hbad
    go_wp2_with fail
    refine (l2Name_is s false HN _ hs).mono ?_
    rintro e w' ⟨rfl, rfl⟩
    go_wp2
    refine bodyPost_ret (v := .tuple #[.agg #[.int .i64 0, .slice none 0 0], .int .i64 1]) (by simp [results, Tryd.results23, go_sem, z0, z1]) rfl ⟨none, 0, rfl, ⟨.inl rfl⟩, ?_⟩
    exact (bw1.setCell (p := ⟨w.heap.size + 1, 0, none⟩) (Nat.le_succ _) _).setCell (p := ⟨w.heap.size + 1, 1, none⟩) (Nat.le_succ _) _

set_option maxHeartbeats 2000000 in
theorem syncFile_spec_miss (Q : Int) (ao : Option Addr) (n cap : Nat) (F : Nat → Fil) (s : ByteArray) (hs : s.size ≤ 1048576) (HG : Hid (goodF Q n F = true)) (HN : Hid (fnB s = true)) (hat : ∀ v, AtN F n s v → v < 0) (w : World) (hr : FRow w ao n F) (hq : -9223372036854775808 ≤ Q ∧ Q ≤ 9223372036854775807) (hn : n ≤ 1048576) (hz : FSize n F 1048576) :
    Calls Tryd.prog 23 #[.agg #[.int .i64 Q, .slice ao n cap], .string s] w fun e w' => SOut Q 2 n F w e w' := by
  have hB : Below w.heap.size w ((w.alloc (.cells #[.int .i64 Q, .slice ao n cap] 25)).alloc (.cells #[.int .i64 0, .slice none 0 0] 25)) := ((Below.refl _ _).alloc (Nat.le_refl _) _).alloc (by simp) _
  have X0 : QAt ((w.alloc (.cells #[.int .i64 Q, .slice ao n cap] 25)).alloc (.cells #[.int .i64 0, .slice none 0 0] 25)) w.heap.size Q (.slice ao n cap) := (QAt.new w Q (.slice ao n cap) 25).keep ((Below.refl _ _).alloc (Nat.le_refl _) _)
  have Z0 := QAt.new (w.alloc (.cells #[.int .i64 Q, .slice ao n cap] 25)) 0 (.slice none 0 0) 25
  rw [World.size_alloc] at Z0
  have zf : ∀ j, ((w.alloc (.cells #[.int .i64 Q, .slice ao n cap] 25)).alloc (.cells #[.int .i64 0, .slice none 0 0] 25)).frozen? ⟨w.heap.size + 1, j, none⟩ = false := fun j => by simp [go_sem]
  have xf : ∀ j, ((w.alloc (.cells #[.int .i64 Q, .slice ao n cap] 25)).alloc (.cells #[.int .i64 0, .slice none 0 0] 25)).frozen? ⟨w.heap.size, j, none⟩ = false := fun j => by simp [go_sem]
  go_enter Tryd.func23, Tryd.ntmps23
  go_wp2_with fail
  refine (goodFiles_spec Q ao n cap F true HG _ (hr.keep hB) hq hn hz).mono ?_
  rintro e w1 ⟨rfl, hb1⟩
  have bw1 : Below w.heap.size w w1 := hB.trans (hb1.mono (by simp; omega))
  have zf1 : ∀ j, w1.frozen? ⟨w.heap.size + 1, j, none⟩ = false := fun j => (hb1.frozen (p := ⟨w.heap.size + 1, j, none⟩) (by simp)).trans (zf j)
  have xf1 : ∀ j, w1.frozen? ⟨w.heap.size, j, none⟩ = false := fun j => (hb1.frozen (p := ⟨w.heap.size, j, none⟩) (by simp; omega)).trans (xf j)
  have Z1 := Z0.keep hb1
  have X1 := X0.keep hb1
  clear hb1 hB Z0 X0 zf xf
  obtain ⟨lx, x0, x1⟩ := id X1
  go_wp2_with fail
  refine (l2Name_is s true HN _ hs).mono ?_
  rintro e w' ⟨rfl, rfl⟩
  go_wp2_with fail
  refine (l2Own_any Q ao n cap F _ (hr.keep bw1) hn hz).mono ?_
  rintro e w2 ⟨v, rfl, hS, hb2⟩
  obtain ⟨p, c, rfl⟩ : ∃ p c, v = .slice p n c := by
    obtain ⟨xs, _, hown, _⟩ := hS
    exact row_slice hown
  obtain ⟨lz2, z0, z1⟩ := Z1.keep hb2
  have zf2 : ∀ j, w2.frozen? ⟨w.heap.size + 1, j, none⟩ = false := fun j => (hb2.frozen (p := ⟨w.heap.size + 1, j, none⟩) Z1.lt).trans (zf1 j)
  have xf2 : ∀ j, w2.frozen? ⟨w.heap.size, j, none⟩ = false := fun j => (hb2.frozen (p := ⟨w.heap.size, j, none⟩) X1.lt).trans (xf1 j)
  obtain ⟨lx2, y0, y1⟩ := X1.keep hb2
  have bw2 : Below w.heap.size w w2 := bw1.trans (hb2.mono bw1.size)
  have hb0 : w.heap.size + 2 ≤ w'.heap.size + 2 := by omega
  generalize w'.heap.size + 2 = base at hS hb0
  have bw3 : Below w.heap.size w ((w2.setCell ⟨w.heap.size, 0, none⟩ (.int .i64 Q)).setCell ⟨w.heap.size, 1, none⟩ (.slice p n c)) := (bw2.setCell (p := ⟨w.heap.size, 0, none⟩) (Nat.le_refl _) _).setCell (p := ⟨w.heap.size, 1, none⟩) (Nat.le_refl _) _
  have hS3 : SRow ((w2.setCell ⟨w.heap.size, 0, none⟩ (.int .i64 Q)).setCell ⟨w.heap.size, 1, none⟩ (.slice p n c)) base (.slice p n c) n F := hS.low (by simp) (fun j h1 _ => by rw [Below.heap_setCell _ _ _ _ (by show j ≠ w.heap.size; omega), Below.heap_setCell _ _ _ _ (by show j ≠ w.heap.size; omega)])
  have X3 : QAt ((w2.setCell ⟨w.heap.size, 0, none⟩ (.int .i64 Q)).setCell ⟨w.heap.size, 1, none⟩ (.slice p n c)) w.heap.size Q (.slice p n c) := ⟨by simpa using lx2, by rw [World.cell?_setCell_other _ _ _ _ (by intro hh; injection hh with _ h3 _; omega)]; exact World.cell?_setCell_same _ _ _ y0, World.cell?_setCell_same _ _ _ (by rw [World.cell?_setCell_other _ _ _ _ (by intro hh; injection hh with _ h3 _; omega)]; exact y1)⟩
  have Z3 : QAt ((w2.setCell ⟨w.heap.size, 0, none⟩ (.int .i64 Q)).setCell ⟨w.heap.size, 1, none⟩ (.slice p n c)) (w.heap.size + 1) 0 (.slice none 0 0) := ⟨by simpa using lz2, by rw [World.cell?_setCell_other _ _ _ _ (by intro hh; injection hh with h3 _ _; omega), World.cell?_setCell_other _ _ _ _ (by intro hh; injection hh with h3 _ _; omega)]; exact z0, by rw [World.cell?_setCell_other _ _ _ _ (by intro hh; injection hh with h3 _ _; omega), World.cell?_setCell_other _ _ _ _ (by intro hh; injection hh with h3 _ _; omega)]; exact z1⟩
  have zf3 : ∀ j, ((w2.setCell ⟨w.heap.size, 0, none⟩ (.int .i64 Q)).setCell ⟨w.heap.size, 1, none⟩ (.slice p n c)).frozen? ⟨w.heap.size + 1, j, none⟩ = false := fun j => by simpa using zf2 j
  clear X1 Z1 zf1 xf1 x0 x1 lx hb2 hS
  go_wp2_with fail
  generalize (w2.setCell ⟨w.heap.size, 0, none⟩ (.int .i64 Q)).setCell ⟨w.heap.size, 1, none⟩ (.slice p n c) = w3 at bw3 hS3 X3 Z3 zf3 ⊢
  refine (l2Sync_miss Q w.heap.size p n c F s hat _ X3 hS3.row hn).mono ?_
  rintro e w4 ⟨rfl, hb4⟩
  have X4 := X3.keep hb4
  have hL := (hS3.keep hb4).flow
  have lz4 : w.heap.size + 1 < w3.heap.size := Z3.lt
  have v0 := (hb4.cell (p := ⟨w.heap.size + 1, 0, none⟩) lz4).trans Z3.c0
  have v1 := (hb4.cell (p := ⟨w.heap.size + 1, 1, none⟩) lz4).trans Z3.c1
  have vf : ∀ j, w4.frozen? ⟨w.heap.size + 1, j, none⟩ = false := fun j => (hb4.frozen (p := ⟨w.heap.size + 1, j, none⟩) lz4).trans (zf3 j)
  have bw4 : Below w.heap.size w w4 := bw3.trans (hb4.mono bw3.size)
  obtain ⟨lx, x0, x1⟩ := id X4
  have hrow := hL ((w4.setCell ⟨w.heap.size + 1, 0, none⟩ (.int .i64 Q)).setCell ⟨w.heap.size + 1, 1, none⟩ (.slice p n c)) (by simp) (fun j h1 _ => by rw [Below.heap_setCell _ _ _ _ (by show j ≠ w.heap.size + 1; omega), Below.heap_setCell _ _ _ _ (by show j ≠ w.heap.size + 1; omega)])
  clear X3 Z3 zf3 hb4 hL hS3 bw3
  go_wp2
  refine bodyPost_ret (v := .tuple #[.agg #[.int .i64 Q, .slice p n c], .int .i64 2]) (by simp [results, Tryd.results23, go_sem, v0, v1]) rfl ⟨p, c, rfl, hrow, ?_⟩
  exact (bw4.setCell (p := ⟨w.heap.size + 1, 0, none⟩) (Nat.le_succ _) _).setCell (p := ⟨w.heap.size + 1, 1, none⟩) (Nat.le_succ _) _

set_option maxHeartbeats 2000000 in
theorem syncFile_spec_hit (Q : Int) (ao : Option Addr) (n cap : Nat) (F : Nat → Fil) (s : ByteArray) (hs : s.size ≤ 1048576) (HG : Hid (goodF Q n F = true)) (HN : Hid (fnB s = true)) (j : Nat) (hj : j < n) (hat : ∀ v, AtN F n s v → v = (j : Int)) (w : World) (hr : FRow w ao n F) (hq : -9223372036854775808 ≤ Q ∧ Q ≤ 9223372036854775807) (hn : n ≤ 1048576) (hz : FSize n F 1048576) :
    Calls Tryd.prog 23 #[.agg #[.int .i64 Q, .slice ao n cap], .string s] w fun e w' => SOutS Q 0 n (syncF F j) w e w' := by
  have hB : Below w.heap.size w ((w.alloc (.cells #[.int .i64 Q, .slice ao n cap] 25)).alloc (.cells #[.int .i64 0, .slice none 0 0] 25)) := ((Below.refl _ _).alloc (Nat.le_refl _) _).alloc (by simp) _
  have X0 : QAt ((w.alloc (.cells #[.int .i64 Q, .slice ao n cap] 25)).alloc (.cells #[.int .i64 0, .slice none 0 0] 25)) w.heap.size Q (.slice ao n cap) := (QAt.new w Q (.slice ao n cap) 25).keep ((Below.refl _ _).alloc (Nat.le_refl _) _)
  have Z0 := QAt.new (w.alloc (.cells #[.int .i64 Q, .slice ao n cap] 25)) 0 (.slice none 0 0) 25
  rw [World.size_alloc] at Z0
  have zf : ∀ j, ((w.alloc (.cells #[.int .i64 Q, .slice ao n cap] 25)).alloc (.cells #[.int .i64 0, .slice none 0 0] 25)).frozen? ⟨w.heap.size + 1, j, none⟩ = false := fun j => by simp [go_sem]
  have xf : ∀ j, ((w.alloc (.cells #[.int .i64 Q, .slice ao n cap] 25)).alloc (.cells #[.int .i64 0, .slice none 0 0] 25)).frozen? ⟨w.heap.size, j, none⟩ = false := fun j => by simp [go_sem]
  go_enter Tryd.func23, Tryd.ntmps23
  go_wp2_with fail
  refine (goodFiles_spec Q ao n cap F true HG _ (hr.keep hB) hq hn hz).mono ?_
  rintro e w1 ⟨rfl, hb1⟩
  have bw1 : Below w.heap.size w w1 := hB.trans (hb1.mono (by simp; omega))
  have zf1 : ∀ j, w1.frozen? ⟨w.heap.size + 1, j, none⟩ = false := fun j => (hb1.frozen (p := ⟨w.heap.size + 1, j, none⟩) (by simp)).trans (zf j)
  have xf1 : ∀ j, w1.frozen? ⟨w.heap.size, j, none⟩ = false := fun j => (hb1.frozen (p := ⟨w.heap.size, j, none⟩) (by simp; omega)).trans (xf j)
  have Z1 := Z0.keep hb1
  have X1 := X0.keep hb1
  clear hb1 hB Z0 X0 zf xf
  obtain ⟨lx, x0, x1⟩ := id X1
  go_wp2_with fail
  refine (l2Name_is s true HN _ hs).mono ?_
  rintro e w' ⟨rfl, rfl⟩
  go_wp2_with fail
  refine (l2Own_any Q ao n cap F _ (hr.keep bw1) hn hz).mono ?_
  rintro e w2 ⟨v, rfl, hS, hb2⟩
  obtain ⟨p, c, rfl⟩ : ∃ p c, v = .slice p n c := by
    obtain ⟨xs, _, hown, _⟩ := hS
    exact row_slice hown
  obtain ⟨lz2, z0, z1⟩ := Z1.keep hb2
  have zf2 : ∀ j, w2.frozen? ⟨w.heap.size + 1, j, none⟩ = false := fun j => (hb2.frozen (p := ⟨w.heap.size + 1, j, none⟩) Z1.lt).trans (zf1 j)
  have xf2 : ∀ j, w2.frozen? ⟨w.heap.size, j, none⟩ = false := fun j => (hb2.frozen (p := ⟨w.heap.size, j, none⟩) X1.lt).trans (xf1 j)
  obtain ⟨lx2, y0, y1⟩ := X1.keep hb2
  have bw2 : Below w.heap.size w w2 := bw1.trans (hb2.mono bw1.size)
  have hb0 : w.heap.size + 2 ≤ w'.heap.size + 2 := by omega
  generalize w'.heap.size + 2 = base at hS hb0
  have bw3 : Below w.heap.size w ((w2.setCell ⟨w.heap.size, 0, none⟩ (.int .i64 Q)).setCell ⟨w.heap.size, 1, none⟩ (.slice p n c)) := (bw2.setCell (p := ⟨w.heap.size, 0, none⟩) (Nat.le_refl _) _).setCell (p := ⟨w.heap.size, 1, none⟩) (Nat.le_refl _) _
  have hS3 : SRow ((w2.setCell ⟨w.heap.size, 0, none⟩ (.int .i64 Q)).setCell ⟨w.heap.size, 1, none⟩ (.slice p n c)) base (.slice p n c) n F := hS.low (by simp) (fun j h1 _ => by rw [Below.heap_setCell _ _ _ _ (by show j ≠ w.heap.size; omega), Below.heap_setCell _ _ _ _ (by show j ≠ w.heap.size; omega)])
  have X3 : QAt ((w2.setCell ⟨w.heap.size, 0, none⟩ (.int .i64 Q)).setCell ⟨w.heap.size, 1, none⟩ (.slice p n c)) w.heap.size Q (.slice p n c) := ⟨by simpa using lx2, by rw [World.cell?_setCell_other _ _ _ _ (by intro hh; injection hh with _ h3 _; omega)]; exact World.cell?_setCell_same _ _ _ y0, World.cell?_setCell_same _ _ _ (by rw [World.cell?_setCell_other _ _ _ _ (by intro hh; injection hh with _ h3 _; omega)]; exact y1)⟩
  have Z3 : QAt ((w2.setCell ⟨w.heap.size, 0, none⟩ (.int .i64 Q)).setCell ⟨w.heap.size, 1, none⟩ (.slice p n c)) (w.heap.size + 1) 0 (.slice none 0 0) := ⟨by simpa using lz2, by rw [World.cell?_setCell_other _ _ _ _ (by intro hh; injection hh with h3 _ _; omega), World.cell?_setCell_other _ _ _ _ (by intro hh; injection hh with h3 _ _; omega)]; exact z0, by rw [World.cell?_setCell_other _ _ _ _ (by intro hh; injection hh with h3 _ _; omega), World.cell?_setCell_other _ _ _ _ (by intro hh; injection hh with h3 _ _; omega)]; exact z1⟩
  have zf3 : ∀ j, ((w2.setCell ⟨w.heap.size, 0, none⟩ (.int .i64 Q)).setCell ⟨w.heap.size, 1, none⟩ (.slice p n c)).frozen? ⟨w.heap.size + 1, j, none⟩ = false := fun j => by simpa using zf2 j
  clear X1 Z1 zf1 xf1 x0 x1 lx hb2 hS
  go_wp2_with fail
  generalize (w2.setCell ⟨w.heap.size, 0, none⟩ (.int .i64 Q)).setCell ⟨w.heap.size, 1, none⟩ (.slice p n c) = w3 at bw3 hS3 X3 Z3 zf3 ⊢
  have hbs : base ≤ w3.heap.size := by
    obtain ⟨g, _, h1, h2, _⟩ := hS3.at (by omega)
    omega
  refine (l2Sync_hit Q w.heap.size p n c base F s j hj hat _ X3 (by omega) hbs hS3 hn).mono ?_
  rintro e w4 ⟨rfl, X4, hL, hb4⟩
  have lz4 : w.heap.size + 1 < base := by omega
  have v0 := (hb4.cell (p := ⟨w.heap.size + 1, 0, none⟩) lz4).trans Z3.c0
  have v1 := (hb4.cell (p := ⟨w.heap.size + 1, 1, none⟩) lz4).trans Z3.c1
  have vf : ∀ j, w4.frozen? ⟨w.heap.size + 1, j, none⟩ = false := fun j => (hb4.frozen (p := ⟨w.heap.size + 1, j, none⟩) lz4).trans (zf3 j)
  have bw4 : Below w.heap.size w w4 := bw3.trans (hb4.mono (by omega))
  obtain ⟨lx, x0, x1⟩ := id X4
  have hrow := SRow.base (base := w.heap.size) (hL.low (w' := (w4.setCell ⟨w.heap.size + 1, 0, none⟩ (.int .i64 Q)).setCell ⟨w.heap.size + 1, 1, none⟩ (.slice p n c)) (by simp) (fun j h1 _ => by rw [Below.heap_setCell _ _ _ _ (by show j ≠ w.heap.size + 1; omega), Below.heap_setCell _ _ _ _ (by show j ≠ w.heap.size + 1; omega)])) (by omega)
  clear X3 Z3 zf3 hb4 hL hS3 bw3
  go_wp2
  refine bodyPost_ret (v := .tuple #[.agg #[.int .i64 Q, .slice p n c], .int .i64 0]) (by simp [results, Tryd.results23, go_sem, v0, v1]) rfl ⟨p, c, rfl, hrow, ?_⟩
  exact (bw4.setCell (p := ⟨w.heap.size + 1, 0, none⟩) (Nat.le_succ _) _).setCell (p := ⟨w.heap.size + 1, 1, none⟩) (Nat.le_succ _) _
end Go.Proofs.YtiojjihonmonkaaDoor
