/- FirstVersion, in both texts, and its law. / drop. -/
import Derived.Test.YtagkhohglpjjlaaFo
import Derived.Test.YtagkhohglpjjlaaAa
namespace Go.Proofs.Ytagkhohglpjjlaa
open Go.RowKit
set_option linter.unusedSimpArgs false
set_option linter.unusedVariables false

/-- No metas. -/
def noR (_ _ : Nat) : Met := ⟨0, .empty, .empty, 0⟩
def noM (_ : Nat) : Nat := 0
/-- The first version. -/
def FvO (w : World) (e : Ending) (w' : World) : Prop :=
  ∃ g, e = .returned (.agg #[.int .i64 2, .int .i64 1, .int .i64 0, .slice (some ⟨g, 0, none⟩) 3 3]) ∧ VA w' w.heap.size w'.heap.size (some ⟨g, 0, none⟩) 3 noR noM ∧ Below w.heap.size w w'

theorem va_made {w w1 : World} {g base : Nat} (h : w1.ownsRow base 71 1 (.slice (some ⟨g, 0, none⟩) 3 3) 3 (madeCells (Value.slice none 0 0).cells (3 * 1)).toList) (hlt : g < w1.heap.size) : VO w1 g 3 3 noR noM (fun _ => none) (fun _ => 0) := by
  have hc : ∀ j, j < 3 → w1.cell? ⟨g, j, none⟩ = some (.slice none 0 0) := fun j hj => by
    rw [h.cellAt j (by omega)]
    have := made_cell (d := #[.slice none 0 0]) (k := 1) (n := 3) (i := j) (q := 0) rfl hj (by omega)
    simpa [Value.cells] using this
  exact ⟨hlt, fun i hi => hc i hi, fun i _ => .inl rfl, fun i j _ _ _ h => by simp [noM] at h, fun j hj => by rw [hc j hj]; rfl, fun j _ => h.frozenAt j⟩

theorem first_facts (w w1 : World) (base : Nat) (h : w1.ownsRow base 71 1 (.slice (some ⟨(w.alloc (.cells #[.int .i64 0, .int .i64 0, .int .i64 0, .slice none 0 0] 25)).heap.size, 0, none⟩) 3 3) 3 (madeCells (Value.slice none 0 0).cells (3 * 1)).toList) (hg : (w.alloc (.cells #[.int .i64 0, .int .i64 0, .int .i64 0, .slice none 0 0] 25)).grownBy w1 none) :
    VO w1 (w.heap.size + 1) 3 3 noR noM (fun _ => none) (fun _ => 0) ∧ VX w1 w.heap.size 0 0 0 none 0 0 ∧ (∀ j, w1.frozen? ⟨w.heap.size, j, none⟩ = false) ∧ Below w.heap.size w w1 ∧ w.heap.size + 1 < w1.heap.size := by
  have bn0 := below_new w (.cells #[.int .i64 0, .int .i64 0, .int .i64 0, .slice none 0 0] 25)
  have A0 := VX.new w 0 0 0 none 0 0 25
  have hb1 : Below (w.alloc (.cells #[.int .i64 0, .int .i64 0, .int .i64 0, .slice none 0 0] 25)).heap.size (w.alloc (.cells #[.int .i64 0, .int .i64 0, .int .i64 0, .slice none 0 0] 25)) w1 := (Below.refl _ _).grown hg (Nat.le_refl _) (fun k h => by simp at h)
  have hs0 : (w.alloc (.cells #[.int .i64 0, .int .i64 0, .int .i64 0, .slice none 0 0] 25)).heap.size = w.heap.size + 1 := by simp
  rw [hs0] at h
  have hlt1 : w.heap.size + 1 < w1.heap.size := by
    rcases h.2 with ⟨h, _⟩ | ⟨g', cap', cur, h, _, hg, _⟩
    · simp at h
    · simp at h; obtain ⟨rfl, _⟩ := h
      exact (Array.getElem?_eq_some_iff.1 hg).1
  exact ⟨va_made (w := w) h hlt1, A0.keep hb1, fun j => (hb1.frozen (p := ⟨w.heap.size, j, none⟩) A0.lt).trans (by simp [go_sem]), bn0.trans (hb1.mono bn0.size), hlt1⟩

set_option maxRecDepth 10000 in
set_option maxHeartbeats 800000 in
theorem l9First_any (w : World) : Calls Try.prog 30 #[] w fun e w' => FvO w e w' := by
  obtain ⟨i0, hi, hz0, hz1, hz2⟩ := info_parts Try.infoMS
  go_enter Try.func30, Try.ntmps30
  go_wp2_with (at_make; refine wpList_make_full _ rfl (.const (.int .i64 3)) (.const (.int .i64 3)) 23 rfl w.heap.size 71 i0 (.slice none 0 0) 1 Try.underlying23 hi hz0 hz1 .i64 .i64 _ _ 3 rfl rfl rfl rfl (by rw [hz2]; omega) (by unfold maxLen; omega) (by simp) ?_; intro w1 hown hgrow; obtain ⟨hV, ⟨l0, x0, x1, x2, x3⟩, ff, bw1, hlt⟩ := first_facts w w1 _ hown hgrow; have f0 := ff 0; have f1 := ff 1; have f2 := ff 2; have f3 := ff 3; clear hown hgrow ff)
  refine bodyPost_ret (v := .agg #[.int .i64 2, .int .i64 1, .int .i64 0, .slice (some ⟨w.heap.size + 1, 0, none⟩) 3 3]) (by simp [results, Try.results30, go_sem, x0, x1, x2, x3]) rfl ⟨w.heap.size + 1, rfl, ⟨Nat.le_refl _, .inr ⟨w.heap.size + 1, fun _ => none, fun _ => 0, rfl, by omega, by simpa using hlt, ?_, fun i _ h => by simp [noM] at h⟩⟩, ?_⟩
  · refine hV.same (by simp) ?_ (fun i _ h => by simp [noM] at h)
    repeat' refine (Below.heap_setCell _ _ _ _ (by first | omega | (dsimp only; omega))).trans ?_
    rfl
  · repeat' refine Below.setCell ?_ (by first | (simp; done) | (simp; omega)) _
    exact bw1

theorem VA.vrow0 {w : World} {lo hi : Nat} {ao : Option Addr} (h : VA w lo hi ao 3 noR noM) : VRow w ao 3 noR noM := h.row (fun i _ j hj => by simp [noM] at hj) (fun i _ => by simp [noM])
theorem sum0 : 1 + 4 * sumM noM 3 = 1 := rfl

end Go.Proofs.Ytagkhohglpjjlaa
namespace Go.Proofs.Ytagkhohglpjjlaa
open Go.RowKit
set_option linter.unusedSimpArgs false
set_option linter.unusedVariables false

/-- No meta of it has the file. -/
def noF (L : List Met) (file : Int) : Prop := ∀ m ∈ L, m.file ≠ file
theorem noF_or (L : List Met) (file : Int) : noF L file ∨ ∃ m ∈ L, m.file = file := by
  by_cases h : ∃ m ∈ L, m.file = file
  · exact .inr h
  · exact .inl fun m hm e => h ⟨m, hm, e⟩

theorem Lv.others {w w' : World} {base g N d : Nat} {V : Nat → Value} {LL : Nat → List Met} (h : Lv w base g N V LL) (ho : Others d w w') (hg : g ≠ d) (hv : ∀ i, i < N → (V i).ownBlock ≠ some d) : Lv w' base g N V LL := by
  have hgb := ho.block g hg
  refine ⟨by rw [ho.size]; exact h.lt, h.bs, fun i hi => (World.cell?_of_block (w := w) (w' := w') (a := ⟨g, i, none⟩) hgb).trans (h.cell i hi), fun i hi => (h.own i hi).same fun c hc => ho.block c (fun e => hv i hi (by rw [hc, e])), h.apart, h.dis, fun j hj => (World.frozen?_of_block (w := w) (a := ⟨g, j, none⟩) hgb).trans (h.free j hj)⟩

/-- What drop does. -/
def DropO (w : World) (base db g N : Nat) (nx lg sq : Int) (fl : Bool) (LL : Nat → List Met) (file : Int) (w' : World) : Prop :=
  ∃ V', Below base w w' ∧ (∀ i, i < N → (V' i).ownBlock ≠ some db) ∧ ((∃ i, i < N ∧ ¬ noF (LL i) file ∧ (∀ j, j < i → noF (LL j) file) ∧ Lv w' base g N V' (fun j => if j = i then wo (LL i) file else LL j) ∧ DX w' db nx lg sq (some ⟨g, 0, none⟩) N N fl) ∨ ((∀ j, j < N → noF (LL j) file) ∧ Lv w' base g N V' LL ∧ DX w' db nx lg sq (some ⟨g, 0, none⟩) N N true))

set_option maxRecDepth 100000 in
set_option maxHeartbeats 1600000 in
theorem drop_any (base db g N : Nat) (nx lg sq : Int) (fl : Bool) (V : Nat → Value) (LL : Nat → List Met) (file : Int) (w : World) (hL : Lv w base g N V LL) (hD : DX w db nx lg sq (some ⟨g, 0, none⟩) N N fl) (hdb : base ≤ db) (hgd : g ≠ db) (hvd : ∀ i, i < N → (V i).ownBlock ≠ some db) (hN : N ≤ 1048576) (hM : ∀ i, i < N → (LL i).length ≤ 1048576) :
    Calls Try.prog 15 #[.pointer (some ⟨db, 0, none⟩), .int .i64 file] w fun e w' => e = .returned (.tuple #[]) ∧ DropO w base db g N nx lg sq fl LL file w' := by
  have d3 := hD.c3
  have HVD : Hid (∀ i, i < N → (V i).ownBlock ≠ some db) := hvd
  clear hvd
  go_enter Try.func15, Try.ntmps15
  go_wp2
  go_loopw [13] (fun i wr => ∃ k : Nat, k ≤ N ∧ i = .int .i64 k ∧ Hid (∀ j, j < k → noF (LL j) file) ∧ Below w.heap.size w wr) (fun i _ => N - (intOf i).toNat)
  case atStart => exact ⟨0, Nat.zero_le _, rfl, fun j h => by omega, Below.refl _ _⟩
  case round =>
    obtain ⟨k, hk, rfl, HG, hbk⟩ := hrel
    have hLk := hL.keep hbk
    have hDk := hD.keep hbk
    have hdw := hD.lt
    by_cases hlt : k < N
    · have hlk := hM k hlt
      have hok := hLk.own k hlt
      have gc := hLk.cell k hlt
      obtain ⟨so, sc, eV, _⟩ := hok.form
      rw [eV] at gc hok
      have hrow := hok.row
      have hgs := hLk.lt
      have hbs := hLk.bs
      clear hM d3
      go_wp2_with fail
      refine (levelWithout_any so sc (LL k) file wr hrow hlk).mono ?_
      rintro e w2 ⟨v, rfl, hO, hb2⟩
      have hrow2 := hrow.keep hb2
      obtain ⟨lo, lc, rfl, _⟩ := hO.form
      have hlow := hO.row
      have hwl := wo_len (LL k) file
      have hL2 := hLk.keep hb2
      have hD2 := hDk.keep hb2
      have hbw := hbk.trans (hb2.mono hbk.size)
      rcases noF_or (LL k) file with hno | ⟨m, hm, hmf⟩
      · have HG2 : Hid (∀ j, j < k + 1 → noF (LL j) file) := fun j hj => by
          rcases Nat.lt_succ_iff_lt_or_eq.1 hj with h | rfl
          · exact HG.out j h
          · exact hno
        have ew := wo_none hno
        rw [ew] at hlow ⊢
        clear hno HG hL2 hD2 hO hwl ew hLk hDk hok
        go_wp2_with fail
        refine (equalM_same lo so (LL k).length lc sc (mL (LL k)) w2 hlow hrow2 hlk).mono ?_
        rintro e w3 ⟨rfl, hb3⟩
        have hbw3 := hbw.trans (hb3.mono hbw.size)
        clear hlow hrow2 hb3
        go_wp2
        go_roundw
        case rel => exact ⟨k + 1, by omega, by go_num, HG2, hbw3⟩
        case measure => simp [intOf]; omega
      · have hlen := wo_some hm hmf
        have HY : Hid (¬ noF (LL k) file) := fun h => h m hm hmf
        clear hm hmf
        go_wp2_with fail
        refine (equalM_len lo so (wo (LL k) file).length (LL k).length lc sc w2 (by omega) (by omega) hlk).mono ?_
        rintro e w3 ⟨rfl, hb3⟩
        have hL3 := hL2.keep hb3
        have hD3 := hD2.keep hb3
        have hO3 := (hO.keep hb3).lower (base' := base) (by omega)
        have hbw3 := hbw.trans (hb3.mono hbw.size)
        have hlo : ∀ c, (Value.slice lo (wo (LL k) file).length lc).ownBlock = some c → wr.heap.size ≤ c := fun c hc => (hO.own.lt c hc).1
        have hS := hL3.store hlt hO3 (fun h => by have := hlo _ h; omega) (fun i hi _ c hc hc2 => by
          have h1 := hlo _ hc2
          have h2 := ((hLk.own i hi).own.lt c hc).2
          omega)
        have hoth : Others g w3 (w3.setCell ⟨g, k, none⟩ (.slice lo (wo (LL k) file).length lc)) := Others.setCell _ _ _ _
        have hF : Hid (DropO w base db g N nx lg sq fl LL file (w3.setCell ⟨g, k, none⟩ (.slice lo (wo (LL k) file).length lc))) :=
          ⟨fun i => if i = k then Value.slice lo (wo (LL k) file).length lc else V i, (hbw3.mono (by omega)).setCell (p := ⟨g, k, none⟩) (by dsimp only; omega) _, fun i hi => by
            dsimp only
            split
            · exact fun h => by have := hlo _ h; have := hbk.size; omega
            · exact HVD.out i hi, .inl ⟨k, hlt, HY.out, HG.out, hS, hD3.same (by rw [hoth.size]; exact Nat.le_refl _) (hoth.block _ (by omega))⟩⟩
        have d3 := hD3.c3
        have g3 := hL3.cell k hlt
        have gf := hL3.free k hlt
        clear hlow hrow2 hb3 hL2 hD2 hO hwl hLk hDk hok hlo hS hoth hL3 hD3 hO3 HY HG hbw3 hbw hb2 hlen hrow
        go_wp2
        refine bodyPost_ret (v := .tuple #[]) (by simp [results, Try.results15]) rfl ⟨rfl, hF.out⟩
    · obtain rfl : k = N := by omega
      have d4 := hDk.c4
      have df := hDk.free 4
      have hgs := hLk.lt
      have hbs := hLk.bs
      have hoth : Others db wr (wr.setCell ⟨db, 4, none⟩ (.bool true)) := Others.setCell _ _ _ _
      have hother : ∀ j, j ≠ 4 → (wr.setCell ⟨db, 4, none⟩ (.bool true)).cell? ⟨db, j, none⟩ = wr.cell? ⟨db, j, none⟩ := fun j hj => World.cell?_setCell_other _ _ _ _ (by intro hh; injection hh with _ h2 _; omega)
      have hF : Hid (DropO w base db g k nx lg sq fl LL file (wr.setCell ⟨db, 4, none⟩ (.bool true))) :=
        ⟨V, (hbk.mono (by omega)).setCell (p := ⟨db, 4, none⟩) hdb _, HVD.out, .inr ⟨HG.out, hLk.others hoth hgd HVD.out, ⟨by rw [hoth.size]; exact hDk.lt, (hother 0 (by omega)).trans hDk.c0, (hother 1 (by omega)).trans hDk.c1, (hother 2 (by omega)).trans hDk.c2, (hother 3 (by omega)).trans hDk.c3, World.cell?_setCell_same _ _ _ d4, fun j => by simpa using hDk.free j⟩⟩⟩
      clear hM d3 HG hLk hDk hoth hother
      go_wp2
      refine bodyPost_end (v := .tuple #[]) (by simp [results, Try.results15]) rfl ⟨rfl, hF.out⟩
end Go.Proofs.Ytagkhohglpjjlaa
