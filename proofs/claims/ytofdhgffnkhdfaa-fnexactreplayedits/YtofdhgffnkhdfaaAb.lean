/- drop. -/
import Derived.Test.YtofdhgffnkhdfaaAa
namespace Go.Proofs.Ytofdhgffnkhdfaa
open Go.RowKit
set_option linter.unusedSimpArgs false
set_option linter.unusedVariables false

/-- No meta of it has the file. -/
def noF (L : List Met) (file : Int) : Prop := ∀ m ∈ L, m.file ≠ file
theorem noF_or (L : List Met) (file : Int) : noF L file ∨ ∃ m ∈ L, m.file = file := by
  by_cases h : ∃ m ∈ L, m.file = file
  · exact .inr h
  · exact .inl fun m hm e => h ⟨m, hm, e⟩

theorem Lv.others {w w' : World} {base g N d : Nat} {V : Nat → Value} {LL : Nat → List Met} (h : Lv w base g N V LL) (ho : Others d w w') (hg : g ≠ d) (hv : ∀ i, i < N → (V i).ownBlock ≠ some d) : Lv w' base g N V LL := by
  have hgb := ho.block g hg
  refine ⟨by rw [ho.size]; exact h.lt, h.bs, fun i hi => (World.cell?_of_block (w := w) (w' := w') (a := ⟨g, i, none⟩) hgb).trans (h.cell i hi), fun i hi => (h.own i hi).same fun c hc => ho.block c (fun e => hv i hi (by rw [hc, e])), h.apart, h.dis, fun j hj => (World.frozen?_of_block (w := w) (a := ⟨g, j, none⟩) hgb).trans (h.free j hj)⟩

/-- What drop does. -/
def DropO (w : World) (base db g N : Nat) (nx lg sq : Int) (fl : Bool) (LL : Nat → List Met) (file : Int) (w' : World) : Prop :=
  ∃ V', Below base w w' ∧ (∀ i, i < N → (V' i).ownBlock ≠ some db) ∧ ((∃ i, i < N ∧ ¬ noF (LL i) file ∧ (∀ j, j < i → noF (LL j) file) ∧ Lv w' base g N V' (fun j => if j = i then wo (LL i) file else LL j) ∧ DX w' db nx lg sq (some ⟨g, 0, none⟩) N N fl) ∨ ((∀ j, j < N → noF (LL j) file) ∧ Lv w' base g N V' LL ∧ DX w' db nx lg sq (some ⟨g, 0, none⟩) N N true))

set_option maxRecDepth 100000 in
set_option maxHeartbeats 1600000 in
theorem drop_any (base db g N : Nat) (nx lg sq : Int) (fl : Bool) (V : Nat → Value) (LL : Nat → List Met) (file : Int) (w : World) (hL : Lv w base g N V LL) (hD : DX w db nx lg sq (some ⟨g, 0, none⟩) N N fl) (hdb : base ≤ db) (hgd : g ≠ db) (hvd : ∀ i, i < N → (V i).ownBlock ≠ some db) (hN : N ≤ 1048576) (hM : ∀ i, i < N → (LL i).length ≤ 1048576) :
    Calls Try.prog 33 #[.pointer (some ⟨db, 0, none⟩), .int .i64 file] w fun e w' => e = .returned (.tuple #[]) ∧ DropO w base db g N nx lg sq fl LL file w' := by
  have d3 := hD.c3
  have HVD : Hid (∀ i, i < N → (V i).ownBlock ≠ some db) := hvd
  clear hvd
  go_enter Try.func33, Try.ntmps33
  go_wp2
  go_loopw [13] (fun i wr => ∃ k : Nat, k ≤ N ∧ i = .int .i64 k ∧ Hid (∀ j, j < k → noF (LL j) file) ∧ Below w.heap.size w wr) (fun i _ => N - (intOf i).toNat)
  case atStart => exact ⟨0, Nat.zero_le _, rfl, fun j h => by omega, Below.refl _ _⟩
  case round =>
    obtain ⟨k, hk, rfl, HG, hbk⟩ := hrel
    have hLk := hL.keep hbk
    have hDk := hD.keep hbk
    have hdw := hD.lt
    by_cases hlt : k < N
    · have hlk := hM k hlt
      have hok := hLk.own k hlt
      have gc := hLk.cell k hlt
      obtain ⟨so, sc, eV, _⟩ := hok.form
      rw [eV] at gc hok
      have hrow := hok.row
      have hgs := hLk.lt
      have hbs := hLk.bs
      clear hM d3
      go_wp2_with fail
      refine (levelWithout_any so sc (LL k) file wr hrow hlk).mono ?_
      rintro e w2 ⟨v, rfl, hO, hb2⟩
      have hrow2 := hrow.keep hb2
      obtain ⟨lo, lc, rfl, _⟩ := hO.form
      have hlow := hO.row
      have hwl := wo_len (LL k) file
      have hL2 := hLk.keep hb2
      have hD2 := hDk.keep hb2
      have hbw := hbk.trans (hb2.mono hbk.size)
      rcases noF_or (LL k) file with hno | ⟨m, hm, hmf⟩
      · have HG2 : Hid (∀ j, j < k + 1 → noF (LL j) file) := fun j hj => by
          rcases Nat.lt_succ_iff_lt_or_eq.1 hj with h | rfl
          · exact HG.out j h
          · exact hno
        have ew := wo_none hno
        rw [ew] at hlow ⊢
        clear hno HG hL2 hD2 hO hwl ew hLk hDk hok
        go_wp2_with fail
        refine (equalM_same lo so (LL k).length lc sc (mL (LL k)) w2 hlow hrow2 hlk).mono ?_
        rintro e w3 ⟨rfl, hb3⟩
        have hbw3 := hbw.trans (hb3.mono hbw.size)
        clear hlow hrow2 hb3
        go_wp2
        go_roundw
        case rel => exact ⟨k + 1, by omega, by go_num, HG2, hbw3⟩
        case measure => simp [intOf]; omega
      · have hlen := wo_some hm hmf
        have HY : Hid (¬ noF (LL k) file) := fun h => h m hm hmf
        clear hm hmf
        go_wp2_with fail
        refine (equalM_len lo so (wo (LL k) file).length (LL k).length lc sc w2 (by omega) (by omega) hlk).mono ?_
        rintro e w3 ⟨rfl, hb3⟩
        have hL3 := hL2.keep hb3
        have hD3 := hD2.keep hb3
        have hO3 := (hO.keep hb3).lower (base' := base) (by omega)
        have hbw3 := hbw.trans (hb3.mono hbw.size)
        have hlo : ∀ c, (Value.slice lo (wo (LL k) file).length lc).ownBlock = some c → wr.heap.size ≤ c := fun c hc => (hO.own.lt c hc).1
        have hS := hL3.store hlt hO3 (fun h => by have := hlo _ h; omega) (fun i hi _ c hc hc2 => by
          have h1 := hlo _ hc2
          have h2 := ((hLk.own i hi).own.lt c hc).2
          omega)
        have hoth : Others g w3 (w3.setCell ⟨g, k, none⟩ (.slice lo (wo (LL k) file).length lc)) := Others.setCell _ _ _ _
        have hF : Hid (DropO w base db g N nx lg sq fl LL file (w3.setCell ⟨g, k, none⟩ (.slice lo (wo (LL k) file).length lc))) :=
          ⟨fun i => if i = k then Value.slice lo (wo (LL k) file).length lc else V i, (hbw3.mono (by omega)).setCell (p := ⟨g, k, none⟩) (by dsimp only; omega) _, fun i hi => by
            dsimp only
            split
            · exact fun h => by have := hlo _ h; have := hbk.size; omega
            · exact HVD.out i hi, .inl ⟨k, hlt, HY.out, HG.out, hS, hD3.same (by rw [hoth.size]; exact Nat.le_refl _) (hoth.block _ (by omega))⟩⟩
        have d3 := hD3.c3
        have g3 := hL3.cell k hlt
        have gf := hL3.free k hlt
        clear hlow hrow2 hb3 hL2 hD2 hO hwl hLk hDk hok hlo hS hoth hL3 hD3 hO3 HY HG hbw3 hbw hb2 hlen hrow
        go_wp2
        refine bodyPost_ret (v := .tuple #[]) (by simp [results, Try.results33]) rfl ⟨rfl, hF.out⟩
    · obtain rfl : k = N := by omega
      have d4 := hDk.c4
      have df := hDk.free 4
      have hgs := hLk.lt
      have hbs := hLk.bs
      have hoth : Others db wr (wr.setCell ⟨db, 4, none⟩ (.bool true)) := Others.setCell _ _ _ _
      have hother : ∀ j, j ≠ 4 → (wr.setCell ⟨db, 4, none⟩ (.bool true)).cell? ⟨db, j, none⟩ = wr.cell? ⟨db, j, none⟩ := fun j hj => World.cell?_setCell_other _ _ _ _ (by intro hh; injection hh with _ h2 _; omega)
      have hF : Hid (DropO w base db g k nx lg sq fl LL file (wr.setCell ⟨db, 4, none⟩ (.bool true))) :=
        ⟨V, (hbk.mono (by omega)).setCell (p := ⟨db, 4, none⟩) hdb _, HVD.out, .inr ⟨HG.out, hLk.others hoth hgd HVD.out, ⟨by rw [hoth.size]; exact hDk.lt, (hother 0 (by omega)).trans hDk.c0, (hother 1 (by omega)).trans hDk.c1, (hother 2 (by omega)).trans hDk.c2, (hother 3 (by omega)).trans hDk.c3, World.cell?_setCell_same _ _ _ d4, fun j => by simpa using hDk.free j⟩⟩⟩
      clear hM d3 HG hLk hDk hoth hother
      go_wp2
      refine bodyPost_end (v := .tuple #[]) (by simp [results, Try.results33]) rfl ⟨rfl, hF.out⟩
end Go.Proofs.Ytofdhgffnkhdfaa
