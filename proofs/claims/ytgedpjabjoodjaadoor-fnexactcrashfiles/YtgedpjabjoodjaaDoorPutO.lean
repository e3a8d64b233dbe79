/- put: its outcome. -/
import Derived.Test.YtgedpjabjoodjaaDoorPutH
namespace Go.Proofs.YtgedpjabjoodjaaDoor
open Go.RowKit
open Go.ChangeMaps (setBlock)
set_option linter.unusedSimpArgs false
set_option linter.unusedVariables false

/-- File j with m bytes more. -/
def appF (F : Nat → Fil) (j m : Nat) (h : Nat → Int) (i : Nat) : Fil := if i = j then { F j with len := (F j).len + m, f := cat (F j).f (F j).len h } else F i
theorem cat_bd {f h : Nat → Int} {n : Nat} (hf : ∀ i, 0 ≤ f i ∧ f i ≤ 255) (hh : ∀ i, 0 ≤ h i ∧ h i ≤ 255) (i : Nat) : 0 ≤ cat f n h i ∧ cat f n h i ≤ 255 := by
  unfold cat
  split
  · exact hf i
  · exact hh _
theorem own_of_row {w : World} {base n g c : Nat} {f : Nat → Int} (hf : ∀ i, 0 ≤ f i ∧ f i ≤ 255) (h : w.ownsRow base 5 1 (.slice (some ⟨g, 0, none⟩) n c) n (bl f n)) : Own w g 0 n f := by
  refine ⟨hf, brow_lt h rfl, fun i hi => ?_, fun i _ => by simpa using h.frozenAt i⟩
  rw [Nat.zero_add, h.cellAt i (by omega)]
  simp [bl, hi]
theorem put_out {Q : Int} {n j bm : Nat} {F : Nat → Fil} {S : Nat → Value} {G : Nat → Nat} {ad : Addr} {m bc : Nat} {h : Nat → Int} (hj : j < n) (hm : m ≤ 1048576) (hQ : 0 ≤ Q ∧ Q ≤ 60000) (hu : used F n ≤ 60000) (hlen : (F j).len ≤ 1048576) (hroom : ((used F n + m : Nat) : Int) ≤ Q) (hK : ∀ i, i < n → fileOk F i = true) (hbd : ∀ i, i < n → ∀ j, 0 ≤ (F i).f j ∧ (F i).f j ≤ 255) (hh : ∀ i, 0 ≤ h i ∧ h i ≤ 255) (hn : n ≤ 1048576) (w : World) (hM : w.heap[bm]? = some (.map (ents F S n) n)) (hD : DOwn w (bm + 2) n F S G) (hDR : DRow w (bm + 2) n F S) (hbm : bm + 2 ≤ w.heap.size) (HA : ad.block < w.heap.size ∧ ad.spot = none ∧ ∀ i, i < m → w.cell? (ad.add i) = some (.int .u8 (h i))) :
    Calls Tryd.prog 49 #[.agg #[.int .i64 Q, .map (some bm)], .string (F j).nm, .slice (some ad) m bc] w fun e w' => MOut 0 n (appF F j m h) n F G bm w e w' := by
  have hlt : bm < w.heap.size := (Array.getElem?_eq_some_iff.1 hM).1
  have hS := hD.len
  refine (put_hit Q bm n F S j hj ad m bc h hm hQ hu hlen hroom hK w hM hS hbm (hDR j hj).1 HA).mono ?_
  rintro e w' ⟨rfl, wX, p', c', rfl, hb, hoth, hown, hat⟩
  have hOj : ∀ b, some b = (S j).ownBlock → b = G j := fun b e => by
    rcases hD.data j hj with ⟨_, c, e2⟩ | ⟨c, e2, _⟩
    · rw [e2] at e; simp [Value.ownBlock] at e
    · rw [e2] at e; simpa [Value.ownBlock] using e
  have bmne : some bm ≠ (S j).ownBlock := fun e => by have := brow_ge (hDR j hj).1 e; omega
  have hMX := mhas_of hK hS ((hoth bm hlt bmne).trans hM)
  have hltX : bm < wX.heap.size := hMX.lt
  have hup := hMX.upd (wX := wX) (lOf_at F S hj) ((F j).nm, (p', (F j).len + m, c'), (F j).sy) rfl hltX
  have blW : ∀ k, k < w.heap.size → k ≠ bm → some k ≠ (S j).ownBlock → (setBlock wX bm (.map (esOf ((lOf F S n).set j (((F j).nm, (p', (F j).len + m, c'), (F j).sy), j))) n)).heap[k]? = w.heap[k]? := fun k h1 h2 h3 => (heap_setBlock_ne _ _ _ h2).trans (hoth k h1 h3)
  have szW : w.heap.size ≤ (setBlock wX bm (.map (esOf ((lOf F S n).set j (((F j).nm, (p', (F j).len + m, c'), (F j).sy), j))) n)).heap.size := by rw [size_setBlock]; exact hb.size
  have hownW : (setBlock wX bm (.map (esOf ((lOf F S n).set j (((F j).nm, (p', (F j).len + m, c'), (F j).sy), j))) n)).ownsRow (bm + 2) 5 1 (.slice p' ((F j).len + m) c') ((F j).len + m) (bl (cat (F j).f (F j).len h) ((F j).len + m)) := brow_one hown (fun b e => heap_setBlock_ne _ _ _ (by have := brow_ge hown e; omega))
  have hbW : Below bm w (setBlock wX bm (.map (esOf ((lOf F S n).set j (((F j).nm, (p', (F j).len + m, c'), (F j).sy), j))) n)) := below_setBlock hb (Nat.le_refl _) _
  have hlist : ((lOf F S n).set j (((F j).nm, (p', (F j).len + m, c'), (F j).sy), j)).map (·.1) = (lOf (appF F j m h) (fun i => if i = j then .slice p' ((F j).len + m) c' else S i) n).map (·.1) := by
    apply List.ext_getElem?
    intro i
    rw [List.getElem?_map, List.getElem?_map, List.getElem?_set, lOf_len]
    by_cases e : j = i
    · subst e
      rw [if_pos rfl, if_pos hj, lOf_at _ _ hj]
      simp [fOf, appF, sAd, sCp]
    · rw [if_neg e]
      by_cases hi : i < n
      · rw [lOf_at _ _ hi, lOf_at _ _ hi]
        simp [fOf, appF, Ne.symm e]
      · rw [List.getElem?_eq_none (by rw [lOf_len]; omega), List.getElem?_eq_none (by rw [lOf_len]; omega)]
  have hnm : ∀ i, (appF F j m h i).nm = (F i).nm := fun i => by unfold appF; split <;> simp_all
  generalize setBlock wX bm (.map (esOf ((lOf F S n).set j (((F j).nm, (p', (F j).len + m, c'), (F j).sy), j))) n) = W at hup blW szW hownW hbW
  obtain ⟨g', hg'⟩ : ∃ g', ∀ b, some b = (Value.slice p' ((F j).len + m) c').ownBlock → b = g' := by
    cases hp : (Value.slice p' ((F j).len + m) c').ownBlock with
    | none => exact ⟨0, fun b e => by cases e⟩
    | some b => exact ⟨b, fun b' e => Option.some.inj e⟩
  have hpj : (F j).len + m = 0 ∨ p' = some ⟨g', 0, none⟩ := by
    rcases hownW.2 with ⟨_, h0⟩ | ⟨g, cap, cur, e, _⟩
    · exact .inl h0
    · injection e with e1 _ _
      have := hg' g (by rw [e1]; rfl)
      exact .inr (by rw [e1, this])
  have hdat : ∀ i, i < n → i ≠ j → (F i).len = 0 ∨ (sAd (S i) = some ⟨G i, 0, none⟩ ∧ bm ≤ G i ∧ Own W (G i) 0 (F i).len (F i).f ∧ G i < w.heap.size) := fun i hi hij => by
    rcases hD.data i hi with ⟨h0, _⟩ | ⟨c, e, ho⟩
    · exact .inl h0
    · have hl := hD.low i hi
      have hne : some (G i) ≠ (S j).ownBlock := fun e => by
        have e := hOj _ e
        rcases Nat.lt_or_gt_of_ne hij with g | g
        · have := hD.mono i j g hj; omega
        · have := hD.mono j i g hi; omega
      have hbk := blW (G i) ho.lt (by omega) hne
      exact .inr ⟨by rw [e]; rfl, by omega, ⟨ho.bd, Nat.lt_of_lt_of_le ho.lt szW, fun k hk => (World.cell?_of_block (w := w) (a := ⟨G i, 0 + k, none⟩) hbk).trans (ho.cell k hk), fun k hk => (World.frozen?_of_block (w := w) (a := ⟨G i, 0 + k, none⟩) hbk).trans (ho.free k hk)⟩, ho.lt⟩
  have hap : ∀ i, i < n → i ≠ j → (F i).len ≠ 0 → (F j).len + m ≠ 0 → G i ≠ g' := fun i hi hij h1 h2 e => by
    have hp := hpj.resolve_left h2
    obtain ⟨_, _, _, hl⟩ := (hdat i hi hij).resolve_left h1
    rcases hat g' (by rw [hp]; rfl) with h | h
    · have := hOj _ h
      rcases Nat.lt_or_gt_of_ne hij with g | g
      · have := hD.mono i j g hj; omega
      · have := hD.mono j i g hi; omega
    · omega
  refine ⟨_, _, n, (lOf (appF F j m h) (fun i => if i = j then .slice p' ((F j).len + m) c' else S i) n).map (·.1), fun i => if i = j then g' else G i, rfl, errNil, .inl rfl, hup, by rw [List.length_set, lOf_len]; exact hn, by rw [hlist], ?_, ⟨by rw [List.length_map, lOf_len], fun i x hx => ?_, fun i hi k => ?_, fun i k hik hk h1 h2 => ?_⟩, hbW, fun k hk hne hnot => ?_⟩
  · rw [List.pairwise_iff_getElem]
    intro i k hi hk hik
    simp only [lOf, List.map_map, List.length_map, List.length_range] at hi hk
    simp only [lOf, List.map_map, List.getElem_map, List.getElem_range, Function.comp_apply, fOf, hnm]
    have := names_rise hK (k - i - 1) i (by omega)
    rwa [show i + (k - i - 1 + 1) = k by omega] at this
  · have hi : i < n := by
      have := (List.getElem?_eq_some_iff.1 hx).1
      rwa [List.length_map, lOf_len] at this
    rw [List.getElem?_map, lOf_at _ _ hi] at hx
    injection hx with hx
    subst hx
    refine ⟨rfl, rfl, rfl, ?_⟩
    by_cases e : i = j
    · subst e
      simp only [fOf, appF, if_true, sAd]
      rcases hpj with h0 | hp
      · exact .inl h0
      · subst hp
        have hO := own_of_row (cat_bd (hbd i hj) hh) hownW
        exact .inr ⟨rfl, by have := brow_ge hownW (b := g') rfl; omega, hO⟩
    · simp only [fOf, appF, if_neg e]
      rcases hdat i hi e with h0 | ⟨a1, a2, a3, _⟩
      · exact .inl h0
      · exact .inr ⟨a1, a2, a3⟩
  · unfold appF
    by_cases e : i = j
    · rw [if_pos e]; exact cat_bd (hbd j hj) hh k
    · rw [if_neg e]; exact hbd i hi k
  · unfold appF at h1 h2
    by_cases e1 : i = j
    · have e2 : ¬ k = j := by omega
      simp only [e1, e2, if_true, if_false] at h1 h2 ⊢
      exact (hap k hk e2 h2 h1).symm
    · by_cases e2 : k = j
      · simp only [e1, e2, if_true, if_false] at h1 h2 ⊢
        exact hap i (by omega) e1 h1 h2
      · simp only [e1, e2, if_false] at h1 h2 ⊢
        have := hD.mono i k hik hk
        omega
  · refine blW k hk hne (fun e => ?_)
    have e2 := hOj k e
    have h0 : (F j).len ≠ 0 := fun h0 => by rw [(hDR j hj).2 h0] at e; cases e
    exact hnot j hj h0 e2
end Go.Proofs.YtgedpjabjoodjaaDoor
