/- rename: its outcome. -/
import Derived.Test.YtgedpjabjoodjaaDoorRenO
namespace Go.Proofs.YtgedpjabjoodjaaDoor
open Go.RowKit
open Go.ChangeMaps (setBlock)
set_option linter.unusedSimpArgs false
set_option linter.unusedVariables false

theorem rises_of {F : Nat → Fil} {n : Nat} (hK : ∀ i, i < n → fileOk F i = true) : Rises F n := fun i j hij hj => names_lt hK hij hj
theorem sh_ne {a i : Nat} : sh a i ≠ a := by unfold sh; split <;> omega
theorem rank_rem {F : Nat → Fil} {n b : Nat} (h : Rises F n) (hb : b < n) : Rank (remF F b) (n - 1) (F b).nm b :=
  ⟨by omega, fun i hi => by unfold remF sh; rw [if_pos hi]; exact h i b hi hb, fun i h1 h2 => by unfold remF sh; rw [if_neg (by omega)]; exact h b (i + 1) (by omega) (by omega)⟩

theorem rename_out_new {Q : Int} {n a k bm : Nat} {F : Nat → Fil} {S : Nat → Value} {G : Nat → Nat} {t : ByteArray} (ha : a < n) (hR : Rank (remF F a) (n - 1) t k) (hm : ∀ j, j < n - 1 → (remF F a j).nm ≠ t) (hK : ∀ i, i < n → fileOk F i = true) (hbd : ∀ i, i < n → ∀ j, 0 ≤ (F i).f j ∧ (F i).f j ≤ 255) (hn : n ≤ 1048576) (w : World) (hM : w.heap[bm]? = some (.map (ents F S n) n)) (hD : DOwn w (bm + 2) n F S G) :
    Calls Tryd.prog 55 #[.agg #[.int .i64 Q, .map (some bm)], .string (F a).nm, .string t] w fun e w' => MOut 0 (n - 1 + 1) (insG (remF F a) { F a with nm := t } k) n F G bm w e w' := by
  have hlt : bm < w.heap.size := (Array.getElem?_eq_some_iff.1 hM).1
  have hS := hD.len
  have hle := hR.le
  have hlen : ((lOf F S n).eraseIdx a).length = n - 1 := by rw [List.length_eraseIdx, lOf_len, if_pos ha]
  have hnt : ∀ p ∈ (lOf F S n).eraseIdx a, p.1.1 ≠ t := fun p hp e => by
    obtain ⟨i, hi⟩ := List.mem_iff_getElem?.1 hp
    have hi2 : i < n - 1 := by rw [← hlen]; exact (List.getElem?_eq_some_iff.1 hi).1
    have h1 := rem_dat (F := F) (S := S) (n := n) (a := a) i p.1 (by rw [List.getElem?_map, hi]; rfl)
    rw [List.getElem?_map, lOf_at F S (sh_lt ha hi2)] at h1
    simp only [Option.map_some, Option.some.injEq] at h1
    exact hm i hi2 (by rw [← e, ← h1]; rfl)
  refine (rename_hit Q bm n F S a ha t ((lOf F S n).eraseIdx a ++ [((t, (sAd (S a), (F a).len, sCp (S a)), (F a).sy), n)]) (n + 1) hK ?_ w hM hS).mono ?_
  · intro W da dc hSa hW
    have hes : (esOf ((lOf F S n).eraseIdx a)).push { key := .string t, val := .agg #[.string t, .slice da (F a).len dc, .int .i64 (F a).sy], born := n } = esOf ((lOf F S n).eraseIdx a ++ [((t, (sAd (S a), (F a).len, sCp (S a)), (F a).sy), n)]) := by
      rw [hSa]
      apply Array.ext'
      simp [esOf, mkE, fval, sAd, sCp]
    rw [← hes]
    exact run_mapUpdate_new (P := Tryd.prog) (mty := 58) (kt := 9) (et := 73) (s := t) _ Tryd.underlying58 Tryd.underlying9 hW.map (esOf_keys _) (fun x hx he => by
      obtain ⟨p, hp, rfl⟩ := mem_esOf hx
      simp only [mkE, Value.string.injEq] at he
      exact hnt p hp he)
  · rintro e w' ⟨rfl, wX, hb, rfl⟩
    have hMX := mhas_of hK hS ((hb.block bm hlt).trans hM)
    have hltX : bm < wX.heap.size := hMX.lt
    have hME := hMX.del (wX := wX) (j := a) hltX
    have hup := hME.push (wX := wX) (t, (sAd (S a), (F a).len, sCp (S a)), (F a).sy) hnt hltX
    have hDX : DOwn (setBlock wX bm (.map (esOf ((lOf F S n).eraseIdx a ++ [((t, (sAd (S a), (F a).len, sCp (S a)), (F a).sy), n)])) (n + 1))) (bm + 2) n F S G := (hD.keep hb).low' (size_setBlock _ _ _) (fun k hk => heap_setBlock_ne _ _ _ (by omega))
    have hz := zown_of hDX hbd
    have hl2 : (((lOf F S n).eraseIdx a).map (·.1)).length = n - 1 := by rw [List.length_map, hlen]
    have hzo := zown_ins (σ := sh a) t hz ha (fun i hi => ⟨sh_lt ha hi, sh_ne⟩) (fun i j h _ => sh_mono h) hl2 rem_dat hle
    have hrs := rise_ins (F := F) (S := S) (n := n) (σ := sh a) (l2 := ((lOf F S n).eraseIdx a).map (·.1)) (y := { F a with nm := t }) (x := (t, (sAd (S a), (F a).len, sCp (S a)), (F a).sy)) rfl ((rises_of hK).rem ha) hR (fun i hi => sh_lt ha hi) hl2 rem_dat
    exact ⟨_, _, n + 1, _, _, rfl, errNil, .inl rfl, hup, by rw [List.length_append, hlen]; simp; omega, by rw [List.map_append]; exact insL_perm _ _ _, hrs, hzo, below_setBlock (hb.mono (Nat.le_of_lt hlt)) (Nat.le_refl _) _, fun k hk hne _ => (heap_setBlock_ne _ _ _ hne).trans (hb.block k hk)⟩

theorem rename_out_old {Q : Int} {n a b bm : Nat} {F : Nat → Fil} {S : Nat → Value} {G : Nat → Nat} (ha : a < n) (hb : b < n - 1) (hK : ∀ i, i < n → fileOk F i = true) (hbd : ∀ i, i < n → ∀ j, 0 ≤ (F i).f j ∧ (F i).f j ≤ 255) (hn : n ≤ 1048576) (w : World) (hM : w.heap[bm]? = some (.map (ents F S n) n)) (hD : DOwn w (bm + 2) n F S G) :
    Calls Tryd.prog 55 #[.agg #[.int .i64 Q, .map (some bm)], .string (F a).nm, .string (remF F a b).nm] w fun e w' => MOut 0 (n - 1 - 1 + 1) (insG (remF (remF F a) b) { F a with nm := (remF F a b).nm } b) n F G bm w e w' := by
  have hlt : bm < w.heap.size := (Array.getElem?_eq_some_iff.1 hM).1
  have hS := hD.len
  have hlen : ((lOf F S n).eraseIdx a).length = n - 1 := by rw [List.length_eraseIdx, lOf_len, if_pos ha]
  have hatb : ((lOf F S n).eraseIdx a)[b]? = some (fOf F S (sh a b), sh a b) := by
    rw [List.getElem?_eraseIdx]
    have := lOf_at F S (sh_lt ha hb)
    unfold sh at this ⊢
    split
    · rename_i h; rw [if_pos h] at this; exact this
    · rename_i h; rw [if_neg h] at this; exact this
  refine (rename_hit Q bm n F S a ha (remF F a b).nm (((lOf F S n).eraseIdx a).set b (((remF F a b).nm, (sAd (S a), (F a).len, sCp (S a)), (F a).sy), sh a b)) n hK ?_ w hM hS).mono ?_
  · intro W da dc hSa hW
    have := upd_old (P := Tryd.prog) (et := 73) Tryd.underlying58 Tryd.underlying9 hW hatb ((remF F a b).nm, (sAd (S a), (F a).len, sCp (S a)), (F a).sy) rfl
    rw [hSa] at this ⊢
    exact this
  · rintro e w' ⟨rfl, wX, hbX, rfl⟩
    have hMX := mhas_of hK hS ((hbX.block bm hlt).trans hM)
    have hltX : bm < wX.heap.size := hMX.lt
    have hME := hMX.del (wX := wX) (j := a) hltX
    have hup := hME.upd (wX := wX) hatb ((remF F a b).nm, (sAd (S a), (F a).len, sCp (S a)), (F a).sy) rfl hltX
    have hDX : DOwn (setBlock wX bm (.map (esOf (((lOf F S n).eraseIdx a).set b (((remF F a b).nm, (sAd (S a), (F a).len, sCp (S a)), (F a).sy), sh a b))) n)) (bm + 2) n F S G := (hD.keep hbX).low' (size_setBlock _ _ _) (fun k hk => heap_setBlock_ne _ _ _ (by omega))
    have hz := zown_of hDX hbd
    have hl1 : (((lOf F S n).eraseIdx a).map (·.1)).length = n - 1 := by rw [List.length_map, hlen]
    have hl2 : ((((lOf F S n).eraseIdx a).map (·.1)).eraseIdx b).length = n - 1 - 1 := by rw [List.length_eraseIdx, hl1, if_pos hb]
    have hdat : ∀ i x, ((((lOf F S n).eraseIdx a).map (·.1)).eraseIdx b)[i]? = some x → ((lOf F S n).map (·.1))[sh a (sh b i)]? = some x := fun i x hx => by
      refine rem_dat (sh b i) x ?_
      rw [← hx, List.getElem?_eraseIdx]
      unfold sh
      split <;> rfl
    have hRz : Rises (remF (remF F a) b) (n - 1 - 1) := ((rises_of hK).rem ha).rem hb
    have hR := rank_rem ((rises_of hK).rem ha) hb
    have hzo := zown_ins (σ := fun i => sh a (sh b i)) (remF F a b).nm hz ha (fun i hi => ⟨sh_lt ha (sh_lt hb hi), sh_ne⟩) (fun i j h _ => sh_mono (sh_mono h)) hl2 hdat hR.le
    have hrs := rise_ins (F := F) (S := S) (n := n) (σ := fun i => sh a (sh b i)) (y := { F a with nm := (remF F a b).nm }) (x := ((remF F a b).nm, (sAd (S a), (F a).len, sCp (S a)), (F a).sy)) rfl hRz hR (fun i hi => sh_lt ha (sh_lt hb hi)) hl2 hdat
    have hse : (((lOf F S n).eraseIdx a).set b (((remF F a b).nm, (sAd (S a), (F a).len, sCp (S a)), (F a).sy), sh a b)).map (·.1) = insL ((((lOf F S n).eraseIdx a).map (·.1)).eraseIdx b) ((remF F a b).nm, (sAd (S a), (F a).len, sCp (S a)), (F a).sy) b := by
      rw [insL_set (by rw [hl1]; exact hb), List.map_set]
    exact ⟨_, _, n, _, _, rfl, errNil, .inl rfl, hup, by rw [List.length_set, hlen]; omega, by rw [hse], hrs, hzo, below_setBlock (hbX.mono (Nat.le_of_lt hlt)) (Nat.le_refl _) _, fun k hk hne _ => (heap_setBlock_ne _ _ _ hne).trans (hbX.block k hk)⟩
end Go.Proofs.YtgedpjabjoodjaaDoor
