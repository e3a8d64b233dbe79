/- An edit applied in the model: how many are gone; one meta and a row of them put behind, as equations. / Rows of metas cut in two; a draft's levels where something else grows. -/
import Derived.Test.YtagkhohglpjjlaaCm
namespace Go.Proofs.Ytagkhohglpjjlaa
open Go.RowKit
set_option linter.unusedSimpArgs false
set_option linter.unusedVariables false

theorem nodup_le : ∀ (l1 l2 : List Int), l1.Nodup → (∀ x ∈ l1, x ∈ l2) → l1.length ≤ l2.length
  | [], l2, _, _ => Nat.zero_le _
  | x :: t, l2, hn, hs => by
    have hx : x ∈ l2 := hs x (by simp)
    have h1 := List.nodup_cons.1 hn
    have h2 := nodup_le t (l2.erase x) h1.2 (fun y hy => (List.mem_erase_of_ne (fun e => h1.1 (by rw [← e]; exact hy))).2 (hs y (by simp [hy])))
    rw [List.length_erase_of_mem hx] at h2
    have := List.length_pos_of_mem hx
    simp only [List.length_cons]
    omega
/-- Of these files so many are dropped if and only if all that are dropped are there. -/
theorem gone_iff {F D : List Int} (hF : F.Nodup) (hD : D.Nodup) : (F.filter fun x => decide (x ∈ D)).length = D.length ↔ ∀ d ∈ D, d ∈ F := by
  have hG : (F.filter fun x => decide (x ∈ D)).Nodup := hF.filter _
  have hm : ∀ x, x ∈ (F.filter fun x => decide (x ∈ D)) ↔ x ∈ F ∧ x ∈ D := fun x => by simp
  constructor
  · intro h d hd
    by_cases hdF : d ∈ F
    · exact hdF
    · exfalso
      have h1 := nodup_le _ (D.erase d) hG (fun x hx => by
        have h2 := (hm x).1 hx
        exact (List.mem_erase_of_ne (fun e => hdF (by rw [← e]; exact h2.1))).2 h2.2)
      rw [List.length_erase_of_mem hd] at h1
      have := List.length_pos_of_mem hd
      omega
  · intro h
    have h1 := nodup_le _ D hG (fun x hx => ((hm x).1 hx).2)
    have h2 := nodup_le D _ hD (fun x hx => (hm x).2 ⟨h x hx, hx⟩)
    omega
/-- How many of a level are dropped. -/
def gon (D : List Int) (L : List Met) : Nat := (L.filter fun m => decide (m.file ∈ D)).length
def gonS (D : List Int) (LL : Nat → List Met) : Nat → Nat
  | 0 => 0
  | k + 1 => gonS D LL k + gon D (LL k)
theorem gon_take {D : List Int} {L : List Met} {k : Nat} (h : k < L.length) : gon D (L.take (k + 1)) = gon D (L.take k) + (if (mL L k).file ∈ D then 1 else 0) := by
  rw [take_mL h]
  unfold gon
  rw [List.filter_append, List.length_append]
  congr 1
  by_cases e : (mL L k).file ∈ D <;> simp [e]
theorem dropd_take {D : List Int} {L : List Met} {k : Nat} (h : k < L.length) : dropd D (L.take (k + 1)) = dropd D (L.take k) ++ (if (mL L k).file ∈ D then [] else [mL L k]) := by
  rw [take_mL h]
  unfold dropd
  rw [List.filter_append]
  congr 1
  by_cases e : (mL L k).file ∈ D <;> simp [e]
theorem gon_le (D : List Int) (L : List Met) : gon D L ≤ L.length := List.length_filter_le _ _
theorem fls_map (L : List Met) : ∀ n, n ≤ L.length → fls (mL L) n = (L.take n).map (·.file)
  | 0, _ => by simp [fls]
  | n + 1, h => by
    unfold fls
    rw [fls_map L n (by omega), take_mL (show n < L.length by omega)]
    simp
theorem fls_gon (D : List Int) (L : List Met) : ((fls (mL L) L.length).filter fun x => decide (x ∈ D)).length = gon D L := by
  rw [fls_map L _ (Nat.le_refl _), List.take_length, List.filter_map, List.length_map]
  rfl
theorem flsR_gon (D : List Int) (LL : Nat → List Met) : ∀ N, ((flsR (fun i => mL (LL i)) (fun i => (LL i).length) N).filter fun x => decide (x ∈ D)).length = gonS D LL N
  | 0 => rfl
  | N + 1 => by
    unfold flsR gonS
    rw [List.filter_append, List.length_append, flsR_gon D LL N]
    rw [fls_gon]
theorem okD_iff {vx vl vs : Int} {N : Nat} {LL : Nat → List Met} {D : List Int} (h : GoodVP vx vl vs N (fun i => mL (LL i)) (fun i => (LL i).length)) (hD : D.Nodup) : gonS D LL N = D.length ↔ OkD N LL D := by
  rw [← flsR_gon, gone_iff h.2.2.2.2.2.2 hD]
  have hmem : ∀ d, d ∈ flsR (fun i => mL (LL i)) (fun i => (LL i).length) N ↔ ∃ i, i < N ∧ ∃ m ∈ LL i, m.file = d := fun d => by
    constructor
    · intro hd
      obtain ⟨k, j, hk, hj, e⟩ := flsR_mem hd
      exact ⟨k, hk, mL (LL k) j, mL_mem hj, e.symm⟩
    · rintro ⟨i, hi, m, hm, rfl⟩
      obtain ⟨k, hk, rfl⟩ := List.getElem_of_mem hm
      have := fls_in (X := mL (LL i)) hk
      refine flsR_in (R := fun i => mL (LL i)) (M := fun i => (LL i).length) hi ?_
      simpa [mL, hk] using this
  constructor
  · exact fun h2 => ⟨hD, fun d hd => (hmem d).1 (h2 d hd)⟩
  · exact fun h2 d hd => (hmem d).2 (h2.2 d hd)
theorem gonS_le {D : List Int} {LL : Nat → List Met} : ∀ {N : Nat}, (∀ i, i < N → (LL i).length ≤ 12) → gonS D LL N ≤ 12 * N
  | 0, _ => Nat.le_refl _
  | N + 1, h => by
    have h1 := gonS_le (D := D) (N := N) (fun i hi => h i (by omega))
    have h2 := gon_le D (LL N)
    have h3 := h N (by omega)
    unfold gonS
    omega

/-- One meta put behind, as an equation. -/
theorem pushM_run (w : World) (base : Nat) (vo : Option Addr) (vc : Nat) (L : List Met) (x : Met) (h : OwnM w base (.slice vo L.length vc) L) (hx : MB x) (hn : L.length ≤ 1048576) (hbase : base ≤ w.heap.size) :
    ∃ so sc w', (∀ ty, (Builtin.append_ #[71, 71] ty #[.slice vo L.length vc, .slice (some ⟨w.heap.size, 0, none⟩) 1 1]).run Try.prog (w.alloc (.cells #[.int .i64 x.file, .string x.least, .string x.most, .int .i64 x.many] 52)) = .ok (.slice so (L ++ [x]).length sc) w') ∧ OwnM w' base (.slice so (L ++ [x]).length sc) (L ++ [x]) ∧ (w.alloc (.cells #[.int .i64 x.file, .string x.least, .string x.most, .int .i64 x.many] 52)).grownBy w' (Value.slice vo L.length vc).ownBlock ∧ ((Value.slice so (L ++ [x]).length sc).ownBlock = (Value.slice vo L.length vc).ownBlock ∨ (Value.slice so (L ++ [x]).length sc).ownBlock = some (w.alloc (.cells #[.int .i64 x.file, .string x.least, .string x.most, .int .i64 x.many] 52)).heap.size) := by
  obtain ⟨i0, hi, hz0, hz1, hz2⟩ := info_parts Try.infoM
  obtain ⟨v', w', h1, h2, h3, _, h5⟩ := run_append_own_at (P := Try.prog) (w.alloc (.cells #[.int .i64 x.file, .string x.least, .string x.most, .int .i64 x.many] 52)) base 71 0 52 i0 (.agg #[.int .i64 0, .string ByteArray.empty, .string ByteArray.empty, .int .i64 0]) 4 48 Try.underlying71 hi hz0 hz1 hz2 rfl (by decide) (.slice vo L.length vc) L.length (L.flatMap mc) (h.keep (below_new w _)).own ⟨w.heap.size, 0, none⟩ 1 1 (mc x) rfl (cell_one_m _ _ _) (fun u hu => by
    simp only [mc, List.mem_cons, List.not_mem_nil, or_false] at hu
    rcases hu with rfl | rfl | rfl | rfl <;> rfl) (by unfold maxLen; omega) (by omega) (by simp; omega)
  have ho : OwnM w' base v' (L ++ [x]) := ⟨fun z hz => by
      rcases List.mem_append.1 hz with hz | hz
      · exact h.bd z hz
      · rw [List.mem_singleton.1 hz]; exact hx, by
    rw [List.length_append, List.flatMap_append]
    simpa using h2⟩
  obtain ⟨so, sc, rfl, _⟩ := ho.form
  exact ⟨so, sc, w', fun ty => h1, ho, h3, h5⟩
set_option maxRecDepth 100000 in
/-- A row of metas put behind, as an equation. -/
theorem appM_run (w : World) (base : Nat) (vo : Option Addr) (vc : Nat) (L : List Met) (ao : Option Addr) (c : Nat) (M : List Met) (h : OwnM w base (.slice vo L.length vc) L) (hM : MRow w ao M.length (mL M)) (hsz : L.length + M.length ≤ 4194304) (hbase : base ≤ w.heap.size) :
    ∃ so sc w', (∀ ty, (Builtin.append_ #[71, 71] ty #[.slice vo L.length vc, .slice ao M.length c]).run Try.prog w = .ok (.slice so (L ++ M).length sc) w') ∧ OwnM w' base (.slice so (L ++ M).length sc) (L ++ M) ∧ w.grownBy w' (Value.slice vo L.length vc).ownBlock ∧ ((Value.slice so (L ++ M).length sc).ownBlock = (Value.slice vo L.length vc).ownBlock ∨ (Value.slice so (L ++ M).length sc).ownBlock = some w.heap.size) := by
  obtain ⟨i0, hi, hz0, hz1, hz2⟩ := info_parts Try.infoM
  have hbd : ∀ z ∈ L ++ M, MB z := fun z hz => by
    rcases List.mem_append.1 hz with hz | hz
    · exact h.bd z hz
    · exact mf_bd hM z hz
  have fin : ∀ ad : Addr, ao = some ad → (∀ j u, (M.flatMap mc)[j]? = some u → w.cell? (ad.add j) = some u) → ∃ so sc w', (∀ ty, (Builtin.append_ #[71, 71] ty #[.slice vo L.length vc, .slice ao M.length c]).run Try.prog w = .ok (.slice so (L ++ M).length sc) w') ∧ OwnM w' base (.slice so (L ++ M).length sc) (L ++ M) ∧ w.grownBy w' (Value.slice vo L.length vc).ownBlock ∧ ((Value.slice so (L ++ M).length sc).ownBlock = (Value.slice vo L.length vc).ownBlock ∨ (Value.slice so (L ++ M).length sc).ownBlock = some w.heap.size) := fun ad e hc => by
    subst e
    obtain ⟨v', w', h1, h2, h3, _, h5⟩ := run_append_own_at (P := Try.prog) w base 71 0 52 i0 (.agg #[.int .i64 0, .string ByteArray.empty, .string ByteArray.empty, .int .i64 0]) 4 48 Try.underlying71 hi hz0 hz1 hz2 rfl (by decide) (.slice vo L.length vc) L.length (L.flatMap mc) h.own ad M.length c (M.flatMap mc) (mf_len M) hc (mf_one M) (by unfold maxLen; omega) (by omega) hbase
    have ho : OwnM w' base v' (L ++ M) := ⟨hbd, by rw [List.length_append, List.flatMap_append]; exact h2⟩
    obtain ⟨so, sc, rfl, _⟩ := ho.form
    exact ⟨so, sc, w', fun ty => h1, ho, h3, h5⟩
  rcases hM.lies with h0 | ⟨b, off, rfl, hblt, hc⟩
  · have hM0 : M = [] := List.length_eq_zero_iff.1 h0
    subst hM0
    cases ao with
    | none =>
      rw [List.append_nil]
      refine ⟨vo, vc, w, fun ty => ?_, h, ⟨rfl, rfl, rfl, Nat.le_refl _, fun _ _ _ => rfl⟩, .inl rfl⟩
      have ho := h.own
      generalize L.length = n at ho ⊢
      rcases ho.2 with ⟨e, e2⟩ | ⟨g, cap, cur, e, _, _, hnc, _⟩
      · injection e with e1 _ e3
        rw [e1, e3, e2]
        simp [Builtin.append_, run_underlying Try.underlying71, sizeOf, typeInfo, hi, Builtin.lenOf, Builtin.firstCells]
      · injection e with e1 _ e3
        rw [e1, e3]
        simp [Builtin.append_, run_underlying Try.underlying71, sizeOf, typeInfo, hi, Builtin.lenOf, Builtin.firstCells, hnc, storeCells]
    | some ad => exact fin ad rfl (fun j u hu => by simp at hu)
  · exact fin _ rfl (mf_cell hc)
end Go.Proofs.Ytagkhohglpjjlaa
namespace Go.Proofs.Ytagkhohglpjjlaa
open Go.RowKit
set_option linter.unusedSimpArgs false
set_option linter.unusedVariables false

theorem mL_take {L : List Met} {i j : Nat} (h : j < i) : mL (L.take i) j = mL L j := by simp [mL, List.getD, List.getElem?_take, h]
theorem mL_drop (L : List Met) (i j : Nat) : mL (L.drop i) j = mL L (i + j) := by simp [mL, List.getD, List.getElem?_drop]
theorem MRow.take {w : World} {ao : Option Addr} {L : List Met} (h : MRow w ao L.length (mL L)) (i : Nat) : MRow w ao (L.take i).length (mL (L.take i)) := by
  have hl : (L.take i).length ≤ L.length := by rw [List.length_take]; omega
  have hi : ∀ j, j < (L.take i).length → mL (L.take i) j = mL L j := fun j hj => mL_take (by rw [List.length_take] at hj; omega)
  refine ⟨fun j hj => by rw [hi j hj]; exact h.bd j (by omega), ?_⟩
  rcases h.lies with h0 | ⟨b, off, e, hlt, hc⟩
  · exact .inl (by omega)
  · exact .inr ⟨b, off, e, hlt, fun j hj => by rw [hi j hj]; exact hc j (by omega)⟩
theorem MRow.drop {w : World} {g off : Nat} {L : List Met} (h : MRow w (some ⟨g, off, none⟩) L.length (mL L)) (i : Nat) : MRow w (some ⟨g, off + i * 4, none⟩) (L.drop i).length (mL (L.drop i)) := by
  have hl := List.length_drop (i := i) (l := L)
  refine ⟨fun j hj => by rw [mL_drop]; exact h.bd _ (by omega), ?_⟩
  by_cases h0 : (L.drop i).length = 0
  · exact .inl h0
  · obtain ⟨b, o', e, hlt, hc⟩ := h.lies.resolve_left (by omega)
    injection e with e
    injection e with e1 e2 _
    subst e1 e2
    refine .inr ⟨g, off + i * 4, rfl, hlt, fun j hj => ?_⟩
    rw [mL_drop]
    have := hc (i + j) (by omega)
    rw [show off + i * 4 + j * 4 = off + (i + j) * 4 by omega]
    exact this
theorem Lv.grw {w w' : World} {base g N : Nat} {V : Nat → Value} {LL : Nat → List Met} (h : Lv w base g N V LL) (hs : w.heap.size ≤ w'.heap.size) (hg : w'.heap[g]? = w.heap[g]?) (hv : ∀ i, i < N → ∀ c, (V i).ownBlock = some c → w'.heap[c]? = w.heap[c]?) : Lv w' base g N V LL :=
  ⟨Nat.lt_of_lt_of_le h.lt hs, h.bs, fun i hi => (World.cell?_of_block (w := w) (w' := w') (a := ⟨g, i, none⟩) hg).trans (h.cell i hi), fun i hi => (h.own i hi).same fun c hc => hv i hi c hc, h.apart, h.dis, fun j hj => (World.frozen?_of_block (w := w) (a := ⟨g, j, none⟩) hg).trans (h.free j hj)⟩
theorem putAt_app (L : List Met) (i : Nat) (x : Met) : putAt L i x = (L.take i ++ [x]) ++ L.drop i := by simp [putAt]
/-- One more of an edit's adds. -/
theorem apL_step {LL LLk : Nat → List Met} {D : List Int} {A : List Adm} {k kk : Nat} {m : Met} (hk : k < A.length) (hy : dL A k = ⟨(kk : Int), m⟩) (h : ∀ i, i < 3 → LLk i = apL LL D (A.take k) i) : ∀ i, i < 3 → (if i = kk then plP (LLk kk) kk m else LLk i) = apL LL D (A.take (k + 1)) i := fun i hi => by
  unfold apL
  rw [take_dL hk, addsL_push, hy]
  unfold stepA
  simp only [Int.toNat_natCast]
  by_cases e : i = kk
  · rw [← e]; simp only [if_true]; rw [h i hi]; rfl
  · simp only [e, if_false]; exact h i hi
end Go.Proofs.Ytagkhohglpjjlaa
