/- ReadKey, the program's text. -/
import Derived.Test.YtpddodjecbcmlaaReadTags
import Derived.Test.YtpddodjecbcmlaaKeyAt
namespace Go.Proofs.Ytpddodjecbcmlaa
open Go.RowKit
set_option linter.unusedSimpArgs false
set_option linter.unusedVariables false

theorem ktags_size {nm vl : Nat → ByteArray} : ∀ {k i : Nat}, i < k → (nm i).size + (vl i).size ≤ (ktags nm vl k).length
  | k + 1, i, h => by
    simp only [ktags, List.length_append, tagB_len]
    rcases Nat.lt_succ_iff_lt_or_eq.1 h with g | g
    · have := ktags_size (nm := nm) (vl := vl) g; omega
    · subst g; omega
theorem TInv.sizes {f : Nat → Int} {N a0 q k : Nat} {nm vl : Nat → ByteArray} (h : TInv f N a0 q k nm vl) (hN : N ≤ 1048576) : TSize k nm vl 1048576 := fun i hi => by
  have := ktags_size (nm := nm) (vl := vl) hi
  have := h.pos
  have := h.le
  omega
theorem goodB_congr {m : ByteArray} {n : Nat} {nm vl nm' vl' : Nat → ByteArray} {st : Int} (h : ∀ i, i < n → nm i = nm' i ∧ vl i = vl' i) : goodB m n nm vl st = goodB m n nm' vl' st := by
  have e : tagsOk n nm vl = tagsOk n nm' vl' := by
    unfold tagsOk
    rw [Bool.eq_iff_iff, List.all_eq_true, List.all_eq_true]
    have : ∀ i, i < n → tagOk nm vl i = tagOk nm' vl' i := fun i hi => by
      unfold tagOk
      rw [(h i hi).1, (h i hi).2]
      by_cases h0 : i = 0
      · simp [h0]
      · rw [(h (i - 1) (by omega)).1]
    exact ⟨fun g i hi => by rw [← this i (List.mem_range.1 hi)]; exact g i hi, fun g i hi => by rw [this i (List.mem_range.1 hi)]; exact g i hi⟩
  simp only [goodB, goodTagsB, e]

section
variable {f : Nat → Int} {N j q k : Nat} {nm vl : Nat → ByteArray}
theorem key_found (hbd : ∀ i, 0 ≤ f i ∧ f i ≤ 255) (hf : Find f N 0 0 j) (hj : j < N) (h : TInv f N (j + 1) q k nm vl) (h1 : f q = 1) (hq : q + 9 = N) (hg : goodB (str f 0 j) k nm vl (num f (q + 1) 8) = true) : IsKey f N (str f 0 j) k nm vl (num f (q + 1) 8) := by
  have hp := h.pos
  have l0 : (bytesOf (str f 0 j)).length = j := by rw [bytesOf_len, str_size]; omega
  have s : Seg f 0 (kbytes (str f 0 j) k nm vl (num f (q + 1) 8)) := by
    unfold kbytes
    refine (((Seg.app (seg_str hbd 0 j) ?_).app ?_).app ?_).app ?_
    · rw [l0, Nat.zero_add]; exact Seg.one (hf.hit hj)
    · simp only [List.length_append, List.length_singleton, l0, Nat.zero_add]; exact h.seg
    · simp only [List.length_append, List.length_singleton, l0, Nat.zero_add]; rw [← hp]; exact Seg.one h1
    · simp only [List.length_append, List.length_singleton, l0, Nat.zero_add]; rw [← hp]; exact seg_num hbd _
  refine ⟨hg, ?_, fun i hi => by have := s i hi; rwa [Nat.zero_add] at this⟩
  simp only [kbytes, List.length_append, List.length_singleton, l0, pfl, List.length_map, List.length_range]
  omega
theorem no_first (hf : Find f N 0 0 j) (hj : ¬ j < N) : ∀ m n nm' vl' st, ¬ IsKey f N m n nm' vl' st := fun m n nm' vl' st hk => hj (hk.first hf).2.1
theorem no_tags (hf : Find f N 0 0 j) (h : NoKey f N (j + 1)) : ∀ m n nm' vl' st, ¬ IsKey f N m n nm' vl' st := fun m n nm' vl' st hk => h m n nm' vl' st hk (hk.first hf).2.2.2.symm
theorem at_end (hf : Find f N 0 0 j) (h : TInv f N (j + 1) q k nm vl) (h1 : f q = 1) {m : ByteArray} {n : Nat} {nm' vl' : Nat → ByteArray} {st : Int} (hk : IsKey f N m n nm' vl' st) :
    k = n ∧ q + 9 = N ∧ m = str f 0 j ∧ num f (q + 1) 8 = st ∧ (∀ i, i < k → nm i = nm' i ∧ vl i = vl' i) ∧ goodB (str f 0 j) k nm vl st = true := by
  have hfi := hk.first hf
  obtain ⟨g1, g2, g3⟩ := h.key m n nm' vl' st hk hfi.2.2.2.symm
  have e : k = n := by
    rcases Nat.lt_or_ge k n with g | g
    · have := (hk.next k g q g2).2.1; omega
    · omega
  subst e
  have hl := hk.last q g2
  have hg := hk.good
  have hst : 0 ≤ st ∧ st ≤ 1000000000 := by
    simp only [goodB, Bool.and_eq_true, decide_eq_true_eq] at hg
    exact ⟨hg.1.2, hg.2⟩
  refine ⟨rfl, hl.1, hfi.2.2.1.symm, num_seg hl.2.2 hst, g3, ?_⟩
  rw [hfi.2.2.1, goodB_congr g3]
  exact hg
end

/-- A key's tags: none, or in memory of their own from block B on. -/
def SV (w : World) (B : Nat) (sv : Value) (n : Nat) (nm vl : Nat → ByteArray) : Prop := ∃ ao cap, sv = .slice ao n cap ∧ (n = 0 ∨ ∃ g, ao = some ⟨g, 0, none⟩ ∧ B ≤ g ∧ TOwn w g n n nm vl)
theorem SV.keep {w w' : World} {B n : Nat} {sv : Value} {nm vl : Nat → ByteArray} (h : SV w B sv n nm vl) (hb : Below w.heap.size w w') : SV w' B sv n nm vl := by
  obtain ⟨ao, cap, e, h | ⟨g, e2, hB, ho⟩⟩ := h
  · exact ⟨ao, cap, e, .inl h⟩
  · exact ⟨ao, cap, e, .inr ⟨g, e2, hB, ho.keep hb⟩⟩
theorem SV.row {w : World} {B n : Nat} {nm vl : Nat → ByteArray} {ao : Option Addr} {cap : Nat} (h : SV w B (.slice ao n cap) n nm vl) : TRow w ao n nm vl := by
  obtain ⟨ao', cap', e, h | ⟨g, e2, hB, ho⟩⟩ := h
  · exact ⟨.inl h⟩
  · injection e with e1 e3 e4
    subst e1 e2
    exact ho.row
theorem tcells_len (nm vl : Nat → ByteArray) : ∀ k, (tcells nm vl k).length = k * 2
  | 0 => rfl
  | k + 1 => by simp only [tcells, List.length_append, tcells_len nm vl k]; simp; omega
theorem tcells_get (nm vl : Nat → ByteArray) : ∀ k i, i < k → (tcells nm vl k)[i * 2]? = some (.string (nm i)) ∧ (tcells nm vl k)[i * 2 + 1]? = some (.string (vl i))
  | k + 1, i, h => by
    simp only [tcells]
    by_cases e : i = k
    · subst e
      rw [List.getElem?_append_right (by rw [tcells_len]; omega), List.getElem?_append_right (by rw [tcells_len]; omega), tcells_len]
      simp
    · rw [List.getElem?_append_left (by rw [tcells_len]; omega), List.getElem?_append_left (by rw [tcells_len]; omega)]
      exact tcells_get nm vl k i (by omega)
theorem sv_of {w : World} {B n : Nat} {v : Value} {nm vl : Nat → ByteArray} (h : w.ownsRow B 64 2 v n (tcells nm vl n)) : SV w B v n nm vl := by
  rcases h.2 with ⟨rfl, h0⟩ | ⟨g, cap, cur, rfl, hbg, hg, hnc, _, hcs, _⟩
  · subst h0; exact ⟨none, 0, rfl, .inl rfl⟩
  · refine ⟨_, cap, rfl, .inr ⟨g, rfl, hbg, (Array.getElem?_eq_some_iff.1 hg).1, fun i hi hin => ?_, fun j hj => ?_, fun j hj => h.frozenAt j⟩⟩
    · rw [h.cellAt (i * 2) (by omega), h.cellAt (i * 2 + 1) (by omega)]
      exact tcells_get nm vl n i hin
    · rw [h.cellAt j hj]
      exact ⟨_, List.getElem?_eq_getElem (by rw [tcells_len]; exact hj)⟩

theorem SV.others {w w' : World} {B c n : Nat} {sv : Value} {nm vl : Nat → ByteArray} (h : SV w B sv n nm vl) (ho : Others c w w') (hc : c < B) : SV w' B sv n nm vl := by
  obtain ⟨ao, cap, e, h | ⟨g, e2, hB, hg⟩⟩ := h
  · exact ⟨ao, cap, e, .inl h⟩
  · exact ⟨ao, cap, e, .inr ⟨g, e2, hB, hg.others ho (by omega)⟩⟩
theorem SV.mono {w : World} {B B' n : Nat} {sv : Value} {nm vl : Nat → ByteArray} (h : SV w B sv n nm vl) (hB : B' ≤ B) : SV w B' sv n nm vl := by
  obtain ⟨ao, cap, e, h | ⟨g, e2, hb, hg⟩⟩ := h
  · exact ⟨ao, cap, e, .inl h⟩
  · exact ⟨ao, cap, e, .inr ⟨g, e2, by omega, hg⟩⟩

/-- A key's zero value lies in block b and may be written. -/
structure ZBox (w : World) (b : Nat) : Prop where
  lt : b < w.heap.size
  c0 : w.cell? ⟨b, 0, none⟩ = some (.string ⟨#[]⟩)
  c1 : w.cell? ⟨b, 1, none⟩ = some (.slice none 0 0)
  c2 : w.cell? ⟨b, 2, none⟩ = some (.int .i64 0)
  fz : ∀ j, w.frozen? ⟨b, j, none⟩ = false
theorem ZBox.keep {w w' : World} {b : Nat} (h : ZBox w b) (hb : Below w.heap.size w w') : ZBox w' b :=
  ⟨Nat.lt_of_lt_of_le h.lt hb.size, (hb.cell (p := ⟨b, 0, none⟩) h.lt).trans h.c0, (hb.cell (p := ⟨b, 1, none⟩) h.lt).trans h.c1, (hb.cell (p := ⟨b, 2, none⟩) h.lt).trans h.c2, fun j => (hb.frozen (p := ⟨b, j, none⟩) h.lt).trans (h.fz j)⟩
theorem ZBox.new (w : World) (T : Nat) : ZBox (w.alloc (.cells #[.string ⟨#[]⟩, .slice none 0 0, .int .i64 0] T)) w.heap.size :=
  ⟨by simp, by simp [go_sem], by simp [go_sem], by simp [go_sem], fun j => by simp [go_sem]⟩

/-- What a ReadKey answers. -/
def ReadOut (f : Nat → Int) (N : Nat) (w : World) (e : Ending) (w' : World) : Prop :=
  (∃ (m : ByteArray) (n : Nat) (nm vl : Nat → ByteArray) (st : Int) (sv : Value), e = .returned (.tuple #[.agg #[.string m, sv, .int .i64 st], .bool true]) ∧ IsKey f N m n nm vl st ∧ SV w' w.heap.size sv n nm vl ∧ Below w.heap.size w w') ∨
  (e = .returned (.tuple #[.agg #[.string ⟨#[]⟩, .slice none 0 0, .int .i64 0], .bool false]) ∧ (∀ m n nm vl st, ¬ IsKey f N m n nm vl st) ∧ Below w.heap.size w w')

set_option maxHeartbeats 1000000 in
theorem readKey_impl (b off N cap : Nat) (f : Nat → Int) (w : World) (hbd : ∀ i, 0 ≤ f i ∧ f i ≤ 255) (hlt0 : b < w.heap.size) (hc : ∀ i, i < N → w.cell? ⟨b, off + i, none⟩ = some (.int .u8 (f i))) (hN : N ≤ 1048576) (hcap : N ≤ cap) :
    Calls Try.prog 18 #[.slice (some ⟨b, off, none⟩) N cap] w fun e w' => ReadOut f N w e w' := by
  have hB : Below w.heap.size w (w.alloc (.cells #[.string ⟨#[]⟩, .slice none 0 0, .int .i64 0] 37)) := (Below.refl _ _).alloc (Nat.le_refl _) _
  have Z0 := ZBox.new w 37
  have hcr : ∀ {wr : World}, Below w.heap.size w wr → ∀ i, i < N → wr.cell? ⟨b, off + i, none⟩ = some (.int .u8 (f i)) := fun hb i h => (hb.cell (p := ⟨b, off + i, none⟩) hlt0).trans (hc i h)
  have HCR := @hcr
  have hcz := hcr hB
  by_cases h130 : (130 : Int) < (N : Int)
  · have HN : Hid (∀ m n nm' vl' st, ¬ IsKey f N m n nm' vl' st) := fun m n nm' vl' st hk => by
      have := goodB_sizes hk.good
      have := kbytes_len (st := st) this.1 this.2.1 this.2.2.1
      have := hk.len
      omega
    clear hcr HCR hcz
    go_enter Try.func18, Try.ntmps18
    go_wp2
    refine bodyPost_ret (v := .tuple #[.agg #[.string ⟨#[]⟩, .slice none 0 0, .int .i64 0], .bool false]) (by simp [results, Try.results18, go_sem]) rfl (.inr ⟨rfl, HN.out, ?_⟩)
    first | exact hB | exact ((hB.setCell (by simp) _).setCell (by simp) _).setCell (by simp) _
  · go_enter Try.func18, Try.ntmps18
    go_wp2_with fail
    refine (readUpTo_any b off N cap f 0 0 _ hbd hcz hN (by omega) hcap).mono ?_
    rintro e w1 ⟨j, hf, rfl, ⟨hj, rfl⟩ | ⟨hj, rfl⟩⟩
    · have HF : Hid (Find f N 0 0 j) := hf
      clear hf
      go_wp2_with fail
      refine (readTags_any b off N cap f (j + 1) _ hbd (by simp; omega) hcz hN (by omega) hcap).mono ?_
      rintro e w2 (⟨q, k, nm, vl, v, rfl, hT, hq, h1, hown, hb2⟩ | ⟨rfl, hno, hb2⟩)
      · have hsv := sv_of hown
        obtain ⟨ao, cp, rfl, hao⟩ := id hsv
        simp only [World.size_alloc] at hsv
        clear hao hown
        have bw2 : Below w.heap.size w w2 := hB.trans (hb2.mono (by simp))
        have Z2 := Z0.keep hb2
        have HT : Hid (TInv f N (j + 1) q k nm vl) := hT
        have H1 : Hid (f q = 1) := h1
        have hsz := hT.sizes hN
        have hkq := hT.many
        have hc2 := HCR bw2
        have hsj : (str f 0 j).size ≤ 1048576 := by rw [str_size]; omega
        obtain ⟨lz, z0, z1, z2, zf⟩ := Z2
        clear hb2 hT h1 hcr HCR hcz hB Z0
        by_cases hq9 : q + 9 = N
        · have hd : ((q : Int) + 1 != (N : Int) - 8) = false := by simp; omega
          go_wp2_with fail
          refine (readFixed_impl_yes _ N cap f (q + 1) 8 _ ⟨hbd, .inr ⟨b, off, rfl, by have := bw2.size; omega, hc2⟩⟩ hN hcap (by omega) (by omega) (by omega)).mono ?_
          rintro e w3 ⟨rfl, hb3⟩
          have bw3 : Below w.heap.size w w3 := bw2.trans (hb3.mono bw2.size)
          have hsv3 := hsv.keep hb3
          have hnum := num_bd8 f hbd (q + 1) 8 (by omega)
          obtain ⟨lz3, z0, z1, z2, zf⟩ := ZBox.keep ⟨lz, z0, z1, z2, zf⟩ hb3
          clear hb3 hsv hc2 bw2 hd lz
          by_cases h63 : num f (q + 1) 8 < 9223372036854775808
          · rw [rfAns_yes h63]
            have hB3 : Below w3.heap.size w3 (w3.alloc (.cells #[.string (str f 0 j), .slice ao k cp, .int .i64 (num f (q + 1) 8)] 37)) := (Below.refl _ _).alloc (Nat.le_refl _) _
            have K3 := KAt.new w3 (str f 0 j) (.slice ao k cp) (num f (q + 1) 8) 37
            have Z3 := ZBox.keep ⟨lz3, z0, z1, z2, zf⟩ hB3
            have sv3 := hsv3.keep hB3
            have bw3' : Below w.heap.size w _ := bw3.trans (hB3.mono bw3.size)
            generalize hs : num f (q + 1) 8 = s at *
            have HS : Hid (num f (q + 1) 8 = s) := hs
            clear hs
            generalize hmm : str f 0 j = m at *
            have HM : Hid (str f 0 j = m) := hmm
            clear hmm hB3 hsv3 z0 z1 z2 zf lz3
            generalize hgd : goodB m k nm vl s = G
            have HG : Hid (goodB m k nm vl s = G) := hgd
            clear hgd
            go_wp2_with fail
            refine (goodKey_impl m s ao k cp nm vl _ sv3.row hsj (by omega) hsz).mono ?_
            rintro e w4 ⟨rfl, hb4⟩
            rw [HG.out]
            obtain ⟨lk, k0, k1, k2⟩ := K3.keep hb4
            obtain ⟨lz, z0, z1, z2, zf⟩ := Z3.keep hb4
            have sv4 := sv3.keep hb4
            have bw4 : Below w.heap.size w w4 := bw3'.trans (hb4.mono bw3'.size)
            clear hb4 K3 Z3 sv3 bw3'
            cases G
            · have HN : Hid (∀ m n nm' vl' st, ¬ IsKey f N m n nm' vl' st) := fun m' n nm' vl' st hk => by
                obtain ⟨_, _, e1, e2, e3, e4⟩ := at_end HF.out HT.out H1.out hk
                rw [HM.out, ← e2, HS.out, HG.out] at e4
                exact absurd e4 (by simp)
              go_wp2
              refine bodyPost_ret (v := .tuple #[.agg #[.string ⟨#[]⟩, .slice none 0 0, .int .i64 0], .bool false]) (by simp [results, Try.results18, go_sem, z0, z1, z2]) rfl (.inr ⟨rfl, HN.out, ?_⟩)
              exact ((bw4.setCell (Nat.le_refl _) _).setCell (Nat.le_refl _) _).setCell (Nat.le_refl _) _
            · have HK : Hid (IsKey f N m k nm vl s) := by
                have := key_found hbd HF.out hj HT.out H1.out hq9 (by rw [HM.out, HS.out]; exact HG.out)
                rw [HM.out, HS.out] at this
                exact this
              go_wp2
              refine bodyPost_ret (v := .tuple #[.agg #[.string m, .slice ao k cp, .int .i64 s], .bool true]) (by simp [results, Try.results18, go_sem, z0, z1, z2]) rfl (.inl ⟨m, k, nm, vl, s, .slice ao k cp, rfl, HK.out, ?_, ?_⟩)
              · exact ((((sv4.others (Others.setCell _ _ _ _) (by omega)).others (Others.setCell _ _ _ _) (by omega)).others (Others.setCell _ _ _ _) (by omega))).mono (by omega)
              · exact ((bw4.setCell (Nat.le_refl _) _).setCell (Nat.le_refl _) _).setCell (Nat.le_refl _) _
          · rw [rfAns_no h63]
            have HN : Hid (∀ m n nm' vl' st, ¬ IsKey f N m n nm' vl' st) := fun m' n nm' vl' st hk => by
              obtain ⟨_, _, e1, e2, e3, e4⟩ := at_end HF.out HT.out H1.out hk
              have := (goodB_sizes hk.good).2.2.2
              omega
            have bw3' := fun O => bw3.alloc (B := w.heap.size) bw3.size O
            clear h63 hnum
            go_wp2
            refine bodyPost_ret (v := .tuple #[.agg #[.string ⟨#[]⟩, .slice none 0 0, .int .i64 0], .bool false]) (by simp [results, Try.results18, go_sem, z0, z1, z2, lz3, World.cell?_alloc_old, Nat.le_of_lt lz3]) rfl (.inr ⟨rfl, HN.out, ?_⟩)
            exact ((((bw3.setCell (Nat.le_refl _) _).setCell (Nat.le_refl _) _).setCell (Nat.le_refl _) _)).alloc (by simp; exact bw3.size) _
        · have hd : ((q : Int) + 1 != (N : Int) - 8) = true := by simp; omega
          have HN : Hid (∀ m n nm' vl' st, ¬ IsKey f N m n nm' vl' st) := fun m' n nm' vl' st hk => hq9 (at_end HF.out HT.out H1.out hk).2.1
          clear hq9 hc2
          go_wp2
          refine bodyPost_ret (v := .tuple #[.agg #[.string ⟨#[]⟩, .slice none 0 0, .int .i64 0], .bool false]) (by simp [results, Try.results18, go_sem, z0, z1, z2]) rfl (.inr ⟨rfl, HN.out, ?_⟩)
          exact ((bw2.setCell (Nat.le_refl _) _).setCell (Nat.le_refl _) _).setCell (Nat.le_refl _) _
      · have HN : Hid (∀ m n nm' vl' st, ¬ IsKey f N m n nm' vl' st) := no_tags HF.out hno
        have bw2 : Below w.heap.size w w2 := hB.trans (hb2.mono (by simp))
        obtain ⟨lz, z0, z1, z2, zf⟩ := Z0.keep hb2
        clear hno hb2 hcr HCR hcz hB Z0
        go_wp2
        refine bodyPost_ret (v := .tuple #[.agg #[.string ⟨#[]⟩, .slice none 0 0, .int .i64 0], .bool false]) (by simp [results, Try.results18, go_sem, z0, z1, z2]) rfl (.inr ⟨rfl, HN.out, ?_⟩)
        exact ((bw2.setCell (Nat.le_refl _) _).setCell (Nat.le_refl _) _).setCell (Nat.le_refl _) _
    · have HN : Hid (∀ m n nm' vl' st, ¬ IsKey f N m n nm' vl' st) := no_first hf hj
      clear hf hcr HCR hcz
      go_wp2
      refine bodyPost_ret (v := .tuple #[.agg #[.string ⟨#[]⟩, .slice none 0 0, .int .i64 0], .bool false]) (by simp [results, Try.results18, go_sem]) rfl (.inr ⟨rfl, HN.out, ?_⟩)
      first | exact hB | exact ((hB.setCell (by simp) _).setCell (by simp) _).setCell (by simp) _
end Go.Proofs.Ytpddodjecbcmlaa
