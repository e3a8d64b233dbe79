/- RenameFile, the model's text, where the file is there. -/
import Derived.Test.YtgedpjabjoodjaaDoorSpecRename
import Derived.Test.YtgedpjabjoodjaaDoorRenP
namespace Go.Proofs.YtgedpjabjoodjaaDoor
open Go.RowKit
set_option linter.unusedSimpArgs false
set_option linter.unusedVariables false

theorem row_one {w w' : World} {base n : Nat} {v : Value} {xs : List Value} (h : w.ownsRow base 73 3 v n xs) (hb : ∀ b, some b = v.ownBlock → w'.heap[b]? = w.heap[b]?) : w'.ownsRow base 73 3 v n xs := by
  refine ⟨h.1, ?_⟩
  rcases h.2 with h | ⟨g, cap, cur, rfl, h1, h2, h3⟩
  · exact .inl h
  · exact .inr ⟨g, cap, cur, rfl, h1, (hb g rfl).trans h2, h3⟩
theorem srow_of {w w' : World} {base m : Nat} {own : Option Nat} {v' : Value} {xs xs' : List FT} {F : Nat → Fil} (σ : Nat → Nat) (hdat : DatF w base own F xs) (hs : w.heap.size ≤ w'.heap.size) (hk : ∀ b, base ≤ b → b < w.heap.size → some b ≠ own → w'.heap[b]? = w.heap[b]?) (ho : ∀ b, b < w.heap.size → some b ≠ own → some b ≠ v'.ownBlock) (hown' : w'.ownsRow base 73 3 v' m (xs'.flatMap fenc)) (hl : xs'.length = m) (hsub : ∀ i x, xs'[i]? = some x → xs[σ i]? = some x) : SRow w' base v' m (fun i => F (σ i)) :=
  ⟨xs', hl, hown', fun i x hx => (hdat (σ i) x (hsub i x hx)).to hs hk ho⟩
theorem erase_sh {xs : List FT} {a : Nat} (i : Nat) (x : FT) (h : (xs.eraseIdx a)[i]? = some x) : xs[sh a i]? = some x := by
  rw [← h, List.getElem?_eraseIdx]
  unfold sh
  split <;> rfl

set_option maxRecDepth 100000 in
set_option maxHeartbeats 4000000 in
theorem renameFile_spec_hit (Q : Int) (ao : Option Addr) (n cap : Nat) (F : Nat → Fil) (s t : ByteArray) (hs : s.size ≤ 1048576) (ht : t.size ≤ 1048576) (HG : Hid (goodF Q n F = true)) (HN : Hid (fnB s = true)) (HM : Hid (fnB t = true)) (a n2 k : Nat) (ha : a < n) (hat : ∀ v, AtN F n s v → v = (a : Int)) (er : List FT → List FT) (τ : Nat → Nat) (HR : Hid (Rank (fun i => remF F a (τ i)) n2 t k)) (hn2 : n2 < 1048576)
    (Her : Hid ((∀ xs i x, (er xs)[i]? = some x → xs[τ i]? = some x) ∧ ∀ xs : List FT, xs.length = n - 1 → (er xs).length = n2))
    (Hsec : Hid (∀ (xs1 : List FT) (W : World) (fb base : Nat) (p : Option Addr) (c : Nat), xs1.length = n - 1 → QAt W fb Q (.slice p (n - 1) c) → fb < base → W.ownsRow base 73 3 (.slice p (n - 1) c) (n - 1) (xs1.flatMap fenc) → SRow W base (.slice p (n - 1) c) (n - 1) (remF F a) → (∀ j, W.frozen? ⟨fb, j, none⟩ = false) → Calls Tryd.prog 53 #[.pointer (some ⟨fb, 0, none⟩), .string t] W fun e w' => RmY Q n2 (er xs1) fb base (Value.slice p (n - 1) c).ownBlock W e w'))
    (w : World) (hr : FRow w ao n F) (hq : -9223372036854775808 ≤ Q ∧ Q ≤ 9223372036854775807) (hn : n ≤ 1048576) (hz : FSize n F 1048576) :
    Calls Tryd.prog 24 #[.agg #[.int .i64 Q, .slice ao n cap], .string s, .string t] w fun e w' => SOut Q 0 (n2 + 1) (insG (fun i => remF F a (τ i)) { F a with nm := t } k) w e w' := by
  have hB : Below w.heap.size w ((w.alloc (.cells #[.int .i64 Q, .slice ao n cap] 28)).alloc (.cells #[.int .i64 0, .slice none 0 0] 28)) := ((Below.refl _ _).alloc (Nat.le_refl _) _).alloc (by simp) _
  have X0 : QAt ((w.alloc (.cells #[.int .i64 Q, .slice ao n cap] 28)).alloc (.cells #[.int .i64 0, .slice none 0 0] 28)) w.heap.size Q (.slice ao n cap) := (QAt.new w Q (.slice ao n cap) 28).keep ((Below.refl _ _).alloc (Nat.le_refl _) _)
  have Z0 := QAt.new (w.alloc (.cells #[.int .i64 Q, .slice ao n cap] 28)) 0 (.slice none 0 0) 28
  rw [World.size_alloc] at Z0
  have zf : ∀ j, ((w.alloc (.cells #[.int .i64 Q, .slice ao n cap] 28)).alloc (.cells #[.int .i64 0, .slice none 0 0] 28)).frozen? ⟨w.heap.size + 1, j, none⟩ = false := fun j => by simp [go_sem]
  have xf : ∀ j, ((w.alloc (.cells #[.int .i64 Q, .slice ao n cap] 28)).alloc (.cells #[.int .i64 0, .slice none 0 0] 28)).frozen? ⟨w.heap.size, j, none⟩ = false := fun j => by simp [go_sem]
  go_enter Tryd.func24, Tryd.ntmps24
  go_wp2_with fail
  refine (goodFiles_spec Q ao n cap F true HG _ (hr.keep hB) hq hn hz).mono ?_
  rintro e w1 ⟨rfl, hb1⟩
  have bw1 : Below w.heap.size w w1 := hB.trans (hb1.mono (by simp; omega))
  have zf1 : ∀ j, w1.frozen? ⟨w.heap.size + 1, j, none⟩ = false := fun j => (hb1.frozen (p := ⟨w.heap.size + 1, j, none⟩) (by simp)).trans (zf j)
  have xf1 : ∀ j, w1.frozen? ⟨w.heap.size, j, none⟩ = false := fun j => (hb1.frozen (p := ⟨w.heap.size, j, none⟩) (by simp; omega)).trans (xf j)
  have Z1 := Z0.keep hb1
  have X1 := X0.keep hb1
  clear hb1 hB Z0 X0 zf xf
  obtain ⟨lx, x0, x1⟩ := id X1
  go_wp2_with fail
  refine (l2Name_is s true HN _ hs).mono ?_
  rintro e w' ⟨rfl, rfl⟩
  go_wp2_with fail
  refine (l2Name_is t true HM _ ht).mono ?_
  rintro e w' ⟨rfl, rfl⟩
  go_wp2_with fail
  refine (l2Own_any Q ao n cap F _ (hr.keep bw1) hn hz).mono ?_
  rintro e w2 ⟨v, rfl, hS, hb2⟩
  obtain ⟨p, c, rfl⟩ : ∃ p c, v = .slice p n c := by
    obtain ⟨xs, _, hown, _⟩ := hS
    exact row_slice hown
  obtain ⟨lz2, z0, z1⟩ := Z1.keep hb2
  have zf2 : ∀ j, w2.frozen? ⟨w.heap.size + 1, j, none⟩ = false := fun j => (hb2.frozen (p := ⟨w.heap.size + 1, j, none⟩) Z1.lt).trans (zf1 j)
  have xf2 : ∀ j, w2.frozen? ⟨w.heap.size, j, none⟩ = false := fun j => (hb2.frozen (p := ⟨w.heap.size, j, none⟩) X1.lt).trans (xf1 j)
  obtain ⟨lx2, y0, y1⟩ := X1.keep hb2
  have bw2 : Below w.heap.size w w2 := bw1.trans (hb2.mono bw1.size)
  have hb0 : w.heap.size + 2 ≤ w'.heap.size + 2 := by omega
  obtain ⟨base, hb0, hb9, hS⟩ : ∃ base, w.heap.size + 2 ≤ base ∧ base ≤ w2.heap.size ∧ SRow w2 base (.slice p n c) n F := ⟨w.heap.size + 2, Nat.le_refl _, by omega, hS.base hb0⟩
  have hb93 : base ≤ ((w2.setCell ⟨w.heap.size, 0, none⟩ (.int .i64 Q)).setCell ⟨w.heap.size, 1, none⟩ (.slice p n c)).heap.size := by simpa using hb9
  have bw3 : Below w.heap.size w ((w2.setCell ⟨w.heap.size, 0, none⟩ (.int .i64 Q)).setCell ⟨w.heap.size, 1, none⟩ (.slice p n c)) := (bw2.setCell (p := ⟨w.heap.size, 0, none⟩) (Nat.le_refl _) _).setCell (p := ⟨w.heap.size, 1, none⟩) (Nat.le_refl _) _
  have hS3 : SRow ((w2.setCell ⟨w.heap.size, 0, none⟩ (.int .i64 Q)).setCell ⟨w.heap.size, 1, none⟩ (.slice p n c)) base (.slice p n c) n F := hS.low (by simp) (fun j h1 _ => by rw [Below.heap_setCell _ _ _ _ (by show j ≠ w.heap.size; omega), Below.heap_setCell _ _ _ _ (by show j ≠ w.heap.size; omega)])
  have X3 : QAt ((w2.setCell ⟨w.heap.size, 0, none⟩ (.int .i64 Q)).setCell ⟨w.heap.size, 1, none⟩ (.slice p n c)) w.heap.size Q (.slice p n c) := ⟨by simpa using lx2, by rw [World.cell?_setCell_other _ _ _ _ (by intro hh; injection hh with _ h3 _; omega)]; exact World.cell?_setCell_same _ _ _ y0, World.cell?_setCell_same _ _ _ (by rw [World.cell?_setCell_other _ _ _ _ (by intro hh; injection hh with _ h3 _; omega)]; exact y1)⟩
  have Z3 : QAt ((w2.setCell ⟨w.heap.size, 0, none⟩ (.int .i64 Q)).setCell ⟨w.heap.size, 1, none⟩ (.slice p n c)) (w.heap.size + 1) 0 (.slice none 0 0) := ⟨by simpa using lz2, by rw [World.cell?_setCell_other _ _ _ _ (by intro hh; injection hh with h3 _ _; omega), World.cell?_setCell_other _ _ _ _ (by intro hh; injection hh with h3 _ _; omega)]; exact z0, by rw [World.cell?_setCell_other _ _ _ _ (by intro hh; injection hh with h3 _ _; omega), World.cell?_setCell_other _ _ _ _ (by intro hh; injection hh with h3 _ _; omega)]; exact z1⟩
  have xf3 : ∀ j, ((w2.setCell ⟨w.heap.size, 0, none⟩ (.int .i64 Q)).setCell ⟨w.heap.size, 1, none⟩ (.slice p n c)).frozen? ⟨w.heap.size, j, none⟩ = false := fun j => by simpa using xf2 j
  have zf3 : ∀ j, ((w2.setCell ⟨w.heap.size, 0, none⟩ (.int .i64 Q)).setCell ⟨w.heap.size, 1, none⟩ (.slice p n c)).frozen? ⟨w.heap.size + 1, j, none⟩ = false := fun j => by simpa using zf2 j
  clear X1 Z1 zf1 xf1 x0 x1 lx hb2 hS
  go_wp2_with fail
  generalize (w2.setCell ⟨w.heap.size, 0, none⟩ (.int .i64 Q)).setCell ⟨w.heap.size, 1, none⟩ (.slice p n c) = w3 at bw3 hS3 X3 Z3 zf3 xf3 hb93 ⊢
  refine (l2At_any Q p n c F s _ hS3.row hn).mono ?_
  rintro e w4 ⟨v, rfl, hv, hb4⟩
  obtain rfl := hat v hv
  have hat' : Hid (∀ v, AtN F n s v → v = (a : Int)) := hat
  clear hv hat
  have X4 := X3.keep hb4
  have Z4 := Z3.keep hb4
  have xf4 : ∀ j, w4.frozen? ⟨w.heap.size, j, none⟩ = false := fun j => (hb4.frozen (p := ⟨w.heap.size, j, none⟩) X3.lt).trans (xf3 j)
  have zf4 : ∀ j, w4.frozen? ⟨w.heap.size + 1, j, none⟩ = false := fun j => (hb4.frozen (p := ⟨w.heap.size + 1, j, none⟩) Z3.lt).trans (zf3 j)
  have bw4 : Below w.heap.size w w4 := bw3.trans (hb4.mono bw3.size)
  have hS4 := hS3.keep hb4
  have hb94 : base ≤ w4.heap.size := Nat.le_trans hb93 hb4.size
  clear X3 Z3 xf3 zf3 bw3 hS3 hb4 hb93
  obtain ⟨g, rfl, hg1, hg2, _, hfa⟩ := hS4.at (by omega)
  obtain ⟨da, dc, hf, hda⟩ := hfa a ha
  have hft : FTis w4 base (Value.slice (some ⟨g, 0, none⟩) n c).ownBlock ((F a).nm, (da, (F a).len, dc), (F a).sy) (F a) := ⟨rfl, rfl, rfl, hf.row, fun b off e h0 => ⟨fun h => (hda b off e h0).1 (Option.some.inj h), (hda b off e h0).2⟩⟩
  obtain ⟨xs, hxl, hown, hdat⟩ := id hS4
  have f0 := hf.c0
  have f1 := hf.c1
  have f2 := hf.c2
  obtain ⟨lx, y0, y1⟩ := id X4
  have j1 : (a : Int) < n := by omega
  have j0 : ¬ (a : Int) < 0 := by omega
  have hA : Below w4.heap.size w4 (w4.alloc (.cells #[.string (F a).nm, .slice da (F a).len dc, .int .i64 (F a).sy] 73)) := (Below.refl _ _).alloc (Nat.le_refl _) _
  have X5 := X4.keep hA
  have S5 := hS4.keep hA
  have xf5 : ∀ j, (w4.alloc (.cells #[.string (F a).nm, .slice da (F a).len dc, .int .i64 (F a).sy] 73)).frozen? ⟨w.heap.size, j, none⟩ = false := fun j => (hA.frozen (p := ⟨w.heap.size, j, none⟩) X4.lt).trans (xf4 j)
  have own5 := row_low hown (fun j _ hj => hA.block j hj)
  have cA : ∀ j u, #[Value.string (F a).nm, .slice da (F a).len dc, .int .i64 (F a).sy][j]? = some u → (w4.alloc (.cells #[.string (F a).nm, .slice da (F a).len dc, .int .i64 (F a).sy] 73)).cell? ⟨w4.heap.size, j, none⟩ = some u := fun j u hu => by
    match j, hu with
    | 0, hu => simp at hu; subst hu; simp [go_sem]
    | 1, hu => simp at hu; subst hu; simp [go_sem]
    | 2, hu => simp at hu; subst hu; simp [go_sem]
    | j + 3, hu => simp at hu
  have fA : ∀ j, (w4.alloc (.cells #[.string (F a).nm, .slice da (F a).len dc, .int .i64 (F a).sy] 73)).frozen? ⟨w4.heap.size, j, none⟩ = false := fun j => by simp [go_sem]
  have sA : (w4.alloc (.cells #[.string (F a).nm, .slice da (F a).len dc, .int .i64 (F a).sy] 73)).heap.size = w4.heap.size + 1 := by simp
  have HX : Hid (DatF w4 base (Value.slice (some ⟨g, 0, none⟩) n c).ownBlock F xs ∧ FTis w4 base (Value.slice (some ⟨g, 0, none⟩) n c).ownBlock ((F a).nm, (da, (F a).len, dc), (F a).sy) (F a)) := ⟨hdat, hft⟩
  clear hdat hft hfa hda hf hown hS4 X4 xf4
  go_wp2_with fail
  generalize w4.alloc (.cells #[.string (F a).nm, .slice da (F a).len dc, .int .i64 (F a).sy] 73) = w5 at hA X5 S5 xf5 own5 cA fA sA ⊢
  clear f0 f1 f2 y0 y1 lx
  refine (l2Remove_hitX Q w.heap.size (some ⟨g, 0, none⟩) n c base F s a ha hat'.out w5 X5 (by omega) S5 xf5 hn xs hxl own5).mono ?_
  rintro e w6 ⟨v6, p6, c6, rfl, X6, own6, of6, b6, oth6, xf6⟩
  have b46 : ∀ k, k ≠ w.heap.size → k < w4.heap.size → w6.heap[k]? = w4.heap[k]? := fun k h1 h2 => (oth6 k h1 (by omega)).trans (hA.block k h2)
  have s56 := b6.size
  have f6 : ∀ b, some b = (Value.slice p6 (n - 1) c6).ownBlock → b = g ∨ w4.heap.size + 1 ≤ b := fun b e => by
    rcases of6 b e with h | h
    · exact .inl (Option.some.inj h)
    · exact .inr (by omega)
  have S6 : SRow w6 base (.slice p6 (n - 1) c6) (n - 1) (remF F a) := srow_of (sh a) HX.out.1 (by omega) (fun b h1 h2 _ => b46 b (by omega) h2) (fun b h1 h2 e => by
    rcases f6 b e with h | h
    · exact h2 (by rw [h]; rfl)
    · omega) own6 (by rw [List.length_eraseIdx, hxl, if_pos ha]) erase_sh
  clear S5 xf5 own5
  go_wp2_with fail
  refine (Hsec.out (xs.eraseIdx a) w6 w.heap.size base p6 c6 (by rw [List.length_eraseIdx, hxl, if_pos ha]) X6 (by omega) own6 S6 xf6).mono ?_
  rintro e w7 ⟨v7, p7, c7, rfl, X7, own7, of7, b7, oth7, xf7⟩
  have s67 := b7.size
  have f7 : ∀ b, some b = (Value.slice p7 n2 c7).ownBlock → b = g ∨ w4.heap.size + 1 ≤ b := fun b e => by
    rcases of7 b e with h | h
    · exact f6 b h
    · exact .inr (by omega)
  have b47 : ∀ k, k ≠ w.heap.size → k < w4.heap.size → w7.heap[k]? = w4.heap[k]? := fun k h1 h2 => (oth7 k h1 (by omega)).trans (b46 k h1 h2)
  have b57 : ∀ k, k ≠ w.heap.size → k < w5.heap.size → w7.heap[k]? = w5.heap[k]? := fun k h1 h2 => (oth7 k h1 (by omega)).trans (oth6 k h1 h2)
  have hwl : w.heap.size < w4.heap.size := Nat.lt_of_lt_of_le (by omega) hb94
  have bx := b57 w4.heap.size (by omega) (by omega)
  have d0 := (World.cell?_of_block (w := w5) (a := ⟨w4.heap.size, 0, none⟩) bx).trans (cA 0 _ rfl)
  have d1 := (World.cell?_of_block (w := w5) (a := ⟨w4.heap.size, 1, none⟩) bx).trans (cA 1 _ rfl)
  have d2 := (World.cell?_of_block (w := w5) (a := ⟨w4.heap.size, 2, none⟩) bx).trans (cA 2 _ rfl)
  have df : ∀ j, w7.frozen? ⟨w4.heap.size, j, none⟩ = false := fun j => (World.frozen?_of_block (w := w5) (a := ⟨w4.heap.size, j, none⟩) bx).trans (fA j)
  have X8 : QAt (w7.setCell ⟨w4.heap.size, 0, none⟩ (.string t)) w.heap.size Q (.slice p7 n2 c7) := ⟨by have := X7.lt; simpa using this, (World.cell?_setCell_other _ _ _ _ (by intro hh; injection hh with h3 _ _; omega)).trans X7.c0, (World.cell?_setCell_other _ _ _ _ (by intro hh; injection hh with h3 _ _; omega)).trans X7.c1⟩
  have o8 : (w7.setCell ⟨w4.heap.size, 0, none⟩ (.string t)).ownsRow base 73 3 (.slice p7 n2 c7) n2 ((er (xs.eraseIdx a)).flatMap fenc) := row_one own7 (fun b e => Below.heap_setCell _ _ _ _ (by
    show b ≠ w4.heap.size
    rcases f7 b e with h | h <;> omega))
  have b48 : ∀ k, k ≠ w.heap.size → k < w4.heap.size → (w7.setCell ⟨w4.heap.size, 0, none⟩ (.string t)).heap[k]? = w4.heap[k]? := fun k h1 h2 => (Below.heap_setCell _ _ _ _ (by show k ≠ w4.heap.size; omega)).trans (b47 k h1 h2)
  have s8 : w4.heap.size ≤ (w7.setCell ⟨w4.heap.size, 0, none⟩ (.string t)).heap.size := by simp; omega
  have n8 : ∀ b, b < w4.heap.size → some b ≠ (Value.slice (some ⟨g, 0, none⟩) n c).ownBlock → some b ≠ (Value.slice p7 n2 c7).ownBlock := fun b h1 h2 e => by
    rcases f7 b e with h | h
    · exact h2 (by rw [h]; rfl)
    · omega
  have S8 : SRow (w7.setCell ⟨w4.heap.size, 0, none⟩ (.string t)) base (.slice p7 n2 c7) n2 (fun i => remF F a (τ i)) := srow_of (fun i => sh a (τ i)) HX.out.1 s8 (fun b h1 h2 _ => b48 b (by omega) h2) n8 o8 (Her.out.2 _ (by rw [List.length_eraseIdx, hxl, if_pos ha])) (fun i x hx => erase_sh (τ i) x (Her.out.1 _ i x hx))
  have T8 : FTis (w7.setCell ⟨w4.heap.size, 0, none⟩ (.string t)) base (Value.slice p7 n2 c7).ownBlock (t, (da, (F a).len, dc), (F a).sy) { F a with nm := t } := by
    obtain ⟨t1, t2, t3, t4, t5⟩ := HX.out.2.to s8 (fun b h1 h2 _ => b48 b (by omega) h2) n8
    exact ⟨rfl, t2, t3, t4, t5⟩
  have xf8 : ∀ j, (w7.setCell ⟨w4.heap.size, 0, none⟩ (.string t)).frozen? ⟨w.heap.size, j, none⟩ = false := fun j => by simpa using xf7 j
  have Z8 : QAt (w7.setCell ⟨w4.heap.size, 0, none⟩ (.string t)) (w.heap.size + 1) 0 (.slice none 0 0) := by
    have hz := b48 (w.heap.size + 1) (by omega) Z4.lt
    exact ⟨Nat.lt_of_lt_of_le Z4.lt s8, (World.cell?_of_block (w := w4) (a := ⟨w.heap.size + 1, 0, none⟩) hz).trans Z4.c0, (World.cell?_of_block (w := w4) (a := ⟨w.heap.size + 1, 1, none⟩) hz).trans Z4.c1⟩
  have zf8 : ∀ j, (w7.setCell ⟨w4.heap.size, 0, none⟩ (.string t)).frozen? ⟨w.heap.size + 1, j, none⟩ = false := fun j => (World.frozen?_of_block (w := w4) (a := ⟨w.heap.size + 1, j, none⟩) (b48 (w.heap.size + 1) (by omega) Z4.lt)).trans (zf4 j)
  have bw8 : Below w.heap.size w (w7.setCell ⟨w4.heap.size, 0, none⟩ (.string t)) := (((bw4.trans (hA.mono (Nat.le_of_lt hwl))).trans b6).trans b7).setCell (p := ⟨w4.heap.size, 0, none⟩) (Nat.le_of_lt hwl) _
  have hb98 : base ≤ (w7.setCell ⟨w4.heap.size, 0, none⟩ (.string t)).heap.size := Nat.le_trans hb94 s8
  clear X7 own7 of7 b7 oth7 xf7 S6 X6 own6 of6 b6 oth6 xf6 b46 b47 b57 bx o8 b48 n8 f6 f7 cA fA sA hA X5 Z4 zf4 bw4 s56 s67
  go_wp2_with fail
  generalize w7.setCell ⟨w4.heap.size, 0, none⟩ (.string t) = w8 at X8 S8 T8 xf8 Z8 zf8 bw8 hb98 s8 ⊢
  refine (l2Insert_any Q w.heap.size p7 n2 c7 base _ t da (F a).len dc (F a).sy { F a with nm := t } k HR.out w8 X8 (by omega) hb98 S8 T8 xf8 hn2).mono ?_
  rintro e w9 ⟨p9, c9, rfl, X9, S9, z9, b9, oth9⟩
  have bZ := oth9 (w.heap.size + 1) (by omega) Z8.lt
  have v0 := (World.cell?_of_block (w := w8) (a := ⟨w.heap.size + 1, 0, none⟩) bZ).trans Z8.c0
  have v1 := (World.cell?_of_block (w := w8) (a := ⟨w.heap.size + 1, 1, none⟩) bZ).trans Z8.c1
  have vf : ∀ j, w9.frozen? ⟨w.heap.size + 1, j, none⟩ = false := fun j => (World.frozen?_of_block (w := w8) (a := ⟨w.heap.size + 1, j, none⟩) bZ).trans (zf8 j)
  have bw9 : Below w.heap.size w w9 := bw8.trans b9
  obtain ⟨lx, x0, x1⟩ := id X9
  have hrow := S9.flow ((w9.setCell ⟨w.heap.size + 1, 0, none⟩ (.int .i64 Q)).setCell ⟨w.heap.size + 1, 1, none⟩ (.slice p9 (n2 + 1) c9)) (by simp) (fun j h1 _ => by rw [Below.heap_setCell _ _ _ _ (by show j ≠ w.heap.size + 1; omega), Below.heap_setCell _ _ _ _ (by show j ≠ w.heap.size + 1; omega)])
  clear X8 S8 T8 xf8 Z8 zf8 bw8 hb98 X9 S9 b9 oth9 bZ d0 d1 d2 df
  go_wp2
  refine bodyPost_ret (v := .tuple #[.agg #[.int .i64 Q, .slice p9 (n2 + 1) c9], .int .i64 0]) (by simp [results, Tryd.results24, go_sem, v0, v1]) rfl ⟨p9, c9, rfl, hrow, ?_⟩
  exact (bw9.setCell (p := ⟨w.heap.size + 1, 0, none⟩) (Nat.le_succ _) _).setCell (p := ⟨w.heap.size + 1, 1, none⟩) (Nat.le_succ _) _
end Go.Proofs.YtgedpjabjoodjaaDoor
