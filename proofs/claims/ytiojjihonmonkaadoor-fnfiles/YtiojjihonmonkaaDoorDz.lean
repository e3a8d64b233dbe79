/- AppendFile, the model's text, over what its method leaves. / The model's calls that the drawn files are made by: what they leave where they say nought. -/
import Derived.Test.YtiojjihonmonkaaDoorSpecCreate
import Derived.Test.YtiojjihonmonkaaDoorBytesA
import Derived.Test.YtiojjihonmonkaaDoorSpecRemove
import Derived.Test.YtiojjihonmonkaaDoorAppH
import Derived.Test.YtiojjihonmonkaaDoorReadLaw
import Derived.Test.YtiojjihonmonkaaDoorFa
namespace Go.Proofs.YtiojjihonmonkaaDoor
open Go.RowKit
set_option linter.unusedSimpArgs false
set_option linter.unusedVariables false

set_option maxHeartbeats 1000000 in
theorem appendFile_spec_bad (Q : Int) (ao : Option Addr) (n cap : Nat) (F Fo : Nat → Fil) (s : ByteArray) (ad : Option Addr) (bm bc : Nat) (hs : s.size ≤ 1048576) (G N : Bool) (HG : Hid (goodF Q n F = G)) (HN : Hid (fnB s = N)) (hbad : (G && N) = false) (w : World) (hr : FRow w ao n F) (hq : -9223372036854775808 ≤ Q ∧ Q ≤ 9223372036854775807) (hn : n ≤ 1048576) (hz : FSize n F 1048576) :
    Calls Tryd.prog 25 #[.agg #[.int .i64 Q, .slice ao n cap], .string s, .slice ad bm bc] w fun e w' => SOut 0 1 0 Fo w e w' := by
  have hB : Below w.heap.size w ((w.alloc (.cells #[.int .i64 Q, .slice ao n cap] 25)).alloc (.cells #[.int .i64 0, .slice none 0 0] 25)) := ((Below.refl _ _).alloc (Nat.le_refl _) _).alloc (by simp) _
  have Z0 := QAt.new (w.alloc (.cells #[.int .i64 Q, .slice ao n cap] 25)) 0 (.slice none 0 0) 25
  rw [World.size_alloc] at Z0
  have zf : ∀ j, ((w.alloc (.cells #[.int .i64 Q, .slice ao n cap] 25)).alloc (.cells #[.int .i64 0, .slice none 0 0] 25)).frozen? ⟨w.heap.size + 1, j, none⟩ = false := fun j => by simp [go_sem]
  go_enter Tryd.func25, Tryd.ntmps25
  go_wp2_with fail
  refine (goodFiles_spec Q ao n cap F G HG _ (hr.keep hB) hq hn hz).mono ?_
  rintro e w1 ⟨rfl, hb1⟩
  have bw1 : Below w.heap.size w w1 := hB.trans (hb1.mono (by simp; omega))
  have zf1 : ∀ j, w1.frozen? ⟨w.heap.size + 1, j, none⟩ = false := fun j => (hb1.frozen (p := ⟨w.heap.size + 1, j, none⟩) (by simp)).trans (zf j)
  obtain ⟨lz, z0, z1⟩ := Z0.keep hb1
  clear hb1 hB Z0 zf
  cases G
  · go_wp2
    refine bodyPost_ret (v := .tuple #[.agg #[.int .i64 0, .slice none 0 0], .int .i64 1]) (by simp [results, Tryd.results25, go_sem, z0, z1]) rfl ⟨none, 0, rfl, ⟨.inl rfl⟩, ?_⟩
    exact (bw1.setCell (p := ⟨w.heap.size + 1, 0, none⟩) (Nat.le_succ _) _).setCell (p := ⟨w.heap.size + 1, 1, none⟩) (Nat.le_succ _) _
  · obtain rfl : N = false := by simpa using hbad
    go_wp2_with fail
    refine (l2Name_is s false HN _ hs).mono ?_
    rintro e w' ⟨rfl, rfl⟩
    go_wp2
    refine bodyPost_ret (v := .tuple #[.agg #[.int .i64 0, .slice none 0 0], .int .i64 1]) (by simp [results, Tryd.results25, go_sem, z0, z1]) rfl ⟨none, 0, rfl, ⟨.inl rfl⟩, ?_⟩
    exact (bw1.setCell (p := ⟨w.heap.size + 1, 0, none⟩) (Nat.le_succ _) _).setCell (p := ⟨w.heap.size + 1, 1, none⟩) (Nat.le_succ _) _

set_option maxHeartbeats 2000000 in
theorem appendFile_spec_good (Q : Int) (ao : Option Addr) (n cap : Nat) (F : Nat → Fil) (s : ByteArray) (ad : Option Addr) (bm bc : Nat) (h : Nat → Int) (hs : s.size ≤ 1048576) (HG : Hid (goodF Q n F = true)) (HN : Hid (fnB s = true)) (cd : Int) (m : Nat) (Fo : Nat → Fil)
    (hmeth : ∀ (w : World) (fb base : Nat) (p : Option Addr) (cc : Nat), QAt w fb Q (.slice p n cc) → fb < base → base ≤ w.heap.size → SRow w base (.slice p n cc) n F → (∀ j, w.frozen? ⟨fb, j, none⟩ = false) → BAO w ad bm bc h → Calls Tryd.prog 43 #[.pointer (some ⟨fb, 0, none⟩), .string s, .slice ad bm bc] w fun e w' => LOut Q cd m Fo fb base w e w')
    (w : World) (HBA : Hid (BAO w ad bm bc h)) (hr : FRow w ao n F) (hq : -9223372036854775808 ≤ Q ∧ Q ≤ 9223372036854775807) (hn : n ≤ 1048576) (hz : FSize n F 1048576) :
    Calls Tryd.prog 25 #[.agg #[.int .i64 Q, .slice ao n cap], .string s, .slice ad bm bc] w fun e w' => SOutS Q cd m Fo w e w' := by
  have hB : Below w.heap.size w ((w.alloc (.cells #[.int .i64 Q, .slice ao n cap] 25)).alloc (.cells #[.int .i64 0, .slice none 0 0] 25)) := ((Below.refl _ _).alloc (Nat.le_refl _) _).alloc (by simp) _
  have X0 : QAt ((w.alloc (.cells #[.int .i64 Q, .slice ao n cap] 25)).alloc (.cells #[.int .i64 0, .slice none 0 0] 25)) w.heap.size Q (.slice ao n cap) := (QAt.new w Q (.slice ao n cap) 25).keep ((Below.refl _ _).alloc (Nat.le_refl _) _)
  have Z0 := QAt.new (w.alloc (.cells #[.int .i64 Q, .slice ao n cap] 25)) 0 (.slice none 0 0) 25
  rw [World.size_alloc] at Z0
  have zf : ∀ j, ((w.alloc (.cells #[.int .i64 Q, .slice ao n cap] 25)).alloc (.cells #[.int .i64 0, .slice none 0 0] 25)).frozen? ⟨w.heap.size + 1, j, none⟩ = false := fun j => by simp [go_sem]
  have xf : ∀ j, ((w.alloc (.cells #[.int .i64 Q, .slice ao n cap] 25)).alloc (.cells #[.int .i64 0, .slice none 0 0] 25)).frozen? ⟨w.heap.size, j, none⟩ = false := fun j => by simp [go_sem]
  go_enter Tryd.func25, Tryd.ntmps25
  go_wp2_with fail
  refine (goodFiles_spec Q ao n cap F true HG _ (hr.keep hB) hq hn hz).mono ?_
  rintro e w1 ⟨rfl, hb1⟩
  have bw1 : Below w.heap.size w w1 := hB.trans (hb1.mono (by simp; omega))
  have zf1 : ∀ j, w1.frozen? ⟨w.heap.size + 1, j, none⟩ = false := fun j => (hb1.frozen (p := ⟨w.heap.size + 1, j, none⟩) (by simp)).trans (zf j)
  have xf1 : ∀ j, w1.frozen? ⟨w.heap.size, j, none⟩ = false := fun j => (hb1.frozen (p := ⟨w.heap.size, j, none⟩) (by simp; omega)).trans (xf j)
  have Z1 := Z0.keep hb1
  have X1 := X0.keep hb1
  clear hb1 hB Z0 X0 zf xf
  obtain ⟨lx, x0, x1⟩ := id X1
  go_wp2_with fail
  refine (l2Name_is s true HN _ hs).mono ?_
  rintro e w' ⟨rfl, rfl⟩
  go_wp2_with fail
  refine (l2Own_any Q ao n cap F _ (hr.keep bw1) hn hz).mono ?_
  rintro e w2 ⟨v, rfl, hS, hb2⟩
  obtain ⟨p, c, rfl⟩ : ∃ p c, v = .slice p n c := by
    obtain ⟨xs, _, hown, _⟩ := hS
    exact row_slice hown
  obtain ⟨lz2, z0, z1⟩ := Z1.keep hb2
  have zf2 : ∀ j, w2.frozen? ⟨w.heap.size + 1, j, none⟩ = false := fun j => (hb2.frozen (p := ⟨w.heap.size + 1, j, none⟩) Z1.lt).trans (zf1 j)
  have xf2 : ∀ j, w2.frozen? ⟨w.heap.size, j, none⟩ = false := fun j => (hb2.frozen (p := ⟨w.heap.size, j, none⟩) X1.lt).trans (xf1 j)
  obtain ⟨lx2, y0, y1⟩ := X1.keep hb2
  have bw2 : Below w.heap.size w w2 := bw1.trans (hb2.mono bw1.size)
  have hb0 : w.heap.size + 2 ≤ w'.heap.size + 2 := by omega
  obtain ⟨base, hb0, hb9, hS⟩ : ∃ base, w.heap.size + 2 ≤ base ∧ base ≤ w2.heap.size ∧ SRow w2 base (.slice p n c) n F := ⟨w.heap.size + 2, Nat.le_refl _, by omega, hS.base hb0⟩
  have hb93 : base ≤ ((w2.setCell ⟨w.heap.size, 0, none⟩ (.int .i64 Q)).setCell ⟨w.heap.size, 1, none⟩ (.slice p n c)).heap.size := by simpa using hb9
  have bw3 : Below w.heap.size w ((w2.setCell ⟨w.heap.size, 0, none⟩ (.int .i64 Q)).setCell ⟨w.heap.size, 1, none⟩ (.slice p n c)) := (bw2.setCell (p := ⟨w.heap.size, 0, none⟩) (Nat.le_refl _) _).setCell (p := ⟨w.heap.size, 1, none⟩) (Nat.le_refl _) _
  have hS3 : SRow ((w2.setCell ⟨w.heap.size, 0, none⟩ (.int .i64 Q)).setCell ⟨w.heap.size, 1, none⟩ (.slice p n c)) base (.slice p n c) n F := hS.low (by simp) (fun j h1 _ => by rw [Below.heap_setCell _ _ _ _ (by show j ≠ w.heap.size; omega), Below.heap_setCell _ _ _ _ (by show j ≠ w.heap.size; omega)])
  have X3 : QAt ((w2.setCell ⟨w.heap.size, 0, none⟩ (.int .i64 Q)).setCell ⟨w.heap.size, 1, none⟩ (.slice p n c)) w.heap.size Q (.slice p n c) := ⟨by simpa using lx2, by rw [World.cell?_setCell_other _ _ _ _ (by intro hh; injection hh with _ h3 _; omega)]; exact World.cell?_setCell_same _ _ _ y0, World.cell?_setCell_same _ _ _ (by rw [World.cell?_setCell_other _ _ _ _ (by intro hh; injection hh with _ h3 _; omega)]; exact y1)⟩
  have Z3 : QAt ((w2.setCell ⟨w.heap.size, 0, none⟩ (.int .i64 Q)).setCell ⟨w.heap.size, 1, none⟩ (.slice p n c)) (w.heap.size + 1) 0 (.slice none 0 0) := ⟨by simpa using lz2, by rw [World.cell?_setCell_other _ _ _ _ (by intro hh; injection hh with h3 _ _; omega), World.cell?_setCell_other _ _ _ _ (by intro hh; injection hh with h3 _ _; omega)]; exact z0, by rw [World.cell?_setCell_other _ _ _ _ (by intro hh; injection hh with h3 _ _; omega), World.cell?_setCell_other _ _ _ _ (by intro hh; injection hh with h3 _ _; omega)]; exact z1⟩
  have xf3 : ∀ j, ((w2.setCell ⟨w.heap.size, 0, none⟩ (.int .i64 Q)).setCell ⟨w.heap.size, 1, none⟩ (.slice p n c)).frozen? ⟨w.heap.size, j, none⟩ = false := fun j => by simpa using xf2 j
  have zf3 : ∀ j, ((w2.setCell ⟨w.heap.size, 0, none⟩ (.int .i64 Q)).setCell ⟨w.heap.size, 1, none⟩ (.slice p n c)).frozen? ⟨w.heap.size + 1, j, none⟩ = false := fun j => by simpa using zf2 j
  clear X1 Z1 zf1 xf1 x0 x1 lx hb2 hS
  go_wp2_with fail
  generalize (w2.setCell ⟨w.heap.size, 0, none⟩ (.int .i64 Q)).setCell ⟨w.heap.size, 1, none⟩ (.slice p n c) = w3 at bw3 hS3 X3 Z3 zf3 xf3 hb93 ⊢
  refine (hmeth _ w.heap.size base p c X3 (by omega) hb93 hS3 xf3 (HBA.out.keep bw3)).mono ?_
  rintro e w4 ⟨p', c', rfl, X4, hL, hsz, hb4, hoth⟩
  have bZ := hoth (w.heap.size + 1) (by omega) (by omega) Z3.lt
  have v0 := (World.cell?_of_block (w := w3) (a := ⟨w.heap.size + 1, 0, none⟩) bZ).trans Z3.c0
  have v1 := (World.cell?_of_block (w := w3) (a := ⟨w.heap.size + 1, 1, none⟩) bZ).trans Z3.c1
  have vf : ∀ j, w4.frozen? ⟨w.heap.size + 1, j, none⟩ = false := fun j => (World.frozen?_of_block (w := w3) (a := ⟨w.heap.size + 1, j, none⟩) bZ).trans (zf3 j)
  have bw4 : Below w.heap.size w w4 := bw3.trans hb4
  obtain ⟨lx, x0, x1⟩ := id X4
  have hrow := SRow.base (base := w.heap.size) (hL.low (w' := (w4.setCell ⟨w.heap.size + 1, 0, none⟩ (.int .i64 Q)).setCell ⟨w.heap.size + 1, 1, none⟩ (.slice p' m c')) (by simp) (fun j h1 _ => by rw [Below.heap_setCell _ _ _ _ (by show j ≠ w.heap.size + 1; omega), Below.heap_setCell _ _ _ _ (by show j ≠ w.heap.size + 1; omega)])) (by omega)
  clear X3 Z3 zf3 xf3 hb4 hL hS3 bw3 hoth bZ hmeth
  go_wp2
  refine bodyPost_ret (v := .tuple #[.agg #[.int .i64 Q, .slice p' m c'], .int .i64 cd]) (by simp [results, Tryd.results25, go_sem, v0, v1]) rfl ⟨p', c', rfl, hrow, ?_⟩
  exact (bw4.setCell (p := ⟨w.heap.size + 1, 0, none⟩) (Nat.le_succ _) _).setCell (p := ⟨w.heap.size + 1, 1, none⟩) (Nat.le_succ _) _
end Go.Proofs.YtiojjihonmonkaaDoor
namespace Go.Proofs.YtiojjihonmonkaaDoor
open Go.RowKit
set_option linter.unusedSimpArgs false
set_option linter.unusedVariables false

/-- Files as they are drawn. -/
structure Dw (n : Nat) (F : Nat → Fil) : Prop where
  sz : FSize n F 1048576
  bd : ∀ i, i < n → ∀ j, 0 ≤ (F i).f j ∧ (F i).f j ≤ 255
  le : n ≤ 41

/-- What a call of the model leaves. -/
def StepO (Q : Int) (w : World) (e : Ending) (w' : World) : Prop :=
  ∃ (Q' c : Int) (m : Nat) (ao : Option Addr) (cap : Nat), e = .returned (.tuple #[.agg #[.int .i64 Q', .slice ao m cap], .int .i64 c]) ∧ Below w.heap.size w w' ∧ (c = 0 → Q' = Q ∧ m ≤ 40 ∧ ∃ F', Dw m F' ∧ SRow w' w.heap.size (.slice ao m cap) m F')
theorem step_of {Q c : Int} {m : Nat} {Fo : Nat → Fil} {w w' : World} {e : Ending} (h : SOutS Q c m Fo w e w') (hd : c = 0 → Dw m Fo ∧ m ≤ 40) : StepO Q w e w' := by
  obtain ⟨ao, cap, rfl, h1, h2⟩ := h
  exact ⟨Q, c, m, ao, cap, rfl, h2, fun hc => ⟨rfl, (hd hc).2, Fo, (hd hc).1, h1⟩⟩
theorem step_no {Q Q' c : Int} {m : Nat} {Fo : Nat → Fil} {w w' : World} {e : Ending} (h : SOut Q' c m Fo w e w') (hc : c ≠ 0) : StepO Q w e w' := by
  obtain ⟨ao, cap, rfl, h1, h2⟩ := h
  exact ⟨Q', c, m, ao, cap, rfl, h2, fun h => absurd h hc⟩
theorem used_geD {F : Nat → Fil} {j : Nat} : ∀ n, j < n → (F j).len ≤ used F n
  | n + 1, h => by
    simp only [used]
    by_cases e : j = n
    · subst e; omega
    · have := used_geD (F := F) n (show j < n by omega); omega
section

theorem createFile_step (Q : Int) (n : Nat) (F : Nat → Fil) (s : ByteArray) (hs : s.size ≤ 1048576) (hq : -9223372036854775808 ≤ Q ∧ Q ≤ 9223372036854775807) (hD : Dw n F) (w : World) (ao : Option Addr) (cap : Nat) (hr : FRow w ao n F) : Calls Tryd.prog 22 #[.agg #[.int .i64 Q, .slice ao n cap], .string s] w fun e w' => StepO Q w e w' := by
  have hn : n ≤ 1048576 := by have := hD.le; omega
  have hz := hD.sz
  by_cases hbad : (goodF Q n F && fnB s) = false
  · exact (createFile_spec_bad Q ao n cap F F s hs _ _ rfl rfl hbad w hr hq hn hz).mono fun e w' h => step_no h (by decide)
  · have hG : goodF Q n F = true := by cases h : goodF Q n F <;> simp_all
    have hN : fnB s = true := by cases h : fnB s <;> simp_all
    obtain ⟨p1, p2, p3, hK, p4⟩ := good_parts hG
    by_cases hx : ∃ j, j < n ∧ (F j).nm = s
    · obtain ⟨j, hj, rfl⟩ := hx
      exact (createFile_spec_good Q ao n cap F _ hs hG hN 3 n F (fun w fb base p cc h1 h2 h5 h3 h4 => l2Create_twice Q fb p n cc base F _ (fun v hv => by rw [atN_hit hK hj rfl v hv]; omega) w h1 h3 hn) w hr hq hn hz).mono fun e w' h => step_of h (fun h => by simp at h)
    · have hm : ∀ j, j < n → (F j).nm ≠ s := fun j hj e => hx ⟨j, hj, e⟩
      by_cases h40 : n = 40
      · subst h40
        exact (createFile_spec_good Q ao 40 cap F s hs hG hN 4 40 F (fun w fb base p cc h1 h2 h5 h3 h4 => l2Create_full Q fb p cc base F s (atN_miss hm) w h1 h3) w hr hq hn hz).mono fun e w' h => step_of h (fun h => by simp at h)
      · obtain ⟨k, hR⟩ := rank_ex hK hm
        have h41 : n < 40 := by omega
        refine (createFile_spec_good Q ao n cap F s hs hG hN 0 (n + 1) (insF F s k) (fun w fb base p cc h1 h2 h5 h3 h4 => l2Create_new Q fb p n cc base F s k hR h41 (atN_miss hm) w h1 h2 h5 h3 h4) w hr hq hn hz).mono fun e w' h => step_of h (fun _ => ⟨⟨fun i hi => ?_, fun i hi j => ?_, by omega⟩, by omega⟩)
        · have hle := hR.le
          unfold insF
          split
          · exact hz i (by omega)
          · split
            · exact ⟨hs, Nat.zero_le _⟩
            · exact hz (i - 1) (by omega)
        · have hle := hR.le
          unfold insF
          split
          · exact hD.bd i (by omega) j
          · split
            · exact ⟨by show (0 : Int) ≤ 0; decide, by show (0 : Int) ≤ 255; decide⟩
            · exact hD.bd (i - 1) (by omega) j

theorem removeFile_step (Q : Int) (n : Nat) (F : Nat → Fil) (s : ByteArray) (hs : s.size ≤ 1048576) (hq : -9223372036854775808 ≤ Q ∧ Q ≤ 9223372036854775807) (hD : Dw n F) (w : World) (ao : Option Addr) (cap : Nat) (hr : FRow w ao n F) : Calls Tryd.prog 24 #[.agg #[.int .i64 Q, .slice ao n cap], .string s] w fun e w' => StepO Q w e w' := by
  have hn : n ≤ 1048576 := by have := hD.le; omega
  have hz := hD.sz
  by_cases hbad : (goodF Q n F && fnB s) = false
  · exact (removeFile_spec_bad Q ao n cap F F s hs _ _ rfl rfl hbad w hr hq hn hz).mono fun e w' h => step_no h (by decide)
  · have hG : goodF Q n F = true := by cases h : goodF Q n F <;> simp_all
    have hN : fnB s = true := by cases h : fnB s <;> simp_all
    obtain ⟨p1, p2, p3, hK, p4⟩ := good_parts hG
    by_cases hx : ∃ j, j < n ∧ (F j).nm = s
    · obtain ⟨j, hj, rfl⟩ := hx
      exact (removeFile_spec_good Q ao n cap F _ hs hG hN 0 (n - 1) (remF F j) (fun w fb base p cc h1 h2 h3 h4 => l2Remove_hit Q fb p n cc base F _ j hj (atN_hit hK hj rfl) w h1 h2 h3 h4 hn) w hr hq hn hz).mono fun e w' h => step_of h (fun _ => ⟨⟨fun i hi => hz _ (sh_lt hj hi), fun i hi => hD.bd _ (sh_lt hj hi), by omega⟩, by omega⟩)
    · have hm : ∀ j, j < n → (F j).nm ≠ s := fun j hj e => hx ⟨j, hj, e⟩
      exact (removeFile_spec_good Q ao n cap F s hs hG hN 2 n F (fun w fb base p cc h1 h2 h3 h4 => l2Remove_miss Q fb p n cc base F s (atN_miss hm) w h1 h3 hn) w hr hq hn hz).mono fun e w' h => step_of h (fun h => by simp at h)

theorem syncFile_step (Q : Int) (n : Nat) (F : Nat → Fil) (s : ByteArray) (hs : s.size ≤ 1048576) (hq : -9223372036854775808 ≤ Q ∧ Q ≤ 9223372036854775807) (hD : Dw n F) (w : World) (ao : Option Addr) (cap : Nat) (hr : FRow w ao n F) : Calls Tryd.prog 23 #[.agg #[.int .i64 Q, .slice ao n cap], .string s] w fun e w' => StepO Q w e w' := by
  have hn : n ≤ 1048576 := by have := hD.le; omega
  have hz := hD.sz
  by_cases hbad : (goodF Q n F && fnB s) = false
  · exact (syncFile_spec_bad Q ao n cap F F s hs _ _ rfl rfl hbad w hr hq hn hz).mono fun e w' h => step_no h (by decide)
  · have hG : goodF Q n F = true := by cases h : goodF Q n F <;> simp_all
    have hN : fnB s = true := by cases h : fnB s <;> simp_all
    obtain ⟨p1, p2, p3, hK, p4⟩ := good_parts hG
    by_cases hx : ∃ j, j < n ∧ (F j).nm = s
    · obtain ⟨j, hj, rfl⟩ := hx
      have hlen : ∀ i, (syncF F j i).len = (F i).len := fun i => by unfold syncF; split <;> simp_all
      have hnm : ∀ i, (syncF F j i).nm = (F i).nm := fun i => by unfold syncF; split <;> simp_all
      have hff : ∀ i, (syncF F j i).f = (F i).f := fun i => by unfold syncF; split <;> simp_all
      exact (syncFile_spec_hit Q ao n cap F _ hs hG hN j hj (atN_hit hK hj rfl) w hr hq hn hz).mono fun e w' h => step_of h (fun _ => ⟨⟨fun i hi => by rw [hlen, hnm]; exact hz i hi, fun i hi => by rw [hff]; exact hD.bd i hi, hD.le⟩, p3⟩)
    · have hm : ∀ j, j < n → (F j).nm ≠ s := fun j hj e => hx ⟨j, hj, e⟩
      exact (syncFile_spec_miss Q ao n cap F s hs hG hN (atN_miss hm) w hr hq hn hz).mono fun e w' h => step_no h (by decide)

theorem appendFile_step (Q : Int) (n : Nat) (F : Nat → Fil) (s : ByteArray) (hs : s.size ≤ 1048576) (hq : -9223372036854775808 ≤ Q ∧ Q ≤ 9223372036854775807) (hD : Dw n F) (w : World) (ao : Option Addr) (cap : Nat) (hr : FRow w ao n F) (ad : Option Addr) (bn bc : Nat) (h : Nat → Int) (hbn : bn ≤ 1048576) (hh : ∀ i, 0 ≤ h i ∧ h i ≤ 255) (hA : BAO w ad bn bc h) : Calls Tryd.prog 25 #[.agg #[.int .i64 Q, .slice ao n cap], .string s, .slice ad bn bc] w fun e w' => StepO Q w e w' := by
  have hn : n ≤ 1048576 := by have := hD.le; omega
  have hz := hD.sz
  by_cases hbad : (goodF Q n F && fnB s) = false
  · exact (appendFile_spec_bad Q ao n cap F F s ad bn bc hs _ _ rfl rfl hbad w hr hq hn hz).mono fun e w' h => step_no h (by decide)
  · have hG : goodF Q n F = true := by cases h : goodF Q n F <;> simp_all
    have hN : fnB s = true := by cases h : fnB s <;> simp_all
    obtain ⟨p1, p2, p3, hK, p4⟩ := good_parts hG
    have hu : used F n ≤ 60000 := by omega
    by_cases hx : ∃ j, j < n ∧ (F j).nm = s
    · obtain ⟨j, hj, rfl⟩ := hx
      by_cases hfull : Q < ((used F n + bn : Nat) : Int)
      · exact (appendFile_spec_good Q ao n cap F _ ad bn bc h hs hG hN 4 n F (fun w fb base p cc h1 h2 h5 h3 h4 _ => l2Append_full Q fb p n cc base F _ ad bn bc (fun v hv => by rw [atN_hit hK hj rfl v hv]; omega) hu hbn hfull w h1 h3 hn hz) w hA hr hq hn hz).mono fun e w' h => step_of h (fun h => by simp at h)
      · have hroom : ((used F n + bn : Nat) : Int) ≤ Q := by omega
        have hlj := used_geD (F := F) n hj
        refine (appendFile_spec_good Q ao n cap F _ ad bn bc h hs hG hN 0 n (appF F j bn h) (fun w fb base p cc h1 h2 h5 h3 h4 hB => l2Append_hit Q fb p n cc base F _ j hj ad bn bc h (atN_hit hK hj rfl) hu hbn hroom w h1 h2 h5 h3 hn hz (cat_bd (hD.bd j hj) hh) hB) w hA hr hq hn hz).mono fun e w' h => step_of h (fun _ => ⟨⟨fun i hi => ?_, fun i hi => ?_, hD.le⟩, p3⟩)
        · unfold appF
          by_cases e : i = j
          · rw [if_pos e]; exact ⟨(hz j hj).1, by show (F j).len + bn ≤ 1048576; omega⟩
          · rw [if_neg e]; exact hz i hi
        · unfold appF
          by_cases e : i = j
          · rw [if_pos e]; exact cat_bd (hD.bd j hj) hh
          · rw [if_neg e]; exact hD.bd i hi
    · have hm : ∀ j, j < n → (F j).nm ≠ s := fun j hj e => hx ⟨j, hj, e⟩
      exact (appendFile_spec_good Q ao n cap F s ad bn bc h hs hG hN 2 n F (fun w fb base p cc h1 h2 h5 h3 h4 _ => l2Append_miss Q fb p n cc base F s ad bn bc (atN_miss hm) w h1 h3 hn) w hA hr hq hn hz).mono fun e w' h => step_of h (fun h => by simp at h)
end
end Go.Proofs.YtiojjihonmonkaaDoor
