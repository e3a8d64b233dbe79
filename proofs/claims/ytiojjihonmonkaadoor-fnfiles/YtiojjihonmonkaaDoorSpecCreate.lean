/- CreateFile, the model's text, over what its method leaves. -/
import Derived.Test.YtiojjihonmonkaaDoorRemM
namespace Go.Proofs.YtiojjihonmonkaaDoor
open Go.RowKit
set_option linter.unusedSimpArgs false
set_option linter.unusedVariables false

set_option maxHeartbeats 1000000 in
theorem createFile_spec_bad (Q : Int) (ao : Option Addr) (n cap : Nat) (F Fo : Nat → Fil) (s : ByteArray) (hs : s.size ≤ 1048576) (G N : Bool) (HG : Hid (goodF Q n F = G)) (HN : Hid (fnB s = N)) (hbad : (G && N) = false) (w : World) (hr : FRow w ao n F) (hq : -9223372036854775808 ≤ Q ∧ Q ≤ 9223372036854775807) (hn : n ≤ 1048576) (hz : FSize n F 1048576) :
    Calls Tryd.prog 22 #[.agg #[.int .i64 Q, .slice ao n cap], .string s] w fun e w' => SOut 0 1 0 Fo w e w' := by
  have hB : Below w.heap.size w ((w.alloc (.cells #[.int .i64 Q, .slice ao n cap] 25)).alloc (.cells #[.int .i64 0, .slice none 0 0] 25)) := ((Below.refl _ _).alloc (Nat.le_refl _) _).alloc (by simp) _
  have Z0 := QAt.new (w.alloc (.cells #[.int .i64 Q, .slice ao n cap] 25)) 0 (.slice none 0 0) 25
  rw [World.size_alloc] at Z0
  have zf : ∀ j, ((w.alloc (.cells #[.int .i64 Q, .slice ao n cap] 25)).alloc (.cells #[.int .i64 0, .slice none 0 0] 25)).frozen? ⟨w.heap.size + 1, j, none⟩ = false := fun j => by simp [go_sem]
  go_enter Tryd.func22, Tryd.ntmps22
  go_wp2_with fail
  refine (goodFiles_spec Q ao n cap F G HG _ (hr.keep hB) hq hn hz).mono ?_
  rintro e w1 ⟨rfl, hb1⟩
  have bw1 : Below w.heap.size w w1 := hB.trans (hb1.mono (by simp; omega))
  have zf1 : ∀ j, w1.frozen? ⟨w.heap.size + 1, j, none⟩ = false := fun j => (hb1.frozen (p := ⟨w.heap.size + 1, j, none⟩) (by simp)).trans (zf j)
  obtain ⟨lz, z0, z1⟩ := Z0.keep hb1
  clear hb1 hB Z0 zf
  cases G
  · go_wp2
    refine bodyPost_ret (v := .tuple #[.agg #[.int .i64 0, .slice none 0 0], .int .i64 1]) (by simp [results, Tryd.results22, go_sem, z0, z1]) rfl ⟨none, 0, rfl, ⟨.inl rfl⟩, ?_⟩
    exact (bw1.setCell (p := ⟨w.heap.size + 1, 0, none⟩) (Nat.le_succ _) _).setCell (p := ⟨w.heap.size + 1, 1, none⟩) (Nat.le_succ _) _
  · obtain rfl : N = false := by simpa using hbad
    go_wp2_with fail
    refine (l2Name_is s false HN _ hs).mono ?_
    rintro e w' ⟨rfl, rfl⟩
    go_wp2
    refine bodyPost_ret (v := .tuple #[.agg #[.int .i64 0, .slice none 0 0], .int .i64 1]) (by simp [results, Tryd.results22, go_sem, z0, z1]) rfl ⟨none, 0, rfl, ⟨.inl rfl⟩, ?_⟩
    exact (bw1.setCell (p := ⟨w.heap.size + 1, 0, none⟩) (Nat.le_succ _) _).setCell (p := ⟨w.heap.size + 1, 1, none⟩) (Nat.le_succ _) _

set_option maxHeartbeats 2000000 in
theorem createFile_spec_good (Q : Int) (ao : Option Addr) (n cap : Nat) (F : Nat → Fil) (s : ByteArray) (hs : s.size ≤ 1048576) (HG : Hid (goodF Q n F = true)) (HN : Hid (fnB s = true)) (cd : Int) (m : Nat) (Fo : Nat → Fil)
    (hmeth : ∀ (w : World) (fb base : Nat) (p : Option Addr) (cc : Nat), QAt w fb Q (.slice p n cc) → fb < base → base ≤ w.heap.size → SRow w base (.slice p n cc) n F → (∀ j, w.frozen? ⟨fb, j, none⟩ = false) → Calls Tryd.prog 40 #[.pointer (some ⟨fb, 0, none⟩), .string s] w fun e w' => LOut Q cd m Fo fb base w e w')
    (w : World) (hr : FRow w ao n F) (hq : -9223372036854775808 ≤ Q ∧ Q ≤ 9223372036854775807) (hn : n ≤ 1048576) (hz : FSize n F 1048576) :
    Calls Tryd.prog 22 #[.agg #[.int .i64 Q, .slice ao n cap], .string s] w fun e w' => SOutS Q cd m Fo w e w' := by
  have hB : Below w.heap.size w ((w.alloc (.cells #[.int .i64 Q, .slice ao n cap] 25)).alloc (.cells #[.int .i64 0, .slice none 0 0] 25)) := ((Below.refl _ _).alloc (Nat.le_refl _) _).alloc (by simp) _
  have X0 : QAt ((w.alloc (.cells #[.int .i64 Q, .slice ao n cap] 25)).alloc (.cells #[.int .i64 0, .slice none 0 0] 25)) w.heap.size Q (.slice ao n cap) := (QAt.new w Q (.slice ao n cap) 25).keep ((Below.refl _ _).alloc (Nat.le_refl _) _)
  have Z0 := QAt.new (w.alloc (.cells #[.int .i64 Q, .slice ao n cap] 25)) 0 (.slice none 0 0) 25
  rw [World.size_alloc] at Z0
  have zf : ∀ j, ((w.alloc (.cells #[.int .i64 Q, .slice ao n cap] 25)).alloc (.cells #[.int .i64 0, .slice none 0 0] 25)).frozen? ⟨w.heap.size + 1, j, none⟩ = false := fun j => by simp [go_sem]
  have xf : ∀ j, ((w.alloc (.cells #[.int .i64 Q, .slice ao n cap] 25)).alloc (.cells #[.int .i64 0, .slice none 0 0] 25)).frozen? ⟨w.heap.size, j, none⟩ = false := fun j => by simp [go_sem]
  go_enter Tryd.func22, Tryd.ntmps22
  go_wp2_with fail
  refine (goodFiles_spec Q ao n cap F true HG _ (hr.keep hB) hq hn hz).mono ?_
  rintro e w1 ⟨rfl, hb1⟩
  have bw1 : Below w.heap.size w w1 := hB.trans (hb1.mono (by simp; omega))
  have zf1 : ∀ j, w1.frozen? ⟨w.heap.size + 1, j, none⟩ = false := fun j => (hb1.frozen (p := ⟨w.heap.size + 1, j, none⟩) (by simp)).trans (zf j)
  have xf1 : ∀ j, w1.frozen? ⟨w.heap.size, j, none⟩ = false := fun j => (hb1.frozen (p := ⟨w.heap.size, j, none⟩) (by simp; omega)).trans (xf j)
  have Z1 := Z0.keep hb1
  have X1 := X0.keep hb1
  clear hb1 hB Z0 X0 zf xf
  obtain ⟨lx, x0, x1⟩ := id X1
  go_wp2_with fail
  refine (l2Name_is s true HN _ hs).mono ?_
  rintro e w' ⟨rfl, rfl⟩
  go_wp2_with fail
  refine (l2Own_any Q ao n cap F _ (hr.keep bw1) hn hz).mono ?_
  rintro e w2 ⟨v, rfl, hS, hb2⟩
  obtain ⟨p, c, rfl⟩ : ∃ p c, v = .slice p n c := by
    obtain ⟨xs, _, hown, _⟩ := hS
    exact row_slice hown
  obtain ⟨lz2, z0, z1⟩ := Z1.keep hb2
  have zf2 : ∀ j, w2.frozen? ⟨w.heap.size + 1, j, none⟩ = false := fun j => (hb2.frozen (p := ⟨w.heap.size + 1, j, none⟩) Z1.lt).trans (zf1 j)
  have xf2 : ∀ j, w2.frozen? ⟨w.heap.size, j, none⟩ = false := fun j => (hb2.frozen (p := ⟨w.heap.size, j, none⟩) X1.lt).trans (xf1 j)
  obtain ⟨lx2, y0, y1⟩ := X1.keep hb2
  have bw2 : Below w.heap.size w w2 := bw1.trans (hb2.mono bw1.size)
  have hb0 : w.heap.size + 2 ≤ w'.heap.size + 2 := by omega
  obtain ⟨base, hb0, hb9, hS⟩ : ∃ base, w.heap.size + 2 ≤ base ∧ base ≤ w2.heap.size ∧ SRow w2 base (.slice p n c) n F := ⟨w.heap.size + 2, Nat.le_refl _, by omega, hS.base hb0⟩
  have hb93 : base ≤ ((w2.setCell ⟨w.heap.size, 0, none⟩ (.int .i64 Q)).setCell ⟨w.heap.size, 1, none⟩ (.slice p n c)).heap.size := by simpa using hb9
  have bw3 : Below w.heap.size w ((w2.setCell ⟨w.heap.size, 0, none⟩ (.int .i64 Q)).setCell ⟨w.heap.size, 1, none⟩ (.slice p n c)) := (bw2.setCell (p := ⟨w.heap.size, 0, none⟩) (Nat.le_refl _) _).setCell (p := ⟨w.heap.size, 1, none⟩) (Nat.le_refl _) _
  have hS3 : SRow ((w2.setCell ⟨w.heap.size, 0, none⟩ (.int .i64 Q)).setCell ⟨w.heap.size, 1, none⟩ (.slice p n c)) base (.slice p n c) n F := hS.low (by simp) (fun j h1 _ => by rw [Below.heap_setCell _ _ _ _ (by show j ≠ w.heap.size; omega), Below.heap_setCell _ _ _ _ (by show j ≠ w.heap.size; omega)])
  have X3 : QAt ((w2.setCell ⟨w.heap.size, 0, none⟩ (.int .i64 Q)).setCell ⟨w.heap.size, 1, none⟩ (.slice p n c)) w.heap.size Q (.slice p n c) := ⟨by simpa using lx2, by rw [World.cell?_setCell_other _ _ _ _ (by intro hh; injection hh with _ h3 _; omega)]; exact World.cell?_setCell_same _ _ _ y0, World.cell?_setCell_same _ _ _ (by rw [World.cell?_setCell_other _ _ _ _ (by intro hh; injection hh with _ h3 _; omega)]; exact y1)⟩
  have Z3 : QAt ((w2.setCell ⟨w.heap.size, 0, none⟩ (.int .i64 Q)).setCell ⟨w.heap.size, 1, none⟩ (.slice p n c)) (w.heap.size + 1) 0 (.slice none 0 0) := ⟨by simpa using lz2, by rw [World.cell?_setCell_other _ _ _ _ (by intro hh; injection hh with h3 _ _; omega), World.cell?_setCell_other _ _ _ _ (by intro hh; injection hh with h3 _ _; omega)]; exact z0, by rw [World.cell?_setCell_other _ _ _ _ (by intro hh; injection hh with h3 _ _; omega), World.cell?_setCell_other _ _ _ _ (by intro hh; injection hh with h3 _ _; omega)]; exact z1⟩
  have xf3 : ∀ j, ((w2.setCell ⟨w.heap.size, 0, none⟩ (.int .i64 Q)).setCell ⟨w.heap.size, 1, none⟩ (.slice p n c)).frozen? ⟨w.heap.size, j, none⟩ = false := fun j => by simpa using xf2 j
  have zf3 : ∀ j, ((w2.setCell ⟨w.heap.size, 0, none⟩ (.int .i64 Q)).setCell ⟨w.heap.size, 1, none⟩ (.slice p n c)).frozen? ⟨w.heap.size + 1, j, none⟩ = false := fun j => by simpa using zf2 j
  clear X1 Z1 zf1 xf1 x0 x1 lx hb2 hS
  go_wp2_with fail
  generalize (w2.setCell ⟨w.heap.size, 0, none⟩ (.int .i64 Q)).setCell ⟨w.heap.size, 1, none⟩ (.slice p n c) = w3 at bw3 hS3 X3 Z3 zf3 xf3 hb93 ⊢
  refine (hmeth _ w.heap.size base p c X3 (by omega) hb93 hS3 xf3).mono ?_
  rintro e w4 ⟨p', c', rfl, X4, hL, hsz, hb4, hoth⟩
  have bZ := hoth (w.heap.size + 1) (by omega) (by omega) Z3.lt
  have v0 := (World.cell?_of_block (w := w3) (a := ⟨w.heap.size + 1, 0, none⟩) bZ).trans Z3.c0
  have v1 := (World.cell?_of_block (w := w3) (a := ⟨w.heap.size + 1, 1, none⟩) bZ).trans Z3.c1
  have vf : ∀ j, w4.frozen? ⟨w.heap.size + 1, j, none⟩ = false := fun j => (World.frozen?_of_block (w := w3) (a := ⟨w.heap.size + 1, j, none⟩) bZ).trans (zf3 j)
  have bw4 : Below w.heap.size w w4 := bw3.trans hb4
  obtain ⟨lx, x0, x1⟩ := id X4
  have hrow := SRow.base (base := w.heap.size) (hL.low (w' := (w4.setCell ⟨w.heap.size + 1, 0, none⟩ (.int .i64 Q)).setCell ⟨w.heap.size + 1, 1, none⟩ (.slice p' m c')) (by simp) (fun j h1 _ => by rw [Below.heap_setCell _ _ _ _ (by show j ≠ w.heap.size + 1; omega), Below.heap_setCell _ _ _ _ (by show j ≠ w.heap.size + 1; omega)])) (by omega)
  clear X3 Z3 zf3 xf3 hb4 hL hS3 bw3 hoth bZ hmeth
  go_wp2
  refine bodyPost_ret (v := .tuple #[.agg #[.int .i64 Q, .slice p' m c'], .int .i64 cd]) (by simp [results, Tryd.results22, go_sem, v0, v1]) rfl ⟨p', c', rfl, hrow, ?_⟩
  exact (bw4.setCell (p := ⟨w.heap.size + 1, 0, none⟩) (Nat.le_succ _) _).setCell (p := ⟨w.heap.size + 1, 1, none⟩) (Nat.le_succ _) _
end Go.Proofs.YtiojjihonmonkaaDoor
