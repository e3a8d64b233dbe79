/- CrashFiles, the model's text. -/
import Derived.Test.YtiojjihonmonkaaDoorCrT
import Derived.Test.YtiojjihonmonkaaDoorSpecCreate
namespace Go.Proofs.YtiojjihonmonkaaDoor
open Go.RowKit
set_option linter.unusedSimpArgs false
set_option linter.unusedVariables false

theorem SRowC.base {w : World} {base base' n : Nat} {v : Value} {F : Nat → Fil} (h : SRowC w base v n F) (hb : base' ≤ base) : SRowC w base' v n F := by
  obtain ⟨xs, hl, hown, hdat, hc⟩ := h
  refine ⟨xs, hl, ⟨hown.1, ?_⟩, fun i x hx => ?_, hc⟩
  · rcases hown.2 with h0 | ⟨g, cap, cur, e, h1, h2⟩
    · exact .inl h0
    · exact .inr ⟨g, cap, cur, e, Nat.le_trans hb h1, h2⟩
  · obtain ⟨h1, h2, h3, h4, h5, h6⟩ := hdat i x hx
    exact ⟨h1, h2, h3, h4, fun b off e h0 => ⟨(h5 b off e h0).1, Nat.le_trans hb (h5 b off e h0).2⟩, h6⟩

theorem l2Crash_nil (Q : Int) (fb c : Nat) (p : Option Addr) (dv : Value) (w : World) (hq : QAt w fb Q (.slice p 0 c)) :
    Calls Tryd.prog 17 #[.pointer (some ⟨fb, 0, none⟩), dv] w fun e w' => e = .returned (.tuple #[]) ∧ w' = w := by
  obtain ⟨l0, b0, b1⟩ := hq
  go_enter Tryd.func17, Tryd.ntmps17
  go_wp2
  go_loopw [14] (fun i wr => i = .int .i64 0 ∧ wr = w) (fun _ _ => 0)
  case atStart => exact ⟨rfl, rfl⟩
  case round =>
    obtain ⟨rfl, rfl⟩ := hrel
    go_wp2
    go_end0
    exact ⟨rfl, rfl⟩

theorem l2Crash_any (Q : Int) (fb : Nat) (p : Option Addr) (n c base : Nat) (F : Nat → Fil) (bo : Option Addr) (dn bc : Nat) (d : Nat → Int) (hdn : dn ≤ bc) (hn : n ≤ 40) (hz : FSize n F 1048576) (HK : Hid (∀ i, i < n → fileOk F i = true)) (hfb : fb < base) (w : World) (hbs : base ≤ w.heap.size) (hq : QAt w fb Q (.slice p n c)) (hS : SRowC w base (.slice p n c) n F) (hd : IRow w bo dn d) (hlo : ∀ b off, bo = some ⟨b, off, none⟩ → dn ≠ 0 → b < base) :
    Calls Tryd.prog 17 #[.pointer (some ⟨fb, 0, none⟩), .slice bo dn bc] w fun e w' => e = .returned (.tuple #[]) ∧ QAt w' fb Q (.slice p n c) ∧ FLow w' base p n (crF F dn d n) ∧ Below base w w' := by
  by_cases h0 : n = 0
  · subst h0
    refine (l2Crash_nil Q fb c p _ w hq).mono ?_
    rintro e w' ⟨rfl, rfl⟩
    exact ⟨rfl, hq, fun u _ _ => ⟨.inl rfl⟩, Below.refl _ _⟩
  · obtain ⟨g, rfl, hg1, hg2, hgf, hgc⟩ := hS.at h0
    have hc0 : ∀ i, crF F dn d 0 i = F i := fun i => by unfold crF; rw [if_neg (by omega)]
    have C0 : SC w Q fb g n c base F dn d 0 (.slice bo dn bc) w := by
      refine ⟨⟨bo, bc, rfl, ⟨hdn, by simpa [uD] using hd⟩, fun b off e h0 => hlo b off e (by simpa [uD] using h0)⟩, hq, hgf, hg2, fun i hi => ?_, Below.refl _ _⟩
      obtain ⟨da, dc, hf, hc, hx⟩ := hgc i hi
      rw [hc0]
      exact ⟨da, dc, hf, fun _ => hc, hx⟩
    refine (l2Crash_some Q fb g n c base F bo dn bc d hn hz HK hfb hg1 w hbs C0).mono ?_
    rintro e w' ⟨rfl, dv, C⟩
    refine ⟨rfl, C.box, low_of hg1 C.glt fun i hi => ?_, C.bel⟩
    obtain ⟨da, dc, hf, _, hx⟩ := C.cel i hi
    exact ⟨da, dc, hf, fun b off e h0 => (hx b off e h0).2⟩

set_option maxHeartbeats 1000000 in
theorem crashFiles_spec_bad (Q : Int) (ao : Option Addr) (n cap : Nat) (F Fo : Nat → Fil) (dv : Value) (HG : Hid (goodF Q n F = false)) (w : World) (hr : FRow w ao n F) (hq : -9223372036854775808 ≤ Q ∧ Q ≤ 9223372036854775807) (hn : n ≤ 1048576) (hz : FSize n F 1048576) :
    Calls Tryd.prog 6 #[.agg #[.int .i64 Q, .slice ao n cap], dv] w fun e w' => SOut 0 1 0 Fo w e w' := by
  have hB : Below w.heap.size w ((w.alloc (.cells #[.int .i64 Q, .slice ao n cap] 25)).alloc (.cells #[.int .i64 0, .slice none 0 0] 25)) := ((Below.refl _ _).alloc (Nat.le_refl _) _).alloc (by simp) _
  have Z0 := QAt.new (w.alloc (.cells #[.int .i64 Q, .slice ao n cap] 25)) 0 (.slice none 0 0) 25
  rw [World.size_alloc] at Z0
  have zf : ∀ j, ((w.alloc (.cells #[.int .i64 Q, .slice ao n cap] 25)).alloc (.cells #[.int .i64 0, .slice none 0 0] 25)).frozen? ⟨w.heap.size + 1, j, none⟩ = false := fun j => by simp [go_sem]
  go_enter Tryd.func6, Tryd.ntmps6
  go_wp2_with fail
  refine (goodFiles_spec Q ao n cap F false HG _ (hr.keep hB) hq hn hz).mono ?_
  rintro e w1 ⟨rfl, hb1⟩
  have bw1 : Below w.heap.size w w1 := hB.trans (hb1.mono (by simp; omega))
  have zf1 : ∀ j, w1.frozen? ⟨w.heap.size + 1, j, none⟩ = false := fun j => (hb1.frozen (p := ⟨w.heap.size + 1, j, none⟩) (by simp)).trans (zf j)
  obtain ⟨lz, z0, z1⟩ := Z0.keep hb1
  clear hb1 hB Z0 zf
  go_wp2
  refine bodyPost_ret (v := .tuple #[.agg #[.int .i64 0, .slice none 0 0], .int .i64 1]) (by simp [results, Tryd.results6, go_sem, z0, z1]) rfl ⟨none, 0, rfl, ⟨.inl rfl⟩, ?_⟩
  exact (bw1.setCell (p := ⟨w.heap.size + 1, 0, none⟩) (Nat.le_succ _) _).setCell (p := ⟨w.heap.size + 1, 1, none⟩) (Nat.le_succ _) _

set_option maxHeartbeats 2000000 in
theorem crashFiles_spec_good (Q : Int) (ao : Option Addr) (n cap : Nat) (F : Nat → Fil) (bo : Option Addr) (dn bc : Nat) (d : Nat → Int) (hdn : dn ≤ bc) (HG : Hid (goodF Q n F = true)) (HK : Hid (∀ i, i < n → fileOk F i = true)) (h40 : n ≤ 40)
    (w : World) (HD : Hid (IRow w bo dn d)) (hr : FRow w ao n F) (hq : -9223372036854775808 ≤ Q ∧ Q ≤ 9223372036854775807) (hz : FSize n F 1048576) :
    Calls Tryd.prog 6 #[.agg #[.int .i64 Q, .slice ao n cap], .slice bo dn bc] w fun e w' => SOut Q 0 n (crF F dn d n) w e w' := by
  have hn : n ≤ 1048576 := by omega
  have hB : Below w.heap.size w ((w.alloc (.cells #[.int .i64 Q, .slice ao n cap] 25)).alloc (.cells #[.int .i64 0, .slice none 0 0] 25)) := ((Below.refl _ _).alloc (Nat.le_refl _) _).alloc (by simp) _
  have X0 : QAt ((w.alloc (.cells #[.int .i64 Q, .slice ao n cap] 25)).alloc (.cells #[.int .i64 0, .slice none 0 0] 25)) w.heap.size Q (.slice ao n cap) := (QAt.new w Q (.slice ao n cap) 25).keep ((Below.refl _ _).alloc (Nat.le_refl _) _)
  have Z0 := QAt.new (w.alloc (.cells #[.int .i64 Q, .slice ao n cap] 25)) 0 (.slice none 0 0) 25
  rw [World.size_alloc] at Z0
  have zf : ∀ j, ((w.alloc (.cells #[.int .i64 Q, .slice ao n cap] 25)).alloc (.cells #[.int .i64 0, .slice none 0 0] 25)).frozen? ⟨w.heap.size + 1, j, none⟩ = false := fun j => by simp [go_sem]
  have xf : ∀ j, ((w.alloc (.cells #[.int .i64 Q, .slice ao n cap] 25)).alloc (.cells #[.int .i64 0, .slice none 0 0] 25)).frozen? ⟨w.heap.size, j, none⟩ = false := fun j => by simp [go_sem]
  go_enter Tryd.func6, Tryd.ntmps6
  go_wp2_with fail
  refine (goodFiles_spec Q ao n cap F true HG _ (hr.keep hB) hq hn hz).mono ?_
  rintro e w1 ⟨rfl, hb1⟩
  have bw1 : Below w.heap.size w w1 := hB.trans (hb1.mono (by simp; omega))
  have zf1 : ∀ j, w1.frozen? ⟨w.heap.size + 1, j, none⟩ = false := fun j => (hb1.frozen (p := ⟨w.heap.size + 1, j, none⟩) (by simp)).trans (zf j)
  have xf1 : ∀ j, w1.frozen? ⟨w.heap.size, j, none⟩ = false := fun j => (hb1.frozen (p := ⟨w.heap.size, j, none⟩) (by simp; omega)).trans (xf j)
  have Z1 := Z0.keep hb1
  have X1 := X0.keep hb1
  clear hb1 hB Z0 X0 zf xf
  obtain ⟨lx, x0, x1⟩ := id X1
  go_wp2_with fail
  refine (l2Own_cap Q ao n cap F _ (hr.keep bw1) hn hz).mono ?_
  rintro e w2 ⟨v, rfl, hS, hb2⟩
  obtain ⟨p, c, rfl⟩ : ∃ p c, v = .slice p n c := by
    obtain ⟨xs, _, hown, _⟩ := hS.srow
    exact row_slice hown
  obtain ⟨lz2, z0, z1⟩ := Z1.keep hb2
  have zf2 : ∀ j, w2.frozen? ⟨w.heap.size + 1, j, none⟩ = false := fun j => (hb2.frozen (p := ⟨w.heap.size + 1, j, none⟩) Z1.lt).trans (zf1 j)
  have xf2 : ∀ j, w2.frozen? ⟨w.heap.size, j, none⟩ = false := fun j => (hb2.frozen (p := ⟨w.heap.size, j, none⟩) X1.lt).trans (xf1 j)
  obtain ⟨lx2, y0, y1⟩ := X1.keep hb2
  have bw2 : Below w.heap.size w w2 := bw1.trans (hb2.mono bw1.size)
  have s12 := hb2.size
  have lz1 := Z1.lt
  obtain ⟨base, hb0, hb9, hS⟩ : ∃ base, w.heap.size + 2 ≤ base ∧ base ≤ w2.heap.size ∧ SRowC w2 base (.slice p n c) n F := ⟨w1.heap.size, by omega, s12, hS.base (by omega)⟩
  have hb93 : base ≤ ((w2.setCell ⟨w.heap.size, 0, none⟩ (.int .i64 Q)).setCell ⟨w.heap.size, 1, none⟩ (.slice p n c)).heap.size := by simpa using hb9
  have bw3 : Below w.heap.size w ((w2.setCell ⟨w.heap.size, 0, none⟩ (.int .i64 Q)).setCell ⟨w.heap.size, 1, none⟩ (.slice p n c)) := (bw2.setCell (p := ⟨w.heap.size, 0, none⟩) (Nat.le_refl _) _).setCell (p := ⟨w.heap.size, 1, none⟩) (Nat.le_refl _) _
  have hS3 : SRowC ((w2.setCell ⟨w.heap.size, 0, none⟩ (.int .i64 Q)).setCell ⟨w.heap.size, 1, none⟩ (.slice p n c)) base (.slice p n c) n F := hS.low (by simp) (fun j h1 _ => by rw [Below.heap_setCell _ _ _ _ (by show j ≠ w.heap.size; omega), Below.heap_setCell _ _ _ _ (by show j ≠ w.heap.size; omega)])
  have X3 : QAt ((w2.setCell ⟨w.heap.size, 0, none⟩ (.int .i64 Q)).setCell ⟨w.heap.size, 1, none⟩ (.slice p n c)) w.heap.size Q (.slice p n c) := ⟨by simpa using lx2, by rw [World.cell?_setCell_other _ _ _ _ (by intro hh; injection hh with _ h3 _; omega)]; exact World.cell?_setCell_same _ _ _ y0, World.cell?_setCell_same _ _ _ (by rw [World.cell?_setCell_other _ _ _ _ (by intro hh; injection hh with _ h3 _; omega)]; exact y1)⟩
  have Z3 : QAt ((w2.setCell ⟨w.heap.size, 0, none⟩ (.int .i64 Q)).setCell ⟨w.heap.size, 1, none⟩ (.slice p n c)) (w.heap.size + 1) 0 (.slice none 0 0) := ⟨by simpa using lz2, by rw [World.cell?_setCell_other _ _ _ _ (by intro hh; injection hh with h3 _ _; omega), World.cell?_setCell_other _ _ _ _ (by intro hh; injection hh with h3 _ _; omega)]; exact z0, by rw [World.cell?_setCell_other _ _ _ _ (by intro hh; injection hh with h3 _ _; omega), World.cell?_setCell_other _ _ _ _ (by intro hh; injection hh with h3 _ _; omega)]; exact z1⟩
  have xf3 : ∀ j, ((w2.setCell ⟨w.heap.size, 0, none⟩ (.int .i64 Q)).setCell ⟨w.heap.size, 1, none⟩ (.slice p n c)).frozen? ⟨w.heap.size, j, none⟩ = false := fun j => by simpa using xf2 j
  have zf3 : ∀ j, ((w2.setCell ⟨w.heap.size, 0, none⟩ (.int .i64 Q)).setCell ⟨w.heap.size, 1, none⟩ (.slice p n c)).frozen? ⟨w.heap.size + 1, j, none⟩ = false := fun j => by simpa using zf2 j
  clear X1 Z1 zf1 xf1 x0 x1 lx hb2 hS
  go_wp2_with fail
  generalize (w2.setCell ⟨w.heap.size, 0, none⟩ (.int .i64 Q)).setCell ⟨w.heap.size, 1, none⟩ (.slice p n c) = w3 at bw3 hS3 X3 Z3 zf3 xf3 hb93 ⊢
  have hd3 := HD.out.keep bw3
  refine (l2Crash_any Q w.heap.size p n c base F bo dn bc d hdn h40 hz HK (by omega) _ hb93 X3 hS3 hd3 (fun b off e h0 => by
    obtain ⟨b', off', e', h1, _⟩ := HD.out.lies.resolve_left h0
    rw [e] at e'
    injection e' with e'
    injection e' with e' _ _
    omega)).mono ?_
  rintro e w4 ⟨rfl, X4, hL, hb4⟩
  have bZ := hb4.block (w.heap.size + 1) (by omega)
  have v0 := (World.cell?_of_block (w := w3) (a := ⟨w.heap.size + 1, 0, none⟩) bZ).trans Z3.c0
  have v1 := (World.cell?_of_block (w := w3) (a := ⟨w.heap.size + 1, 1, none⟩) bZ).trans Z3.c1
  have vf : ∀ j, w4.frozen? ⟨w.heap.size + 1, j, none⟩ = false := fun j => (World.frozen?_of_block (w := w3) (a := ⟨w.heap.size + 1, j, none⟩) bZ).trans (zf3 j)
  have bw4 : Below w.heap.size w w4 := bw3.trans (hb4.mono (by omega))
  obtain ⟨lx, x0, x1⟩ := id X4
  have hrow := hL ((w4.setCell ⟨w.heap.size + 1, 0, none⟩ (.int .i64 Q)).setCell ⟨w.heap.size + 1, 1, none⟩ (.slice p n c)) (by simp) (fun j h1 _ => by rw [Below.heap_setCell _ _ _ _ (by show j ≠ w.heap.size + 1; omega), Below.heap_setCell _ _ _ _ (by show j ≠ w.heap.size + 1; omega)])
  clear X3 Z3 zf3 xf3 hb4 hL hS3 bw3 bZ hd3
  go_wp2
  refine bodyPost_ret (v := .tuple #[.agg #[.int .i64 Q, .slice p n c], .int .i64 0]) (by simp [results, Tryd.results6, go_sem, v0, v1]) rfl ⟨p, c, rfl, hrow, ?_⟩
  exact (bw4.setCell (p := ⟨w.heap.size + 1, 0, none⟩) (Nat.le_succ _) _).setCell (p := ⟨w.heap.size + 1, 1, none⟩) (Nat.le_succ _) _
end Go.Proofs.YtiojjihonmonkaaDoor
