/- The model's cursor: numbers drawn from bytes. -/
import Derived.Test.YtohjjigkfdhklaaGreatBase
import Derived.OpenShut
import Derived.Laws.BitsAllLaws
namespace Go.Proofs.YtohjjigkfdhklaaGreat
set_option maxRecDepth 100000
open Go.RowKit
set_option linter.unusedSimpArgs false
set_option linter.unusedVariables false

theorem grown_of_below {w w' : World} (h : Below w.heap.size w w') (row : Option Nat) : w.grownBy w' row := ⟨h.os, h.tape, h.output, h.size, fun k hk _ => h.block k hk⟩
theorem grown_refl (w : World) (row : Option Nat) : w.grownBy w row := ⟨rfl, rfl, rfl, Nat.le_refl _, fun _ _ _ => rfl⟩
theorem grown_set (w : World) (RB i : Nat) (x : Value) : w.grownBy (w.setCell ⟨RB, i, none⟩ x) (some RB) :=
  ⟨rfl, rfl, rfl, by simp, fun k hk hne => Below.heap_setCell _ _ _ _ (fun e => hne (by rw [e]))⟩

/-- The cursor in block CB. -/
structure Cu (w : World) (CB : Nat) (cv : Value) (a : Nat) (sd : Int) : Prop where
  lt : CB < w.heap.size
  c0 : w.cell? ⟨CB, 0, none⟩ = some cv
  c1 : w.cell? ⟨CB, 1, none⟩ = some (.int .i64 a)
  c2 : w.cell? ⟨CB, 2, none⟩ = some (.int .u64 sd)
  fz : ∀ i, w.frozen? ⟨CB, i, none⟩ = false
  sb : 0 ≤ sd ∧ sd ≤ 18446744073709551615
theorem Cu.keep {w w' : World} {CB : Nat} {cv : Value} {a : Nat} {sd : Int} (h : Cu w CB cv a sd) (hb : Below w.heap.size w w') : Cu w' CB cv a sd :=
  ⟨Nat.lt_of_lt_of_le h.lt hb.size, (hb.cell (p := ⟨CB, 0, none⟩) h.lt).trans h.c0, (hb.cell (p := ⟨CB, 1, none⟩) h.lt).trans h.c1, (hb.cell (p := ⟨CB, 2, none⟩) h.lt).trans h.c2, fun i => (hb.frozen (p := ⟨CB, i, none⟩) h.lt).trans (h.fz i), h.sb⟩
theorem Cu.set1 {w : World} {CB : Nat} {cv : Value} {a : Nat} {sd : Int} (h : Cu w CB cv a sd) (a' : Nat) : Cu (w.setCell ⟨CB, 1, none⟩ (.int .i64 a')) CB cv a' sd :=
  ⟨by simpa using h.lt, by rw [World.cell?_setCell_other _ _ _ _ (by intro hh; injection hh with _ h2 _; omega)]; exact h.c0, by rw [World.cell?_setCell_same _ _ _ h.c1], by rw [World.cell?_setCell_other _ _ _ _ (by intro hh; injection hh with _ h2 _; omega)]; exact h.c2, fun i => by simpa using h.fz i, h.sb⟩
theorem Cu.set2 {w : World} {CB : Nat} {cv : Value} {a : Nat} {sd : Int} (h : Cu w CB cv a sd) (s' : Int) (hs : 0 ≤ s' ∧ s' ≤ 18446744073709551615) : Cu (w.setCell ⟨CB, 2, none⟩ (.int .u64 s')) CB cv a s' :=
  ⟨by simpa using h.lt, by rw [World.cell?_setCell_other _ _ _ _ (by intro hh; injection hh with _ h2 _; omega)]; exact h.c0, by rw [World.cell?_setCell_other _ _ _ _ (by intro hh; injection hh with _ h2 _; omega)]; exact h.c1, by rw [World.cell?_setCell_same _ _ _ h.c2], fun i => by simpa using h.fz i, hs⟩

/-- The cursor's bytes: they lie outside its block. -/
structure Cb (w : World) (CB : Nat) (ao : Option Addr) (n : Nat) (f : Nat → Int) : Prop where
  row : Row w ao n f
  ne : ∀ b off, ao = some ⟨b, off, none⟩ → n ≠ 0 → b ≠ CB
theorem Cb.grown {w w' : World} {CB : Nat} {ao : Option Addr} {n : Nat} {f : Nat → Int} (h : Cb w CB ao n f) (hg : w.grownBy w' (some CB)) : Cb w' CB ao n f := by
  refine ⟨⟨h.row.bd, ?_⟩, h.ne⟩
  rcases h.row.lies with h0 | ⟨b, off, e, hlt, hc⟩
  · exact .inl h0
  · by_cases h0 : n = 0
    · exact .inl h0
    · exact .inr ⟨b, off, e, Nat.lt_of_lt_of_le hlt hg.size, fun i hi => hg.cell (hc i hi) (fun e' => h.ne b off e h0 (Option.some.inj e'))⟩
theorem Cb.keep {w w' : World} {CB : Nat} {ao : Option Addr} {n : Nat} {f : Nat → Int} (h : Cb w CB ao n f) (hb : Below w.heap.size w w') : Cb w' CB ao n f := ⟨h.row.keep hb, h.ne⟩

theorem and255 {x : Int} (h : 0 ≤ x ∧ x ≤ 18446744073709551615) : 0 ≤ bits .and .u64 x 255 ∧ bits .and .u64 x 255 ≤ 255 := by
  obtain ⟨m, rfl⟩ := Int.eq_ofNat_of_zero_le h.1
  rw [show (255 : Int) = ((255 : Nat) : Int) from rfl, u64_and_nat _ _ (by omega) (by omega)]
  have : m &&& 255 ≤ 255 := Nat.and_le_right
  omega

/-- What a draw leaves. -/
def Drw (CB : Nat) (cv : Value) (a q : Nat) (w : World) (x : Int) (w' : World) : Prop :=
  0 ≤ x ∧ x < q ∧ (∃ sd, Cu w' CB cv (a + 1) sd) ∧ w.grownBy w' (some CB)

set_option maxHeartbeats 1000000 in
theorem nextC_any (CB : Nat) (ao : Option Addr) (n cap a : Nat) (f : Nat → Int) (sd : Int) (w : World) (hC : Cu w CB (.slice ao n cap) a sd) (hB : Cb w CB ao n f) (hn : n ≤ 1048576) (ha : a ≤ 1000000000) :
    Calls Tryz.prog 77 #[.pointer (some ⟨CB, 0, none⟩)] w fun e w' => ∃ x, e = .returned (.int .i64 x) ∧ Drw CB (.slice ao n cap) a 256 w x w' := by
  obtain ⟨hlt, c0, c1, c2, fz, sb⟩ := id hC
  have gw := grown_refl w (some CB)
  by_cases h : a < n
  · obtain ⟨b, off, rfl, hblt, hc⟩ := hB.row.lies.resolve_left (by omega)
    have hca := hc a h
    have hfa := hB.row.bd a
    have hlt' : (a : Int) < (n : Int) := by omega
    have hle' : (a : Int) + 1 ≤ (n : Int) := by omega
    clear hc
    go_enter Tryz.func77, Tryz.ntmps77
    go_wp2
    go_quiet (fail)
    have bx := below_drewN (Below.refl w.heap.size w) nq
    have C1 := hC.keep bx
    have g1 := gw.trans (grown_of_below bx (some CB))
    have hcax := (bx.cell (p := ⟨b, off + a, none⟩) hblt).trans hca
    generalize w.drewN nq = x at C1 g1 bx hcax ⊢
    obtain ⟨ltx, px0, px1, px2, fzx, _⟩ := id C1
    go_wp2
    go_quiet (fail)
    have bz := below_drewN (Below.refl x.heap.size x) nq
    have C2 := C1.keep bz
    have g2 := g1.trans (grown_of_below bz (some CB))
    generalize x.drewN nq = z at C2 g2 bz  ⊢
    obtain ⟨ltz, pz0, pz1, pz2, fzz, _⟩ := id C2
    have f1 := fzz 1
    have f2 := fzz 2
    go_wp2
    generalize hS : IntKind.u64.wrap (IntKind.u64.wrap (IntKind.u64.wrap (sd * 6364136223846793005) + f a) + 1442695040888963407) = s'
    have sb' : 0 ≤ s' ∧ s' ≤ 18446744073709551615 := by rw [← hS]; exact bounds_u64 (wf_wrap _ _)
    clear hS
    have C8 := (C2.set1 (a + 1)).set2 s' sb'
    have g8 := (g2.trans (grown_set z CB 1 (.int .i64 ((a + 1 : Nat) : Int)))).trans (grown_set _ CB 2 (.int .u64 s'))
    have ea : (((a + 1 : Nat) : Nat) : Int) = (a : Int) + 1 := by omega
    rw [ea] at C8 g8
    generalize (z.setCell ⟨CB, 1, none⟩ (.int .i64 ((a : Int) + 1))).setCell ⟨CB, 2, none⟩ (.int .u64 s') = u at C8 g8 ⊢
    obtain ⟨ult, u0, u1, u2, ufz, _⟩ := id C8
    rw [ea] at u1
    go_quiet (fail)
    have bv := below_drewN (Below.refl u.heap.size u) nq
    have C9 := C8.keep bv
    have g9 := g8.trans (grown_of_below bv (some CB))
    generalize u.drewN nq = v at C9 g9 bv  ⊢
    obtain ⟨ltv, pv0, pv1, pv2, fzv, _⟩ := id C9
    go_wp2
    go_ret
    exact ⟨f a, rfl, by omega, by omega, ⟨s', C9⟩, g9⟩
  · have hlt' : decide ((a : Int) < (n : Int)) = false := by simp; omega
    have hle' : decide ((a : Int) + 1 ≤ (n : Int)) = false := by simp; omega
    go_enter Tryz.func77, Tryz.ntmps77
    go_wp2
    go_quiet (fail)
    have bz := below_drewN (Below.refl w.heap.size w) nq
    have C2 := hC.keep bz
    have g2 := gw.trans (grown_of_below bz (some CB))
    generalize w.drewN nq = z at C2 g2 bz  ⊢
    obtain ⟨ltz, pz0, pz1, pz2, fzz, _⟩ := id C2
    have f1 := fzz 1
    have f2 := fzz 2
    go_wp2
    generalize hS : IntKind.u64.wrap (IntKind.u64.wrap (IntKind.u64.wrap (sd * 6364136223846793005)) + 1442695040888963407) = s'
    have sb' : 0 ≤ s' ∧ s' ≤ 18446744073709551615 := by rw [← hS]; exact bounds_u64 (wf_wrap _ _)
    clear hS
    have C8 := (C2.set1 (a + 1)).set2 s' sb'
    have g8 := (g2.trans (grown_set z CB 1 (.int .i64 ((a + 1 : Nat) : Int)))).trans (grown_set _ CB 2 (.int .u64 s'))
    have ea : (((a + 1 : Nat) : Nat) : Int) = (a : Int) + 1 := by omega
    rw [ea] at C8 g8
    generalize (z.setCell ⟨CB, 1, none⟩ (.int .i64 ((a : Int) + 1))).setCell ⟨CB, 2, none⟩ (.int .u64 s') = u at C8 g8 ⊢
    obtain ⟨ult, u0, u1, u2, ufz, _⟩ := id C8
    rw [ea] at u1
    go_quiet (fail)
    have bv := below_drewN (Below.refl u.heap.size u) nq
    have C9 := C8.keep bv
    have g9 := g8.trans (grown_of_below bv (some CB))
    generalize u.drewN nq = v at C9 g9 bv  ⊢
    obtain ⟨ltv, pv0, pv1, pv2, fzv, _⟩ := id C9
    have hb := and255 (x := s' / 1099511627776) (by omega)
    go_wp2
    go_ret
    exact ⟨_, rfl, hb.1, by omega, ⟨s', C9⟩, g9⟩

theorem pick_any (q : Nat) (hq : 2 ≤ q ∧ q ≤ 200) (CB : Nat) (ao : Option Addr) (n cap a : Nat) (f : Nat → Int) (sd : Int) (w : World) (hC : Cu w CB (.slice ao n cap) a sd) (hB : Cb w CB ao n f) (hn : n ≤ 1048576) (ha : a ≤ 1000000000) :
    Calls Tryz.prog 45 #[.pointer (some ⟨CB, 0, none⟩), .int .i64 q] w fun e w' => ∃ x, e = .returned (.int .i64 x) ∧ Drw CB (.slice ao n cap) a q w x w' := by
  have h1 : decide ((q : Int) ≤ 1) = false := by simp; omega
  have h2 : ¬ (200 : Int) < (q : Int) := by omega
  have h3 : ¬ (q : Int) = 0 := by omega
  go_enter Tryz.func45, Tryz.ntmps45
  go_wp2_with fail
  refine (nextC_any CB ao n cap a f sd _ hC hB hn ha).mono ?_
  rintro e w1 ⟨x, rfl, x0, x1, hC1, g1⟩
  have t0 := Int.emod_nonneg x h3
  have t1 := Int.emod_lt_of_pos x (show (0 : Int) < (q : Int) by omega)
  go_wp2
  go_ret
  exact ⟨_, rfl, t0, t1, hC1, g1⟩

theorem one_any (q : Nat) (hq : 2 ≤ q ∧ q ≤ 200) (CB : Nat) (ao : Option Addr) (n cap a : Nat) (f : Nat → Int) (sd : Int) (w : World) (hC : Cu w CB (.slice ao n cap) a sd) (hB : Cb w CB ao n f) (hn : n ≤ 1048576) (ha : a ≤ 1000000000) :
    Calls Tryz.prog 44 #[.pointer (some ⟨CB, 0, none⟩), .int .i64 q] w fun e w' => ∃ b, e = .returned (.bool b) ∧ (∃ sd, Cu w' CB (.slice ao n cap) (a + 1) sd) ∧ w.grownBy w' (some CB) := by
  go_enter Tryz.func44, Tryz.ntmps44
  go_wp2_with fail
  refine (pick_any q hq CB ao n cap a f sd _ hC hB hn ha).mono ?_
  rintro e w1 ⟨x, rfl, x0, x1, hC1, g1⟩
  go_wp2
  go_ret
  exact ⟨_, rfl, hC1, g1⟩

theorem pickW_any (q : Nat) (hq : 201 ≤ q ∧ q ≤ 100000) (CB : Nat) (ao : Option Addr) (n cap a : Nat) (f : Nat → Int) (sd : Int) (w : World) (hC : Cu w CB (.slice ao n cap) a sd) (hB : Cb w CB ao n f) (hn : n ≤ 1048576) (ha : a ≤ 999999999) :
    Calls Tryz.prog 45 #[.pointer (some ⟨CB, 0, none⟩), .int .i64 q] w fun e w' => ∃ x, e = .returned (.int .i64 x) ∧ 0 ≤ x ∧ x < q ∧ (∃ sd, Cu w' CB (.slice ao n cap) (a + 1 + 1) sd) ∧ w.grownBy w' (some CB) := by
  have h1 : decide ((q : Int) ≤ 1) = false := by simp; omega
  have h2 : (200 : Int) < (q : Int) := by omega
  have h3 : ¬ (q : Int) = 0 := by omega
  go_enter Tryz.func45, Tryz.ntmps45
  go_wp2_with fail
  refine (nextC_any CB ao n cap a f sd _ hC hB hn (by omega)).mono ?_
  rintro e w1 ⟨x, rfl, x0, x1, ⟨sd1, C1⟩, g1⟩
  go_wp2_with fail
  refine (nextC_any CB ao n cap (a + 1) f sd1 _ C1 (hB.grown g1) hn (by omega)).mono ?_
  rintro e w2 ⟨y, rfl, y0, y1, C2, g2⟩
  have t0 := Int.emod_nonneg (x * 256 + y) h3
  have t1 := Int.emod_lt_of_pos (x * 256 + y) (show (0 : Int) < (q : Int) by omega)
  go_wp2
  go_ret
  exact ⟨_, rfl, t0, t1, C2, g1.trans g2⟩

end Go.Proofs.YtohjjigkfdhklaaGreat
