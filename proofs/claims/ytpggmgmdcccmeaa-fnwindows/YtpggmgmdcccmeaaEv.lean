/- Numbers drawn for PutVar and PutFixed. / The model's cursor bundled. / A drawn value, a drawn event. -/
import Derived.Test.YtpggmgmdcccmeaaDl
import Derived.Test.YtpggmgmdcccmeaaDm
namespace Go.Proofs.Ytpggmgmdcccmeaa
open Go.RowKit
set_option linter.unusedSimpArgs false
set_option linter.unusedVariables false

theorem pow_one_le (k : Nat) : (1 : Int) ≤ 2 ^ k := by
  have := Int.pow_pos (show (0 : Int) < 2 by omega) (m := k)
  omega
theorem div_bd_u {m M : Int} {k : Nat} (h : 0 ≤ m ∧ m ≤ M) : 0 ≤ m / 2 ^ k ∧ m / 2 ^ k ≤ M := by
  have hp := pow_one_le k
  exact ⟨Int.ediv_nonneg h.1 (by omega), Int.le_trans (Int.ediv_le_self _ h.1) h.2⟩
theorem div_bd_i {z : Int} {k : Nat} (h : -9223372036854775808 ≤ z ∧ z ≤ 9223372036854775807) : -9223372036854775808 ≤ z / 2 ^ k ∧ z / 2 ^ k ≤ 9223372036854775807 := by
  have hp := pow_one_le k
  by_cases h0 : 0 ≤ z
  · have := div_bd_u (k := k) ⟨h0, h.2⟩
    omega
  · have h1 : z / 2 ^ k < 0 := Int.ediv_neg_of_neg_of_pos (by omega) (by omega)
    have h2 : z ≤ z / 2 ^ k := by
      rw [Int.le_ediv_iff_mul_le (by omega)]
      have := Int.mul_le_mul_of_nonpos_left (show z ≤ 0 by omega) hp
      rw [Int.mul_one] at this
      exact this
    omega

theorem cu_new (w : World) (cv : Value) (T : Nat) : Cu (w.alloc (.cells #[cv, .int .i64 0, .int .u64 0] T)) w.heap.size cv 0 0 := by
  have hh : (w.alloc (.cells #[cv, .int .i64 0, .int .u64 0] T)).heap[w.heap.size]? = some (.cells #[cv, .int .i64 0, .int .u64 0] T (0, 0)) := heap_alloc_new w _
  exact ⟨by simp, cell_of_row _ _ _ _ _ _ hh, cell_of_row _ _ _ _ _ _ hh, cell_of_row _ _ _ _ _ _ hh, fun i => frozen_of_row _ _ _ _ _ hh, by omega⟩
theorem cb_new {w : World} {ao : Option Addr} {n : Nat} {f : Nat → Int} (hr : Row w ao n f) (o : Obj) : Cb (w.alloc o) w.heap.size ao n f :=
  ⟨hr.keep ((Below.refl _ _).alloc (Nat.le_refl _) _), fun b off e h0 => by
    obtain ⟨b', off', e', h1, _⟩ := hr.lies.resolve_left h0
    rw [e] at e'
    injection e' with e'
    injection e' with e' _ _
    omega⟩
theorem below_cur {w w' : World} {o : Obj} (hg : (w.alloc o).grownBy w' (some w.heap.size)) : Below w.heap.size w w' :=
  ((Below.refl _ _).alloc (Nat.le_refl _) o).trans ⟨hg.os, hg.tape, hg.output, hg.size, fun k hk => hg.block k (by simp; omega) (by simp; omega)⟩

set_option maxHeartbeats 2000000 in
theorem sized_any (CB : Nat) (ao : Option Addr) (n cap a : Nat) (f : Nat → Int) (sd : Int) (w : World) (hC : Cu w CB (.slice ao n cap) a sd) (hB : Cb w CB ao n f) (hn : n ≤ 1048576) (ha : a ≤ 100000) :
    Calls Try.prog 30 #[.pointer (some ⟨CB, 0, none⟩)] w fun e w' => ∃ x, e = .returned (.int .i64 x) ∧ (-9223372036854775808 ≤ x ∧ x ≤ 9223372036854775807) ∧ (∃ a' sd, a' ≤ a + 100 ∧ Cu w' CB (.slice ao n cap) a' sd) ∧ w.grownBy w' (some CB) := by
  go_enter Try.func30, Try.ntmps30
  go_wp2_with fail
  refine (pick_any 5 (by omega) CB ao n cap a f sd _ hC hB hn (by omega)).mono ?_
  rintro e w1 ⟨x, rfl, x0, x1, ⟨sd1, C1⟩, g1⟩
  have B1 := hB.grown g1
  go_wp2_with fail
  refine (pick_any 8 (by omega) CB ao n cap (a + 1) f sd1 _ C1 B1 hn (by omega)).mono ?_
  rintro e w2 ⟨y, rfl, y0, y1, ⟨sd2, C2⟩, g2⟩
  have B2 := B1.grown g2
  have G2 := g1.trans g2
  clear g1 g2 C1 B1
  have hy : y = 0 ∨ y = 1 ∨ y = 2 ∨ y = 3 ∨ 4 ≤ y := by omega
  rcases hy with rfl | rfl | rfl | rfl | hy
  · go_wp2_with fail
    refine (pickW_any 300 (by omega) CB ao n cap (a + 1 + 1) f sd2 _ C2 B2 hn (by omega)).mono ?_
    rintro e w4 ⟨v, rfl, v0, v1, ⟨sd4, C4⟩, g4⟩
    have B4 := B2.grown g4
    have G4 := G2.trans g4
    have hT : -9223372036854775808 ≤ v ∧ v ≤ 9223372036854775807 := by omega
    generalize v = z5 at hT ⊢
    go_wp2_with fail
    refine (one_any 3 (by omega) CB ao n cap (a + 1 + 1 + 1 + 1) f sd4 _ C4 B4 hn (by omega)).mono ?_
    rintro e w6 ⟨b6, rfl, ⟨sd6, C6⟩, g6⟩
    have G6 := G4.trans g6
    cases b6
    · go_wp2
      go_ret
      exact ⟨_, rfl, hT, ⟨_, sd6, by omega, C6⟩, G6⟩
    · go_wp2
      go_ret
      exact ⟨_, rfl, by first | exact bounds_i64 (wrap64_wf _) | exact bounds_i64 (wf_wrap _ _) | omega, ⟨_, sd6, by omega, C6⟩, G6⟩
  · go_wp2_with fail
    refine (wide_any CB ao n cap (a + 1 + 1) f sd2 _ C2 B2 hn (by omega)).mono ?_
    rintro e w3 ⟨z, rfl, hz, ⟨sd3, C3⟩, g3⟩
    have B3 := B2.grown g3
    go_wp2_with fail
    refine (pick_any 64 (by omega) CB ao n cap (a + 1 + 1 + 8) f sd3 _ C3 B3 hn (by omega)).mono ?_
    rintro e w4 ⟨v, rfl, v0, v1, ⟨sd4, C4⟩, g4⟩
    obtain ⟨k, rfl⟩ := Int.eq_ofNat_of_zero_le v0
    have B4 := B3.grown g4
    have G4 := (G2.trans g3).trans g4
    have hT := div_bd_i (k := k) hz
    go_wp2_with fail
    generalize z / 2 ^ k = z5 at hT ⊢
    refine (one_any 3 (by omega) CB ao n cap (a + 1 + 1 + 8 + 1) f sd4 _ C4 B4 hn (by omega)).mono ?_
    rintro e w6 ⟨b6, rfl, ⟨sd6, C6⟩, g6⟩
    have G6 := G4.trans g6
    cases b6
    · go_wp2
      go_ret
      exact ⟨_, rfl, hT, ⟨_, sd6, by omega, C6⟩, G6⟩
    · go_wp2
      go_ret
      exact ⟨_, rfl, by first | exact bounds_i64 (wrap64_wf _) | exact bounds_i64 (wf_wrap _ _) | omega, ⟨_, sd6, by omega, C6⟩, G6⟩
  · go_wp2_with fail
    refine (pick_any 64 (by omega) CB ao n cap (a + 1 + 1) f sd2 _ C2 B2 hn (by omega)).mono ?_
    rintro e w4 ⟨v, rfl, v0, v1, ⟨sd4, C4⟩, g4⟩
    obtain ⟨k, rfl⟩ := Int.eq_ofNat_of_zero_le v0
    have B4 := B2.grown g4
    have G4 := G2.trans g4
    have hT := bounds_i64 (wrap64_wf (2 ^ k))
    go_wp2_with fail
    generalize wrap64 (2 ^ k) = z5 at hT ⊢
    refine (one_any 3 (by omega) CB ao n cap (a + 1 + 1 + 1) f sd4 _ C4 B4 hn (by omega)).mono ?_
    rintro e w6 ⟨b6, rfl, ⟨sd6, C6⟩, g6⟩
    have G6 := G4.trans g6
    cases b6
    · go_wp2
      go_ret
      exact ⟨_, rfl, hT, ⟨_, sd6, by omega, C6⟩, G6⟩
    · go_wp2
      go_ret
      exact ⟨_, rfl, by first | exact bounds_i64 (wrap64_wf _) | exact bounds_i64 (wf_wrap _ _) | omega, ⟨_, sd6, by omega, C6⟩, G6⟩
  · go_wp2_with fail
    refine (pick_any 64 (by omega) CB ao n cap (a + 1 + 1) f sd2 _ C2 B2 hn (by omega)).mono ?_
    rintro e w4 ⟨v, rfl, v0, v1, ⟨sd4, C4⟩, g4⟩
    obtain ⟨k, rfl⟩ := Int.eq_ofNat_of_zero_le v0
    have B4 := B2.grown g4
    have G4 := G2.trans g4
    go_wp2_with fail
    have hT := bounds_i64 (wrap64_wf (wrap64 (2 ^ k) - 1))
    generalize wrap64 (wrap64 (2 ^ k) - 1) = z5 at hT ⊢
    refine (one_any 3 (by omega) CB ao n cap (a + 1 + 1 + 1) f sd4 _ C4 B4 hn (by omega)).mono ?_
    rintro e w6 ⟨b6, rfl, ⟨sd6, C6⟩, g6⟩
    have G6 := G4.trans g6
    cases b6
    · go_wp2
      go_ret
      exact ⟨_, rfl, hT, ⟨_, sd6, by omega, C6⟩, G6⟩
    · go_wp2
      go_ret
      exact ⟨_, rfl, by first | exact bounds_i64 (wrap64_wf _) | exact bounds_i64 (wf_wrap _ _) | omega, ⟨_, sd6, by omega, C6⟩, G6⟩
  · have y0' : (y == 0) = false := by simp; omega
    have y1' : (y == 1) = false := by simp; omega
    have y2' : (y == 2) = false := by simp; omega
    have y3' : (y == 3) = false := by simp; omega
    have hT : -9223372036854775808 ≤ x ∧ x ≤ 9223372036854775807 := by omega
    generalize x = z5 at hT ⊢
    go_wp2_with fail
    refine (one_any 3 (by omega) CB ao n cap (a + 1 + 1) f sd2 _ C2 B2 hn (by omega)).mono ?_
    rintro e w6 ⟨b6, rfl, ⟨sd6, C6⟩, g6⟩
    have G6 := G2.trans g6
    cases b6
    · go_wp2
      go_ret
      exact ⟨_, rfl, hT, ⟨_, sd6, by omega, C6⟩, G6⟩
    · go_wp2
      go_ret
      exact ⟨_, rfl, by first | exact bounds_i64 (wrap64_wf _) | exact bounds_i64 (wf_wrap _ _) | omega, ⟨_, sd6, by omega, C6⟩, G6⟩

end Go.Proofs.Ytpggmgmdcccmeaa
namespace Go.Proofs.Ytpggmgmdcccmeaa
open Go.RowKit
set_option linter.unusedSimpArgs false
set_option linter.unusedVariables false

theorem Cu.blk {w w' : World} {CB : Nat} {cv : Value} {a : Nat} {sd : Int} (h : Cu w CB cv a sd) (hs : w.heap.size ≤ w'.heap.size) (hb : w'.heap[CB]? = w.heap[CB]?) : Cu w' CB cv a sd :=
  have k : ∀ i, w'.cell? ⟨CB, i, none⟩ = w.cell? ⟨CB, i, none⟩ := fun i => World.cell?_of_block (w := w) (a := ⟨CB, i, none⟩) hb
  ⟨Nat.lt_of_lt_of_le h.lt hs, (k 0).trans h.c0, (k 1).trans h.c1, (k 2).trans h.c2, fun i => (World.frozen?_of_block (w := w) (a := ⟨CB, i, none⟩) hb).trans (h.fz i), h.sb⟩
theorem grown_far {w u u' : World} {CB : Nat} {row : Option Nat} (h : w.grownBy u (some CB)) (g : u.grownBy u' row) (hr : ∀ k, row = some k → w.heap.size ≤ k) : w.grownBy u' (some CB) :=
  ⟨g.os.trans h.os, g.tape.trans h.tape, g.output.trans h.output, Nat.le_trans h.size g.size, fun k hk hne => (g.block k (Nat.lt_of_lt_of_le hk h.size) (fun e => by have := hr k e.symm; omega)).trans (h.block k hk hne)⟩
/-- A cursor at work since w0; at most A draws. -/
structure CS (w0 w : World) (CB : Nat) (ao : Option Addr) (n cap : Nat) (f : Nat → Int) (A : Nat) : Prop where
  cu : ∃ a sd, a ≤ A ∧ Cu w CB (.slice ao n cap) a sd
  cb0 : Cb w0 CB ao n f
  gr : w0.grownBy w (some CB)
  lt : CB < w0.heap.size
  sz : n ≤ 1048576
section
variable {w0 w w' : World} {CB : Nat} {ao : Option Addr} {n cap : Nat} {f : Nat → Int} {A A' : Nat}
theorem CS.cb (h : CS w0 w CB ao n cap f A) : Cb w CB ao n f := h.cb0.grown h.gr
theorem CS.ltw (h : CS w0 w CB ao n cap f A) : CB < w.heap.size := Nat.lt_of_lt_of_le h.lt h.gr.size
theorem CS.self (h : CS w0 w CB ao n cap f A) : CS w w CB ao n cap f A := ⟨h.cu, h.cb, grown_refl _ _, h.ltw, h.sz⟩
theorem CS.trans (h : CS w0 w CB ao n cap f A) (k : CS w w' CB ao n cap f A') : CS w0 w' CB ao n cap f A' := ⟨k.cu, h.cb0, h.gr.trans k.gr, h.lt, h.sz⟩
theorem CS.mono (h : CS w0 w CB ao n cap f A) (hA : A ≤ A') : CS w0 w CB ao n cap f A' := ⟨by obtain ⟨a, sd, h1, h2⟩ := h.cu; exact ⟨a, sd, by omega, h2⟩, h.cb0, h.gr, h.lt, h.sz⟩
theorem CS.keep (h : CS w0 w CB ao n cap f A) (hb : Below w.heap.size w w') : CS w0 w' CB ao n cap f A := ⟨by obtain ⟨a, sd, h1, h2⟩ := h.cu; exact ⟨a, sd, h1, h2.keep hb⟩, h.cb0, h.gr.trans (grown_of_below hb _), h.lt, h.sz⟩
theorem CS.far {row : Option Nat} (h : CS w0 w CB ao n cap f A) (g : w.grownBy w' row) (hr : ∀ k, row = some k → w0.heap.size ≤ k) : CS w0 w' CB ao n cap f A :=
  ⟨by
    obtain ⟨a, sd, h1, h2⟩ := h.cu
    exact ⟨a, sd, h1, h2.blk g.size (g.block CB h.ltw (fun e => by have := hr CB e.symm; have := h.lt; omega))⟩, h.cb0, grown_far h.gr g hr, h.lt, h.sz⟩
theorem CS.others {d : Nat} (h : CS w0 w CB ao n cap f A) (ho : Others d w w') (hd : w0.heap.size ≤ d) : CS w0 w' CB ao n cap f A :=
  h.far (row := some d) ⟨ho.os, ho.tape, ho.output, by rw [ho.size]; exact Nat.le_refl _, fun i _ hn => ho.block i (fun e => hn (by rw [e]))⟩ (fun k e => by injection e with e; omega)
theorem CS.below (h : CS w0 w CB ao n cap f A) {base : Nat} (hb : base ≤ CB) : Below base w0 w := (Below.refl base w0).grown h.gr (Nat.le_of_lt (Nat.lt_of_le_of_lt hb h.lt)) (fun k e => by injection e with e; omega)

theorem pick_s (q : Nat) (hq : 2 ≤ q ∧ q ≤ 200) (h : CS w w CB ao n cap f A) (hA : A ≤ 1000000) :
    Calls Try.prog 53 #[.pointer (some ⟨CB, 0, none⟩), .int .i64 q] w fun e w' => ∃ x, e = .returned (.int .i64 x) ∧ 0 ≤ x ∧ x < q ∧ CS w w' CB ao n cap f (A + 1) := by
  obtain ⟨a, sd, ha, hC⟩ := h.cu
  refine (pick_any q hq CB ao n cap a f sd w hC h.cb h.sz (by omega)).mono ?_
  rintro e w' ⟨x, rfl, x0, x1, ⟨sd', C'⟩, g⟩
  exact ⟨x, rfl, x0, x1, ⟨a + 1, sd', by omega, C'⟩, h.cb0, g, h.lt, h.sz⟩
theorem one_s (q : Nat) (hq : 2 ≤ q ∧ q ≤ 200) (h : CS w w CB ao n cap f A) (hA : A ≤ 1000000) :
    Calls Try.prog 29 #[.pointer (some ⟨CB, 0, none⟩), .int .i64 q] w fun e w' => ∃ b, e = .returned (.bool b) ∧ CS w w' CB ao n cap f (A + 1) := by
  obtain ⟨a, sd, ha, hC⟩ := h.cu
  refine (one_any q hq CB ao n cap a f sd w hC h.cb h.sz (by omega)).mono ?_
  rintro e w' ⟨b, rfl, ⟨sd', C'⟩, g⟩
  exact ⟨b, rfl, ⟨a + 1, sd', by omega, C'⟩, h.cb0, g, h.lt, h.sz⟩
/-- A list of ints lies in a block. -/
def LiAt (w : World) (LB : Nat) (l : List Int) : Prop := LB < w.heap.size ∧ ∀ i, i < l.length → w.cell? ⟨LB, i, none⟩ = some (.int .i64 (l.getD i 0))
theorem LiAt.new (w : World) (l : List Int) (T : Nat) : LiAt (w.alloc (.cells (l.map (Value.int .i64)).toArray T)) w.heap.size l := by
  have hh : (w.alloc (.cells (l.map (Value.int .i64)).toArray T)).heap[w.heap.size]? = some (.cells (l.map (Value.int .i64)).toArray T (0, 0)) := heap_alloc_new w _
  refine ⟨by simp, fun i hi => ?_⟩
  rw [cell_of_row _ _ _ _ _ _ hh]
  simp [hi]
theorem among_s (l : List Int) (hq : 2 ≤ l.length ∧ l.length ≤ 200) (LB : Nat) (hL : LiAt w LB l) (hne : LB ≠ CB) (h : CS w w CB ao n cap f A) (hA : A ≤ 1000000) :
    Calls Try.prog 52 #[.pointer (some ⟨CB, 0, none⟩), .slice (some ⟨LB, 0, none⟩) l.length l.length] w fun e w' => ∃ x, x ∈ l ∧ e = .returned (.int .i64 x) ∧ CS w w' CB ao n cap f (A + 1) := by
  obtain ⟨a, sd, ha, hC⟩ := h.cu
  refine (among_any l.length hq LB (fun i => l.getD i 0) CB ao n cap a f sd w hC h.cb h.sz (by omega) hL.1 hne hL.2).mono ?_
  rintro e w' ⟨i, hi, rfl, ⟨sd', C'⟩, g⟩
  have e : l.getD i 0 ∈ l := by
    have e : l.getD i 0 = l[i] := by simp [hi]
    rw [e]; exact List.getElem_mem hi
  exact ⟨_, e, rfl, ⟨a + 1, sd', by omega, C'⟩, h.cb0, g, h.lt, h.sz⟩
end
end Go.Proofs.Ytpggmgmdcccmeaa
namespace Go.Proofs.Ytpggmgmdcccmeaa
open Go.RowKit
set_option linter.unusedSimpArgs false
set_option linter.unusedVariables false

section
variable {w : World} {CB : Nat} {ao : Option Addr} {n cap : Nat} {f : Nat → Int} {A : Nat}
set_option maxHeartbeats 1600000 in
theorem value_s (h : CS w w CB ao n cap f A) (hA : A ≤ 100000) :
    Calls Try.prog 56 #[.pointer (some ⟨CB, 0, none⟩)] w fun e w' => ∃ x, e = .returned (.int .i64 x) ∧ CS w w' CB ao n cap f (A + 2) := by
  go_enter Try.func56, Try.ntmps56
  go_wp2_with fail
  refine (one_s 16 (by omega) h (by omega)).mono ?_
  rintro e w1 ⟨b, rfl, K1⟩
  have hlt := K1.ltw
  cases b
  · have b2 := below_new w1 (.cells #[.int .i64 0, .int .i64 1, .int .i64 9, .int .i64 10, .int .i64 99, .int .i64 100, .int .i64 1000, .int .i64 99999, .int .i64 100000, .int .i64 (-1), .int .i64 (-50), .int .i64 7] 3)
    have L2 : LiAt (w1.alloc (.cells #[.int .i64 0, .int .i64 1, .int .i64 9, .int .i64 10, .int .i64 99, .int .i64 100, .int .i64 1000, .int .i64 99999, .int .i64 100000, .int .i64 (-1), .int .i64 (-50), .int .i64 7] 3)) w1.heap.size [0, 1, 9, 10, 99, 100, 1000, 99999, 100000, -1, -50, 7] := LiAt.new w1 [0, 1, 9, 10, 99, 100, 1000, 99999, 100000, -1, -50, 7] 3
    have K2 := K1.keep b2
    go_wp2_with fail
    refine (among_s [0, 1, 9, 10, 99, 100, 1000, 99999, 100000, -1, -50, 7] (by decide) w1.heap.size L2 (by omega) K2.self (by omega)).mono ?_
    rintro e w3 ⟨x, _, rfl, K3⟩
    have K := K2.trans K3
    clear L2 K2 K3 b2 K1
    go_wp2
    go_ret
    exact ⟨x, rfl, K⟩
  · have b2 := below_new w1 (.cells #[.int .i64 1000000000, .int .i64 (-1000000000), .int .i64 999999999] 3)
    have L2 : LiAt (w1.alloc (.cells #[.int .i64 1000000000, .int .i64 (-1000000000), .int .i64 999999999] 3)) w1.heap.size [1000000000, -1000000000, 999999999] := LiAt.new w1 [1000000000, -1000000000, 999999999] 3
    have K2 := K1.keep b2
    go_wp2_with fail
    refine (among_s [1000000000, -1000000000, 999999999] (by decide) w1.heap.size L2 (by omega) K2.self (by omega)).mono ?_
    rintro e w3 ⟨x, _, rfl, K3⟩
    have K := K2.trans K3
    clear L2 K2 K3 b2 K1
    go_wp2
    go_ret
    exact ⟨x, rfl, K⟩
theorem key_s (h : CS w w CB ao n cap f A) (hA : A ≤ 100000) :
    Calls Try.prog 55 #[.pointer (some ⟨CB, 0, none⟩)] w fun e w' => ∃ (m : ByteArray) (va : Option Addr) (vc : Nat) (T : List (ByteArray × ByteArray)) (st : Int), e = .returned (.agg #[.string m, .slice va T.length vc, .int .i64 st]) ∧ TgL w' w.heap.size (.slice va T.length vc) T ∧ m.size ≤ 20 ∧ T.length ≤ 3 ∧ TSz T ∧ (-1 ≤ st ∧ st ≤ 1000000001) ∧ CS w w' CB ao n cap f (A + 20) := by
  obtain ⟨a, sd, ha, hC⟩ := h.cu
  refine (key_any CB ao n cap a f sd w hC h.cb h.sz (by omega)).mono ?_
  rintro e w' ⟨m, va, vc, T, st, h1, h2, h3, h4, h5, h6, ⟨a', sd', h7, C'⟩, g⟩
  exact ⟨m, va, vc, T, st, h1, h2, h3, h4, h5, h6, ⟨a', sd', by omega, C'⟩, h.cb0, g, h.lt, h.sz⟩
theorem sized_s (h : CS w w CB ao n cap f A) (hA : A ≤ 100000) :
    Calls Try.prog 30 #[.pointer (some ⟨CB, 0, none⟩)] w fun e w' => ∃ x, e = .returned (.int .i64 x) ∧ CS w w' CB ao n cap f (A + 100) := by
  obtain ⟨a, sd, ha, hC⟩ := h.cu
  refine (sized_any CB ao n cap a f sd w hC h.cb h.sz (by omega)).mono ?_
  rintro e w' ⟨x, rfl, _, ⟨a', sd', h7, C'⟩, g⟩
  exact ⟨x, rfl, ⟨a', sd', by omega, C'⟩, h.cb0, g, h.lt, h.sz⟩
end
end Go.Proofs.Ytpggmgmdcccmeaa
