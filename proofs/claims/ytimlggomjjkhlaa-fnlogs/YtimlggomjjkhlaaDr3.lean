/- Lists of records drawn by the model, and a number of bytes. -/
import Derived.Test.YtimlggomjjkhlaaDr2
namespace Go.Proofs.Ytimlggomjjkhlaa
open Go.RowKit
set_option linter.unusedSimpArgs false
set_option linter.unusedVariables false

theorem Cu.row {w w' : World} {CB : Nat} {cv : Value} {a : Nat} {sd : Int} {row : Option Nat} (h : Cu w CB cv a sd) (hg : w.grownBy w' row) (hne : row ≠ some CB) : Cu w' CB cv a sd :=
  have c : ∀ j, w'.cell? ⟨CB, j, none⟩ = w.cell? ⟨CB, j, none⟩ := fun j => World.cell?_of_block (w := w) (a := ⟨CB, j, none⟩) (hg.block CB h.lt (fun e => hne e.symm))
  ⟨Nat.lt_of_lt_of_le h.lt hg.size, (c 0).trans h.c0, (c 1).trans h.c1, (c 2).trans h.c2, fun i => (World.frozen?_of_block (w := w) (a := ⟨CB, i, none⟩) (hg.block CB h.lt (fun e => hne e.symm))).trans (h.fz i), h.sb⟩

set_option maxHeartbeats 2000000 in
theorem records_any (CB : Nat) (ao : Option Addr) (n cap a : Nat) (f : Nat → Int) (sd : Int) (w : World) (hC : Cu w CB (.slice ao n cap) a sd) (hB : Cb w CB ao n f) (hn : n ≤ 1048576) (ha : a ≤ 1000) :
    Calls Try.prog 24 #[.pointer (some ⟨CB, 0, none⟩)] w fun e w' => ∃ v m V Rs, e = .returned v ∧ m ≤ 61 ∧ LR w' w.heap.size v m V Rs ∧ w.grownBy w' (some CB) := by
  have hlC := hC.lt
  have HB : ∀ b off, ao = some ⟨b, off, none⟩ → n ≠ 0 → b < w.heap.size := fun b off e h0 => by
    obtain ⟨b', off', e', h1, _⟩ := hB.row.lies.resolve_left h0
    rw [e] at e'
    injection e' with e'
    injection e' with e' _ _
    omega
  go_enter Try.func24, Try.ntmps24
  go_wp2_with fail
  refine (pick_any 6 (by omega) CB ao n cap a f sd _ hC hB hn (by omega)).mono ?_
  rintro e w1 ⟨x, rfl, x0, x1, ⟨sd1, C1⟩, g1⟩
  obtain ⟨N, rfl⟩ := Int.eq_ofNat_of_zero_le x0
  have B1 := hB.grown g1
  go_wp2_with fail
  refine (one_any 40 (by omega) CB ao n cap (a + 1) f sd1 _ C1 B1 hn (by omega)).mono ?_
  rintro e w2 ⟨b2, rfl, ⟨sd2, C2⟩, g2⟩
  have G2 := g1.trans g2
  have B2 := B1.grown g2
  clear g1 g2 C1 B1
  cases b2
  · have hN : N ≤ 61 := by omega
    obtain ⟨a3, ha3, C3⟩ : ∃ a3, a3 ≤ a + 3 ∧ Cu w2 CB (.slice ao n cap) a3 sd2 := ⟨_, by omega, C2⟩
    clear C2
    go_wp2
    have L0 := lr_nil w2 w.heap.size
    go_loopw [3, 4] (fun v q wr => ∃ (k m a' co : Nat) (po : Option Addr) (sd' : Int) (V : Nat → Value) (Rs : Nat → List Int), v = .slice po k co ∧ q = .int .i64 m ∧ k + m ≤ 61 ∧ LR wr w.heap.size (.slice po k co) k V Rs ∧ Cu wr CB (.slice ao n cap) a' sd' ∧ a' ≤ a + 3 + 2010 * k ∧ Cb wr CB ao n f ∧ w.grownBy wr (some CB)) (fun _ q _ => (intOf q).toNat)
    case atStart => exact ⟨0, N, a3, 0, none, _, _, _, rfl, rfl, by omega, L0, C3, by omega, B2, G2⟩
    case round =>
      obtain ⟨k, m, a', co, po, sd', V, Rs, rfl, rfl, hkm, hL, Ck, hak, Bk, Gk⟩ := hrel
      clear L0 C3 B2 G2
      by_cases hm : 0 < m
      · have hm' : (0 : Int) < (m : Int) := by omega
        go_wp2_with fail
        refine (record_any CB ao n cap a' f sd' _ Ck Bk hn (by omega)).mono ?_
        rintro e w5 ⟨N5, GB, a5, f5, sd5, rfl, hN5, hG5, o5, C5, ha5, g5⟩
        obtain ⟨R, rfl, A5⟩ : ∃ R : List Int, N5 = R.length ∧ At w5 GB 0 R := ⟨ls f5 N5, (ls_length f5 N5).symm, o5.at⟩
        have L5 := hL.grown g5 hlC
        have B5 := Bk.grown g5
        have G5 := Gk.trans g5
        have hsz := Gk.size
        have hne5 : (Value.slice po k co).ownBlock ≠ some GB := fun e => by have := (hL.own.lt GB e).2; omega
        have hG5' : w.heap.size ≤ GB := by omega
        have hnc : (Value.slice po k co).ownBlock ≠ some CB := fun e => by have := (hL.own.lt CB e).1; omega
        have hb6 := below_new w5 (.cells #[.slice (some ⟨GB, 0, none⟩) R.length R.length] 22)
        have s5 := G5.size
        go_wp2_with (at_builtin; refine wpList_pushR rfl (.tmp 16) (.tmp 19) rfl w.heap.size (.slice po k co) k GB R.length V Rs R rfl L5 (Nat.le_refl _) hN5 A5 hG5' hne5 rfl (by omega) s5 ?_; intro v7 w7 L7 g7)
        have C7 := (C5.keep hb6).row g7 hnc
        have B7 : Cb w7 CB ao n f := by
          have B6 := B5.keep hb6
          refine ⟨⟨B6.row.bd, ?_⟩, B6.ne⟩
          by_cases h0 : n = 0
          · exact .inl h0
          · obtain ⟨b, off, e, h1, h2⟩ := B6.row.lies.resolve_left h0
            have hbw := HB b off e h0
            exact .inr ⟨b, off, e, Nat.lt_of_lt_of_le h1 g7.size, fun i hi => g7.cell (h2 i hi) (fun e' => by have := (L5.own.lt b e'.symm).1; omega)⟩
        have G7 : w.grownBy w7 (some CB) := by
          have G6 := grown_below G5 hb6
          exact ⟨g7.os.trans G6.os, g7.tape.trans G6.tape, g7.output.trans G6.output, Nat.le_trans G6.size g7.size, fun i hi hne => (g7.block i (Nat.lt_of_lt_of_le hi G6.size) (fun e => by have := (L5.own.lt i e.symm).1; omega)).trans (G6.block i hi hne)⟩
        obtain ⟨m', rfl⟩ : ∃ m', m = m' + 1 := ⟨m - 1, by omega⟩
        obtain ⟨p7, c7, rfl⟩ := L7.form
        have h7 : a5 ≤ a + 3 + 2010 * (k + 1) := by
          rw [Nat.mul_succ, ← Nat.add_assoc]
          exact Nat.le_trans ha5 (Nat.add_le_add_right hak 2010)
        have hkm7 : k + 1 + m' ≤ 61 := by omega
        clear hL L5 C5 B5 g5 g7 hb6 A5 o5
        go_wp2
        go_roundw
        case rel => exact ⟨k + 1, m', a5, c7, p7, sd5, (fun i => if i = k then .slice (some ⟨GB, 0, none⟩) R.length R.length else V i), (fun i => if i = k then R else Rs i), rfl, by go_num, hkm7, L7, C7, h7, B7, G7⟩
        case measure => simp [intOf]
      · obtain rfl : m = 0 := by omega
        go_wp2
        go_ret
        exact ⟨_, k, V, Rs, rfl, by omega, hL, Gk⟩
  · go_wp2_with fail
    refine (pick_any 2 (by omega) CB ao n cap (a + 1 + 1) f sd2 _ C2 B2 hn (by omega)).mono ?_
    rintro e w3 ⟨y, rfl, y0, y1, ⟨sd3, C3⟩, g3⟩
    obtain ⟨M, rfl⟩ := Int.eq_ofNat_of_zero_le y0
    have B3 := B2.grown g3
    have G3 := G2.trans g3
    obtain ⟨a3, ha3, C3⟩ : ∃ a3, a3 ≤ a + 3 ∧ Cu w3 CB (.slice ao n cap) a3 sd3 := ⟨_, by omega, C3⟩
    have hN : 60 + M ≤ 61 := by omega
    clear g3 C2 B2 G2
    go_wp2
    have L0 := lr_nil w3 w.heap.size
    go_loopw [3, 4] (fun v q wr => ∃ (k m a' co : Nat) (po : Option Addr) (sd' : Int) (V : Nat → Value) (Rs : Nat → List Int), v = .slice po k co ∧ q = .int .i64 m ∧ k + m ≤ 61 ∧ LR wr w.heap.size (.slice po k co) k V Rs ∧ Cu wr CB (.slice ao n cap) a' sd' ∧ a' ≤ a + 3 + 2010 * k ∧ Cb wr CB ao n f ∧ w.grownBy wr (some CB)) (fun _ q _ => (intOf q).toNat)
    case atStart => exact ⟨0, (60 + M), a3, 0, none, _, _, _, rfl, by go_num, by omega, L0, C3, by omega, B3, G3⟩
    case round =>
      obtain ⟨k, m, a', co, po, sd', V, Rs, rfl, rfl, hkm, hL, Ck, hak, Bk, Gk⟩ := hrel
      clear L0 C3 B3 G3
      by_cases hm : 0 < m
      · have hm' : (0 : Int) < (m : Int) := by omega
        go_wp2_with fail
        refine (record_any CB ao n cap a' f sd' _ Ck Bk hn (by omega)).mono ?_
        rintro e w5 ⟨N5, GB, a5, f5, sd5, rfl, hN5, hG5, o5, C5, ha5, g5⟩
        obtain ⟨R, rfl, A5⟩ : ∃ R : List Int, N5 = R.length ∧ At w5 GB 0 R := ⟨ls f5 N5, (ls_length f5 N5).symm, o5.at⟩
        have L5 := hL.grown g5 hlC
        have B5 := Bk.grown g5
        have G5 := Gk.trans g5
        have hsz := Gk.size
        have hne5 : (Value.slice po k co).ownBlock ≠ some GB := fun e => by have := (hL.own.lt GB e).2; omega
        have hG5' : w.heap.size ≤ GB := by omega
        have hnc : (Value.slice po k co).ownBlock ≠ some CB := fun e => by have := (hL.own.lt CB e).1; omega
        have hb6 := below_new w5 (.cells #[.slice (some ⟨GB, 0, none⟩) R.length R.length] 22)
        have s5 := G5.size
        go_wp2_with (at_builtin; refine wpList_pushR rfl (.tmp 16) (.tmp 19) rfl w.heap.size (.slice po k co) k GB R.length V Rs R rfl L5 (Nat.le_refl _) hN5 A5 hG5' hne5 rfl (by omega) s5 ?_; intro v7 w7 L7 g7)
        have C7 := (C5.keep hb6).row g7 hnc
        have B7 : Cb w7 CB ao n f := by
          have B6 := B5.keep hb6
          refine ⟨⟨B6.row.bd, ?_⟩, B6.ne⟩
          by_cases h0 : n = 0
          · exact .inl h0
          · obtain ⟨b, off, e, h1, h2⟩ := B6.row.lies.resolve_left h0
            have hbw := HB b off e h0
            exact .inr ⟨b, off, e, Nat.lt_of_lt_of_le h1 g7.size, fun i hi => g7.cell (h2 i hi) (fun e' => by have := (L5.own.lt b e'.symm).1; omega)⟩
        have G7 : w.grownBy w7 (some CB) := by
          have G6 := grown_below G5 hb6
          exact ⟨g7.os.trans G6.os, g7.tape.trans G6.tape, g7.output.trans G6.output, Nat.le_trans G6.size g7.size, fun i hi hne => (g7.block i (Nat.lt_of_lt_of_le hi G6.size) (fun e => by have := (L5.own.lt i e.symm).1; omega)).trans (G6.block i hi hne)⟩
        obtain ⟨m', rfl⟩ : ∃ m', m = m' + 1 := ⟨m - 1, by omega⟩
        obtain ⟨p7, c7, rfl⟩ := L7.form
        have h7 : a5 ≤ a + 3 + 2010 * (k + 1) := by
          rw [Nat.mul_succ, ← Nat.add_assoc]
          exact Nat.le_trans ha5 (Nat.add_le_add_right hak 2010)
        have hkm7 : k + 1 + m' ≤ 61 := by omega
        clear hL L5 C5 B5 g5 g7 hb6 A5 o5
        go_wp2
        go_roundw
        case rel => exact ⟨k + 1, m', a5, c7, p7, sd5, (fun i => if i = k then .slice (some ⟨GB, 0, none⟩) R.length R.length else V i), (fun i => if i = k then R else Rs i), rfl, by go_num, hkm7, L7, C7, h7, B7, G7⟩
        case measure => simp [intOf]
      · obtain rfl : m = 0 := by omega
        go_wp2
        go_ret
        exact ⟨_, k, V, Rs, rfl, by omega, hL, Gk⟩

theorem cu_new (w : World) (cv : Value) (T : Nat) : Cu (w.alloc (.cells #[cv, .int .i64 0, .int .u64 0] T)) w.heap.size cv 0 0 := by
  have hh : (w.alloc (.cells #[cv, .int .i64 0, .int .u64 0] T)).heap[w.heap.size]? = some (.cells #[cv, .int .i64 0, .int .u64 0] T (0, 0)) := heap_alloc_new w _
  exact ⟨by simp, cell_of_row _ _ _ _ _ _ hh, cell_of_row _ _ _ _ _ _ hh, cell_of_row _ _ _ _ _ _ hh, fun i => frozen_of_row _ _ _ _ _ hh, by omega⟩

theorem drawLogOf_any (ao : Option Addr) (n cap : Nat) (f : Nat → Int) (w : World) (hr : Row w ao n f) (hn : n ≤ 1048576) :
    Calls Try.prog 7 #[.slice ao n cap] w fun e w' => ∃ lo m lc V Rs, e = .returned (.slice lo m lc) ∧ m ≤ 61 ∧ LR w' (w.heap.size + 1) (.slice lo m lc) m V Rs ∧ Below w.heap.size w w' := by
  have hb0 := below_new w (.cells #[.slice ao n cap, .int .i64 0, .int .u64 0] 43)
  have C0 := cu_new w (.slice ao n cap) 43
  have B0 : Cb (w.alloc (.cells #[.slice ao n cap, .int .i64 0, .int .u64 0] 43)) w.heap.size ao n f := ⟨hr.keep hb0, fun b off e h0 => by
    obtain ⟨b', off', e', h1, _⟩ := hr.lies.resolve_left h0
    rw [e] at e'
    injection e' with e'
    injection e' with e' _ _
    omega⟩
  go_enter Try.func7, Try.ntmps7
  go_wp2_with fail
  refine (records_any w.heap.size ao n cap 0 f 0 _ C0 B0 hn (by omega)).mono ?_
  rintro e w1 ⟨v, m, V, Rs, rfl, hm, hL, hg⟩
  obtain ⟨lo, lc, rfl⟩ := hL.form
  rw [World.size_alloc] at hL
  have hbw : Below w.heap.size w w1 := hb0.trans ⟨hg.os, hg.tape, hg.output, hg.size, fun k hk => hg.block k (by simp; omega) (by simp; omega)⟩
  go_wp2
  go_ret
  exact ⟨_, _, _, V, Rs, rfl, hm, hL, hbw⟩

theorem numberOf_any (ao : Option Addr) (n cap : Nat) (f : Nat → Int) (w : World) (hr : Row w ao n f) (hn : n ≤ 1048576) :
    Calls Try.prog 11 #[.slice ao n cap] w fun e w' => ∃ x : Nat, e = .returned (.int .i64 x) ∧ x ≤ 1000002 ∧ w' = w := by
  obtain ⟨hbd, hlies⟩ := hr
  go_enter Try.func11, Try.ntmps11
  go_wp2
  go_loopw [3, 8] (fun q i wr => ∃ k x : Nat, k ≤ n ∧ i = .int .i64 k ∧ q = .int .i64 x ∧ x ≤ 1000002 ∧ wr = w) (fun _ i _ => n - (intOf i).toNat)
  case atStart => exact ⟨0, 0, Nat.zero_le _, rfl, rfl, by omega, rfl⟩
  case round =>
    obtain ⟨k, x, hk, rfl, rfl, hx, rfl⟩ := hrel
    by_cases hlt : k < n
    · obtain ⟨b, off, rfl, hblt, hc⟩ := hlies.resolve_left (by omega)
      have h1 := hc k hlt
      obtain ⟨y, hy⟩ := Int.eq_ofNat_of_zero_le (hbd k).1
      have hb := (hbd k).2
      rw [hy] at h1 hb
      clear hc hlies
      go_wp2
      go_roundw
      case rel => exact ⟨k + 1, (31 * x + y) % 1000003, by omega, by go_num, by first | rfl | go_num | simp, by omega, by first | rfl | trivial⟩
      case measure => simp [intOf]; omega
    · go_wp2
      go_ret
      exact ⟨x, rfl, hx, rfl⟩
end Go.Proofs.Ytimlggomjjkhlaa
