/- UsedBytes, both texts, and its law, walked. -/
import Derived.Test.YtgedpjabjoodjaaDisk
namespace Go.Proofs.Ytgedpjabjoodjaa
open Go.RowKit
set_option linter.unusedSimpArgs false
set_option linter.unusedVariables false

theorem good_parts {Q : Int} {n : Nat} {F : Nat → Fil} (h : goodF Q n F = true) : 0 ≤ Q ∧ Q ≤ 60000 ∧ n ≤ 40 ∧ (∀ i, i < n → fileOk F i = true) ∧ (used F n : Int) ≤ Q := by
  simp only [goodF, filesOk, Bool.and_eq_true, decide_eq_true_eq, List.all_eq_true, List.mem_range] at h
  exact ⟨h.1.1.1.1, h.1.1.1.2, h.1.1.2, h.1.2, h.2⟩

/-- What UsedBytes answers. -/
def ubAns (G : Bool) (u : Nat) : Value := .tuple #[.int .i64 (if G then (u : Int) else 0), .bool G]

set_option maxHeartbeats 1000000 in
theorem usedBytes_impl (Q : Int) (ao : Option Addr) (n cap : Nat) (F : Nat → Fil) (G : Bool) (HG : Hid (goodF Q n F = G)) (w : World) (hr : FRow w ao n F) (hq : -9223372036854775808 ≤ Q ∧ Q ≤ 9223372036854775807) (hn : n ≤ 1048576) (hz : FSize n F 1048576) :
    Calls Try.prog 11 #[.agg #[.int .i64 Q, .slice ao n cap]] w fun e w' => e = .returned (ubAns G (used F n)) ∧ Below w.heap.size w w' := by
  have hB : Below w.heap.size w (w.alloc (.cells #[.int .i64 Q, .slice ao n cap] 29)) := (Below.refl _ _).alloc (Nat.le_refl _) _
  cases G
  · go_enter Try.func11, Try.ntmps11
    go_wp2_with fail
    refine (openDisk_bad Q ao n cap F HG _ (hr.keep hB) hq hn hz).mono ?_
    rintro e w1 ⟨rfl, hb1⟩
    have hA : Below w1.heap.size w1 (w1.alloc (.cells #[.int .i64 0, .map none] 46)) := (Below.refl _ _).alloc (Nat.le_refl _) _
    have c0 : (w1.alloc (.cells #[.int .i64 0, .map none] 46)).cell? ⟨w1.heap.size, 0, none⟩ = some (.int .i64 0) := by simp [go_sem]
    have c1 : (w1.alloc (.cells #[.int .i64 0, .map none] 46)).cell? ⟨w1.heap.size, 1, none⟩ = some (.map none) := by simp [go_sem]
    have bwA : Below w.heap.size w (w1.alloc (.cells #[.int .i64 0, .map none] 46)) := (hB.trans (hb1.mono (by simp))).trans (hA.mono (by have := hb1.size; simp at this; omega))
    have lA : w1.heap.size < (w1.alloc (.cells #[.int .i64 0, .map none] 46)).heap.size := by simp
    clear hb1 hA hB
    go_wp2
    generalize w1.alloc (.cells #[.int .i64 0, .map none] 46) = wA at c0 c1 bwA lA ⊢
    go_region_held3 (fun w' => w'.cell? ⟨w1.heap.size, 0, none⟩ = some (.int .i64 0) ∧ w'.cell? ⟨w1.heap.size, 1, none⟩ = some (.map none)) (go_keep) (first | (go_at_call 20; refine (used_nil _).mono ?_; rintro e w2 ⟨rfl, hb2⟩; have hb2' := (Below.refl _ wA).drew.trans hb2; have e0 := (hb2'.cell (p := ⟨w1.heap.size, 0, none⟩) lA).trans c0; have e1 := (hb2'.cell (p := ⟨w1.heap.size, 1, none⟩) lA).trans c1; have bw2 : Below w.heap.size w w2 := bwA.trans (hb2'.mono bwA.size)))
    all_goals
      go_wp2
      go_ret2
      exact ⟨rfl, bw2⟩
  · obtain ⟨g0, g1, g2, g3, g4⟩ := good_parts HG.out
    have hu : used F n ≤ 4611686018427387904 := by omega
    go_enter Try.func11, Try.ntmps11
    go_wp2_with fail
    refine (openDisk_good Q ao n cap F HG g3 _ (hr.keep hB) hq hn hz).mono ?_
    rintro e w1 ⟨bm, S, GG, rfl, hbm, hM, hD, hb1⟩
    have hA : Below w1.heap.size w1 (w1.alloc (.cells #[.int .i64 Q, .map (some bm)] 46)) := (Below.refl _ _).alloc (Nat.le_refl _) _
    have c0 : (w1.alloc (.cells #[.int .i64 Q, .map (some bm)] 46)).cell? ⟨w1.heap.size, 0, none⟩ = some (.int .i64 Q) := by simp [go_sem]
    have c1 : (w1.alloc (.cells #[.int .i64 Q, .map (some bm)] 46)).cell? ⟨w1.heap.size, 1, none⟩ = some (.map (some bm)) := by simp [go_sem]
    have bwA : Below w.heap.size w (w1.alloc (.cells #[.int .i64 Q, .map (some bm)] 46)) := (hB.trans (hb1.mono (by simp))).trans (hA.mono (by have := hb1.size; simp at this; omega))
    have lA : w1.heap.size < (w1.alloc (.cells #[.int .i64 Q, .map (some bm)] 46)).heap.size := by simp
    have hMA : (w1.alloc (.cells #[.int .i64 Q, .map (some bm)] 46)).heap[bm]? = some (.map (ents F S n) n) := (hA.block bm (Array.getElem?_eq_some_iff.1 hM).1).trans hM
    have hS := hD.len
    clear hb1 hA hB hM hD g3
    go_wp2
    generalize w1.alloc (.cells #[.int .i64 Q, .map (some bm)] 46) = wA at c0 c1 bwA lA hMA ⊢
    have hMd : wA.drew.heap[bm]? = some (.map (ents F S n) n) := hMA
    go_region_held3 (fun w' => w'.cell? ⟨w1.heap.size, 0, none⟩ = some (.int .i64 Q) ∧ w'.cell? ⟨w1.heap.size, 1, none⟩ = some (.map (some bm))) (go_keep) (first | (go_at_call 20; refine (used_any Q bm n F S _ hMd hS hu).mono ?_; rintro e w2 ⟨rfl, hb2⟩; have hb2' := (Below.refl _ wA).drew.trans hb2; have e0 := (hb2'.cell (p := ⟨w1.heap.size, 0, none⟩) lA).trans c0; have e1 := (hb2'.cell (p := ⟨w1.heap.size, 1, none⟩) lA).trans c1; have bw2 : Below w.heap.size w w2 := bwA.trans (hb2'.mono bwA.size)))
    all_goals
      go_wp2
      go_ret2
      exact ⟨rfl, bw2⟩

set_option maxHeartbeats 1000000 in
theorem usedBytes_spec (Q : Int) (ao : Option Addr) (n cap : Nat) (F : Nat → Fil) (G : Bool) (HG : Hid (goodF Q n F = G)) (w : World) (hr : FRow w ao n F) (hq : -9223372036854775808 ≤ Q ∧ Q ≤ 9223372036854775807) (hn : n ≤ 1048576) (hz : FSize n F 1048576) :
    Calls Try.prog 10 #[.agg #[.int .i64 Q, .slice ao n cap]] w fun e w' => e = .returned (ubAns G (used F n)) ∧ Below w.heap.size w w' := by
  have hB : Below w.heap.size w (w.alloc (.cells #[.int .i64 Q, .slice ao n cap] 29)) := (Below.refl _ _).alloc (Nat.le_refl _) _
  have X0 := QAt.new w Q (.slice ao n cap) 29
  go_enter Try.func10, Try.ntmps10
  go_wp2_with fail
  refine (goodFiles_spec Q ao n cap F G HG _ (hr.keep hB) hq hn hz).mono ?_
  rintro e w1 ⟨rfl, hb1⟩
  obtain ⟨l1, x0, x1⟩ := X0.keep hb1
  have bw1 : Below w.heap.size w w1 := hB.trans (hb1.mono (by simp))
  clear X0 hb1 hB
  cases G
  · go_wp2
    go_ret2
    exact ⟨rfl, bw1⟩
  · go_wp2_with fail
    refine (l2Used_any Q ao n cap F _ (hr.keep bw1) hn hz).mono ?_
    rintro e w2 ⟨rfl, hb2⟩
    go_wp2
    go_ret2
    exact ⟨rfl, bw1.trans (hb2.mono bw1.size)⟩

set_option maxHeartbeats 2000000 in
theorem usedBytes_law (Q : Int) (ao : Option Addr) (n cap : Nat) (F : Nat → Fil) (w : World) (hr : FRow w ao n F) (hq : -9223372036854775808 ≤ Q ∧ Q ≤ 9223372036854775807) (hnx : n ≤ 9223372036854775807) (hzx : FSize n F 9223372036854775807) :
    Calls Try.prog 4 #[.agg #[.int .i64 Q, .slice ao n cap]] w fun e w' => e = .returned (.bool true) ∧ Below w.heap.size w w' := by
  have hB : Below w.heap.size w (w.alloc (.cells #[.int .i64 Q, .slice ao n cap] 24)) := (Below.refl _ _).alloc (Nat.le_refl _) _
  have A0 := QAt.new w Q (.slice ao n cap) 24
  generalize hG : goodF Q n F = G
  have HG : Hid (goodF Q n F = G) := hG
  clear hG
  go_enter Try.func4, Try.ntmps4
  go_wp2_with fail
  refine (szFiles_any Q ao n cap F 1048576 _ (hr.keep hB) (by omega) hnx hzx).mono ?_
  rintro e w1 ⟨v, rfl, hv1, hv2, hv3, hb1⟩
  have A1 := A0.keep hb1
  have bw1 : Below w.heap.size w w1 := hB.trans (hb1.mono (by simp))
  clear hb1 hB A0
  by_cases hv : v < 0
  · clear hv3
    go_wp2
    go_ret
    exact ⟨rfl, bw1⟩
  · obtain ⟨hn, hz⟩ := hv3 (by omega)
    clear hv3 hnx hzx
    generalize hans : (if G then (used F n : Int) else 0) = U
    have HA : Hid (ubAns G (used F n) = .tuple #[.int .i64 U, .bool G]) := by unfold Hid ubAns; rw [hans]
    clear hans
    obtain ⟨la, a0, a1⟩ := A1
    go_wp2_with fail
    refine (toFiles_any Q ao n cap F _ (hr.keep bw1) hn hz).mono ?_
    rintro e w2 ⟨g2, G2, rfl, hg2, ho2, hb2⟩
    have A2 := QAt.keep ⟨la, a0, a1⟩ hb2
    have bw2 : Below w.heap.size w w2 := bw1.trans (hb2.mono bw1.size)
    clear hb2 bw1 la a0 a1
    go_wp2_with fail
    refine (usedBytes_spec Q _ n n F G HG _ ho2.row hq hn hz).mono ?_
    rintro e w3 ⟨rfl, hb3⟩
    rw [HA.out]
    obtain ⟨la, a0, a1⟩ := A2.keep hb3
    have bw3 : Below w.heap.size w w3 := bw2.trans (hb3.mono bw2.size)
    clear hb3 A2 bw2 ho2
    go_wp2_with fail
    refine (toFiles_any Q ao n cap F _ (hr.keep bw3) hn hz).mono ?_
    rintro e w4 ⟨g4, G4, rfl, hg4, ho4, hb4⟩
    have hB4 : Below w4.heap.size w4 (w4.alloc (.cells #[.int .i64 Q, .slice (some ⟨g4, 0, none⟩) n n] 29)) := (Below.refl _ _).alloc (Nat.le_refl _) _
    have A4 := (QAt.keep ⟨la, a0, a1⟩ hb4).keep hB4
    have X4 := QAt.new w4 Q (.slice (some ⟨g4, 0, none⟩) n n) 29
    have o4 := ho4.keep hB4
    have bw4 : Below w.heap.size w (w4.alloc (.cells #[.int .i64 Q, .slice (some ⟨g4, 0, none⟩) n n] 29)) := (bw3.trans (hb4.mono bw3.size)).trans (hB4.mono (by have := bw3.size; have := hb4.size; omega))
    clear hb4 hB4 bw3 la a0 a1 ho4
    obtain ⟨lx, x0, x1⟩ := id X4
    go_wp2_with fail
    refine (usedBytes_impl Q _ n n F G HG _ o4.row hq hn hz).mono ?_
    rintro e w5 ⟨rfl, hb5⟩
    rw [HA.out]
    have A5 := A4.keep hb5
    have X5 := X4.keep hb5
    have o5 := o4.keep hb5
    have bw5 : Below w.heap.size w w5 := bw4.trans (hb5.mono bw4.size)
    clear hb5 A4 X4 o4 bw4 lx x0 x1
    obtain ⟨la, a0, a1⟩ := id A5
    obtain ⟨lx, x0, x1⟩ := id X5
    have szw := bw5.size
    have hrd := (hr.keep bw5).keep (Below.refl _ _).drew
    go_wp2
    go_region_held3 (fun w' => w'.cell? ⟨w4.heap.size, 0, none⟩ = some (.int .i64 Q) ∧ w'.cell? ⟨w4.heap.size, 1, none⟩ = some (.slice (some ⟨g4, 0, none⟩) n n) ∧ w'.cell? ⟨w.heap.size, 0, none⟩ = some (.int .i64 Q) ∧ w'.cell? ⟨w.heap.size, 1, none⟩ = some (.slice ao n cap)) (go_keep) (first | (go_at_call 7; refine (toFiles_any Q ao n cap F _ hrd hn hz).mono ?_; rintro e w6 ⟨g6, G6, rfl, hg6, ho6, hb6⟩; have hb6' := (Below.refl _ w5).drew.trans hb6; obtain ⟨la6, p0, p1⟩ := A5.keep hb6'; obtain ⟨lx6, q0, q1⟩ := X5.keep hb6'; have o6 := o5.keep hb6'; have bw6 : Below w.heap.size w w6 := bw5.trans (hb6'.mono szw); have szw6 := bw6.size; clear hb6 hb6') | (go_at_call 9; refine (eqFiles_same Q _ _ n n n F _ o6.row ho6.row hn hz).mono ?_; rintro e w7 ⟨rfl, hb7⟩; obtain ⟨la7, pp0, pp1⟩ := QAt.keep ⟨la6, p0, p1⟩ hb7; obtain ⟨lx7, qq0, qq1⟩ := QAt.keep ⟨lx6, q0, q1⟩ hb7; have bw7 : Below w.heap.size w w7 := bw6.trans (hb7.mono szw6); clear hb7))
    go_wp2
    go_ret
    exact ⟨rfl, bw7⟩
end Go.Proofs.Ytgedpjabjoodjaa
