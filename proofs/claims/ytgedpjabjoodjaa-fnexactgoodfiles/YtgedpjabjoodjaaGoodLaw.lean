/- The law of GoodFiles, walked. -/
import Derived.Test.YtgedpjabjoodjaaGoodS
namespace Go.Proofs.Ytgedpjabjoodjaa
open Go.RowKit
set_option linter.unusedSimpArgs false
set_option linter.unusedVariables false

set_option maxHeartbeats 2000000 in
theorem goodFiles_law (Q : Int) (ao : Option Addr) (n cap : Nat) (F : Nat → Fil) (w : World) (hr : FRow w ao n F) (hq : -9223372036854775808 ≤ Q ∧ Q ≤ 9223372036854775807) (hnx : n ≤ 9223372036854775807) (hzx : FSize n F 9223372036854775807) :
    Calls Try.prog 3 #[.agg #[.int .i64 Q, .slice ao n cap]] w fun e w' => e = .returned (.bool true) ∧ Below w.heap.size w w' := by
  have hB : Below w.heap.size w (w.alloc (.cells #[.int .i64 Q, .slice ao n cap] 24)) := (Below.refl _ _).alloc (Nat.le_refl _) _
  have A0 := QAt.new w Q (.slice ao n cap) 24
  generalize hG : goodF Q n F = G
  have HG : Hid (goodF Q n F = G) := hG
  clear hG
  go_enter Try.func3, Try.ntmps3
  go_wp2_with fail
  refine (szFiles_any Q ao n cap F 1048576 _ (hr.keep hB) (by omega) hnx hzx).mono ?_
  rintro e w1 ⟨v, rfl, hv1, hv2, hv3, hb1⟩
  have A1 := A0.keep hb1
  have bw1 : Below w.heap.size w w1 := hB.trans (hb1.mono (by simp))
  clear hb1 hB A0
  by_cases hv : v < 0
  · clear hv3
    go_wp2
    go_ret
    exact ⟨rfl, bw1⟩
  · obtain ⟨hn, hz⟩ := hv3 (by omega)
    clear hv3 hnx hzx
    obtain ⟨la, a0, a1⟩ := A1
    go_wp2_with fail
    refine (toFiles_any Q ao n cap F _ (hr.keep bw1) hn hz).mono ?_
    rintro e w2 ⟨g2, G2, rfl, hg2, ho2, hb2⟩
    have A2 := QAt.keep ⟨la, a0, a1⟩ hb2
    have bw2 : Below w.heap.size w w2 := bw1.trans (hb2.mono bw1.size)
    clear hb2 bw1 la a0 a1
    go_wp2_with fail
    refine (goodFiles_spec Q _ n n F G HG _ ho2.row hq hn hz).mono ?_
    rintro e w3 ⟨rfl, hb3⟩
    obtain ⟨la, a0, a1⟩ := A2.keep hb3
    have bw3 : Below w.heap.size w w3 := bw2.trans (hb3.mono bw2.size)
    clear hb3 A2 bw2 ho2
    go_wp2_with fail
    refine (toFiles_any Q ao n cap F _ (hr.keep bw3) hn hz).mono ?_
    rintro e w4 ⟨g4, G4, rfl, hg4, ho4, hb4⟩
    have hB4 : Below w4.heap.size w4 (w4.alloc (.cells #[.int .i64 Q, .slice (some ⟨g4, 0, none⟩) n n] 29)) := (Below.refl _ _).alloc (Nat.le_refl _) _
    have A4 := (QAt.keep ⟨la, a0, a1⟩ hb4).keep hB4
    have X4 := QAt.new w4 Q (.slice (some ⟨g4, 0, none⟩) n n) 29
    have o4 := ho4.keep hB4
    have bw4 : Below w.heap.size w (w4.alloc (.cells #[.int .i64 Q, .slice (some ⟨g4, 0, none⟩) n n] 29)) := (bw3.trans (hb4.mono bw3.size)).trans (hB4.mono (by have := bw3.size; have := hb4.size; omega))
    clear hb4 hB4 bw3 la a0 a1 ho4
    obtain ⟨lx, x0, x1⟩ := id X4
    go_wp2_with fail
    refine (goodFiles_impl Q _ n n F G HG _ o4.row hq hn hz).mono ?_
    rintro e w5 ⟨rfl, hb5⟩
    have A5 := A4.keep hb5
    have X5 := X4.keep hb5
    have o5 := o4.keep hb5
    have bw5 : Below w.heap.size w w5 := bw4.trans (hb5.mono bw4.size)
    clear hb5 A4 X4 o4 bw4 lx x0 x1
    obtain ⟨la, a0, a1⟩ := id A5
    obtain ⟨lx, x0, x1⟩ := id X5
    have szw := bw5.size
    have hrd := (hr.keep bw5).keep (Below.refl _ _).drew
    go_wp2
    go_region_held3 (fun w' => w'.cell? ⟨w4.heap.size, 0, none⟩ = some (.int .i64 Q) ∧ w'.cell? ⟨w4.heap.size, 1, none⟩ = some (.slice (some ⟨g4, 0, none⟩) n n) ∧ w'.cell? ⟨w.heap.size, 0, none⟩ = some (.int .i64 Q) ∧ w'.cell? ⟨w.heap.size, 1, none⟩ = some (.slice ao n cap)) (go_keep) (first | (go_at_call 7; refine (toFiles_any Q ao n cap F _ hrd hn hz).mono ?_; rintro e w6 ⟨g6, G6, rfl, hg6, ho6, hb6⟩; have hb6' := (Below.refl _ w5).drew.trans hb6; obtain ⟨la6, p0, p1⟩ := A5.keep hb6'; obtain ⟨lx6, q0, q1⟩ := X5.keep hb6'; have o6 := o5.keep hb6'; have bw6 : Below w.heap.size w w6 := bw5.trans (hb6'.mono szw); have szw6 := bw6.size; clear hb6 hb6') | (go_at_call 9; refine (eqFiles_same Q _ _ n n n F _ o6.row ho6.row hn hz).mono ?_; rintro e w7 ⟨rfl, hb7⟩; obtain ⟨la7, pp0, pp1⟩ := QAt.keep ⟨la6, p0, p1⟩ hb7; obtain ⟨lx7, qq0, qq1⟩ := QAt.keep ⟨lx6, q0, q1⟩ hb7; have bw7 : Below w.heap.size w w7 := bw6.trans (hb7.mono szw6); clear hb7))
    go_wp2
    go_ret
    exact ⟨rfl, bw7⟩
end Go.Proofs.Ytgedpjabjoodjaa
