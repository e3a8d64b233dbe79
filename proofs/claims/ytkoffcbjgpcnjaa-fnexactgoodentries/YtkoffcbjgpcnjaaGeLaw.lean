/- The law of GoodEntry, walked. -/
import Derived.Test.YtkoffcbjgpcnjaaGe
import Derived.Test.YtkoffcbjgpcnjaaRw
import Derived.Deep.RegionHeld3
namespace Go.Proofs.Ytkoffcbjgpcnjaa
open Go.RowKit
set_option linter.unusedSimpArgs false
set_option linter.unusedVariables false

theorem same_ans {p : Prop} {b c : Bool} (h : b = true ↔ p) (k : c = true ↔ p) : b = c := by
  cases b <;> cases c <;> simp_all

set_option maxHeartbeats 4000000 in
theorem goodEntry_law (x : Ent) (ao : Option Addr) (cap : Nat) (w : World) (hr : IRow w ao x.n x.f) (hE : EB x) :
    Calls Try.prog 3 #[.agg #[.string x.key, .int .i64 x.seq, .int .i64 x.kind, .int .i64 x.c, .int .i64 x.s, .int .i64 x.lo, .int .i64 x.hi, .slice ao x.n cap, .bool x.fu]] w fun e w' => e = .returned (.bool true) ∧ Below w.heap.size w w' := by
  have hB := below_new w (.cells #[.string x.key, .int .i64 x.seq, .int .i64 x.kind, .int .i64 x.c, .int .i64 x.s, .int .i64 x.lo, .int .i64 x.hi, .slice ao x.n cap, .bool x.fu] 26)
  have A0 := EAt.new w x ao cap 26
  have hkx := hE.key
  have hnx := hE.n
  have hs := hE.s
  go_enter Try.func3, Try.ntmps3
  go_wp2_with fail
  refine (szEntry_any x ao cap 1048576 _ (by omega) hkx hnx).mono ?_
  rintro e w1 ⟨v, rfl, hv1, hv2, hv3, hb1⟩
  have A1 := A0.keep hb1
  have bw1 : Below w.heap.size w w1 := hB.trans (hb1.mono (by simp))
  clear hb1 hB A0
  by_cases hv : v < 0
  · clear hv3
    go_wp2
    go_ret
    exact ⟨rfl, bw1⟩
  · have hn := (hv3 (by omega)).2
    clear hv3 hnx hkx
    obtain ⟨la, a0, a1, a2, a3, a4, a5, a6, a7, a8⟩ := A1.z
    go_wp2_with fail
    refine (toEntry_any x ao cap _ (hr.keep bw1) hn).mono ?_
    rintro e w2 ⟨g2, rfl, hg2, ho2, hb2⟩
    have A2 := A1.keep hb2
    have bw2 : Below w.heap.size w w2 := bw1.trans (hb2.mono bw1.size)
    clear hb2 bw1 la a0 a1 a2 a3 a4 a5 a6 a7 a8 A1
    go_wp2_with fail
    refine (goodEntry_spec x _ x.n _ ho2.row hn hs).mono ?_
    rintro e w3 ⟨b3, rfl, hb3, q3⟩
    have H3 : Hid (b3 = true ↔ GoodE x) := hb3
    have A3 := A2.keep q3
    have bw3 : Below w.heap.size w w3 := bw2.trans (q3.mono bw2.size)
    clear q3 A2 bw2 ho2 hb3
    obtain ⟨la, a0, a1, a2, a3, a4, a5, a6, a7, a8⟩ := A3.z
    go_wp2_with fail
    refine (toEntry_any x ao cap _ (hr.keep bw3) hn).mono ?_
    rintro e w4 ⟨g4, rfl, hg4, ho4, hb4⟩
    have hB4 := below_new w4 (.cells #[.string x.key, .int .i64 x.seq, .int .i64 x.kind, .int .i64 x.c, .int .i64 x.s, .int .i64 x.lo, .int .i64 x.hi, .slice (some ⟨g4, 0, none⟩) x.n x.n, .bool x.fu] 31)
    have A4 := (A3.keep hb4).keep hB4
    have X4 := EAt.new w4 x (some ⟨g4, 0, none⟩) x.n 31
    have o4 := ho4.keep hB4
    have bw4 := (bw3.trans (hb4.mono bw3.size)).trans (hB4.mono (by have := bw3.size; have := hb4.size; omega))
    clear hb4 hB4 bw3 la a0 a1 a2 a3 a4 a5 a6 a7 a8 A3 ho4
    obtain ⟨lx, x0, x1, x2, x3, x4, x5, x6, x7, x8⟩ := X4.z
    go_wp2_with fail
    refine (goodEntry_impl x _ x.n _ o4.row hn hs).mono ?_
    rintro e w5 ⟨b5, rfl, hb5, q5⟩
    obtain rfl := same_ans H3.out hb5
    have A5 := A4.keep q5
    have X5 := X4.keep q5
    have o5 := o4.keep q5
    have bw5 : Below w.heap.size w w5 := bw4.trans (q5.mono bw4.size)
    clear q5 A4 X4 o4 bw4 lx x0 x1 x2 x3 x4 x5 x6 x7 x8 hb5 H3
    obtain ⟨la, a0, a1, a2, a3, a4, a5, a6, a7, a8⟩ := A5.z
    obtain ⟨lx, x0, x1, x2, x3, x4, x5, x6, x7, x8⟩ := X5.z
    have szw := bw5.size
    have hrd := (hr.keep bw5).keep (Below.refl _ _).drew
    cases b3
    all_goals
      go_wp2
      go_region_held3 (fun w' => w'.cell? ⟨w4.heap.size, 0, none⟩ = some (.string x.key) ∧ w'.cell? ⟨w4.heap.size, 1, none⟩ = some (.int .i64 x.seq) ∧ w'.cell? ⟨w4.heap.size, 2, none⟩ = some (.int .i64 x.kind) ∧ w'.cell? ⟨w4.heap.size, 3, none⟩ = some (.int .i64 x.c) ∧ w'.cell? ⟨w4.heap.size, 4, none⟩ = some (.int .i64 x.s) ∧ w'.cell? ⟨w4.heap.size, 5, none⟩ = some (.int .i64 x.lo) ∧ w'.cell? ⟨w4.heap.size, 6, none⟩ = some (.int .i64 x.hi) ∧ w'.cell? ⟨w4.heap.size, 7, none⟩ = some (.slice (some ⟨g4, 0, none⟩) x.n x.n) ∧ w'.cell? ⟨w4.heap.size, 8, none⟩ = some (.bool x.fu) ∧ w'.cell? ⟨w.heap.size, 0, none⟩ = some (.string x.key) ∧ w'.cell? ⟨w.heap.size, 1, none⟩ = some (.int .i64 x.seq) ∧ w'.cell? ⟨w.heap.size, 2, none⟩ = some (.int .i64 x.kind) ∧ w'.cell? ⟨w.heap.size, 3, none⟩ = some (.int .i64 x.c) ∧ w'.cell? ⟨w.heap.size, 4, none⟩ = some (.int .i64 x.s) ∧ w'.cell? ⟨w.heap.size, 5, none⟩ = some (.int .i64 x.lo) ∧ w'.cell? ⟨w.heap.size, 6, none⟩ = some (.int .i64 x.hi) ∧ w'.cell? ⟨w.heap.size, 7, none⟩ = some (.slice ao x.n cap) ∧ w'.cell? ⟨w.heap.size, 8, none⟩ = some (.bool x.fu)) (go_keep) (first | (go_at_call 11; refine (toEntry_any x ao cap _ hrd hn).mono ?_; rintro e w6 ⟨g6, rfl, hg6, ho6, hb6⟩; have hb6' := (Below.refl _ w5).drew.trans hb6; have A6 := A5.keep hb6'; have X6 := X5.keep hb6'; obtain ⟨lp, p0, p1, p2, p3, p4, p5, p6, p7, p8⟩ := A6.z; obtain ⟨lr, r0, r1, r2, r3, r4, r5, r6, r7, r8⟩ := X6.z; have o6 := o5.keep hb6'; have bw6 : Below w.heap.size w w6 := bw5.trans (hb6'.mono szw); have szw6 := bw6.size; clear hb6 hb6') | (go_at_call 13; refine (eqEntry_same x _ _ x.n x.n _ o6.row ho6.row hn).mono ?_; rintro e w7 ⟨rfl, hb7⟩; obtain ⟨lpp, pp0, pp1, pp2, pp3, pp4, pp5, pp6, pp7, pp8⟩ := (A6.keep hb7).z; obtain ⟨lrr, rr0, rr1, rr2, rr3, rr4, rr5, rr6, rr7, rr8⟩ := (X6.keep hb7).z; have bw7 : Below w.heap.size w w7 := bw6.trans (hb7.mono szw6); clear hb7))
      go_wp2
      go_ret
      exact ⟨rfl, bw7⟩
end Go.Proofs.Ytkoffcbjgpcnjaa
