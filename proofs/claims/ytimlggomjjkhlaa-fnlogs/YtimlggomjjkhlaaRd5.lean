/- ReadLog, the program. -/
import Derived.Test.YtimlggomjjkhlaaRd4
namespace Go.Proofs.Ytimlggomjjkhlaa
open Go.RowKit
set_option linter.unusedSimpArgs false
set_option linter.unusedVariables false

/-- What ReadLog answers of B: r. -/
def RLOut (B : List Int) (w : World) (e : Ending) (w' : World) : Prop :=
  ∃ ao n cap V Rs wh, e = .returned (.tuple #[.slice ao n cap, .int .i64 (wh : Nat), .bool true]) ∧ OwS w' w.heap.size w'.heap.size ao n V Rs ∧ Fin B 0 [] false [] 0 (recs n Rs, wh) ∧ Below w.heap.size w w' ∧ n + tot Rs n ≤ 40000

theorem bx_new (w : World) (lg : Value) (T : Nat) : Bx (w.alloc (.cells #[lg, .int .i64 0, .slice none 0 0, .int .i64 0] T)) w.heap.size lg 0 (.slice none 0 0) 0 := by
  have hh : (w.alloc (.cells #[lg, .int .i64 0, .slice none 0 0, .int .i64 0] T)).heap[w.heap.size]? = some (.cells #[lg, .int .i64 0, .slice none 0 0, .int .i64 0] T (0, 0)) := heap_alloc_new w _
  exact ⟨by simp, cell_of_row _ _ _ _ _ _ hh, cell_of_row _ _ _ _ _ _ hh, cell_of_row _ _ _ _ _ _ hh, cell_of_row _ _ _ _ _ _ hh, fun i => frozen_of_row _ _ _ _ _ hh⟩
theorem OwS.low {w : World} {lo lo' hi : Nat} {ao : Option Addr} {n : Nat} {V : Nat → Value} {Rs : Nat → List Int} (h : OwS w lo hi ao n V Rs) (hl : lo' ≤ lo) : OwS w lo' hi ao n V Rs := by
  refine ⟨h.bd, fun i hi => ?_, h.dis, ?_, h.top⟩
  · rcases h.rows i hi with h0 | ⟨g, off, c, e, h1, h2, ho⟩
    · exact .inl h0
    · exact .inr ⟨g, off, c, e, Nat.le_trans hl h1, h2, ho⟩
  · rcases h.lies with h0 | ⟨b, off, e, h1, h2, h3⟩
    · exact .inl h0
    · exact .inr ⟨b, off, e, Nat.le_trans hl h1, h2, h3⟩

set_option maxHeartbeats 1000000 in
theorem readLog_impl_yes (lb lo n lc : Nat) (B : List Int) (w : World) (hA : At w lb lo B) (hn : n = B.length) (hc : n ≤ lc) (hs : B.length ≤ 20000) :
    Calls Try.prog 10 #[.slice (some ⟨lb, lo, none⟩) n lc] w fun e w' => RLOut B w e w' := by
  subst hn
  have h1 : ¬ (20000 : Int) < (B.length : Int) := by omega
  have hX := bx_new w (.slice (some ⟨lb, lo, none⟩) B.length lc) 47
  have hb0 := below_new w (.cells #[.slice (some ⟨lb, lo, none⟩) B.length lc, .int .i64 0, .slice none 0 0, .int .i64 0] 47)
  have hL : Lg (w.alloc (.cells #[.slice (some ⟨lb, lo, none⟩) B.length lc, .int .i64 0, .slice none 0 0, .int .i64 0] 47)) w.heap.size lb lo lc B := ⟨hA.keep hb0, hc, Nat.ne_of_lt hA.lt, hs⟩
  go_enter Try.func10, Try.ntmps10
  go_wp2_with fail
  refine (readAll_any w.heap.size lb lo lc B _ hX hL).mono ?_
  rintro e w1 ⟨rfl, a, rv, wh, m, V, Rs, hX1, hO, hF, hg, hwh, hnw, htw⟩
  have hbw : Below w.heap.size w w1 := hb0.trans ⟨hg.os, hg.tape, hg.output, hg.size, fun k hk => hg.block k (by simp; omega) (by simp; omega)⟩
  obtain ⟨ao, cap, rfl⟩ := hO.form
  have hS := hO.ows.low (lo' := w.heap.size) (by simp)
  have HF : Hid (Fin B 0 [] false [] 0 (recs m Rs, wh)) := hF
  have c2 := hX1.c2
  have c3 := hX1.c3
  clear hX hL hb0 hX1 hO hF hg
  go_wp2
  go_quiet (fail)
  go_wp2
  have bq : Below w1.heap.size w1 (w1.drewN nq) := below_drewN (Below.refl _ _) nq
  refine bodyPost_ret (v := .tuple #[.slice ao m cap, .int .i64 (wh : Int), .bool true]) (by simp [results, Try.results10, go_sem]) rfl ⟨ao, m, cap, V, Rs, wh, rfl, ?_, HF.out, hbw.trans (bq.mono hbw.size), by omega⟩
  exact hS.keep bq

set_option maxHeartbeats 400000 in
theorem readLog_impl_no (ao : Option Addr) (n cap : Nat) (w : World) (hn : n ≤ 1048576) (h : ¬ n ≤ 20000) :
    Calls Try.prog 10 #[.slice ao n cap] w fun e w' => e = .returned (.tuple #[.slice none 0 0, .int .i64 0, .bool false]) ∧ w' = w := by
  have h1 : (20000 : Int) < (n : Int) := by omega
  go_enter Try.func10, Try.ntmps10
  go_wp2
  exact bodyPost_ret (v := .tuple #[.slice none 0 0, .int .i64 0, .bool false]) (by simp [results, Try.results10, go_sem]) rfl ⟨rfl, rfl⟩
end Go.Proofs.Ytimlggomjjkhlaa
