/- ReadLog of no bytes at all. -/
import Derived.Test.YtimlggomjjkhlaaRd5
namespace Go.Proofs.Ytimlggomjjkhlaa
open Go.RowKit
set_option linter.unusedSimpArgs false
set_option linter.unusedVariables false

set_option maxHeartbeats 1000000 in
theorem readAll_nil (RB : Nat) (w : World) (hX : Bx w RB (.slice none 0 0) 0 (.slice none 0 0) 0) :
    Calls Try.prog 26 #[.pointer (some ⟨RB, 0, none⟩)] w fun e w' => e = .returned (.tuple #[]) ∧ Below w.heap.size w w' := by
  have hmf : ∀ (fn : Fn) (first cap : Array Value) (w : World), (Instr.makeFunc fn first cap).run Try.prog w = .ok (.func fn first cap) w := fun _ _ _ _ => rfl
  go_enter_defers Try.func26, Try.ntmps26
  go_wp2
  go_loopw [2] (fun _ wr => wr = w) (fun _ _ => 0)
  case atStart => rfl
  case round =>
    obtain rfl := hrel
    obtain ⟨hlt, c0, c1, c2, c3, fz⟩ := id hX
    go_wp2
    go_quiet (fail)
    have bq : Below wr.heap.size wr (wr.drewN nq) := below_drewN (Below.refl _ _) nq
    generalize wr.drewN nq = w2 at *
    go_wp2
    refine leaves_cons (f := 36) (args := #[]) (by simp) (by simp [go_sem]) ?_
    refine (catch_none _).mono ?_
    rintro e u' w'' ⟨rfl, rfl, rfl⟩
    simp [Leaves, settle, results, Try.results26, go_sem]
    exact bq

set_option maxHeartbeats 1000000 in
theorem readLog_nil (w : World) : Calls Try.prog 10 #[.slice none 0 0] w fun e w' => RLOut [] w e w' := by
  have hX := bx_new w (.slice none 0 0) 47
  have hb0 := below_new w (.cells #[.slice none 0 0, .int .i64 0, .slice none 0 0, .int .i64 0] 47)
  go_enter Try.func10, Try.ntmps10
  go_wp2_with fail
  refine (readAll_nil w.heap.size _ hX).mono ?_
  rintro e w1 ⟨rfl, hb⟩
  have hX1 := hX.keep hb
  have hbw : Below w.heap.size w w1 := hb0.trans (hb.mono (by simp))
  have c2 := hX1.c2
  have c3 := hX1.c3
  clear hX hb0 hX1 hb
  go_wp2
  go_quiet (fail)
  go_wp2
  have bq : Below w1.heap.size w1 (w1.drewN nq) := below_drewN (Below.refl _ _) nq
  have hbq := hbw.trans (bq.mono hbw.size)
  refine bodyPost_ret (v := .tuple #[.slice none 0 0, .int .i64 0, .bool true]) (by simp [results, Try.results10, go_sem]) rfl ⟨none, 0, 0, fun _ => .slice none 0 0, fun _ => [], 0, rfl, (outS_nil _ _).ows.low (Nat.le_refl _), fin_end (Nat.zero_le _), hbq, by simp [tot]⟩

/-- ReadLog of bytes that lie somewhere, or of none. -/
theorem readLog_any (ao : Option Addr) (lc : Nat) (B : List Int) (w : World) (h : (ao = none ∧ B = [] ∧ lc = 0) ∨ ∃ lb lo, ao = some ⟨lb, lo, none⟩ ∧ At w lb lo B ∧ B.length ≤ lc) (hs : B.length ≤ 20000) :
    Calls Try.prog 10 #[.slice ao B.length lc] w fun e w' => RLOut B w e w' := by
  rcases h with ⟨rfl, rfl, rfl⟩ | ⟨lb, lo, rfl, hA, hc⟩
  · exact readLog_nil w
  · exact readLog_impl_yes lb lo B.length lc B w hA rfl hc hs
end Go.Proofs.Ytimlggomjjkhlaa
