/- An answer of entries marked and looked for. -/
import Derived.Test.YtfdbhkjmkpgomaaCeO
namespace Go.Proofs.Ytfdbhkjmkpgomaa
open Go.RowKit
set_option linter.unusedSimpArgs false
set_option linter.unusedVariables false

set_option maxHeartbeats 1000000 in
theorem markE_zero (ao : Option Addr) (cap : Nat) (q : Int) (w : World) :
    Calls Try.prog 14 #[.slice ao 0 cap, .int .i64 q] w fun e w' => e = .returned (.int .i64 q) ∧ w' = w := by
  go_enter Try.func14, Try.ntmps14
  go_wp2
  go_loopw [1, 5] (fun p i wr => i = .int .i64 0 ∧ p = .int .i64 q ∧ wr = w) (fun _ _ _ => 0)
  case atStart => exact ⟨rfl, rfl, rfl⟩
  case round =>
    obtain ⟨rfl, rfl, rfl⟩ := hrel
    go_wp2
    go_ret
    exact ⟨rfl, rfl⟩

set_option maxHeartbeats 1000000 in
theorem heldE_zero (ao : Option Addr) (cap : Nat) (q : Int) (w : World) :
    Calls Try.prog 15 #[.slice ao 0 cap, .int .i64 q] w fun e w' => e = .returned (.int .i64 q) ∧ w' = w := by
  go_enter Try.func15, Try.ntmps15
  go_wp2
  go_loopw [1, 5] (fun p i wr => i = .int .i64 0 ∧ p = .int .i64 q ∧ wr = w) (fun _ _ _ => 0)
  case atStart => exact ⟨rfl, rfl, rfl⟩
  case round =>
    obtain ⟨rfl, rfl, rfl⟩ := hrel
    go_wp2
    go_ret
    exact ⟨rfl, rfl⟩

theorem markOut_any (go : Option Addr) (gc base n : Nat) (X : Nat → Ent) (V : Nat → Value) (w : World) (h : OutE w base (.slice go n gc) n X V) (hb : base ≤ w.heap.size) (hz : ∀ i, i < n → (X i).n ≤ 1048576) (hn : n ≤ 1048576) (hbd : kOf X 1 n ≤ 16000000) :
    Calls Try.prog 14 #[.slice go n gc, .int .i64 1] w fun e w' => e = .returned (.int .i64 (kOf X 1 n : Int)) ∧ (∀ W, Below w'.heap.size w' W → Calls Try.prog 15 #[.slice go n gc, .int .i64 1] W fun e w'' => e = .returned (.int .i64 (kOf X 1 n : Int)) ∧ Below W.heap.size W w'') ∧ Below base w w' := by
  by_cases h0 : n = 0
  · subst h0
    refine (markE_zero go gc 1 w).mono ?_
    rintro e w' ⟨rfl, rfl⟩
    refine ⟨rfl, fun W hW => ?_, Below.refl _ _⟩
    refine (heldE_zero go gc 1 W).mono ?_
    rintro e w'' ⟨rfl, rfl⟩
    exact ⟨rfl, Below.refl _ _⟩
  · obtain ⟨g, cap, L, C, e, hg, hce, hL⟩ := h.ce (by omega)
    injection e with e1 _ e3
    subst e1 e3
    have hm := markEntryS_any g n gc 1 X L C w hce (by omega) hz hn hbd
    refine hm.mono ?_
    rintro e w' ⟨rfl, hc', hco⟩
    refine ⟨rfl, fun W hW => ?_, ⟨hco.os, hco.tape, hco.output, hco.size, fun c hc => hco.block c (by omega) (by omega) (fun i hi hp e => by have := hL i hi hp c e; omega)⟩⟩
    have hcW := hc'.keep hW
    refine heldEntryS_yes g n gc 1 X L C W (fun i hi => ?_) (fun i hi => ?_) (by omega) hz hn hbd
    · have := hcW.ent i hi
      simpa [hi] using this
    · have hh := hcW.hist i hi
      simp only [hi, if_true] at hh
      rcases hh with h0 | ⟨q, h1, _, h3⟩
      · have h0' : (X i).n = 0 := h0
        exact ⟨fun j => by simp [mkE, h0'], .inl h0'⟩
      · rw [h1]
        exact h3.row
end Go.Proofs.Ytfdbhkjmkpgomaa
