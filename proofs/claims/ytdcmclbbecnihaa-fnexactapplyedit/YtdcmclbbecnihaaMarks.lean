/- Marks laid into an answer's memory, and looked for, from 1 on. -/
import Derived.Test.YtdcmclbbecnihaaBy
namespace Go.Proofs.Ytdcmclbbecnihaa
open Go.RowKit
set_option linter.unusedSimpArgs false
set_option linter.unusedVariables false

def marks (i : Nat) : Int := ((1 + i : Nat) : Int) % 256

theorem mark_one (g off n cap : Nat) (f : Nat → Int) (w : World) (ho : Own w g off n f) (hn : n ≤ 1048576) :
    Calls Try.prog 28 #[.slice (some ⟨g, off, none⟩) n cap, .int .i64 1] w fun e w' => e = .returned (.int .i64 ((n : Int) + 1)) ∧ Own w' g off n marks ∧ Others g w w' := by
  refine (markByteS_any g off n cap f 1 w ho hn (by omega)).mono fun e w' h => ?_
  obtain ⟨rfl, h1, h2⟩ := h
  exact ⟨by rw [show ((1 + n : Nat) : Int) = (n : Int) + 1 from by omega], h1, h2⟩

theorem held_one (ao : Option Addr) (n cap : Nat) (w : World) (hr : Row w ao n marks) (hn : n ≤ 1048576) :
    Calls Try.prog 29 #[.slice ao n cap, .int .i64 1] w fun e w' => e = .returned (.int .i64 ((n : Int) + 1)) ∧ Below w.heap.size w w' := by
  refine (heldByteS_yes ao n cap 1 w hr hn (by omega)).mono fun e w' h => ?_
  obtain ⟨rfl, h2⟩ := h
  exact ⟨by rw [show ((1 + n : Nat) : Int) = (n : Int) + 1 from by omega], h2⟩

set_option maxHeartbeats 400000 in
theorem mark_none (ao : Option Addr) (cap : Nat) (w : World) :
    Calls Try.prog 28 #[.slice ao 0 cap, .int .i64 1] w fun e w' => e = .returned (.int .i64 1) ∧ w' = w := by
  go_enter Try.func28, Try.ntmps28
  go_wp2
  go_loopw [1, 5] (fun q i wr => i = .int .i64 0 ∧ q = .int .i64 1 ∧ wr = w) (fun _ _ _ => 0)
  case atStart => exact ⟨rfl, rfl, rfl⟩
  case round =>
    obtain ⟨rfl, rfl, rfl⟩ := hrel
    go_wp2
    go_ret
    exact ⟨rfl, rfl⟩
theorem held_none (ao : Option Addr) (cap : Nat) (w : World) :
    Calls Try.prog 29 #[.slice ao 0 cap, .int .i64 1] w fun e w' => e = .returned (.int .i64 1) ∧ Below w.heap.size w w' := by
  refine (heldByteS_yes ao 0 cap 1 w ⟨fun i => by omega, .inl rfl⟩ (by omega) (by omega)).mono fun e w' h => ?_
  obtain ⟨rfl, h2⟩ := h
  exact ⟨rfl, h2⟩
theorem eq_none (ao bo : Option Addr) (ca cb : Nat) (w : World) :
    Calls Try.prog 27 #[.slice ao 0 ca, .slice bo 0 cb] w fun e w' => e = .returned (.bool true) ∧ Below w.heap.size w w' :=
  eqByteS_same ao bo 0 ca cb (fun _ => 0) w ⟨fun _ => by omega, .inl rfl⟩ ⟨fun _ => by omega, .inl rfl⟩ (by omega)

end Go.Proofs.Ytdcmclbbecnihaa
