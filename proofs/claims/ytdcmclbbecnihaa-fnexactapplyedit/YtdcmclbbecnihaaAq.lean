/- slices.Equal over metas: the same, and of unlike length. -/
import Derived.Test.YtdcmclbbecnihaaAp
namespace Go.Proofs.Ytdcmclbbecnihaa
open Go.RowKit
set_option linter.unusedSimpArgs false
set_option linter.unusedVariables false

set_option maxHeartbeats 1600000 in
theorem equalM_len (ao bo : Option Addr) (n m ca cb : Nat) (w : World) (hn : n ≠ m) (h1 : n ≤ 1048576) (h2 : m ≤ 1048576) :
    Calls Try.prog 96 #[.slice ao n ca, .slice bo m cb] w fun e w' => e = .returned (.bool false) ∧ Below w.heap.size w w' := by
  have hnm : ¬ (n : Int) = (m : Int) := by omega
  go_enter Try.func96, Try.ntmps96
  go_wp2
  go_ret
  exact ⟨rfl, Below.refl _ _⟩

set_option maxHeartbeats 1600000 in
theorem equalM_same (ao bo : Option Addr) (n ca cb : Nat) (X : Nat → Met) (w : World) (hr : MRow w ao n X) (hs : MRow w bo n X) (hn : n ≤ 1048576) :
    Calls Try.prog 96 #[.slice ao n ca, .slice bo n cb] w fun e w' => e = .returned (.bool true) ∧ Below w.heap.size w w' := by
  obtain ⟨_, hl⟩ := hr
  obtain ⟨_, hm⟩ := hs
  go_enter Try.func96, Try.ntmps96
  go_wp2
  go_loopw [13] (fun i wr => ∃ k : Nat, k ≤ n ∧ i = .int .i64 k ∧ Below w.heap.size w wr) (fun i _ => n - (intOf i).toNat)
  case atStart => exact ⟨0, Nat.zero_le _, rfl, Below.refl _ _⟩
  case round =>
    obtain ⟨k, hk, rfl, hbk⟩ := hrel
    by_cases hlt : k < n
    · obtain ⟨b, off, rfl, hblt, hc⟩ := hl.resolve_left (by omega)
      obtain ⟨b', off', rfl, hblt', hc'⟩ := hm.resolve_left (by omega)
      obtain ⟨_, a0, a1, a2, a3⟩ := (hc k hlt).keep hbk
      obtain ⟨_, d0, d1, d2, d3⟩ := (hc' k hlt).keep hbk
      clear hc hc' hl hm
      go_wp2
      go_quiet (fail)
      go_wp2
      go_roundw
      case rel => exact ⟨k + 1, by omega, by go_num, below_drewN hbk _⟩
      case measure => simp [intOf]; omega
    · go_wp2
      go_ret
      exact ⟨rfl, hbk⟩

/-- A file that is in no meta of a level. -/
theorem wo_none {L : List Met} {file : Int} (h : ∀ m ∈ L, m.file ≠ file) : wo L file = L := by
  unfold wo
  rw [List.filter_eq_self]
  intro m hm
  exact bne_iff_ne.2 (h m hm)
theorem wo_some {L : List Met} {file : Int} {m : Met} (hm : m ∈ L) (h : m.file = file) : (wo L file).length < L.length := by
  unfold wo
  have h1 := List.length_filter_le (fun m : Met => m.file != file) L
  rcases Nat.lt_or_eq_of_le h1 with h2 | h2
  · exact h2
  · have := (List.length_filter_eq_length_iff.1 h2) m hm
    simp [h] at this
end Go.Proofs.Ytdcmclbbecnihaa
