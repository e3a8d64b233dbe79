/- An answer of entries marked and looked for. / The law of EntriesOf, walked. -/
import Derived.Test.YtfdbhkjmkpgomaaGreatCeO
namespace Go.Proofs.YtfdbhkjmkpgomaaGreat
set_option maxRecDepth 100000
open Go.RowKit
set_option linter.unusedSimpArgs false
set_option linter.unusedVariables false

set_option maxHeartbeats 1000000 in
theorem markE_zero (ao : Option Addr) (cap : Nat) (q : Int) (w : World) :
    Calls Tryz.prog 12 #[.slice ao 0 cap, .int .i64 q] w fun e w' => e = .returned (.int .i64 q) ∧ w' = w := by
  go_enter Tryz.func12, Tryz.ntmps12
  go_wp2
  go_loopw [1, 5] (fun p i wr => i = .int .i64 0 ∧ p = .int .i64 q ∧ wr = w) (fun _ _ _ => 0)
  case atStart => exact ⟨rfl, rfl, rfl⟩
  case round =>
    obtain ⟨rfl, rfl, rfl⟩ := hrel
    go_wp2
    go_ret
    exact ⟨rfl, rfl⟩

set_option maxHeartbeats 1000000 in
theorem heldE_zero (ao : Option Addr) (cap : Nat) (q : Int) (w : World) :
    Calls Tryz.prog 13 #[.slice ao 0 cap, .int .i64 q] w fun e w' => e = .returned (.int .i64 q) ∧ w' = w := by
  go_enter Tryz.func13, Tryz.ntmps13
  go_wp2
  go_loopw [1, 5] (fun p i wr => i = .int .i64 0 ∧ p = .int .i64 q ∧ wr = w) (fun _ _ _ => 0)
  case atStart => exact ⟨rfl, rfl, rfl⟩
  case round =>
    obtain ⟨rfl, rfl, rfl⟩ := hrel
    go_wp2
    go_ret
    exact ⟨rfl, rfl⟩

theorem markOut_any (go : Option Addr) (gc base n : Nat) (X : Nat → Ent) (V : Nat → Value) (w : World) (h : OutE w base (.slice go n gc) n X V) (hb : base ≤ w.heap.size) (hz : ∀ i, i < n → (X i).n ≤ 1048576) (hn : n ≤ 1048576) (hbd : kOf X 1 n ≤ 16000000) :
    Calls Tryz.prog 12 #[.slice go n gc, .int .i64 1] w fun e w' => e = .returned (.int .i64 (kOf X 1 n : Int)) ∧ (∀ W, Below w'.heap.size w' W → Calls Tryz.prog 13 #[.slice go n gc, .int .i64 1] W fun e w'' => e = .returned (.int .i64 (kOf X 1 n : Int)) ∧ Below W.heap.size W w'') ∧ Below base w w' := by
  by_cases h0 : n = 0
  · subst h0
    refine (markE_zero go gc 1 w).mono ?_
    rintro e w' ⟨rfl, rfl⟩
    refine ⟨rfl, fun W hW => ?_, Below.refl _ _⟩
    refine (heldE_zero go gc 1 W).mono ?_
    rintro e w'' ⟨rfl, rfl⟩
    exact ⟨rfl, Below.refl _ _⟩
  · obtain ⟨g, cap, L, C, e, hg, hce, hL⟩ := h.ce (by omega)
    injection e with e1 _ e3
    subst e1 e3
    have hm := markEntryS_any g n gc 1 X L C w hce (by omega) hz hn hbd
    refine hm.mono ?_
    rintro e w' ⟨rfl, hc', hco⟩
    refine ⟨rfl, fun W hW => ?_, ⟨hco.os, hco.tape, hco.output, hco.size, fun c hc => hco.block c (by omega) (by omega) (fun i hi hp e => by have := hL i hi hp c e; omega)⟩⟩
    have hcW := hc'.keep hW
    refine heldEntryS_yes g n gc 1 X L C W (fun i hi => ?_) (fun i hi => ?_) (by omega) hz hn hbd
    · have := hcW.ent i hi
      simpa [hi] using this
    · have hh := hcW.hist i hi
      simp only [hi, if_true] at hh
      rcases hh with h0 | ⟨q, h1, _, h3⟩
      · have h0' : (X i).n = 0 := h0
        exact ⟨fun j => by simp [mkE, h0'], .inl h0'⟩
      · rw [h1]
        exact h3.row
end Go.Proofs.YtfdbhkjmkpgomaaGreat

namespace Go.Proofs.YtfdbhkjmkpgomaaGreat
set_option maxRecDepth 100000
open Go.RowKit
set_option linter.unusedSimpArgs false
set_option linter.unusedVariables false

theorem tot_congr {X Y : Nat → Ent} : ∀ {n : Nat}, (∀ i, i < n → X i = Y i) → tot X n = tot Y n
  | 0, _ => rfl
  | n + 1, h => by
    unfold tot
    rw [tot_congr (n := n) (fun i hi => h i (by omega)), h n (by omega)]
theorem fX_tot (X : Nat → Ent) (key : ByteArray) : ∀ k, tot (eL (fX X key k)) (fX X key k).length ≤ tot X k
  | 0 => by simp [fX, tot]
  | k + 1 => by
    have ih := fX_tot X key k
    unfold fX
    split
    · have e1 : eL (fX X key k ++ [X k]) (fX X key k).length = X k := by rw [← eL_push _ _ _ (by omega), if_pos rfl]
      have e2 : tot (eL (fX X key k ++ [X k])) (fX X key k).length = tot (eL (fX X key k)) (fX X key k).length := tot_congr (fun i hi => by rw [← eL_push _ _ i (by omega), if_neg (by omega)])
      rw [List.length_append, List.length_singleton]
      show tot (eL (fX X key k ++ [X k])) (fX X key k).length + ((eL (fX X key k ++ [X k]) (fX X key k).length).key.size + (eL (fX X key k ++ [X k]) (fX X key k).length).n) ≤ tot X k + ((X k).key.size + (X k).n)
      rw [e1, e2]
      omega
    · show _ ≤ tot X k + ((X k).key.size + (X k).n)
      omega
theorem eoa_of {X : Nat → Ent} {key : ByteArray} {n : Nat} : ∃ (E : List Ent) (c : Bool), E.length ≤ n ∧ tot (eL E) E.length ≤ tot X n ∧ (∀ P : Ent → Prop, (∀ i, i < n → P (X i)) → ∀ i, i < E.length → P (eL E i)) ∧ ∀ w e w', EoO (GoodL X n) (fX X key n) w e w' → EoA E c w e w' := by
  by_cases h : GoodL X n
  · refine ⟨fX X key n, true, fX_len X key n, fX_tot X key n, fun P hP => fX_all hP, ?_⟩
    rintro w e w' (⟨hn, _⟩ | ⟨_, ha⟩)
    · exact absurd h hn
    · exact ha
  · refine ⟨[], false, by simp, by simp [tot], fun P hP i hi => by simp at hi, ?_⟩
    rintro w e w' (⟨_, ha⟩ | ⟨hg, _⟩)
    · exact ha
    · exact absurd hg h
theorem kOf_tot (X : Nat → Ent) : ∀ n, kOf X 1 n ≤ 1 + 8 * n + tot X n
  | 0 => by simp [kOf, tot]
  | n + 1 => by
    have := kOf_tot X n
    unfold kOf tot
    omega
end Go.Proofs.YtfdbhkjmkpgomaaGreat
