/- Bytes looked for, and texts cut out. -/
import Derived.Test.YtpddodjecbcmlaaKeyRead
namespace Go.Proofs.Ytpddodjecbcmlaa
open Go.RowKit
set_option linter.unusedSimpArgs false
set_option linter.unusedVariables false

set_option maxHeartbeats 1000000 in
theorem index_any (b off N cap : Nat) (f : Nat → Int) (x : Int) (w : World) (hbd : ∀ i, 0 ≤ f i ∧ f i ≤ 255) (hc : ∀ i, i < N → w.cell? ⟨b, off + i, none⟩ = some (.int .u8 (f i))) (hN : N ≤ 1048576) (ao : Option Addr) (hao : 0 < N → ao = some ⟨b, off, none⟩) :
    Calls Try.prog 54 #[.slice ao N cap, .int .u8 x] w fun e w' => ∃ j : Nat, e = .returned (.int .i64 (if j < N then (j : Int) else -1)) ∧ Find f N 0 x j ∧ w' = w := by
  go_enter Try.func54, Try.ntmps54
  go_wp2
  go_loopw [8] (fun i wr => ∃ k : Nat, k ≤ N ∧ i = .int .i64 k ∧ Hid (∀ i, 0 ≤ i → i < k → f i ≠ x) ∧ wr = w) (fun i _ => N - (intOf i).toNat)
  case atStart => exact ⟨0, Nat.zero_le _, rfl, fun i h1 h2 => by omega, rfl⟩
  case round =>
    obtain ⟨k, h2, rfl, HN, rfl⟩ := hrel
    by_cases hlt : k < N
    · obtain rfl := hao (by omega)
      have h3 := hc k hlt
      by_cases hx : f k = x
      · have hx' : (x == f k) = true := by simp [hx]
        have HF : Hid (Find f N 0 x k) := ⟨by omega, h2, HN.out, fun _ => hx⟩
        clear hc hx
        go_wp2
        go_ret
        exact ⟨k, by rw [if_pos hlt]; rfl, HF.out, rfl⟩
      · have hx' : (x == f k) = false := by simp; exact fun h => hx h.symm
        have HN' : Hid (∀ i, 0 ≤ i → i < k + 1 → f i ≠ x) := fun i g1 g2 => by
          rcases Nat.lt_succ_iff_lt_or_eq.1 g2 with g | g
          · exact HN.out i g1 g
          · subst g; exact hx
        clear hc hx
        go_wp2
        go_roundw
        case rel => exact ⟨k + 1, by omega, by go_num, HN', trivial⟩
        case measure => simp [intOf]; omega
    · have HF : Hid (Find f N 0 x k) := ⟨by omega, h2, HN.out, fun h => absurd h hlt⟩
      clear hc
      go_wp2
      go_ret
      exact ⟨k, by rw [if_neg hlt]; rfl, HF.out, rfl⟩

theorem find_shift {f : Nat → Int} {N q j : Nat} {x : Int} (hq : q ≤ N) (h : Find (fun i => f (q + i)) (N - q) 0 x j) : Find f N q x (q + j) := by
  refine ⟨by omega, by have := h.le; omega, fun i g1 g2 => ?_, fun g => h.hit (by omega)⟩
  have g := h.no (i - q) (by omega) (by omega)
  have e : q + (i - q) = i := by omega
  rw [e] at g
  exact g

/-- What readUpTo answers. -/
def UpTo (f : Nat → Int) (N q : Nat) (x : Int) (w : World) (e : Ending) (w' : World) : Prop :=
  ∃ j, Find f N q x j ∧ w' = w ∧ ((j < N ∧ e = .returned (.tuple #[.string (str f q j), .int .i64 ((j : Int) + 1), .bool true])) ∨ (¬ j < N ∧ e = .returned (.tuple #[.string ⟨#[]⟩, .int .i64 0, .bool false])))

set_option maxHeartbeats 400000 in
theorem readUpTo_any (b off N cap : Nat) (f : Nat → Int) (q : Nat) (x : Int) (w : World) (hbd : ∀ i, 0 ≤ f i ∧ f i ≤ 255) (hc : ∀ i, i < N → w.cell? ⟨b, off + i, none⟩ = some (.int .u8 (f i))) (hN : N ≤ 1048576) (hq : q ≤ N) (hcap : N ≤ cap) :
    Calls Try.prog 38 #[.slice (some ⟨b, off, none⟩) N cap, .int .i64 q, .int .u8 x] w fun e w' => UpTo f N q x w e w' := by
  have hc' : ∀ i, i < N - q → w.cell? ⟨b, off + q + i, none⟩ = some (.int .u8 (f (q + i))) := fun i hi => by rw [Nat.add_assoc]; exact hc _ (by omega)
  by_cases hcq : cap = q
  · subst hcq
    go_enter Try.func38, Try.ntmps38
    go_wp2_with fail
    refine (index_any b off 0 0 (fun i => f (cap + i)) x w (fun i => hbd _) (fun i hi => by omega) (by omega) _ (fun h => by omega)).mono ?_
    rintro e w1 ⟨j, rfl, hf, rfl⟩
    rw [if_neg (Nat.not_lt_zero j)]
    have HF : Hid (Find f N cap x N) := ⟨hq, Nat.le_refl _, fun i g1 g2 => by omega, fun g => by omega⟩
    clear hf hc hc'
    go_wp2
    go_ret3
    exact ⟨N, HF.out, rfl, .inr ⟨by omega, rfl⟩⟩
  · have hcq2 : q < cap := by omega
    go_enter Try.func38, Try.ntmps38
    go_wp2_with fail
    refine (index_any b (off + q) (N - q) (cap - q) (fun i => f (q + i)) x w (fun i => hbd _) hc' (by omega) _ (fun h => rfl)).mono ?_
    rintro e w1 ⟨j, rfl, hf, rfl⟩
    have HF : Hid (Find f N q x (q + j)) := find_shift hq hf
    clear hf
    by_cases hj : j < N - q
    · rw [if_pos hj]
      have hcv := run_convert_bytes_arg (P := Try.prog) w1 22 5 Try.underlying22 Try.underlying5 b (off + q) j (cap - q) ((List.range j).map fun i => f (q + i)) (by simp) (fun i hi => by
        rw [hc' i (by omega)]
        simp [hi]) 9 Try.underlying9
      have hstr : Hid (strOfNums ((List.range j).map fun i => f (q + i)) = str f q (q + j)) := by unfold Hid str; rw [show q + j - q = j from by omega]
      generalize strOfNums ((List.range j).map fun i => f (q + i)) = z at *
      have hqj : q + j ≤ cap := by omega
      clear hc hc'
      go_wp2
      go_ret3
      refine ⟨q + j, HF.out, rfl, .inl ⟨by omega, ?_⟩⟩
      rw [← hstr.out]
      rfl
    · rw [if_neg hj]
      clear hc hc'
      go_wp2
      go_ret3
      exact ⟨q + j, HF.out, rfl, .inr ⟨by omega, rfl⟩⟩
end Go.Proofs.Ytpddodjecbcmlaa
