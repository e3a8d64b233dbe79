/- The bytes of an agg, in the model. -/
import Derived.Test.YtbaiihokdpojdaaPut
namespace Go.Proofs.Ytbaiihokdpojdaa
open Go.RowKit
set_option linter.unusedSimpArgs false
set_option linter.unusedVariables false

set_option maxHeartbeats 1600000 in
theorem l4Bytes_false (c s lo hi : Int) (ao : Option Addr) (cap : Nat) (f : Nat → Int) (N : Nat → Int) (eN : nm c s lo hi f = N) (w : World) (hr : IRow w ao 8 f) (hN : ∀ i, i < 12 → -1000000000000000000 ≤ N i ∧ N i ≤ 1000000000000000000) :
    Calls Try.prog 31 #[.agg #[.int .i64 c, .int .i64 s, .int .i64 lo, .int .i64 hi, .slice ao 8 cap, .bool false]] w fun e w' => ∃ v, e = .returned v ∧ OwnL w' w.heap.size v (bl false N 12) ∧ Below w.heap.size w w' := by
  obtain ⟨b, off, rfl, hblt, hcell⟩ := hr.lies.resolve_left (by omega)
  have hB0 : Below w.heap.size w (((w.alloc (.cells #[.int .i64 c, .int .i64 s, .int .i64 lo, .int .i64 hi, .slice (some ⟨b, off, none⟩) 8 cap, .bool false] 27)).alloc (.cells #[.int .u8 0] 5))) := (below_new w _).alloc (by simp) _
  have hB1 := fun o => hB0.alloc (by simp; omega) o
  have hM : ∀ o i, i < 8 → ((((w.alloc (.cells #[.int .i64 c, .int .i64 s, .int .i64 lo, .int .i64 hi, .slice (some ⟨b, off, none⟩) 8 cap, .bool false] 27)).alloc (.cells #[.int .u8 0] 5))).alloc o).cell? ⟨b, off + i, none⟩ = some (.int .i64 (f i)) := fun o i hi => ((hB1 o).cell (p := ⟨b, off + i, none⟩) hblt).trans (hcell i hi)
  have oL : OwnL (((w.alloc (.cells #[.int .i64 c, .int .i64 s, .int .i64 lo, .int .i64 hi, .slice (some ⟨b, off, none⟩) 8 cap, .bool false] 27)).alloc (.cells #[.int .u8 0] 5))) w.heap.size (.slice (some ⟨w.heap.size + 1, 0, none⟩) 1 1) [0] := by
    have := ownL_lit (w.alloc (.cells #[.int .i64 c, .int .i64 s, .int .i64 lo, .int .i64 hi, .slice (some ⟨b, off, none⟩) 8 cap, .bool false] 27)) w.heap.size [0] (byt_one (by omega)) (by simp) (by unfold maxLen; simp)
    simpa [vb] using this
  clear hcell hB1
  go_enter Try.func31, Try.ntmps31
  go_wp2_with (at_builtin; refine wpList_nums rfl (.tmp 19) (.tmp 21) rfl c s lo hi f _ rfl _ rfl (by simp) b off cap rfl (hM _) ?_; intro gi ci w3 hgi hI hB3)
  rw [eN] at hI
  have o3 := oL.keep hB3
  have bw3 := hB0.trans (hB3.mono (by simp; omega))
  simp only [World.size_alloc] at hgi
  clear hM oL hB0 hB3
  go_loopw [3, 24] (fun v i wr => ∃ (k m cp : Nat) (a : Option Addr), k ≤ 12 ∧ i = .int .i64 k ∧ v = .slice a m cp ∧ m = (bl false N k).length ∧ OwnL wr w.heap.size (.slice a (bl false N k).length cp) (bl false N k) ∧ INum wr gi N ∧ (Value.slice a (bl false N k).length cp).ownBlock ≠ some gi ∧ Below w.heap.size w wr) (fun _ i _ => 12 - (intOf i).toNat)
  case atStart => exact ⟨0, 1, 1, some ⟨w.heap.size + 1, 0, none⟩, Nat.zero_le _, rfl, rfl, rfl, o3, hI, by simp [Value.ownBlock]; omega, bw3⟩
  case round =>
    obtain ⟨k, m, cp, a, hk, rfl, rfl, rfl, hown, hIk, hne, hbk⟩ := hrel
    have hlen := bl_len false N k
    by_cases hlt : k < 12
    · have h1 := hIk.cell k hlt
      have hnk := hN k hlt
      have hsz := hbk.size
      have HL : Hid (bl false N (k + 1) = bl false N k ++ pvL (foldI (N k))) := rfl
      clear hN o3 hI
      go_wp2_with fail
      refine (l4Put_any w.heap.size a cp (bl false N k) (N k) hnk _ hown (by omega) hsz).mono ?_
      rintro e w4 ⟨v4, rfl, o4, g4, n4⟩
      have I4 := hIk.grown g4 hne
      have ne4 := n4.ne hne hIk.lt
      have b4 := hown.below hbk g4 (Nat.le_refl _) hsz
      rw [← HL.out] at o4
      obtain ⟨a4, cp4, rfl⟩ := o4.form
      go_wp2
      go_roundw
      case rel => exact ⟨k + 1, _, cp4, a4, by omega, by go_num, rfl, rfl, o4, I4, ne4, b4⟩
      case measure => simp [intOf]; omega
    · obtain rfl : k = 12 := by omega
      go_wp2
      go_ret
      exact ⟨_, rfl, hown, hbk⟩

set_option maxHeartbeats 1600000 in
theorem l4Bytes_true (c s lo hi : Int) (ao : Option Addr) (cap : Nat) (f : Nat → Int) (N : Nat → Int) (eN : nm c s lo hi f = N) (w : World) (hr : IRow w ao 8 f) (hN : ∀ i, i < 12 → -1000000000000000000 ≤ N i ∧ N i ≤ 1000000000000000000) :
    Calls Try.prog 31 #[.agg #[.int .i64 c, .int .i64 s, .int .i64 lo, .int .i64 hi, .slice ao 8 cap, .bool true]] w fun e w' => ∃ v, e = .returned v ∧ OwnL w' w.heap.size v (bl true N 12) ∧ Below w.heap.size w w' := by
  obtain ⟨b, off, rfl, hblt, hcell⟩ := hr.lies.resolve_left (by omega)
  have hB0 : Below w.heap.size w (((w.alloc (.cells #[.int .i64 c, .int .i64 s, .int .i64 lo, .int .i64 hi, .slice (some ⟨b, off, none⟩) 8 cap, .bool true] 27)).alloc (.cells #[.int .u8 1] 5))) := (below_new w _).alloc (by simp) _
  have hB1 := fun o => hB0.alloc (by simp; omega) o
  have hM : ∀ o i, i < 8 → ((((w.alloc (.cells #[.int .i64 c, .int .i64 s, .int .i64 lo, .int .i64 hi, .slice (some ⟨b, off, none⟩) 8 cap, .bool true] 27)).alloc (.cells #[.int .u8 1] 5))).alloc o).cell? ⟨b, off + i, none⟩ = some (.int .i64 (f i)) := fun o i hi => ((hB1 o).cell (p := ⟨b, off + i, none⟩) hblt).trans (hcell i hi)
  have oL : OwnL (((w.alloc (.cells #[.int .i64 c, .int .i64 s, .int .i64 lo, .int .i64 hi, .slice (some ⟨b, off, none⟩) 8 cap, .bool true] 27)).alloc (.cells #[.int .u8 1] 5))) w.heap.size (.slice (some ⟨w.heap.size + 1, 0, none⟩) 1 1) [1] := by
    have := ownL_lit (w.alloc (.cells #[.int .i64 c, .int .i64 s, .int .i64 lo, .int .i64 hi, .slice (some ⟨b, off, none⟩) 8 cap, .bool true] 27)) w.heap.size [1] (byt_one (by omega)) (by simp) (by unfold maxLen; simp)
    simpa [vb] using this
  clear hcell hB1
  go_enter Try.func31, Try.ntmps31
  go_wp2_with (at_builtin; refine wpList_nums rfl (.tmp 19) (.tmp 21) rfl c s lo hi f _ rfl _ rfl (by simp) b off cap rfl (hM _) ?_; intro gi ci w3 hgi hI hB3)
  rw [eN] at hI
  have o3 := oL.keep hB3
  have bw3 := hB0.trans (hB3.mono (by simp; omega))
  simp only [World.size_alloc] at hgi
  clear hM oL hB0 hB3
  go_loopw [3, 24] (fun v i wr => ∃ (k m cp : Nat) (a : Option Addr), k ≤ 12 ∧ i = .int .i64 k ∧ v = .slice a m cp ∧ m = (bl true N k).length ∧ OwnL wr w.heap.size (.slice a (bl true N k).length cp) (bl true N k) ∧ INum wr gi N ∧ (Value.slice a (bl true N k).length cp).ownBlock ≠ some gi ∧ Below w.heap.size w wr) (fun _ i _ => 12 - (intOf i).toNat)
  case atStart => exact ⟨0, 1, 1, some ⟨w.heap.size + 1, 0, none⟩, Nat.zero_le _, rfl, rfl, rfl, o3, hI, by simp [Value.ownBlock]; omega, bw3⟩
  case round =>
    obtain ⟨k, m, cp, a, hk, rfl, rfl, rfl, hown, hIk, hne, hbk⟩ := hrel
    have hlen := bl_len true N k
    by_cases hlt : k < 12
    · have h1 := hIk.cell k hlt
      have hnk := hN k hlt
      have hsz := hbk.size
      have HL : Hid (bl true N (k + 1) = bl true N k ++ pvL (foldI (N k))) := rfl
      clear hN o3 hI
      go_wp2_with fail
      refine (l4Put_any w.heap.size a cp (bl true N k) (N k) hnk _ hown (by omega) hsz).mono ?_
      rintro e w4 ⟨v4, rfl, o4, g4, n4⟩
      have I4 := hIk.grown g4 hne
      have ne4 := n4.ne hne hIk.lt
      have b4 := hown.below hbk g4 (Nat.le_refl _) hsz
      rw [← HL.out] at o4
      obtain ⟨a4, cp4, rfl⟩ := o4.form
      go_wp2
      go_roundw
      case rel => exact ⟨k + 1, _, cp4, a4, by omega, by go_num, rfl, rfl, o4, I4, ne4, b4⟩
      case measure => simp [intOf]; omega
    · obtain rfl : k = 12 := by omega
      go_wp2
      go_ret
      exact ⟨_, rfl, hown, hbk⟩
end Go.Proofs.Ytbaiihokdpojdaa
