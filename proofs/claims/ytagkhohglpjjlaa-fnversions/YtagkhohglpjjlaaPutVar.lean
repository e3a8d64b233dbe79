/- Arrays of bytes: a slice cut out of one by a third index; a new one's cells. / Numbers of varying length: what PutVar lays. -/
import Derived.Test.YtagkhohglpjjlaaBytes
import Derived.OpenShut
namespace Go.Proofs.Ytagkhohglpjjlaa
open Go.RowKit
set_option linter.unusedSimpArgs false
set_option linter.unusedVariables false

theorem slice_arr_hm (t len : Nat) (ht : Try.prog.underlying t = some (.array len 5)) (a : Addr) (H : Int) (h : Nat) (eh : H = (h : Int)) (hl : h ≤ len) (w : World) :
    (Instr.sliceAt t (.pointer (some a)) none (some (.int .i64 H)) (some (.int .i64 H))).run Try.prog w = .ok (.slice (some a) h h) w := by
  obtain ⟨i0, hi, hz0, hz1, hz2⟩ := info_parts Try.info5
  subst eh
  have e1 : (0 : Int) ≤ (h : Int) := by omega
  have e2 : ¬ (len : Int) < (h : Int) := by omega
  simp [Instr.sliceAt, Instr.sureAddr, run_underlying ht, Instr.sliceBounds, run_sliceBound, sizeOf, typeInfo, hi, hz1, hl, e1, e2, Addr.add]
theorem slice_arr_lhm (t len : Nat) (ht : Try.prog.underlying t = some (.array len 5)) (a : Addr) (L H : Int) (l h : Nat) (el : L = (l : Int)) (eh : H = (h : Int)) (hlh : l < h) (hl : h ≤ len) (w : World) :
    (Instr.sliceAt t (.pointer (some a)) (some (.int .i64 L)) (some (.int .i64 H)) (some (.int .i64 H))).run Try.prog w = .ok (.slice (some (a.add l)) (h - l) (h - l)) w := by
  obtain ⟨i0, hi, hz0, hz1, hz2⟩ := info_parts Try.info5
  subst eh
  subst el
  have e0 : (0 : Int) ≤ (l : Int) := by omega
  have e1 : (0 : Int) ≤ (h : Int) := by omega
  have e2 : ¬ (len : Int) < (h : Int) := by omega
  have e3 : ¬ (h : Int) < (l : Int) := by omega
  have e4 : ¬ h = l := by omega
  simp [Instr.sliceAt, Instr.sureAddr, run_underlying ht, Instr.sliceBounds, run_sliceBound, sizeOf, typeInfo, hi, hz1, hl, e0, e1, e2, e3, e4, Nat.le_of_lt hlh]

theorem own_new (w : World) (n : Nat) (cs : Array Value) (T : Nat) (hs : cs.toList = List.replicate n (Value.int .u8 0)) : Own (w.alloc (.cells cs T)) w.heap.size 0 n (fun _ => 0) := by
  have hsz : cs.size = n := by rw [← Array.length_toList, hs]; simp
  have hh : (w.alloc (.cells cs T)).heap[w.heap.size]? = some (.cells cs T (0, 0)) := heap_alloc_new w _
  refine ⟨fun _ => by omega, by simp, fun i hi => ?_, fun i _ => frozen_of_row _ _ _ _ _ hh⟩
  rw [cell_of_row _ _ _ _ _ _ hh, Nat.zero_add, ← Array.getElem?_toList, hs]
  simp [hi]

end Go.Proofs.Ytagkhohglpjjlaa
namespace Go.Proofs.Ytagkhohglpjjlaa
open Go.RowKit
set_option linter.unusedSimpArgs false
set_option linter.unusedVariables false

/-- The number behind k groups of seven bits. -/
def pv (n : Int) : Nat → Int
  | 0 => n
  | k + 1 => pv n k / 128
/-- The byte of a group that is not the last. -/
def pg (n : Int) (i : Nat) : Int := bits .or .u8 (pv n i % 256) 128
/-- The bytes: k groups with their eighth bit, then the last. -/
def pb (n : Int) (k : Nat) (i : Nat) : Int := if i < k then pg n i else pv n k
def PLen (n : Int) (k : Nat) : Prop := k ≤ 9 ∧ (∀ j, j < k → 127 < pv n j) ∧ pv n k ≤ 127

theorem pv_bd (n : Int) (h : 0 ≤ n ∧ n ≤ 18446744073709551615) (k : Nat) : 0 ≤ pv n k ∧ pv n k ≤ 18446744073709551615 := by
  induction k with
  | zero => exact h
  | succ k ih => simp only [pv]; omega
theorem pv_nine (n : Int) (h : 0 ≤ n ∧ n ≤ 18446744073709551615) : pv n 9 ≤ 127 := by simp only [pv]; omega
theorem pg_bd (n : Int) (i : Nat) : 0 ≤ pg n i ∧ pg n i ≤ 255 := bounds_u8 (wf_bits _ _ _ _)
theorem pb_bd (n : Int) (h : 0 ≤ n ∧ n ≤ 18446744073709551615) (k : Nat) (hk : pv n k ≤ 127) (i : Nat) : 0 ≤ pb n k i ∧ pb n k i ≤ 255 := by
  unfold pb
  split
  · exact pg_bd _ _
  · have := pv_bd n h k; omega
theorem PLen.one {n : Int} {k j : Nat} (h : PLen n k) (g : PLen n j) : k = j := by
  rcases Nat.lt_trichotomy k j with e | e | e
  · have := g.2.1 k e; have := h.2.2; omega
  · exact e
  · have := h.2.1 j e; have := g.2.2; omega
theorem pb_cells (n : Int) (k : Nat) : bcells (pg n) k ++ [Value.int .u8 (pv n k)] = bcells (pb n k) (k + 1) := by
  rw [← bcells_succ, bcells_congr (f := pg n) (g := pb n k) (fun i hi => by simp [pb, hi])]
  simp [pb]

/-- What a PutVar leaves: its bytes, in memory of their own. -/
def PVOut (n : Int) (w : World) (e : Ending) (w' : World) : Prop :=
  ∃ k g cap, PLen n k ∧ e = .returned (.slice (some ⟨g, 0, none⟩) (k + 1) cap) ∧ w.heap.size ≤ g ∧ Own w' g 0 (k + 1) (pb n k) ∧ Below w.heap.size w w'

set_option maxHeartbeats 400000 in
theorem putVar_spec (n : Int) (w : World) (hn : 0 ≤ n ∧ n ≤ 18446744073709551615) :
    Calls Try.prog 62 #[.int .u64 n] w fun e w' => PVOut n w e w' := by
  obtain ⟨i0, hi, hz0, hz1, hz2⟩ := info_parts Try.info5
  go_enter Try.func62, Try.ntmps62
  go_wp2
  go_loopw [0, 3] (fun q v wr => ∃ k : Nat, k ≤ 9 ∧ q = .int .u64 (pv n k) ∧ (∀ j, j < k → 127 < pv n j) ∧ wr.ownsRow w.heap.size 5 1 v k (bcells (pg n) k) ∧ Below w.heap.size w wr) (fun q _ _ => (intOf q).toNat)
  case atStart => exact ⟨0, by omega, rfl, by omega, World.ownsRow_nil _ _ _ _, Below.refl _ _⟩
  case round =>
    obtain ⟨k, hk, rfl, hgt, hown, hbk⟩ := hrel
    have hb := pv_bd n hn k
    have hsz := hbk.size
    by_cases hlt : 127 < pv n k
    · have hk9 : k < 9 := by
        rcases Nat.lt_or_ge k 9 with h | h
        · exact h
        · have e : k = 9 := by omega
          subst e; have := pv_nine n hn; omega
      go_wp2_with (at_builtin; refine wpList_append_own _ rfl (.tmp 6) (.tmp 10) 22 rfl w.heap.size 5 i0 (.int .u8 0) 1 1 Try.underlying22 hi hz0 hz1 hz2 rfl (by decide) _ _ _ rfl (hown.alloc _) ⟨wr.heap.size, 0, none⟩ 1 1 [.int .u8 (pg n k)] rfl rfl (cell_one_new _ _ _) (by simp [Value.oneCell']) (by unfold maxLen; omega) (by omega) (by simp; omega) ?_; intro v' w1 hown' hgrow _)
      have hbw := below_append (hbk.alloc hsz _) (hown.alloc _) hgrow (Nat.le_refl _) (by simp; omega)
      rw [bcells_succ] at hown'
      go_roundw
      case rel =>
        refine ⟨k + 1, by omega, rfl, fun j hj => ?_, hown', hbw⟩
        rcases Nat.lt_succ_iff_lt_or_eq.1 hj with h | h
        · exact hgt j h
        · rw [h]; exact hlt
      case measure => simp [intOf]; omega
    · have hle : pv n k ≤ 127 := by omega
      go_wp2_with (at_builtin; refine wpList_append_own _ rfl (.tmp 14) (.tmp 17) 22 rfl w.heap.size 5 i0 (.int .u8 0) 1 1 Try.underlying22 hi hz0 hz1 hz2 rfl (by decide) _ _ _ rfl (hown.alloc _) ⟨wr.heap.size, 0, none⟩ 1 1 [.int .u8 (pv n k)] rfl rfl (cell_one_new _ _ _) (by simp [Value.oneCell']) (by unfold maxLen; omega) (by omega) (by simp; omega) ?_; intro v' w1 hown' hgrow _)
      have hbw := below_append (hbk.alloc hsz _) (hown.alloc _) hgrow (Nat.le_refl _) (by simp; omega)
      rw [pb_cells] at hown'
      obtain ⟨g, cap, hv, hg, _, hO⟩ := own_of_row hown' (by omega) (pb_bd n hn k hle)
      rw [hv]
      go_ret
      exact ⟨k, g, cap, ⟨hk, hgt, hle⟩, rfl, hg, hO, hbw⟩

theorem or_low : ∀ m, m < 256 → m ||| 128 = m % 128 ||| 128 := by decide +kernel
theorem and_or (x : Int) (hx : 0 ≤ x ∧ x ≤ 18446744073709551615) : bits .or .u8 (bits .and .u64 x 127 % 256) 128 = bits .or .u8 (x % 256) 128 := by
  obtain ⟨m, rfl⟩ := Int.eq_ofNat_of_zero_le hx.1
  have e1 : bits .and .u64 (m : Int) 127 = ((m % 128 : Nat) : Int) := by
    rw [show (127 : Int) = ((127 : Nat) : Int) from rfl, u64_and_nat _ _ (by omega) (by omega), nat_mask7]
  rw [e1]
  have e2 : ((m % 128 : Nat) : Int) % 256 = ((m % 128 : Nat) : Int) := by omega
  have e3 : (m : Int) % 256 = ((m % 256 : Nat) : Int) := by omega
  rw [e2, e3, show (128 : Int) = ((128 : Nat) : Int) from rfl, u8_or_nat _ _ (by omega) (by omega), u8_or_nat _ _ (by omega) (by omega), or_low (m % 256) (by omega)]
  rw [show m % 256 % 128 = m % 128 from by omega]

set_option maxHeartbeats 400000 in
theorem putVar_impl (n : Int) (w : World) (hn : 0 ≤ n ∧ n ≤ 18446744073709551615) :
    Calls Try.prog 48 #[.int .u64 n] w fun e w' => PVOut n w e w' := by
  have h0 : Own (w.alloc (.cells #[.int .u8 0, .int .u8 0, .int .u8 0, .int .u8 0, .int .u8 0, .int .u8 0, .int .u8 0, .int .u8 0, .int .u8 0, .int .u8 0] 98)) w.heap.size 0 10 (fun _ => 0) := by
    exact own_new _ _ _ _ rfl
  go_enter Try.func48, Try.ntmps48
  go_wp2
  go_loopw [0, 4] (fun q i wr => ∃ k : Nat, k ≤ 9 ∧ i = .int .i64 k ∧ q = .int .u64 (pv n k) ∧ (∀ j, j < k → 127 < pv n j) ∧ Own wr w.heap.size 0 10 (fun i => if i < k then pg n i else 0) ∧ Below w.heap.size w wr) (fun q _ _ => (intOf q).toNat)
  case atStart => exact ⟨0, by omega, rfl, rfl, by omega, by simpa using h0, (Below.refl _ _).alloc (Nat.le_refl _) _⟩
  case round =>
    obtain ⟨k, hk, rfl, rfl, hgt, hown, hbk⟩ := hrel
    have hb := pv_bd n hn k
    have hc := hown.cell k (by omega)
    have hf := hown.free k (by omega)
    simp only [Nat.zero_add] at hc hf
    by_cases hlt : 127 < pv n k
    · have hk9 : k < 9 := by
        rcases Nat.lt_or_ge k 9 with h | h
        · exact h
        · have e : k = 9 := by omega
          subst e; have := pv_nine n hn; omega
      have hst := hown.store k (by omega) (pg n k) (pg_bd n k)
      have heq : Hid (bits .or .u8 (bits .and .u64 (pv n k) 127 % 256) 128 = pg n k) := and_or _ hb
      rw [Nat.zero_add] at hst
      go_wp2
      go_roundw
      case rel =>
        rw [heq.out]
        refine ⟨k + 1, by omega, by go_num, rfl, fun j hj => ?_, hst.congr (fun i => ?_) (fun i _ => ?_), hbk.setCell (Nat.le_refl _) _⟩
        · rcases Nat.lt_succ_iff_lt_or_eq.1 hj with h | h
          · exact hgt j h
          · rw [h]; exact hlt
        · have := pg_bd n i
          split <;> omega
        · by_cases h1 : i = k
          · subst h1; simp
          · by_cases h2 : i < k
            · rw [if_neg h1, if_pos h2, if_pos (by omega)]
            · rw [if_neg h1, if_neg h2, if_neg (by omega)]
      case measure => simp [intOf]; omega
    · have hle : pv n k ≤ 127 := by omega
      have hsl := slice_arr_hm 98 10 Try.underlying98 ⟨w.heap.size, 0, none⟩ ((k : Int) + 1) (k + 1) (by omega) (by omega)
      have hst := hown.store k (by omega) (pv n k) (by omega)
      rw [Nat.zero_add] at hst
      go_wp2
      go_ret
      refine ⟨k, w.heap.size, k + 1, ⟨hk, hgt, hle⟩, rfl, Nat.le_refl _, ?_, hbk.setCell (Nat.le_refl _) _⟩
      refine ⟨pb_bd n hn k hle, hst.lt, fun i hi => ?_, fun i hi => hst.free i (by omega)⟩
      rw [hst.cell i (by omega)]
      by_cases h1 : i = k
      · subst h1; simp [pb]
      · simp [pb, h1, show i < k by omega]
end Go.Proofs.Ytagkhohglpjjlaa
