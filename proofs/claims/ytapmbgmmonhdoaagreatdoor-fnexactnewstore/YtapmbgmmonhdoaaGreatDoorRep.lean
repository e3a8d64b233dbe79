/- slices.Repeat of the one number 1. -/
import Derived.Test.YtapmbgmmonhdoaaGreatDoorGdS
import Derived.Laws.Bits64b
import Derived.Laws.EntriesVeiled
import Derived.Laws.CopyOwn
import Derived.Deep.RegionLaw
import Derived.Deep.RegionHeld3
import Derived.Deep.RegionWith
namespace Go.Proofs.YtapmbgmmonhdoaaGreatDoor
set_option maxRecDepth 100000
open Go.RowKit
set_option linter.unusedSimpArgs false
set_option linter.unusedVariables false

theorem and32 (n : Nat) (hn : n ≤ 1048576) : bits .and .u64 (n : Int) 4294967295 = (n : Int) := by
  have h := bits_and_u64_nat n 4294967295 (by omega) (by omega)
  have e : n &&& 4294967295 = n % 4294967296 := Nat.and_two_pow_sub_one_eq_mod n 32
  rw [e, Nat.mod_eq_of_lt (by omega)] at h
  exact h
theorem mul64_one (n : Nat) (w : World) (hn : n ≤ 1048576) :
    Calls Tryz.prog 210 #[.int .u64 1, .int .u64 n] w fun e w' => e = .returned (.tuple #[.int .u64 0, .int .u64 n]) ∧ w' = w := by
  have h1 : bits .and .u64 1 4294967295 = 1 := and32 1 (by omega)
  have h2 : bits .and .u64 0 4294967295 = 0 := and32 0 (by omega)
  have h3 := and32 n hn
  have h4 : (n : Int) / 4294967296 = 0 := by omega
  have h5 : IntKind.u64.wrap (n : Int) = n := by rw [IntKind.wrap_u64]; omega
  go_enter Tryz.func210, Tryz.ntmps210
  go_wp2
  go_ret2
  exact ⟨rfl, rfl⟩
theorem mul_one' (n : Nat) (w : World) (hn : n ≤ 1048576) :
    Calls Tryz.prog 182 #[.int .u64 1, .int .u64 n] w fun e w' => e = .returned (.tuple #[.int .u64 0, .int .u64 n]) ∧ w' = w := by
  go_enter Tryz.func182, Tryz.ntmps182
  go_wp2_with fail
  refine (mul64_one n _ hn).mono ?_
  rintro e w1 ⟨rfl, rfl⟩
  go_wp2
  go_ret2
  exact ⟨rfl, rfl⟩

/-- What Repeat leaves. -/
def RepO (n : Nat) (w : World) (e : Ending) (w' : World) : Prop := ∃ g, e = .returned (.slice (some ⟨g, 0, none⟩) n n) ∧ w.heap.size ≤ g ∧ IOwn w' g 0 n (fun _ => 1) ∧ Below w.heap.size w w'

/-- k ones and noughts behind them, n in all. -/
def ones (n k : Nat) : List Value := List.replicate k (.int .i64 1) ++ List.replicate (n - k) (.int .i64 0)
theorem ones_len {n k : Nat} (h : k ≤ n) : (ones n k).length = n := by simp [ones]; omega
theorem ones_get {n k j : Nat} (h : k ≤ n) (hj : j < n) : (ones n k)[j]? = some (.int .i64 (if j < k then 1 else 0)) := by
  unfold ones
  rw [List.getElem?_append]
  by_cases hk : j < k
  · simp [hk]
  · simp [hk, show j - k < n - k from by omega]
theorem ones_splice {n k m : Nat} (h : k + m ≤ n) : splice (ones n k) k (List.replicate m (.int .i64 1)) = ones n (k + m) := by
  unfold splice ones
  have e1 : (List.replicate k (Value.int .i64 1) ++ List.replicate (n - k) (Value.int .i64 0)).take k = List.replicate k (Value.int .i64 1) := by
    rw [List.take_append_of_le_length (by simp), List.take_of_length_le (by simp)]
  rw [e1, List.length_replicate, List.drop_append, List.drop_of_length_le (by simp), List.nil_append, List.length_replicate, List.drop_replicate, ← List.append_assoc, List.replicate_append_replicate]
  congr 2
  omega
theorem own_ones {w : World} {g n T : Nat} (h : w.heap[g]? = some (.cells (ones n n).toArray T (0, 0))) : IOwn w g 0 n (fun _ => 1) := by
  have hlt : g < w.heap.size := (Array.getElem?_eq_some_iff.1 h).1
  refine ⟨fun _ => by omega, hlt, fun i hi => ?_, fun i _ => frozen_of_row _ _ _ _ _ h⟩
  rw [cell_of_row _ _ _ _ _ _ h, Nat.zero_add, List.getElem?_toArray, ones_get (Nat.le_refl _) hi, if_pos hi]

theorem Tryz.sizeInt : (Tryz.prog.info? 3).map (·.size) = some 1 := by kernel_rfl

/-- A copy of ones, as an equation. -/
theorem copy_run (w : World) (g off dLen dCap sLen sCap n k m T : Nat) (sa : Addr) (hg : w.heap[g]? = some (.cells (ones n k).toArray T (0, 0))) (hk : off = k) (hkm : k + m ≤ n) (hm : m = Nat.min sLen dLen)
    (hsrc : ∀ j, j < m → w.cell? (sa.add j) = some (.int .i64 1)) :
    ∃ w', (Builtin.copy_ #[58, 58] 3 #[.slice (some ⟨g, off, none⟩) dLen dCap, .slice (some sa) sLen sCap]).run Tryz.prog w = .ok (.int .i64 m) w' ∧ w'.heap[g]? = some (.cells (ones n (k + m)).toArray T (0, 0)) ∧ Others g w w' := by
  subst hk
  have hl : (List.replicate m (Value.int .i64 1)).length = m := List.length_replicate
  have hrun := run_copy_row (P := Tryz.prog) w 58 58 3 3 g off dLen dCap sa sLen sCap (ones n off).toArray T (List.replicate m (.int .i64 1)) Tryz.underlying58 Tryz.sizeInt hg (by rw [hl, hm]) (fun j v hj => by
      have hj' := List.getElem?_eq_some_iff.1 hj
      obtain ⟨h1, h2⟩ := hj'
      rw [hl] at h1
      rw [← h2, List.getElem_replicate]
      exact hsrc j h1) (by rw [hl, List.size_toArray, ones_len (by omega)]; exact hkm) (by intro v hv; rw [List.eq_of_mem_replicate hv]; rfl)
  have he : (ones n off).toArray.toList.take off ++ List.replicate m (Value.int .i64 1) ++ (ones n off).toArray.toList.drop (off + (List.replicate m (Value.int .i64 1)).length) = ones n (off + m) := by
    rw [← ones_splice hkm]
    simp [splice]
  rw [he, hl] at hrun
  exact ⟨_, hrun, setRow_heap w g _ _ T _ hg, ⟨rfl, rfl, rfl, by simp [World.setRow], fun k hk => setRow_other w g k _ hk⟩⟩

set_option maxRecDepth 100000 in
set_option maxHeartbeats 1000000 in
theorem repeat_any (b cap n : Nat) (w : World) (hn : n ≤ 1048576) (h0 : w.cell? ⟨b, 0, none⟩ = some (.int .i64 1)) (hb : b < w.heap.size) :
    Calls Tryz.prog 150 #[.slice (some ⟨b, 0, none⟩) 1 cap, .int .i64 n] w fun e w' => RepO n w e w' := by
  obtain ⟨i0, hi, hz0, hz1, hz2⟩ := info_parts Tryz.infoInt
  have hw1 : IntKind.u64.wrap (n : Int) = n := by rw [IntKind.wrap_u64]; omega
  obtain ⟨m, hm⟩ : ∃ m, m = Nat.min 1 n := ⟨_, rfl⟩
  have Hm : Hid (m = Nat.min 1 n) := hm
  have hm1 : m ≤ n := by rw [hm]; exact Nat.min_le_right _ _
  have hm2 : 0 < n → 0 < m := fun h => by rw [hm]; exact Nat.lt_min.2 ⟨by omega, h⟩
  clear hm
  go_enter Tryz.func150, Tryz.ntmps150
  go_wp2_with fail
  refine (mul_one' n _ hn).mono ?_
  rintro e w1 ⟨rfl, hw'⟩
  have hw2 := hw'.symm
  clear hw'
  subst hw2
  go_wp2_with (at_make; refine wpList_make_full _ rfl (.tmp 29) (.tmp 29) 58 rfl w.heap.size 3 i0 (.int .i64 0) 1 Tryz.underlying58 hi hz0 hz1 .i64 .i64 _ _ n rfl rfl rfl rfl (by rw [hz2]; omega) (by unfold maxLen; omega) (Nat.le_refl _) ?_; intro w1 hown hgrow)
  have hb1 : Below w.heap.size w w1 := (Below.refl _ _).grown hgrow (Nat.le_refl _) (fun k h => by simp at h)
  have hg1 : w1.heap[w.heap.size]? = some (.cells (ones n 0).toArray 3 (0, 0)) := by
    rcases hown.2 with ⟨h, _⟩ | ⟨g', cap', cur, h, _, hg, hnc, hsz, hl⟩
    · simp at h
    · obtain ⟨e1, e2⟩ : g' = w.heap.size ∧ cap' = n := by simp at h; exact ⟨h.1.symm, h.2.symm⟩
      subst e1 e2
      have hc : cur = (ones cap' 0).toArray := by
        apply Array.ext'
        have h1 : cur.toList.length = cap' := by rw [Array.length_toList, hl.1, Nat.mul_one]
        have h2 := hl.2
        rw [Nat.mul_one, List.take_of_length_le (by omega)] at h2
        rw [h2]
        simp [ones, Value.cells, toList_madeCells_one]
      rw [hg, hc]
  have hs0 : w1.cell? ⟨b, 0, none⟩ = some (.int .i64 1) := (hb1.cell (p := ⟨b, 0, none⟩) hb).trans h0
  clear hown hgrow
  obtain ⟨w2, hrun2, hg2, hot2⟩ := copy_run w1 w.heap.size 0 n n 1 cap n 0 m 3 ⟨b, 0, none⟩ hg1 rfl (by omega) Hm.out (fun j hj => by
    have : m ≤ 1 := by rw [Hm.out]; exact Nat.min_le_left _ _
    obtain rfl : j = 0 := by omega
    simpa [Addr.add] using hs0)
  have bw2 : Below w.heap.size w w2 := hb1.trans (hot2.below (Nat.le_refl _))
  rw [Nat.zero_add] at hg2
  clear hg1 hot2 hs0 hb1 Hm
  rw [hrun2]
  simp only [Result.andThen]
  rw [Oper.upon_value]
  clear hrun2
  go_wp2
  go_loopw [8] (fun i wr => ∃ k : Nat, k ≤ n ∧ (0 < n → 0 < k) ∧ i = .int .i64 k ∧ Hid (wr.heap[w.heap.size]? = some (.cells (ones n k).toArray 3 (0, 0))) ∧ Below w.heap.size w wr) (fun i _ => n - (intOf i).toNat)
  case atStart => exact ⟨m, hm1, hm2, rfl, hg2, bw2⟩
  case round =>
    obtain ⟨k, hk, hk0, rfl, hgk, hbk⟩ := hrel
    clear hg2 bw2
    by_cases hlt : k < n
    · have hkp := hk0 (by omega)
      obtain ⟨q, hq⟩ : ∃ q, q = Nat.min k (n - k) := ⟨_, rfl⟩
      have hq1 : k + q ≤ n := by have : q ≤ n - k := hq ▸ Nat.min_le_right _ _; omega
      have hq2 : q ≤ k := hq ▸ Nat.min_le_left _ _
      have hq3 : 0 < q := hq ▸ Nat.lt_min.2 ⟨hkp, by omega⟩
      obtain ⟨w3, hrun3, hg3, hot3⟩ := copy_run wr.drew w.heap.size k (n - k) (n - k) k n n k q 3 ⟨w.heap.size, 0, none⟩ hgk.out rfl hq1 hq (fun j hj => by
        rw [show (⟨w.heap.size, 0, none⟩ : Addr).add j = ⟨w.heap.size, j, none⟩ from by unfold Addr.add; split <;> simp_all]
        rw [cell_of_row _ _ _ _ _ _ (show wr.drew.heap[w.heap.size]? = _ from hgk.out), List.getElem?_toArray, ones_get hk (by omega), if_pos (by omega)])
      have bw3 : Below w.heap.size w w3 := hbk.drew.trans (hot3.below (Nat.le_refl _))
      have HG3 : Hid (w3.heap[w.heap.size]? = some (.cells (ones n (k + q)).toArray 3 (0, 0))) := hg3
      clear hgk hg3 hot3 hq hbk hm1 hm2 hk0
      go_wp2
      go_region
      go_wp2
      go_roundw
      case rel => exact ⟨k + q, hq1, fun _ => by omega, by go_num, HG3, bw3⟩
      case measure => simp [intOf]; omega
    · have e : k = n := by omega
      subst e
      go_wp2
      go_ret
      exact ⟨w.heap.size, rfl, Nat.le_refl _, own_ones hgk.out, hbk⟩
/-- Entries with the lowest way alone. -/
def WaysO (ko : Option Addr) (n kc : Nat) (w : World) (e : Ending) (w' : World) : Prop :=
  ∃ g, e = .returned (.agg #[.slice ko n kc, .slice (some ⟨g, 0, none⟩) n n, .func (.func 59) #[] #[]]) ∧ w.heap.size ≤ g ∧ IOwn w' g 0 n (fun _ => 1) ∧ Below w.heap.size w w'
set_option maxHeartbeats 1000000 in
theorem waysOf_any (ko : Option Addr) (n kc : Nat) (w : World) (hn : n ≤ 1048576) :
    Calls Tryz.prog 98 #[.slice ko n kc] w fun e w' => WaysO ko n kc w e w' := by
  go_enter Tryz.func98, Tryz.ntmps98
  go_wp2_with fail
  refine (repeat_any (w.heap.size + 1) 1 n _ hn (by simp [go_sem]) (by simp)).mono ?_
  rintro e w1 ⟨g, rfl, hg, ho, hb⟩
  have b0 := hb.cell (p := ⟨w.heap.size, 0, none⟩) (by simp; omega)
  have b1 := hb.cell (p := ⟨w.heap.size, 1, none⟩) (by simp; omega)
  have b2 := hb.cell (p := ⟨w.heap.size, 2, none⟩) (by simp; omega)
  have bf : ∀ j, w1.frozen? ⟨w.heap.size, j, none⟩ = false := fun j => (hb.frozen (p := ⟨w.heap.size, j, none⟩) (by simp; omega)).trans (by simp [go_sem])
  simp [go_sem] at b0 b1 b2
  have bw : Below w.heap.size w w1 := ((below_new w _).alloc (by simp) _).trans (hb.mono (by simp; omega))
  have hs1 := hb.size
  simp at hs1 hg
  clear hb
  go_wp2
  refine bodyPost_ret (v := .agg #[.slice ko n kc, .slice (some ⟨g, 0, none⟩) n n, .func (.func 59) #[] #[]]) (by simp [results, Tryz.results98, go_sem, b0, b1, b2]) rfl ⟨g, rfl, by omega, ?_, ?_⟩
  · repeat' refine (Others.setCell _ _ _ _).irow ?_ (by omega)
    exact ho
  · repeat' refine Below.setCell ?_ (by first | (simp; done) | (simp; omega)) _
    exact bw
end Go.Proofs.YtapmbgmmonhdoaaGreatDoor
