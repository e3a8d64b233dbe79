/- No Seq twice: the sort of the library and what it leaves. -/
import Derived.Test.YtkoffcbjgpcnjaaLayP
import Derived.Test.YtkoffcbjgpcnjaaRw
import Derived.Test.YtkoffcbjgpcnjaaGe
import Derived.Sort.Grow
namespace Go.Proofs.Ytkoffcbjgpcnjaa
open Go.RowKit
set_option linter.unusedSimpArgs false
set_option linter.unusedVariables false

open Go.Sort (Holds putRow holds_putRow)
open Go.Shelf

/-- No Seq twice among the first n. -/
def NoTwo (X : Nat → Ent) (n : Nat) : Prop := ∀ i j, i < j → j < n → (X i).seq ≠ (X j).seq
/-- The Seqs of the first n. -/
def seqL (X : Nat → Ent) (n : Nat) : List Int := (List.range n).map fun i => (X i).seq
theorem seqL_len (X : Nat → Ent) (n : Nat) : (seqL X n).length = n := by simp [seqL]
theorem seqL_nodup (X : Nat → Ent) (n : Nat) : (seqL X n).Nodup ↔ NoTwo X n := by
  unfold List.Nodup
  rw [List.pairwise_iff_getElem]
  constructor
  · intro h i j hij hj
    have := h i j (by rw [seqL_len]; omega) (by rw [seqL_len]; omega) hij
    simpa [seqL] using this
  · intro h i j hi hj hij
    rw [seqL_len] at hi hj
    have := h i j hij hj
    simpa [seqL] using this

theorem sorted_of (zs : List Int) : (zs.mergeSort fun x y => decide (x ≤ y)).Pairwise (fun a b => a ≤ b) := by
  have h := List.pairwise_mergeSort (le := fun x y : Int => decide (x ≤ y)) (fun a b c h1 h2 => by simp at *; omega) (fun a b => by simp; omega) zs
  exact h.imp (fun h => by simpa using h)
theorem comp_iff (zs : List Int) : (Lib.compact (zs.mergeSort fun x y => decide (x ≤ y))).length = zs.length ↔ zs.Nodup := by
  have hp : (zs.mergeSort fun x y => decide (x ≤ y)).Perm zs := List.mergeSort_perm _ _
  have hs := sorted_of zs
  have hl : (zs.mergeSort fun x y => decide (x ≤ y)).length = zs.length := hp.length_eq
  rw [← hp.nodup_iff, ← hl]
  generalize (zs.mergeSort fun x y => decide (x ≤ y)) = ms at hs
  unfold Lib.compact Lib.compactUpTo
  rw [List.length_map]
  have e : ((List.range ms.length).filter (Lib.keeps ms.toArray)).length = ms.length ↔ ∀ j, j < ms.length → Lib.keeps ms.toArray j = true := by
    have := List.length_filter_eq_length_iff (p := Lib.keeps ms.toArray) (l := List.range ms.length)
    rw [List.length_range] at this
    rw [this]
    simp
  rw [e]
  unfold List.Nodup
  rw [List.pairwise_iff_getElem] at hs ⊢
  constructor
  · intro h i j hi hj hij
    have hk := h j hj
    simp only [Lib.keeps, decide_eq_true_eq] at hk
    have hne := hk.resolve_left (by omega)
    rw [getElem!_pos _ j (by simpa using hj), getElem!_pos _ (j - 1) (by simp; omega)] at hne
    simp only [List.getElem_toArray] at hne
    have h1 := hs (j - 1) j (by omega) hj (by omega)
    have h2 : ms[i] ≤ ms[j - 1] := by
      by_cases e : i = j - 1
      · subst e; exact Int.le_refl _
      · exact hs i (j - 1) hi (by omega) (by omega)
    omega
  · intro h j hj
    simp only [Lib.keeps, decide_eq_true_eq]
    by_cases h0 : j = 0
    · exact .inl h0
    · right
      rw [getElem!_pos _ j (by simpa using hj), getElem!_pos _ (j - 1) (by simp; omega)]
      simp only [List.getElem_toArray]
      exact Ne.symm (h (j - 1) j (by omega) hj (by omega))

theorem holds_of {w : World} {g n : Nat} {X : Nat → Ent} (h : IOwn w g 0 n (fun i => if i < n then (X i).seq else 0)) : Holds (Value.int .i64) w g 0 (seqL X n).toArray := by
  intro j hj
  have hj' : j < n := by simpa [seqL] using hj
  refine ⟨?_, h.free j hj'⟩
  rw [h.cell j hj', getElem!_pos _ j hj, if_pos hj']
  simp [seqL]

/-- What the sort of a row leaves: the row sorted, all blocks below as they were. -/
theorem sortInts_any (w : World) (g n cap B : Nat) (X : Nat → Ent) (h : IOwn w g 0 n (fun i => if i < n then (X i).seq else 0)) (hn : n ≤ 1048576) (hB : B ≤ g) :
    Calls Try.prog 74 #[.slice (some ⟨g, 0, none⟩) n cap] w fun e w' => e = .returned (.tuple #[]) ∧ Holds (Value.int .i64) w' g 0 ((seqL X n).mergeSort fun x y => decide (x ≤ y)).toArray ∧ Below B w w' := by
  have hz := holds_of h
  have hc := Any.slices_Sort_int sortInts g 0 cap (seqL X n) w hz h.lt (by rw [seqL_len]; omega)
  rw [seqL_len] at hc
  refine Calls.mono hc ?_
  rintro e w' ⟨rfl, m, os, rfl⟩
  refine ⟨rfl, ?_, ?_⟩
  · have h1 := holds_putRow (Value.int .i64) (Sort.ahead w m) g 0 (seqL X n).toArray ((seqL X n).mergeSort fun x y => decide (x ≤ y)).toArray hz (by simp)
    have hlt : g < (putRow (Value.int .i64) (Sort.ahead w m) g 0 ((seqL X n).mergeSort fun x y => decide (x ≤ y)).toArray).heap.size := by
      simpa [putRow, Sort.mapBlock, Sort.ahead] using h.lt
    intro j hj
    have h2 := h1 j hj
    have hb : (Sort.grow (putRow (Value.int .i64) (Sort.ahead w m) g 0 ((seqL X n).mergeSort fun x y => decide (x ≤ y)).toArray) os).heap[g]? = (putRow (Value.int .i64) (Sort.ahead w m) g 0 ((seqL X n).mergeSort fun x y => decide (x ≤ y)).toArray).heap[g]? := by
      unfold Sort.grow
      exact Array.getElem?_append_left hlt
    exact ⟨(World.cell?_of_block (a := ⟨g, 0 + j, none⟩) hb).trans h2.1, (World.frozen?_of_block (a := ⟨g, 0 + j, none⟩) hb).trans h2.2⟩
  · refine ⟨rfl, rfl, rfl, ?_, fun k hk => ?_⟩
    · simp [Sort.grow, putRow, Sort.mapBlock, Sort.ahead]
    · unfold Sort.grow putRow Sort.mapBlock Sort.ahead
      have hlt := h.lt
      rw [Array.getElem?_append_left (by simp; omega), Array.getElem?_modify, if_neg (by omega)]

theorem compInts_any (w : World) (g n cap B : Nat) (ms : List Int) (hH : Holds (Value.int .i64) w g 0 ms.toArray) (hn : ms.length = n) (hnb : n ≤ 1048576) (hcap : n ≤ cap) (hB : B ≤ g) :
    Calls Try.prog 75 #[.slice (some ⟨g, 0, none⟩) n cap] w fun e w' => e = .returned (.slice (some ⟨g, 0, none⟩) (Lib.compact ms).length cap) ∧ Below B w w' := by
  subst hn
  refine Calls.mono (Any.slices_Compact_int compInts g 0 cap ms w hH (by omega) hcap) ?_
  rintro e w' ⟨rfl, q, rfl⟩
  refine ⟨rfl, rfl, rfl, rfl, ?_, fun k hk => ?_⟩
  · simp [putRow, Sort.mapBlock, Sort.ahead]
  · unfold putRow Sort.mapBlock Sort.ahead
    rw [Array.getElem?_modify, if_neg (by omega)]

set_option maxHeartbeats 1600000 in
theorem noSeqTwice_any (ao : Option Addr) (n cap : Nat) (X : Nat → Ent) (w : World) (hr : ERow w ao n X) (hn : n ≤ 1048576) :
    Calls Try.prog 51 #[.slice ao n cap] w fun e w' => Ans (NoTwo X n) w e w' := by
  obtain ⟨i0, hi, hz0, hz1, hz2⟩ := info_parts Try.infoInt
  obtain ⟨hbd, hlies⟩ := hr
  go_enter Try.func51, Try.ntmps51
  go_wp2_with (at_make; refine wpList_make_full _ rfl (.tmp 7) (.tmp 7) 22 rfl w.heap.size 3 i0 (.int .i64 0) 1 Try.underlying22 hi hz0 hz1 .i64 .i64 _ _ n rfl rfl rfl rfl (by rw [hz2]; omega) (by unfold maxLen; omega) (Nat.le_refl _) ?_; intro w1 hown hgrow)
  have hb1 : Below w.heap.size w w1 := (Below.refl _ _).grown hgrow (Nat.le_refl _) (fun k h => by simp at h)
  have hlt1 : w.heap.size < w1.heap.size := by
    rcases hown.2 with ⟨h, _⟩ | ⟨g', cap', cur, h, _, hg, _⟩
    · simp at h
    · simp at h; obtain ⟨rfl, _⟩ := h
      exact (Array.getElem?_eq_some_iff.1 hg).1
  have ho := iown_of_made hown hlt1
  clear hown hgrow
  go_loopw [11] (fun i wr => ∃ k : Nat, k ≤ n ∧ i = .int .i64 k ∧ IOwn wr w.heap.size 0 n (fun j => if j < k then (X j).seq else 0) ∧ Below w.heap.size w wr) (fun i _ => n - (intOf i).toNat)
  case atStart => exact ⟨0, Nat.zero_le _, rfl, by simpa using ho, hb1⟩
  case round =>
    obtain ⟨k, hk, rfl, hok, hbk⟩ := hrel
    have hltr := hok.lt
    by_cases hlt : k < n
    · obtain ⟨b, off, rfl, hblt, hc⟩ := hlies.resolve_left (by omega)
      obtain ⟨da, dc, ea, _⟩ := hc k hlt
      obtain ⟨_, a0, a1, a2, a3, a4, a5, a6, a7, a8⟩ := ea.keep hbk
      have hd := hok.cell k hlt
      have hfz := hok.free k hlt
      simp only [Nat.zero_add] at hd hfz
      clear hc hlies ho ea
      have hst := hok.store k hlt (X k).seq (hbd k hlt).seq
      simp only [Nat.zero_add] at hst
      go_wp2
      go_roundw
      case rel =>
        refine ⟨k + 1, by omega, by go_num, ?_, (hbk.setCell (Nat.le_refl _) _).alloc (by simp; omega) _⟩
        refine IOwn.keep (w := wr.setCell ⟨w.heap.size, k, none⟩ (.int .i64 (X k).seq)) (hst.congr (fun j => ?_) (fun j hj => ?_)) (below_new _ _)
        · by_cases h : j < k + 1
          · simp only [h, if_true]; exact (hbd j (by omega)).seq
          · simp only [h, if_false]; omega
        · by_cases h1 : j = k <;> by_cases h2 : j < k <;> simp [h1, h2] <;> omega
      case measure => simp [intOf]; omega
    · have e : k = n := by omega
      subst e
      have hz2 := hok
      · clear hok ho hlies hlt
        go_wp2_with fail
        refine (sortInts_any wr w.heap.size k k w.heap.size X hz2 hn (Nat.le_refl _)).mono ?_
        rintro e w2 ⟨rfl, hH, hb2⟩
        have bw2 := hbk.trans hb2
        have hml : ((seqL X k).mergeSort fun x y => decide (x ≤ y)).length = k := by rw [List.length_mergeSort, seqL_len]
        have hci := comp_iff (seqL X k)
        rw [seqL_len, seqL_nodup] at hci
        clear hb2 hbk hz2
        generalize ((seqL X k).mergeSort fun x y => decide (x ≤ y)) = ms at hH hml hci
        have hC := compInts_any w2 w.heap.size k k w.heap.size ms hH hml hn (Nat.le_refl _) (Nat.le_refl _)
        have HC : Hid ((Lib.compact ms).length = k ↔ NoTwo X k) := hci
        clear hci hH hml
        generalize (Lib.compact ms).length = m at hC HC
        go_wp2_with fail
        refine hC.mono ?_
        rintro e w3 ⟨rfl, hb3⟩
        have bw3 := bw2.trans hb3
        clear hb3 hC
        go_wp2
        refine bodyPost_ret (v := .bool ((m : Int) == (k : Int))) (by simp [results, Try.results51, go_sem]) rfl (Ans.mk _ ?_ bw3)
        rw [← HC.out]
        simp only [beq_iff_eq]
        omega
end Go.Proofs.Ytkoffcbjgpcnjaa
