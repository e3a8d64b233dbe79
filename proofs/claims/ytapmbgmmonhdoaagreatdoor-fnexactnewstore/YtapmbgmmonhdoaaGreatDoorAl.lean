/- All unlike. -/
import Derived.Test.YtapmbgmmonhdoaaGreatDoorAu
import Derived.Test.YtapmbgmmonhdoaaGreatDoorGd
namespace Go.Proofs.YtapmbgmmonhdoaaGreatDoor
set_option maxRecDepth 100000
open Go.RowKit Go.Shelf
open Go.Sort (Holds putRow holds_putRow)
set_option linter.unusedSimpArgs false
set_option linter.unusedVariables false

theorem collect_any (Bs n₀ len cap : Nat) (ao : Option Addr) (f : Nat → Int) (hreach : len ≤ 1048576) (w : World) (hBs : Bs < w.heap.size) (hn₀ : n₀ ≤ w.heap.size)
    (hc : w.cell? ⟨Bs, 0, none⟩ = some (.slice ao len cap)) (hI : len = 0 ∨ ∃ b off, ao = some ⟨b, off, none⟩ ∧ b < n₀ ∧ ∀ j, j < len → w.cell? ⟨b, off + j, none⟩ = some (.int .i64 (f j))) :
    Calls Tryz.prog 185 #[.func (.func 187) #[] #[.pointer (some ⟨Bs, 0, none⟩)]] w fun e w' => ∃ v, e = .returned v ∧ w'.ownsRow w.heap.size 3 1 v len ((iL f len).map (Value.int .i64)) ∧ Below w.heap.size w w' := by
  have hA := appendSeq_any Bs n₀ len cap ao f hreach w hBs hn₀ hc hI
  go_enter Tryz.func185, Tryz.ntmps185
  go_wp2_with fail
  refine hA.mono ?_
  rintro e w1 ⟨v, rfl, h1, h2⟩
  go_wp2
  go_ret
  exact ⟨v, rfl, h1, h2⟩

theorem sorted_of (zs : List Int) : (zs.mergeSort fun x y => decide (x ≤ y)).Pairwise (fun a b => a ≤ b) := by
  have h := List.pairwise_mergeSort (le := fun x y : Int => decide (x ≤ y)) (fun a b c h1 h2 => by simp at *; omega) (fun a b => by simp; omega) zs
  exact h.imp (fun h => by simpa using h)
theorem comp_iff (zs : List Int) : (Lib.compact (zs.mergeSort fun x y => decide (x ≤ y))).length = zs.length ↔ zs.Nodup := by
  have hp : (zs.mergeSort fun x y => decide (x ≤ y)).Perm zs := List.mergeSort_perm _ _
  have hs := sorted_of zs
  have hl : (zs.mergeSort fun x y => decide (x ≤ y)).length = zs.length := hp.length_eq
  rw [← hp.nodup_iff, ← hl]
  generalize (zs.mergeSort fun x y => decide (x ≤ y)) = ms at hs
  unfold Lib.compact Lib.compactUpTo
  rw [List.length_map]
  have e : ((List.range ms.length).filter (Lib.keeps ms.toArray)).length = ms.length ↔ ∀ j, j < ms.length → Lib.keeps ms.toArray j = true := by
    have := List.length_filter_eq_length_iff (p := Lib.keeps ms.toArray) (l := List.range ms.length)
    rw [List.length_range] at this
    rw [this]
    simp
  rw [e]
  unfold List.Nodup
  rw [List.pairwise_iff_getElem] at hs ⊢
  constructor
  · intro h i j hi hj hij
    have hk := h j hj
    simp only [Lib.keeps, decide_eq_true_eq] at hk
    have hne := hk.resolve_left (by omega)
    rw [getElem!_pos _ j (by simpa using hj), getElem!_pos _ (j - 1) (by simp; omega)] at hne
    simp only [List.getElem_toArray] at hne
    have h1 := hs (j - 1) j (by omega) hj (by omega)
    have h2 : ms[i] ≤ ms[j - 1] := by
      by_cases e : i = j - 1
      · subst e; exact Int.le_refl _
      · exact hs i (j - 1) hi (by omega) (by omega)
    omega
  · intro h j hj
    simp only [Lib.keeps, decide_eq_true_eq]
    by_cases h0 : j = 0
    · exact .inl h0
    · right
      rw [getElem!_pos _ j (by simpa using hj), getElem!_pos _ (j - 1) (by simp; omega)]
      simp only [List.getElem_toArray]
      exact Ne.symm (h (j - 1) j (by omega) hj (by omega))


/-- A row sorted by the library. -/
theorem sortI_any (w : World) (g cap B : Nat) (zs : List Int) (hz : Holds (Value.int .i64) w g 0 zs.toArray) (hg : g < w.heap.size) (hn : zs.length ≤ 1048576) (hB : B ≤ g) :
    Calls Tryz.prog 186 #[.slice (some ⟨g, 0, none⟩) zs.length cap] w fun e w' => e = .returned (.tuple #[]) ∧ Holds (Value.int .i64) w' g 0 (zs.mergeSort fun x y => decide (x ≤ y)).toArray ∧ Below B w w' := by
  have hc := Any.slices_Sort_int sortInts g 0 cap zs w hz hg (by omega)
  refine Calls.mono hc ?_
  rintro e w' ⟨rfl, m, os, rfl⟩
  refine ⟨rfl, ?_, ?_⟩
  · have h1 := holds_putRow (Value.int .i64) (Sort.ahead w m) g 0 zs.toArray (zs.mergeSort fun x y => decide (x ≤ y)).toArray hz (by simp)
    have hlt : g < (putRow (Value.int .i64) (Sort.ahead w m) g 0 (zs.mergeSort fun x y => decide (x ≤ y)).toArray).heap.size := by
      simpa [putRow, Sort.mapBlock, Sort.ahead] using hg
    intro j hj
    have h2 := h1 j hj
    have hb : (Sort.grow (putRow (Value.int .i64) (Sort.ahead w m) g 0 (zs.mergeSort fun x y => decide (x ≤ y)).toArray) os).heap[g]? = (putRow (Value.int .i64) (Sort.ahead w m) g 0 (zs.mergeSort fun x y => decide (x ≤ y)).toArray).heap[g]? := by
      unfold Sort.grow
      exact Array.getElem?_append_left hlt
    exact ⟨(World.cell?_of_block (a := ⟨g, 0 + j, none⟩) hb).trans h2.1, (World.frozen?_of_block (a := ⟨g, 0 + j, none⟩) hb).trans h2.2⟩
  · refine ⟨rfl, rfl, rfl, ?_, fun k hk => ?_⟩
    · simp [Sort.grow, putRow, Sort.mapBlock, Sort.ahead]
    · unfold Sort.grow putRow Sort.mapBlock Sort.ahead
      rw [Array.getElem?_append_left (by simp; omega), Array.getElem?_modify, if_neg (by omega)]

theorem compInts_any (w : World) (g n cap B : Nat) (ms : List Int) (hH : Holds (Value.int .i64) w g 0 ms.toArray) (hn : ms.length = n) (hnb : n ≤ 1048576) (hcap : n ≤ cap) (hB : B ≤ g) :
    Calls Tryz.prog 155 #[.slice (some ⟨g, 0, none⟩) n cap] w fun e w' => e = .returned (.slice (some ⟨g, 0, none⟩) (Lib.compact ms).length cap) ∧ Below B w w' := by
  subst hn
  refine Calls.mono (Any.slices_Compact_int compInts g 0 cap ms w hH (by omega) hcap) ?_
  rintro e w' ⟨rfl, q, rfl⟩
  refine ⟨rfl, rfl, rfl, rfl, ?_, fun k hk => ?_⟩
  · simp [putRow, Sort.mapBlock, Sort.ahead]
  · unfold putRow Sort.mapBlock Sort.ahead
    rw [Array.getElem?_modify, if_neg (by omega)]

theorem compact_none (p : Option Addr) (cap : Nat) (w : World) : Calls Tryz.prog 155 #[.slice p 0 cap] w fun e w' => e = .returned (.slice p 0 cap) ∧ w' = w := by
  go_enter Tryz.func155, Tryz.ntmps155
  go_wp2
  go_ret
  exact ⟨rfl, rfl⟩

theorem holds_of_row {w : World} {g n : Nat} {f : Nat → Int} (h : ∀ i, i < n → w.cell? ⟨g, i, none⟩ = some (.int .i64 (f i))) (hf : ∀ i, w.frozen? ⟨g, i, none⟩ = false) : Holds (Value.int .i64) w g 0 (iL f n).toArray := by
  intro j hj
  have hj' : j < n := by simpa [iL] using hj
  refine ⟨?_, by rw [Nat.zero_add]; exact hf j⟩
  rw [Nat.zero_add, h j hj', getElem!_pos _ j hj]
  simp [iL]

/-- What slices.Sorted leaves. -/
def SoO (f : Nat → Int) (n : Nat) (w : World) (e : Ending) (w' : World) : Prop :=
  (n = 0 ∧ e = .returned (.slice none 0 0) ∧ Below w.heap.size w w') ∨ ∃ g cap, e = .returned (.slice (some ⟨g, 0, none⟩) n cap) ∧ n ≤ cap ∧ w.heap.size ≤ g ∧ Holds (Value.int .i64) w' g 0 ((iL f n).mergeSort fun x y => decide (x ≤ y)).toArray ∧ Below w.heap.size w w'

set_option maxHeartbeats 800000 in
theorem sorted_any (Bs n₀ len cap : Nat) (ao : Option Addr) (f : Nat → Int) (hreach : len ≤ 1048576) (w : World) (hBs : Bs < w.heap.size) (hn₀ : n₀ ≤ w.heap.size)
    (hc : w.cell? ⟨Bs, 0, none⟩ = some (.slice ao len cap)) (hI : len = 0 ∨ ∃ b off, ao = some ⟨b, off, none⟩ ∧ b < n₀ ∧ ∀ j, j < len → w.cell? ⟨b, off + j, none⟩ = some (.int .i64 (f j))) :
    Calls Tryz.prog 153 #[.func (.func 187) #[] #[.pointer (some ⟨Bs, 0, none⟩)]] w fun e w' => SoO f len w e w' := by
  have hA := collect_any Bs n₀ len cap ao f hreach w hBs hn₀ hc hI
  go_enter Tryz.func153, Tryz.ntmps153
  go_wp2_with fail
  refine hA.mono ?_
  rintro e w1 ⟨v, rfl, ho, hb⟩
  clear hA hI hc
  rcases id ho.2 with ⟨rfl, h0⟩ | ⟨g, c, cur, rfl, hbg, hg, hnc, hcm⟩
  · have hS := Any.slices_Sort_int_none sortInts none 0 w1
    go_wp2_with fail
    refine Calls.mono hS ?_
    rintro e w2 ⟨rfl, rfl⟩
    go_wp2
    go_ret
    exact .inl ⟨h0, rfl, hb⟩
  · have hlt : g < w1.heap.size := (Array.getElem?_eq_some_iff.1 hg).1
    have hH : Holds (Value.int .i64) w1 g 0 (iL f len).toArray := holds_of_row (fun i hi => by
      rw [ho.cellAt i (by omega)]; simp [iL, hi]) (fun i => by simpa using ho.frozenAt i)
    have hS := sortI_any w1 g c w.heap.size (iL f len) hH hlt (by rw [iL_len]; exact hreach) hbg
    rw [iL_len] at hS
    clear hH ho hg hcm
    go_wp2_with fail
    refine Calls.mono hS ?_
    rintro e w2 ⟨rfl, h2, b2⟩
    have bw2 := hb.trans b2
    go_wp2
    refine bodyPost_ret (v := .slice (some ⟨g, 0, none⟩) len c) (by simp [results, Tryz.results153, go_sem]) rfl (.inr ⟨g, c, rfl, hnc, hbg, h2, bw2⟩)

/-- All unlike. -/
def Unl (f : Nat → Int) (n : Nat) : Prop := ∀ i j, i < j → j < n → f i ≠ f j
theorem iL_nodup (f : Nat → Int) (n : Nat) : (iL f n).Nodup ↔ Unl f n := by
  unfold List.Nodup
  rw [List.pairwise_iff_getElem]
  constructor
  · intro h i j hij hj
    have := h i j (by rw [iL_len]; omega) (by rw [iL_len]; omega) hij
    simpa [iL] using this
  · intro h i j hi hj hij
    rw [iL_len] at hi hj
    have := h i j hij hj
    simpa [iL] using this

set_option maxHeartbeats 800000 in
theorem allUnlike_any (ao : Option Addr) (n cap : Nat) (f : Nat → Int) (w : World) (hr : IRow w ao n f) (hn : n ≤ 1048576) :
    Calls Tryz.prog 105 #[.slice ao n cap] w fun e w' => Ans (Unl f n) w e w' := by
  have hB0 := below_new w (.cells #[.slice ao n cap] 58)
  have hS := sorted_any w.heap.size w.heap.size n cap ao f hn (w.alloc (.cells #[.slice ao n cap] 58)) (by simp) (by simp) (by simp [go_sem]) (by
    rcases hr.lies with h | ⟨b, off, e, hb, hcs⟩
    · exact .inl h
    · exact .inr ⟨b, off, e, hb, fun j hj => (hB0.cell (p := ⟨b, off + j, none⟩) hb).trans (hcs j hj)⟩)
  go_enter Tryz.func105, Tryz.ntmps105
  go_wp2_with fail
  refine (values_any ao n cap _).mono ?_
  rintro e w1 ⟨rfl, rfl⟩
  go_wp2_with fail
  refine hS.mono ?_
  rintro e w2 h2
  clear hS
  rcases h2 with ⟨rfl, rfl, b2⟩ | ⟨g, c, rfl, hnc, hg, hH, b2⟩
  · have bw2 := hB0.trans (b2.mono (by simp))
    go_wp2_with fail
    refine (compact_none none 0 _).mono ?_
    rintro e w3 ⟨rfl, rfl⟩
    go_wp2
    refine bodyPost_ret (v := .bool true) (by simp [results, Tryz.results105, go_sem]) rfl (Ans.mk _ (by simp [Unl]) bw2)
  · have bw2 := hB0.trans (b2.mono (by simp))
    simp only [World.size_alloc] at hg
    have hml : ((iL f n).mergeSort fun x y => decide (x ≤ y)).length = n := by rw [List.length_mergeSort, iL_len]
    have hci := comp_iff (iL f n)
    rw [iL_len, iL_nodup] at hci
    clear b2 hB0
    generalize ((iL f n).mergeSort fun x y => decide (x ≤ y)) = ms at hH hml hci
    have hC := compInts_any w2 g n c w.heap.size ms hH hml hn hnc (by omega)
    have HC : Hid ((Lib.compact ms).length = n ↔ Unl f n) := hci
    clear hci hH hml
    generalize (Lib.compact ms).length = m at hC HC
    go_wp2_with fail
    refine hC.mono ?_
    rintro e w3 ⟨rfl, hb3⟩
    have bw3 := bw2.trans hb3
    clear hb3 hC
    go_wp2
    refine bodyPost_ret (v := .bool ((m : Int) == (n : Int))) (by simp [results, Tryz.results105, go_sem]) rfl (Ans.mk _ ?_ bw3)
    rw [← HC.out]
    simp only [beq_iff_eq]
    omega
end Go.Proofs.YtapmbgmmonhdoaaGreatDoor
