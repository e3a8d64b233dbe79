/- Texts, ints and entries compared. / slices.Repeat of the one number 1. / Entries that rise, in the program. / One entry ahead of another, in the model. -/
import Derived.Test.YtohjjigkfdhklaaGreatGe
import Derived.Lib.Bytealg
import Derived.Deep.RegionHeld3
import Derived.Deep.RegionWith
import Derived.Laws.Bits64b
import Derived.Laws.EntriesVeiled
import Derived.Laws.CopyOwn
import Derived.Deep.RegionLaw
namespace Go.Proofs.YtohjjigkfdhklaaGreat
set_option maxRecDepth 100000
open Go.RowKit
set_option linter.unusedSimpArgs false
set_option linter.unusedVariables false

theorem bl_self : ∀ l : List UInt8, Op.bytesLess l l = false
  | [] => rfl
  | x :: l => by simp [Op.bytesLess, bl_self l]
theorem cb_self : ∀ l : List UInt8, Lib.compareBytes l l = 0
  | [] => rfl
  | x :: l => by simp [Lib.compareBytes, UInt8.lt_irrefl, cb_self l]
theorem cb_lt : ∀ a b : List UInt8, Lib.compareBytes a b < 0 ↔ Op.bytesLess a b = true
  | [], [] => by simp [Lib.compareBytes, Op.bytesLess]
  | [], _ :: _ => by simp [Lib.compareBytes, Op.bytesLess]
  | _ :: _, [] => by simp [Lib.compareBytes, Op.bytesLess]
  | x :: a, y :: b => by
    have ih := cb_lt a b
    unfold Lib.compareBytes Op.bytesLess
    by_cases h1 : x < y
    · simp [h1]
    · by_cases h2 : y < x
      · have : x ≠ y := fun e => by subst e; exact h1 h2
        simp [h1, h2, this]
      · have : x = y := UInt8.le_antisymm (UInt8.not_lt.1 h2) (UInt8.not_lt.1 h1)
        subst this
        simp [h1, ih]
theorem cb_zero : ∀ a b : List UInt8, Lib.compareBytes a b = 0 → a = b
  | [], [], _ => rfl
  | [], _ :: _, h => by simp [Lib.compareBytes] at h
  | _ :: _, [], h => by simp [Lib.compareBytes] at h
  | x :: a, y :: b, h => by
    unfold Lib.compareBytes at h
    by_cases h1 : x < y
    · simp [h1] at h
    · by_cases h2 : y < x
      · simp [h1, h2] at h
      · have : x = y := UInt8.le_antisymm (UInt8.not_lt.1 h2) (UInt8.not_lt.1 h1)
        subst this
        simp [h1] at h
        rw [cb_zero a b h]

/-- What strings.Compare says. -/
def cB (a b : ByteArray) : Int := Lib.compareBytes a.data.toList b.data.toList
/-- What cmp.Compare says. -/
def cI (a b : Int) : Int := if a < b then -1 else if b < a then 1 else 0
theorem cB_lt (a b : ByteArray) : cB a b < 0 ↔ Op.bytesLess a.toList b.toList = true := by
  rw [ByteArray.toList_eq, ByteArray.toList_eq]; exact cb_lt _ _
theorem cB_zero (a b : ByteArray) : cB a b = 0 ↔ a.toList = b.toList := by
  rw [ByteArray.toList_eq, ByteArray.toList_eq]
  exact ⟨cb_zero _ _, fun h => by unfold cB; rw [h]; exact cb_self _⟩
theorem cI_lt (a b : Int) : cI a b < 0 ↔ a < b := by
  unfold cI
  split
  · simp_all
  · split <;> simp_all <;> omega

/-- One entry stands ahead of another. -/
def Bef (x y : Ent) : Prop := Op.bytesLess x.key.toList y.key.toList = true ∨ x.key.toList = y.key.toList ∧ y.seq < x.seq
/-- What compareEntries says. -/
def cE (x y : Ent) : Int := if cB x.key y.key = 0 then cI y.seq x.seq else cB x.key y.key
theorem cE_lt (x y : Ent) : cE x y < 0 ↔ Bef x y := by
  unfold cE Bef
  split
  · rename_i h
    have e := (cB_zero _ _).1 h
    rw [cI_lt, e, bl_self]
    simp
  · rename_i h
    rw [cB_lt]
    have : ¬ x.key.toList = y.key.toList := fun e => h ((cB_zero _ _).2 e)
    simp [this]

set_option maxRecDepth 100000 in
theorem bytealg_any (a b : ByteArray) (w : World) :
    Calls Tryz.prog 138 #[.string a, .string b] w fun e w' => e = .returned (.int .i64 (cB a b)) ∧ w' = w := by
  go_enter Tryz.func138, Tryz.ntmps138
  go_wp2
  rw [run_callFunc_extern Tryz.func146 (by kernel_rfl) (by kernel_rfl) (by kernel_rfl) (e := Extern.BytealgCompare.compare) (by kernel_rfl), Lib.run_compareString]
  simp only [Result.andThen]
  rw [Oper.upon_value]
  go_wp2
  go_ret
  exact ⟨rfl, rfl⟩
theorem strCmp_any (a b : ByteArray) (w : World) :
    Calls Tryz.prog 122 #[.string a, .string b] w fun e w' => e = .returned (.int .i64 (cB a b)) ∧ w' = w := by
  go_enter Tryz.func122, Tryz.ntmps122
  go_wp2_with fail
  refine (bytealg_any a b _).mono ?_
  rintro e w1 ⟨rfl, rfl⟩
  go_wp2
  go_ret
  exact ⟨rfl, rfl⟩

theorem isNaN_any (a : Int) (w : World) : Calls Tryz.prog 139 #[.int .i64 a] w fun e w' => e = .returned (.bool false) ∧ w' = w := by
  go_enter Tryz.func139, Tryz.ntmps139
  go_wp2
  go_ret
  simp
theorem intCmp_any (a b : Int) (w : World) :
    Calls Tryz.prog 123 #[.int .i64 a, .int .i64 b] w fun e w' => e = .returned (.int .i64 (cI a b)) ∧ w' = w := by
  unfold cI
  by_cases h1 : a < b
  · rw [if_pos h1]
    go_enter Tryz.func123, Tryz.ntmps123
    go_wp2_with (go_at_call 139; refine (isNaN_any _ _).mono ?_; rintro e w' ⟨rfl, rfl⟩)
    go_ret
    simp
  · rw [if_neg h1]
    by_cases h2 : b < a
    · rw [if_pos h2]
      go_enter Tryz.func123, Tryz.ntmps123
      go_wp2_with (go_at_call 139; refine (isNaN_any _ _).mono ?_; rintro e w' ⟨rfl, rfl⟩)
      go_ret
      simp
    · rw [if_neg h2]
      go_enter Tryz.func123, Tryz.ntmps123
      go_wp2_with (go_at_call 139; refine (isNaN_any _ _).mono ?_; rintro e w' ⟨rfl, rfl⟩)
      go_ret
      simp

/-- What cmp.Or says of two. -/
def orI (p q : Int) : Int := if p = 0 then q else p
theorem cmpOr_any (b off cap : Nat) (p q : Int) (w : World) (h0 : w.cell? ⟨b, off, none⟩ = some (.int .i64 p)) (h1 : w.cell? ⟨b, off + 1, none⟩ = some (.int .i64 q)) :
    Calls Tryz.prog 121 #[.slice (some ⟨b, off, none⟩) 2 cap] w fun e w' => e = .returned (.int .i64 (orI p q)) ∧ w' = w := by
  unfold orI
  go_enter Tryz.func121, Tryz.ntmps121
  go_wp2
  go_loopw [8] (fun i wr => ∃ k : Nat, k ≤ 2 ∧ i = .int .i64 k ∧ (0 < k → p = 0) ∧ (1 < k → q = 0) ∧ wr = w) (fun i _ => 2 - (intOf i).toNat)
  case atStart => exact ⟨0, by omega, rfl, by omega, by omega, rfl⟩
  case round =>
    obtain ⟨k, hk, rfl, hp, hq, rfl⟩ := hrel
    have hk3 : k = 0 ∨ k = 1 ∨ k = 2 := by omega
    rcases hk3 with rfl | rfl | rfl
    · by_cases e : p = 0
      · subst e
        clear hp hq
        go_wp2
        go_roundw
        case rel => exact ⟨1, by omega, by go_num, by simp, by simp, by first | rfl | trivial⟩
        case measure => simp [intOf]
      · clear hp hq
        go_wp2
        go_ret
        simp [e]
    · obtain rfl := hp (by omega)
      by_cases e : q = 0
      · subst e
        clear hp hq
        go_wp2
        go_roundw
        case rel => exact ⟨2, by omega, by go_num, by simp, by simp, by first | rfl | trivial⟩
        case measure => simp [intOf]
      · clear hp hq
        go_wp2
        go_ret
        simp
    · obtain rfl := hp (by omega)
      obtain rfl := hq (by omega)
      clear hp hq
      go_wp2
      go_ret
      simp

/-- What a comparison of entries leaves. -/
def CmpO (x y : Ent) (w : World) (e : Ending) (w' : World) : Prop := e = .returned (.int .i64 (cE x y)) ∧ Below w.heap.size w w'

set_option maxHeartbeats 4000000 in
theorem compareEntries_any (x y : Ent) (ao bo : Option Addr) (ca cb : Nat) (w : World) :
    Calls Tryz.prog 108 #[.agg #[.string x.key, .int .i64 x.seq, .int .i64 x.kind, .int .i64 x.c, .int .i64 x.s, .int .i64 x.lo, .int .i64 x.hi, .slice ao x.n ca, .bool x.fu], .agg #[.string y.key, .int .i64 y.seq, .int .i64 y.kind, .int .i64 y.c, .int .i64 y.s, .int .i64 y.lo, .int .i64 y.hi, .slice bo y.n cb, .bool y.fu]] w fun e w' => CmpO x y w e w' := by
  have hB : ∀ o p, Below w.heap.size w ((w.alloc o).alloc p) := fun o p => (below_new w o).alloc (by simp) _
  go_enter Tryz.func108, Tryz.ntmps108
  go_wp2
  go_region_held3 (fun w' => w'.cell? ⟨w.heap.size, 0, none⟩ = some (.string x.key) ∧ w'.cell? ⟨w.heap.size, 1, none⟩ = some (.int .i64 x.seq) ∧ w'.cell? ⟨w.heap.size + 1, 0, none⟩ = some (.string y.key) ∧ w'.cell? ⟨w.heap.size + 1, 1, none⟩ = some (.int .i64 y.seq)) (go_keep) (first | (go_at_call 122; refine (strCmp_any _ _ _).mono ?_; rintro e w6 ⟨rfl, rfl⟩) | (go_at_call 123; refine (intCmp_any _ _ _).mono ?_; rintro e w6 ⟨rfl, rfl⟩) | (go_at_call 121; refine (cmpOr_any _ 0 _ (cB x.key y.key) (cI y.seq x.seq) _ (by simp [go_sem]) (by simp [go_sem])).mono ?_; rintro e w6 ⟨rfl, rfl⟩))
  go_wp2
  go_ret
  exact ⟨rfl, ((hB _ _).alloc (by simp; omega) _).drew⟩
end Go.Proofs.YtohjjigkfdhklaaGreat
namespace Go.Proofs.YtohjjigkfdhklaaGreat
set_option maxRecDepth 100000
open Go.RowKit
set_option linter.unusedSimpArgs false
set_option linter.unusedVariables false

theorem and32 (n : Nat) (hn : n ≤ 1048576) : bits .and .u64 (n : Int) 4294967295 = (n : Int) := by
  have h := bits_and_u64_nat n 4294967295 (by omega) (by omega)
  have e : n &&& 4294967295 = n % 4294967296 := Nat.and_two_pow_sub_one_eq_mod n 32
  rw [e, Nat.mod_eq_of_lt (by omega)] at h
  exact h
theorem mul64_one (n : Nat) (w : World) (hn : n ≤ 1048576) :
    Calls Tryz.prog 137 #[.int .u64 1, .int .u64 n] w fun e w' => e = .returned (.tuple #[.int .u64 0, .int .u64 n]) ∧ w' = w := by
  have h1 : bits .and .u64 1 4294967295 = 1 := and32 1 (by omega)
  have h2 : bits .and .u64 0 4294967295 = 0 := and32 0 (by omega)
  have h3 := and32 n hn
  have h4 : (n : Int) / 4294967296 = 0 := by omega
  have h5 : IntKind.u64.wrap (n : Int) = n := by rw [IntKind.wrap_u64]; omega
  go_enter Tryz.func137, Tryz.ntmps137
  go_wp2
  go_ret2
  exact ⟨rfl, rfl⟩
theorem mul_one' (n : Nat) (w : World) (hn : n ≤ 1048576) :
    Calls Tryz.prog 120 #[.int .u64 1, .int .u64 n] w fun e w' => e = .returned (.tuple #[.int .u64 0, .int .u64 n]) ∧ w' = w := by
  go_enter Tryz.func120, Tryz.ntmps120
  go_wp2_with fail
  refine (mul64_one n _ hn).mono ?_
  rintro e w1 ⟨rfl, rfl⟩
  go_wp2
  go_ret2
  exact ⟨rfl, rfl⟩

/-- What Repeat leaves. -/
def RepO (n : Nat) (w : World) (e : Ending) (w' : World) : Prop := ∃ g, e = .returned (.slice (some ⟨g, 0, none⟩) n n) ∧ w.heap.size ≤ g ∧ IOwn w' g 0 n (fun _ => 1) ∧ Below w.heap.size w w'

/-- k ones and noughts behind them, n in all. -/
def ones (n k : Nat) : List Value := List.replicate k (.int .i64 1) ++ List.replicate (n - k) (.int .i64 0)
theorem ones_len {n k : Nat} (h : k ≤ n) : (ones n k).length = n := by simp [ones]; omega
theorem ones_get {n k j : Nat} (h : k ≤ n) (hj : j < n) : (ones n k)[j]? = some (.int .i64 (if j < k then 1 else 0)) := by
  unfold ones
  rw [List.getElem?_append]
  by_cases hk : j < k
  · simp [hk]
  · simp [hk, show j - k < n - k from by omega]
theorem ones_splice {n k m : Nat} (h : k + m ≤ n) : splice (ones n k) k (List.replicate m (.int .i64 1)) = ones n (k + m) := by
  unfold splice ones
  have e1 : (List.replicate k (Value.int .i64 1) ++ List.replicate (n - k) (Value.int .i64 0)).take k = List.replicate k (Value.int .i64 1) := by
    rw [List.take_append_of_le_length (by simp), List.take_of_length_le (by simp)]
  rw [e1, List.length_replicate, List.drop_append, List.drop_of_length_le (by simp), List.nil_append, List.length_replicate, List.drop_replicate, ← List.append_assoc, List.replicate_append_replicate]
  congr 2
  omega
theorem own_ones {w : World} {g n T : Nat} (h : w.heap[g]? = some (.cells (ones n n).toArray T (0, 0))) : IOwn w g 0 n (fun _ => 1) := by
  have hlt : g < w.heap.size := (Array.getElem?_eq_some_iff.1 h).1
  refine ⟨fun _ => by omega, hlt, fun i hi => ?_, fun i _ => frozen_of_row _ _ _ _ _ h⟩
  rw [cell_of_row _ _ _ _ _ _ h, Nat.zero_add, List.getElem?_toArray, ones_get (Nat.le_refl _) hi, if_pos hi]

theorem Tryz.sizeInt : (Tryz.prog.info? 3).map (·.size) = some 1 := by kernel_rfl

/-- A copy of ones, as an equation. -/
theorem copy_run (w : World) (g off dLen dCap sLen sCap n k m T : Nat) (sa : Addr) (hg : w.heap[g]? = some (.cells (ones n k).toArray T (0, 0))) (hk : off = k) (hkm : k + m ≤ n) (hm : m = Nat.min sLen dLen)
    (hsrc : ∀ j, j < m → w.cell? (sa.add j) = some (.int .i64 1)) :
    ∃ w', (Builtin.copy_ #[31, 31] 3 #[.slice (some ⟨g, off, none⟩) dLen dCap, .slice (some sa) sLen sCap]).run Tryz.prog w = .ok (.int .i64 m) w' ∧ w'.heap[g]? = some (.cells (ones n (k + m)).toArray T (0, 0)) ∧ Others g w w' := by
  subst hk
  have hl : (List.replicate m (Value.int .i64 1)).length = m := List.length_replicate
  have hrun := run_copy_row (P := Tryz.prog) w 31 31 3 3 g off dLen dCap sa sLen sCap (ones n off).toArray T (List.replicate m (.int .i64 1)) Tryz.underlying31 Tryz.sizeInt hg (by rw [hl, hm]) (fun j v hj => by
      have hj' := List.getElem?_eq_some_iff.1 hj
      obtain ⟨h1, h2⟩ := hj'
      rw [hl] at h1
      rw [← h2, List.getElem_replicate]
      exact hsrc j h1) (by rw [hl, List.size_toArray, ones_len (by omega)]; exact hkm) (by intro v hv; rw [List.eq_of_mem_replicate hv]; rfl)
  have he : (ones n off).toArray.toList.take off ++ List.replicate m (Value.int .i64 1) ++ (ones n off).toArray.toList.drop (off + (List.replicate m (Value.int .i64 1)).length) = ones n (off + m) := by
    rw [← ones_splice hkm]
    simp [splice]
  rw [he, hl] at hrun
  exact ⟨_, hrun, setRow_heap w g _ _ T _ hg, ⟨rfl, rfl, rfl, by simp [World.setRow], fun k hk => setRow_other w g k _ hk⟩⟩

set_option maxRecDepth 100000 in
set_option maxHeartbeats 1000000 in
theorem repeat_any (b cap n : Nat) (w : World) (hn : n ≤ 1048576) (h0 : w.cell? ⟨b, 0, none⟩ = some (.int .i64 1)) (hb : b < w.heap.size) :
    Calls Tryz.prog 107 #[.slice (some ⟨b, 0, none⟩) 1 cap, .int .i64 n] w fun e w' => RepO n w e w' := by
  obtain ⟨i0, hi, hz0, hz1, hz2⟩ := info_parts Tryz.infoInt
  have hw1 : IntKind.u64.wrap (n : Int) = n := by rw [IntKind.wrap_u64]; omega
  obtain ⟨m, hm⟩ : ∃ m, m = Nat.min 1 n := ⟨_, rfl⟩
  have Hm : Hid (m = Nat.min 1 n) := hm
  have hm1 : m ≤ n := by rw [hm]; exact Nat.min_le_right _ _
  have hm2 : 0 < n → 0 < m := fun h => by rw [hm]; exact Nat.lt_min.2 ⟨by omega, h⟩
  clear hm
  go_enter Tryz.func107, Tryz.ntmps107
  go_wp2_with fail
  refine (mul_one' n _ hn).mono ?_
  rintro e w1 ⟨rfl, hw'⟩
  have hw2 := hw'.symm
  clear hw'
  subst hw2
  go_wp2_with (at_make; refine wpList_make_full _ rfl (.tmp 29) (.tmp 29) 31 rfl w.heap.size 3 i0 (.int .i64 0) 1 Tryz.underlying31 hi hz0 hz1 .i64 .i64 _ _ n rfl rfl rfl rfl (by rw [hz2]; omega) (by unfold maxLen; omega) (Nat.le_refl _) ?_; intro w1 hown hgrow)
  have hb1 : Below w.heap.size w w1 := (Below.refl _ _).grown hgrow (Nat.le_refl _) (fun k h => by simp at h)
  have hg1 : w1.heap[w.heap.size]? = some (.cells (ones n 0).toArray 3 (0, 0)) := by
    rcases hown.2 with ⟨h, _⟩ | ⟨g', cap', cur, h, _, hg, hnc, hsz, hl⟩
    · simp at h
    · obtain ⟨e1, e2⟩ : g' = w.heap.size ∧ cap' = n := by simp at h; exact ⟨h.1.symm, h.2.symm⟩
      subst e1 e2
      have hc : cur = (ones cap' 0).toArray := by
        apply Array.ext'
        have h1 : cur.toList.length = cap' := by rw [Array.length_toList, hl.1, Nat.mul_one]
        have h2 := hl.2
        rw [Nat.mul_one, List.take_of_length_le (by omega)] at h2
        rw [h2]
        simp [ones, Value.cells, toList_madeCells_one]
      rw [hg, hc]
  have hs0 : w1.cell? ⟨b, 0, none⟩ = some (.int .i64 1) := (hb1.cell (p := ⟨b, 0, none⟩) hb).trans h0
  clear hown hgrow
  obtain ⟨w2, hrun2, hg2, hot2⟩ := copy_run w1 w.heap.size 0 n n 1 cap n 0 m 3 ⟨b, 0, none⟩ hg1 rfl (by omega) Hm.out (fun j hj => by
    have : m ≤ 1 := by rw [Hm.out]; exact Nat.min_le_left _ _
    obtain rfl : j = 0 := by omega
    simpa [Addr.add] using hs0)
  have bw2 : Below w.heap.size w w2 := hb1.trans (hot2.below (Nat.le_refl _))
  rw [Nat.zero_add] at hg2
  clear hg1 hot2 hs0 hb1 Hm
  rw [hrun2]
  simp only [Result.andThen]
  rw [Oper.upon_value]
  clear hrun2
  go_wp2
  go_loopw [8] (fun i wr => ∃ k : Nat, k ≤ n ∧ (0 < n → 0 < k) ∧ i = .int .i64 k ∧ Hid (wr.heap[w.heap.size]? = some (.cells (ones n k).toArray 3 (0, 0))) ∧ Below w.heap.size w wr) (fun i _ => n - (intOf i).toNat)
  case atStart => exact ⟨m, hm1, hm2, rfl, hg2, bw2⟩
  case round =>
    obtain ⟨k, hk, hk0, rfl, hgk, hbk⟩ := hrel
    clear hg2 bw2
    by_cases hlt : k < n
    · have hkp := hk0 (by omega)
      obtain ⟨q, hq⟩ : ∃ q, q = Nat.min k (n - k) := ⟨_, rfl⟩
      have hq1 : k + q ≤ n := by have : q ≤ n - k := hq ▸ Nat.min_le_right _ _; omega
      have hq2 : q ≤ k := hq ▸ Nat.min_le_left _ _
      have hq3 : 0 < q := hq ▸ Nat.lt_min.2 ⟨hkp, by omega⟩
      obtain ⟨w3, hrun3, hg3, hot3⟩ := copy_run wr.drew w.heap.size k (n - k) (n - k) k n n k q 3 ⟨w.heap.size, 0, none⟩ hgk.out rfl hq1 hq (fun j hj => by
        rw [show (⟨w.heap.size, 0, none⟩ : Addr).add j = ⟨w.heap.size, j, none⟩ from by unfold Addr.add; split <;> simp_all]
        rw [cell_of_row _ _ _ _ _ _ (show wr.drew.heap[w.heap.size]? = _ from hgk.out), List.getElem?_toArray, ones_get hk (by omega), if_pos (by omega)])
      have bw3 : Below w.heap.size w w3 := hbk.drew.trans (hot3.below (Nat.le_refl _))
      have HG3 : Hid (w3.heap[w.heap.size]? = some (.cells (ones n (k + q)).toArray 3 (0, 0))) := hg3
      clear hgk hg3 hot3 hq hbk hm1 hm2 hk0
      go_wp2
      go_region
      go_wp2
      go_roundw
      case rel => exact ⟨k + q, hq1, fun _ => by omega, by go_num, HG3, bw3⟩
      case measure => simp [intOf]; omega
    · have e : k = n := by omega
      subst e
      go_wp2
      go_ret
      exact ⟨w.heap.size, rfl, Nat.le_refl _, own_ones hgk.out, hbk⟩
/-- Entries with the lowest way alone. -/
def WaysO (ko : Option Addr) (n kc : Nat) (w : World) (e : Ending) (w' : World) : Prop :=
  ∃ g, e = .returned (.agg #[.slice ko n kc, .slice (some ⟨g, 0, none⟩) n n, .func (.func 108) #[] #[]]) ∧ w.heap.size ≤ g ∧ IOwn w' g 0 n (fun _ => 1) ∧ Below w.heap.size w w'
set_option maxHeartbeats 1000000 in
theorem waysOf_any (ko : Option Addr) (n kc : Nat) (w : World) (hn : n ≤ 1048576) :
    Calls Tryz.prog 79 #[.slice ko n kc] w fun e w' => WaysO ko n kc w e w' := by
  go_enter Tryz.func79, Tryz.ntmps79
  go_wp2_with fail
  refine (repeat_any (w.heap.size + 1) 1 n _ hn (by simp [go_sem]) (by simp)).mono ?_
  rintro e w1 ⟨g, rfl, hg, ho, hb⟩
  have b0 := hb.cell (p := ⟨w.heap.size, 0, none⟩) (by simp; omega)
  have b1 := hb.cell (p := ⟨w.heap.size, 1, none⟩) (by simp; omega)
  have b2 := hb.cell (p := ⟨w.heap.size, 2, none⟩) (by simp; omega)
  have bf : ∀ j, w1.frozen? ⟨w.heap.size, j, none⟩ = false := fun j => (hb.frozen (p := ⟨w.heap.size, j, none⟩) (by simp; omega)).trans (by simp [go_sem])
  simp [go_sem] at b0 b1 b2
  have bw : Below w.heap.size w w1 := ((below_new w _).alloc (by simp) _).trans (hb.mono (by simp; omega))
  have hs1 := hb.size
  simp at hs1 hg
  clear hb
  go_wp2
  refine bodyPost_ret (v := .agg #[.slice ko n kc, .slice (some ⟨g, 0, none⟩) n n, .func (.func 108) #[] #[]]) (by simp [results, Tryz.results79, go_sem, b0, b1, b2]) rfl ⟨g, rfl, by omega, ?_, ?_⟩
  · repeat' refine (Others.setCell _ _ _ _).irow ?_ (by omega)
    exact ho
  · repeat' refine Below.setCell ?_ (by first | (simp; done) | (simp; omega)) _
    exact bw
end Go.Proofs.YtohjjigkfdhklaaGreat

namespace Go.Proofs.YtohjjigkfdhklaaGreat
set_option maxRecDepth 100000
open Go.RowKit
set_option linter.unusedSimpArgs false
set_option linter.unusedVariables false

/-- Each stands ahead of the next one, up to k. -/
def RiseE (X : Nat → Ent) (k : Nat) : Prop := ∀ i, i + 1 < k → Bef (X i) (X (i + 1))

set_option maxHeartbeats 2000000 in
theorem rising_any (ko : Option Addr) (n kc : Nat) (X : Nat → Ent) (tv : Value) (w : World) (hr : ERow w ko n X) (hn : n ≤ 1048576) :
    Calls Tryz.prog 80 #[.agg #[.slice ko n kc, tv, .func (.func 108) #[] #[]]] w fun e w' => Ans (RiseE X n) w e w' := by
  obtain ⟨_, hlies⟩ := hr
  have hB := below_new w (.cells #[.slice ko n kc, tv, .func (.func 108) #[] #[]] 120)
  have z0 : (w.alloc (.cells #[.slice ko n kc, tv, .func (.func 108) #[] #[]] 120)).cell? ⟨w.heap.size, 0, none⟩ = some (.slice ko n kc) := by simp [go_sem]
  have z2 : (w.alloc (.cells #[.slice ko n kc, tv, .func (.func 108) #[] #[]] 120)).cell? ⟨w.heap.size, 2, none⟩ = some (.func (.func 108) #[] #[]) := by simp [go_sem]
  have zl : w.heap.size < (w.alloc (.cells #[.slice ko n kc, tv, .func (.func 108) #[] #[]] 120)).heap.size := by simp
  go_enter Tryz.func80, Tryz.ntmps80
  go_wp2
  generalize (w.alloc (.cells #[.slice ko n kc, tv, .func (.func 108) #[] #[]] 120)) = w1 at hB z0 z2 zl ⊢
  go_loopw [3] (fun i wr => ∃ k : Nat, 1 ≤ k ∧ (n = 0 ∨ k ≤ n) ∧ (n = 0 → k = 1) ∧ i = .int .i64 k ∧ Hid (RiseE X k) ∧ Below w1.heap.size w1 wr) (fun i _ => n - (intOf i).toNat)
  case atStart => exact ⟨1, by omega, by omega, by omega, rfl, fun i hi => by omega, Below.refl _ _⟩
  case round =>
    obtain ⟨k, hk1, hk2, hk3, rfl, hR, hbk⟩ := hrel
    have y0 := (hbk.cell (p := ⟨w.heap.size, 0, none⟩) zl).trans z0
    have y2 := (hbk.cell (p := ⟨w.heap.size, 2, none⟩) zl).trans z2
    have bw : Below w.heap.size w wr := hB.trans (hbk.mono (Nat.le_of_lt zl))
    by_cases hlt : k < n
    · obtain ⟨b, off, rfl, hblt, hc⟩ := hlies.resolve_left (by omega)
      obtain ⟨j, hjk⟩ : ∃ j, k = j + 1 := ⟨k - 1, by omega⟩
      obtain ⟨da, dc, ea, _⟩ := hc j (by omega)
      obtain ⟨db, ec, eb, _⟩ := hc k hlt
      have ea1 := ea.keep bw
      obtain ⟨_, a0, a1, a2, a3, a4, a5, a6, a7, a8⟩ := id ea1
      have eb1 := eb.keep bw
      obtain ⟨_, b0, b1, b2, b3, b4, b5, b6, b7, b8⟩ := id eb1
      have zlr : w.heap.size < wr.heap.size := Nat.lt_of_lt_of_le zl hbk.size
      clear hc hlies ea eb z0 z2 hB
      have hj : IntKind.i64.wrap ((k : Int) - 1) = (j : Int) := by rw [IntKind.wrap_i64] <;> omega
      have hj0 : (0 : Int) ≤ (j : Int) := by omega
      have hj1 : (j : Int) < (n : Int) := by omega
      have hk0 : (0 : Int) ≤ (k : Int) := by omega
      have hk1' : (k : Int) < (n : Int) := by omega
      have HJ : Hid (k = j + 1) := hjk
      clear hjk
      have hcc := fun W => compareEntries_any (X j) (X k) da db dc ec W
      have hc2 := cE_lt (X j) (X k)
      go_wp2
      go_region_held3 (fun w' => w'.cell? ⟨w.heap.size, 0, none⟩ = some (.slice (some ⟨b, off, none⟩) n kc) ∧ w'.cell? ⟨w.heap.size, 2, none⟩ = some (.func (.func 108) #[] #[]) ∧ w'.cell? ⟨b, off + j * 9, none⟩ = some (.string (X j).key) ∧ w'.cell? ⟨b, off + j * 9 + 1, none⟩ = some (.int .i64 (X j).seq) ∧ w'.cell? ⟨b, off + j * 9 + 2, none⟩ = some (.int .i64 (X j).kind) ∧ w'.cell? ⟨b, off + j * 9 + 3, none⟩ = some (.int .i64 (X j).c) ∧ w'.cell? ⟨b, off + j * 9 + 4, none⟩ = some (.int .i64 (X j).s) ∧ w'.cell? ⟨b, off + j * 9 + 5, none⟩ = some (.int .i64 (X j).lo) ∧ w'.cell? ⟨b, off + j * 9 + 6, none⟩ = some (.int .i64 (X j).hi) ∧ w'.cell? ⟨b, off + j * 9 + 7, none⟩ = some (.slice da (X j).n dc) ∧ w'.cell? ⟨b, off + j * 9 + 8, none⟩ = some (.bool (X j).fu) ∧ w'.cell? ⟨b, off + k * 9, none⟩ = some (.string (X k).key) ∧ w'.cell? ⟨b, off + k * 9 + 1, none⟩ = some (.int .i64 (X k).seq) ∧ w'.cell? ⟨b, off + k * 9 + 2, none⟩ = some (.int .i64 (X k).kind) ∧ w'.cell? ⟨b, off + k * 9 + 3, none⟩ = some (.int .i64 (X k).c) ∧ w'.cell? ⟨b, off + k * 9 + 4, none⟩ = some (.int .i64 (X k).s) ∧ w'.cell? ⟨b, off + k * 9 + 5, none⟩ = some (.int .i64 (X k).lo) ∧ w'.cell? ⟨b, off + k * 9 + 6, none⟩ = some (.int .i64 (X k).hi) ∧ w'.cell? ⟨b, off + k * 9 + 7, none⟩ = some (.slice db (X k).n ec) ∧ w'.cell? ⟨b, off + k * 9 + 8, none⟩ = some (.bool (X k).fu)) (go_keep) (first | (go_at_call 108; refine (hcc _).mono ?_; rintro e w6 ⟨rfl, hb6⟩; have hb6' := (Below.refl _ wr).drew.trans hb6; obtain ⟨_, p0, p1, p2, p3, p4, p5, p6, p7, p8⟩ := ea1.keep hb6'; obtain ⟨_, q0, q1, q2, q3, q4, q5, q6, q7, q8⟩ := eb1.keep hb6'; have y06 := (hb6'.cell (p := ⟨w.heap.size, 0, none⟩) zlr).trans y0; have y26 := (hb6'.cell (p := ⟨w.heap.size, 2, none⟩) zlr).trans y2; have bw6 := bw.trans (hb6'.mono (Nat.le_of_lt zlr)); have bk6 := hbk.trans (hb6'.mono hbk.size); clear hb6 hb6'))
      clear hcc
      by_cases hx : 0 ≤ cE (X j) (X k)
      · have H : Hid (¬ RiseE X n) := fun h => by
          have hj' := HJ.out
          have := h j (by omega)
          rw [← hj', ← hc2] at this
          omega
        clear hc2
        go_wp2
        go_ret
        exact Ans.mk false (by have := H.out; simp [this]) bw6
      · have H : Hid (RiseE X (k + 1)) := fun i hi => by
          have hj' := HJ.out
          by_cases e : i = j
          · subst e
            rw [← hj']
            exact hc2.1 (by omega)
          · exact hR.out i (by omega)
        clear hc2
        have hx' : decide (0 ≤ cE (X j) (X k)) = false := by simpa using hx
        go_wp2
        go_roundw
        case rel => exact ⟨k + 1, by omega, by omega, by omega, by go_num, H, bk6⟩
        case measure => simp [intOf]; omega
    · have H : Hid (RiseE X n) := fun i hi => hR.out i (by omega)
      clear hR
      go_wp2
      go_ret
      exact Ans.mk true (by have := H.out; simp [this]) bw
end Go.Proofs.YtohjjigkfdhklaaGreat
namespace Go.Proofs.YtohjjigkfdhklaaGreat
set_option maxRecDepth 100000
open Go.RowKit
set_option linter.unusedSimpArgs false
set_option linter.unusedVariables false


set_option maxHeartbeats 1600000 in
theorem l5Before_any (x y : Ent) (ao bo : Option Addr) (ca cb : Nat) (w : World) :
    Calls Tryz.prog 55 #[.agg #[.string x.key, .int .i64 x.seq, .int .i64 x.kind, .int .i64 x.c, .int .i64 x.s, .int .i64 x.lo, .int .i64 x.hi, .slice ao x.n ca, .bool x.fu], .agg #[.string y.key, .int .i64 y.seq, .int .i64 y.kind, .int .i64 y.c, .int .i64 y.s, .int .i64 y.lo, .int .i64 y.hi, .slice bo y.n cb, .bool y.fu]] w fun e w' => Ans (Bef x y) w e w' := by
  have hB : ∀ o p, Below w.heap.size w ((w.alloc o).alloc p) := fun o p => (below_new w o).alloc (by simp) _
  cases h1 : Op.bytesLess x.key.toList y.key.toList
  · cases h2 : (x.key.toList == y.key.toList)
    · have H : Hid (¬ Bef x y) := by
        rintro (h | ⟨h, _⟩)
        · rw [h1] at h; cases h
        · rw [h] at h2; simp at h2
      go_enter Tryz.func55, Tryz.ntmps55
      go_wp2
      exact bodyPost_ret (v := .bool false) (by simp [results, Tryz.results55, go_sem]) rfl (Ans.mk _ (by have := H.out; simp [this]) (hB _ _))
    · have H : Hid (Bef x y ↔ y.seq < x.seq) := by
        have e : x.key.toList = y.key.toList := by simpa using h2
        constructor
        · rintro (h | ⟨_, h⟩)
          · rw [h1] at h; cases h
          · exact h
        · exact fun h => .inr ⟨e, h⟩
      go_enter Tryz.func55, Tryz.ntmps55
      go_wp2
      exact bodyPost_ret (v := .bool (decide (y.seq < x.seq))) (by simp [results, Tryz.results55, go_sem]) rfl (Ans.mk _ (by have := H.out; simp [this]) (hB _ _))
  · have H : Hid (Bef x y) := .inl h1
    go_enter Tryz.func55, Tryz.ntmps55
    go_wp2
    exact bodyPost_ret (v := .bool true) (by simp [results, Tryz.results55, go_sem]) rfl (Ans.mk _ (by have := H.out; simp [this]) (hB _ _))
end Go.Proofs.YtohjjigkfdhklaaGreat
