/- Texts, ints and entries compared. / Good aggs, in the program. / GoodAgg, in the program. -/
import Derived.Test.YtmeckcaekkangaaGreatEnS
import Derived.Lib.Bytealg
import Derived.Deep.RegionHeld3
import Derived.Deep.RegionWith
import Derived.Test.YtmeckcaekkangaaGreatEn
namespace Go.Proofs.YtmeckcaekkangaaGreat
set_option maxRecDepth 100000
open Go.RowKit
set_option linter.unusedSimpArgs false
set_option linter.unusedVariables false

theorem bl_self : ∀ l : List UInt8, Op.bytesLess l l = false
  | [] => rfl
  | x :: l => by simp [Op.bytesLess, bl_self l]
theorem cb_self : ∀ l : List UInt8, Lib.compareBytes l l = 0
  | [] => rfl
  | x :: l => by simp [Lib.compareBytes, UInt8.lt_irrefl, cb_self l]
theorem cb_lt : ∀ a b : List UInt8, Lib.compareBytes a b < 0 ↔ Op.bytesLess a b = true
  | [], [] => by simp [Lib.compareBytes, Op.bytesLess]
  | [], _ :: _ => by simp [Lib.compareBytes, Op.bytesLess]
  | _ :: _, [] => by simp [Lib.compareBytes, Op.bytesLess]
  | x :: a, y :: b => by
    have ih := cb_lt a b
    unfold Lib.compareBytes Op.bytesLess
    by_cases h1 : x < y
    · simp [h1]
    · by_cases h2 : y < x
      · have : x ≠ y := fun e => by subst e; exact h1 h2
        simp [h1, h2, this]
      · have : x = y := UInt8.le_antisymm (UInt8.not_lt.1 h2) (UInt8.not_lt.1 h1)
        subst this
        simp [h1, ih]
theorem cb_zero : ∀ a b : List UInt8, Lib.compareBytes a b = 0 → a = b
  | [], [], _ => rfl
  | [], _ :: _, h => by simp [Lib.compareBytes] at h
  | _ :: _, [], h => by simp [Lib.compareBytes] at h
  | x :: a, y :: b, h => by
    unfold Lib.compareBytes at h
    by_cases h1 : x < y
    · simp [h1] at h
    · by_cases h2 : y < x
      · simp [h1, h2] at h
      · have : x = y := UInt8.le_antisymm (UInt8.not_lt.1 h2) (UInt8.not_lt.1 h1)
        subst this
        simp [h1] at h
        rw [cb_zero a b h]

/-- What strings.Compare says. -/
def cB (a b : ByteArray) : Int := Lib.compareBytes a.data.toList b.data.toList
/-- What cmp.Compare says. -/
def cI (a b : Int) : Int := if a < b then -1 else if b < a then 1 else 0
theorem cB_lt (a b : ByteArray) : cB a b < 0 ↔ Op.bytesLess a.toList b.toList = true := by
  rw [ByteArray.toList_eq, ByteArray.toList_eq]; exact cb_lt _ _
theorem cB_zero (a b : ByteArray) : cB a b = 0 ↔ a.toList = b.toList := by
  rw [ByteArray.toList_eq, ByteArray.toList_eq]
  exact ⟨cb_zero _ _, fun h => by unfold cB; rw [h]; exact cb_self _⟩
theorem cI_lt (a b : Int) : cI a b < 0 ↔ a < b := by
  unfold cI
  split
  · simp_all
  · split <;> simp_all <;> omega

/-- One entry stands ahead of another. -/
def Bef (x y : Ent) : Prop := Op.bytesLess x.key.toList y.key.toList = true ∨ x.key.toList = y.key.toList ∧ y.seq < x.seq
/-- What compareEntries says. -/
def cE (x y : Ent) : Int := if cB x.key y.key = 0 then cI y.seq x.seq else cB x.key y.key
theorem cE_lt (x y : Ent) : cE x y < 0 ↔ Bef x y := by
  unfold cE Bef
  split
  · rename_i h
    have e := (cB_zero _ _).1 h
    rw [cI_lt, e, bl_self]
    simp
  · rename_i h
    rw [cB_lt]
    have : ¬ x.key.toList = y.key.toList := fun e => h ((cB_zero _ _).2 e)
    simp [this]

set_option maxRecDepth 100000 in
theorem bytealg_any (a b : ByteArray) (w : World) :
    Calls Tryz.prog 83 #[.string a, .string b] w fun e w' => e = .returned (.int .i64 (cB a b)) ∧ w' = w := by
  go_enter Tryz.func83, Tryz.ntmps83
  go_wp2
  rw [run_callFunc_extern Tryz.func91 (by kernel_rfl) (by kernel_rfl) (by kernel_rfl) (e := Extern.BytealgCompare.compare) (by kernel_rfl), Lib.run_compareString]
  simp only [Result.andThen]
  rw [Oper.upon_value]
  go_wp2
  go_ret
  exact ⟨rfl, rfl⟩
theorem strCmp_any (a b : ByteArray) (w : World) :
    Calls Tryz.prog 63 #[.string a, .string b] w fun e w' => e = .returned (.int .i64 (cB a b)) ∧ w' = w := by
  go_enter Tryz.func63, Tryz.ntmps63
  go_wp2_with fail
  refine (bytealg_any a b _).mono ?_
  rintro e w1 ⟨rfl, rfl⟩
  go_wp2
  go_ret
  exact ⟨rfl, rfl⟩

theorem isNaN_any (a : Int) (w : World) : Calls Tryz.prog 84 #[.int .i64 a] w fun e w' => e = .returned (.bool false) ∧ w' = w := by
  go_enter Tryz.func84, Tryz.ntmps84
  go_wp2
  go_ret
  simp
theorem intCmp_any (a b : Int) (w : World) :
    Calls Tryz.prog 64 #[.int .i64 a, .int .i64 b] w fun e w' => e = .returned (.int .i64 (cI a b)) ∧ w' = w := by
  unfold cI
  by_cases h1 : a < b
  · rw [if_pos h1]
    go_enter Tryz.func64, Tryz.ntmps64
    go_wp2_with (go_at_call 84; refine (isNaN_any _ _).mono ?_; rintro e w' ⟨rfl, rfl⟩)
    go_ret
    simp
  · rw [if_neg h1]
    by_cases h2 : b < a
    · rw [if_pos h2]
      go_enter Tryz.func64, Tryz.ntmps64
      go_wp2_with (go_at_call 84; refine (isNaN_any _ _).mono ?_; rintro e w' ⟨rfl, rfl⟩)
      go_ret
      simp
    · rw [if_neg h2]
      go_enter Tryz.func64, Tryz.ntmps64
      go_wp2_with (go_at_call 84; refine (isNaN_any _ _).mono ?_; rintro e w' ⟨rfl, rfl⟩)
      go_ret
      simp

/-- What cmp.Or says of two. -/
def orI (p q : Int) : Int := if p = 0 then q else p
theorem cmpOr_any (b off cap : Nat) (p q : Int) (w : World) (h0 : w.cell? ⟨b, off, none⟩ = some (.int .i64 p)) (h1 : w.cell? ⟨b, off + 1, none⟩ = some (.int .i64 q)) :
    Calls Tryz.prog 62 #[.slice (some ⟨b, off, none⟩) 2 cap] w fun e w' => e = .returned (.int .i64 (orI p q)) ∧ w' = w := by
  unfold orI
  go_enter Tryz.func62, Tryz.ntmps62
  go_wp2
  go_loopw [8] (fun i wr => ∃ k : Nat, k ≤ 2 ∧ i = .int .i64 k ∧ (0 < k → p = 0) ∧ (1 < k → q = 0) ∧ wr = w) (fun i _ => 2 - (intOf i).toNat)
  case atStart => exact ⟨0, by omega, rfl, by omega, by omega, rfl⟩
  case round =>
    obtain ⟨k, hk, rfl, hp, hq, rfl⟩ := hrel
    have hk3 : k = 0 ∨ k = 1 ∨ k = 2 := by omega
    rcases hk3 with rfl | rfl | rfl
    · by_cases e : p = 0
      · subst e
        clear hp hq
        go_wp2
        go_roundw
        case rel => exact ⟨1, by omega, by go_num, by simp, by simp, by first | rfl | trivial⟩
        case measure => simp [intOf]
      · clear hp hq
        go_wp2
        go_ret
        simp [e]
    · obtain rfl := hp (by omega)
      by_cases e : q = 0
      · subst e
        clear hp hq
        go_wp2
        go_roundw
        case rel => exact ⟨2, by omega, by go_num, by simp, by simp, by first | rfl | trivial⟩
        case measure => simp [intOf]
      · clear hp hq
        go_wp2
        go_ret
        simp
    · obtain rfl := hp (by omega)
      obtain rfl := hq (by omega)
      clear hp hq
      go_wp2
      go_ret
      simp

/-- What a comparison of entries leaves. -/
def CmpO (x y : Ent) (w : World) (e : Ending) (w' : World) : Prop := e = .returned (.int .i64 (cE x y)) ∧ Below w.heap.size w w'

set_option maxHeartbeats 4000000 in
theorem compareEntries_any (x y : Ent) (ao bo : Option Addr) (ca cb : Nat) (w : World) :
    Calls Tryz.prog 42 #[.agg #[.string x.key, .int .i64 x.seq, .int .i64 x.kind, .int .i64 x.c, .int .i64 x.s, .int .i64 x.lo, .int .i64 x.hi, .slice ao x.n ca, .bool x.fu], .agg #[.string y.key, .int .i64 y.seq, .int .i64 y.kind, .int .i64 y.c, .int .i64 y.s, .int .i64 y.lo, .int .i64 y.hi, .slice bo y.n cb, .bool y.fu]] w fun e w' => CmpO x y w e w' := by
  have hB : ∀ o p, Below w.heap.size w ((w.alloc o).alloc p) := fun o p => (below_new w o).alloc (by simp) _
  go_enter Tryz.func42, Tryz.ntmps42
  go_wp2
  go_region_held3 (fun w' => w'.cell? ⟨w.heap.size, 0, none⟩ = some (.string x.key) ∧ w'.cell? ⟨w.heap.size, 1, none⟩ = some (.int .i64 x.seq) ∧ w'.cell? ⟨w.heap.size + 1, 0, none⟩ = some (.string y.key) ∧ w'.cell? ⟨w.heap.size + 1, 1, none⟩ = some (.int .i64 y.seq)) (go_keep) (first | (go_at_call 63; refine (strCmp_any _ _ _).mono ?_; rintro e w6 ⟨rfl, rfl⟩) | (go_at_call 64; refine (intCmp_any _ _ _).mono ?_; rintro e w6 ⟨rfl, rfl⟩) | (go_at_call 62; refine (cmpOr_any _ 0 _ (cB x.key y.key) (cI y.seq x.seq) _ (by simp [go_sem]) (by simp [go_sem])).mono ?_; rintro e w6 ⟨rfl, rfl⟩))
  go_wp2
  go_ret
  exact ⟨rfl, ((hB _ _).alloc (by simp; omega) _).drew⟩
end Go.Proofs.YtmeckcaekkangaaGreat
namespace Go.Proofs.YtmeckcaekkangaaGreat
set_option maxRecDepth 100000
open Go.RowKit
set_option linter.unusedSimpArgs false
set_option linter.unusedVariables false

/-- The first k together. -/
def sumF (f : Nat → Int) : Nat → Int
  | 0 => 0
  | k + 1 => sumF f k + f k
theorem sumF_bd {f : Nat → Int} {k : Nat} (h : ∀ i, i < k → isC (f i) = true) : 0 ≤ sumF f k ∧ sumF f k ≤ 1000000000 * (k : Int) := by
  induction k with
  | zero => simp [sumF]
  | succ k ih =>
    have h1 := ih (fun i hi => h i (by omega))
    have h2 := h k (by omega)
    simp [isC, btw] at h2
    simp only [sumF]
    omega

/-- Good, in the document's words. -/
def GoodA (c s lo hi : Int) (n : Nat) (f : Nat → Int) (fu : Bool) : Prop :=
  isC c = true ∧ n = 8 ∧ (∀ i, i < 8 → isC (f i) = true) ∧ (fu = false → sumF f 8 = c ∧ -1000000000 * c ≤ s ∧ s ≤ 1000000000 * c) ∧ (fu = true → s = 0 ∧ 0 < c) ∧
    (c = 0 → lo = 0 ∧ hi = 0) ∧ (c ≠ 0 → isV lo = true ∧ isV hi = true ∧ lo ≤ hi)

/-- What a question leaves: an answer that says whether p. -/
def Ans (p : Prop) (w : World) (e : Ending) (w' : World) : Prop := ∃ b : Bool, e = .returned (.bool b) ∧ (b = true ↔ p) ∧ Below w.heap.size w w'
theorem Ans.mk {p : Prop} {w w' : World} (b : Bool) (h : b = true ↔ p) (hb : Below w.heap.size w w') : Ans p w (.returned (.bool b)) w' := ⟨b, rfl, h, hb⟩

theorem goodHist_any (ao : Option Addr) (n cap : Nat) (f : Nat → Int) (w : World) (hr : IRow w ao n f) (hn : n ≤ 1048576) :
    Calls Tryz.prog 78 #[.slice ao n cap] w fun e w' => Ans (n = 8 ∧ ∀ i, i < 8 → isC (f i) = true) w e w' := by
  obtain ⟨hbd, hlies⟩ := hr
  go_enter Tryz.func78, Tryz.ntmps78
  go_wp2
  go_loopw [7] (fun i wr => ∃ k : Nat, k ≤ n ∧ i = .int .i64 k ∧ Hid (∀ i, i < k → isC (f i) = true) ∧ wr = w) (fun i _ => n - (intOf i).toNat)
  case atStart => exact ⟨0, Nat.zero_le _, rfl, fun i h => by omega, rfl⟩
  case round =>
    obtain ⟨k, hk, rfl, hall, rfl⟩ := hrel
    by_cases hlt : k < n
    · obtain ⟨b, off, rfl, hblt, hc⟩ := hlies.resolve_left (by omega)
      have h1 := hc k hlt
      clear hc hlies
      go_wp2_with fail
      refine (isCount_any (f k) _).mono ?_
      rintro e w1 ⟨rfl, rfl⟩
      cases hx : isC (f k)
      · go_wp2
        refine bodyPost_ret (v := .bool false) (by simp [results, Tryz.results78, go_sem]) rfl (Ans.mk false ?_ (Below.refl _ _))
        simp only [Bool.false_eq_true, false_iff]
        rintro ⟨rfl, h⟩
        rw [h k hlt] at hx
        cases hx
      · have HX : Hid (isC (f k) = true) := hx
        clear hx
        go_wp2
        go_roundw
        case rel =>
          refine ⟨k + 1, by omega, by go_num, ?_, by first | rfl | trivial⟩
          intro i hi
          rcases Nat.lt_succ_iff_lt_or_eq.1 hi with h | rfl
          · exact hall.out i h
          · exact HX.out
        case measure => simp [intOf]; omega
    · have e : k = n := by omega
      have HE : Hid (k = n) := e
      clear e
      go_wp2
      refine bodyPost_ret (v := .bool ((n : Int) == 8)) (by simp [results, Tryz.results78, go_sem]) rfl (Ans.mk _ ?_ (Below.refl _ _))
      have e := HE.out
      subst e
      constructor
      · intro h
        have h8 : k = 8 := by have h' : (k : Int) = 8 := by simpa using h
                              omega
        subst h8
        exact ⟨rfl, hall.out⟩
      · rintro ⟨rfl, _⟩
        rfl

set_option maxHeartbeats 800000 in
theorem goodBounds_any (c s lo hi : Int) (hv : Value) (fu : Bool) (w : World) :
    Calls Tryz.prog 80 #[.agg #[.int .i64 c, .int .i64 s, .int .i64 lo, .int .i64 hi, hv, .bool fu]] w fun e w' => Ans ((c = 0 → lo = 0 ∧ hi = 0) ∧ (c ≠ 0 → isV lo = true ∧ isV hi = true ∧ lo ≤ hi)) w e w' := by
  have hB := fun o => below_new w o
  by_cases hc : c = 0
  · subst hc
    by_cases h1 : lo = 0
    · subst h1
      go_enter Tryz.func80, Tryz.ntmps80
      go_wp2
      exact bodyPost_ret (v := .bool (hi == 0)) (by simp [results, Tryz.results80, go_sem]) rfl (Ans.mk _ (by simp) (hB _))
    · have H1 : Hid (¬ lo = 0) := h1
      go_enter Tryz.func80, Tryz.ntmps80
      go_wp2
      exact bodyPost_ret (v := .bool false) (by simp [results, Tryz.results80, go_sem]) rfl (Ans.mk _ (by have := H1.out; simp [this]) (hB _))
  · cases hl : isV lo
    · go_enter Tryz.func80, Tryz.ntmps80
      go_wp2_with fail
      refine (isValue_any lo _).mono ?_
      rintro e w1 ⟨rfl, rfl⟩
      go_wp2
      exact bodyPost_ret (v := .bool false) (by simp [results, Tryz.results80, go_sem]) rfl (Ans.mk _ (by simp [hc, hl]) (hB _))
    · cases hh : isV hi
      · go_enter Tryz.func80, Tryz.ntmps80
        go_wp2_with fail
        refine (isValue_any lo _).mono ?_
        rintro e w1 ⟨rfl, rfl⟩
        go_wp2_with fail
        refine (isValue_any hi _).mono ?_
        rintro e w1 ⟨rfl, rfl⟩
        go_wp2
        exact bodyPost_ret (v := .bool false) (by simp [results, Tryz.results80, go_sem]) rfl (Ans.mk _ (by simp [hc, hh]) (hB _))
      · go_enter Tryz.func80, Tryz.ntmps80
        go_wp2_with fail
        refine (isValue_any lo _).mono ?_
        rintro e w1 ⟨rfl, rfl⟩
        go_wp2_with fail
        refine (isValue_any hi _).mono ?_
        rintro e w1 ⟨rfl, rfl⟩
        go_wp2
        exact bodyPost_ret (v := .bool (decide (lo ≤ hi))) (by simp [results, Tryz.results80, go_sem]) rfl (Ans.mk _ (by simp [hc, hl, hh]) (hB _))

theorem goodTotals_full (c s lo hi : Int) (hv : Value) (w : World) :
    Calls Tryz.prog 79 #[.agg #[.int .i64 c, .int .i64 s, .int .i64 lo, .int .i64 hi, hv, .bool true]] w fun e w' => Ans (s = 0 ∧ 0 < c) w e w' := by
  have hB := fun o => below_new w o
  by_cases h1 : s = 0
  · subst h1
    go_enter Tryz.func79, Tryz.ntmps79
    go_wp2
    exact bodyPost_ret (v := .bool (decide (0 < c))) (by simp [results, Tryz.results79, go_sem]) rfl (Ans.mk _ (by simp) (hB _))
  · have H1 : Hid (¬ s = 0) := h1
    go_enter Tryz.func79, Tryz.ntmps79
    go_wp2
    exact bodyPost_ret (v := .bool false) (by simp [results, Tryz.results79, go_sem]) rfl (Ans.mk _ (by have := H1.out; simp [this]) (hB _))

set_option maxHeartbeats 800000 in
theorem goodTotals_not (c s lo hi : Int) (ao : Option Addr) (cap : Nat) (f : Nat → Int) (w : World) (hr : IRow w ao 8 f) (hc : 0 ≤ c ∧ c ≤ 1000000000) (hs : -9223372036854775808 ≤ s ∧ s ≤ 9223372036854775807) (hf : ∀ i, i < 8 → isC (f i) = true) :
    Calls Tryz.prog 79 #[.agg #[.int .i64 c, .int .i64 s, .int .i64 lo, .int .i64 hi, .slice ao 8 cap, .bool false]] w fun e w' => Ans (sumF f 8 = c ∧ -1000000000 * c ≤ s ∧ s ≤ 1000000000 * c) w e w' := by
  obtain ⟨b, off, rfl, hblt, hcell⟩ := hr.lies.resolve_left (by omega)
  have hB := fun o => below_new w o
  have HF : Hid (∀ i, i < 8 → isC (f i) = true) := hf
  have hw : IntKind.i64.wrap (1000000000 * c) = 1000000000 * c := by rw [IntKind.wrap_i64] <;> omega
  have hwn : IntKind.i64.wrap (-(1000000000 * c)) = -(1000000000 * c) := by rw [IntKind.wrap_i64] <;> omega
  have hal : ∀ O i, i < 8 → (w.alloc O).cell? ⟨b, off + i, none⟩ = some (.int .i64 (f i)) := fun O i hi => (World.cell?_alloc_old _ _ _ (Nat.ne_of_lt hblt)).trans (hcell i hi)
  clear hf hcell hr
  generalize hO : (Obj.cells #[Value.int .i64 c, .int .i64 s, .int .i64 lo, .int .i64 hi, .slice (some ⟨b, off, none⟩) 8 cap, .bool false] 46) = O
  have A := AAt.new w c s lo hi (.slice (some ⟨b, off, none⟩) 8 cap) false 46
  rw [hO] at A
  obtain ⟨la, a0, a1, a2, a3, a4, a5⟩ := A
  go_enter Tryz.func79, Tryz.ntmps79
  go_wp2
  go_loopw [3, 20] (fun q i wr => ∃ k : Nat, k ≤ 8 ∧ i = .int .i64 k ∧ q = .int .i64 (sumF f k) ∧ wr = w.alloc O) (fun _ i _ => 8 - (intOf i).toNat)
  case atStart => exact ⟨0, Nat.zero_le _, rfl, rfl, rfl⟩
  case round =>
    obtain ⟨k, hk, rfl, rfl, rfl⟩ := hrel
    have hsb := sumF_bd (f := f) (k := k) (fun i hi => HF.out i (by omega))
    by_cases hlt : k < 8
    · have h1 := hal O k hlt
      have h2 := HF.out k hlt
      simp [isC, btw] at h2
      clear hal hO
      go_wp2
      go_roundw
      case rel => exact ⟨k + 1, by omega, by go_num, by go_num, by first | rfl | trivial⟩
      case measure => simp [intOf]; omega
    · have e : k = 8 := by omega
      subst e
      clear hal hO
      by_cases h1 : sumF f 8 = c
      · subst h1
        by_cases h2 : -(1000000000 * sumF f 8) ≤ s
        · have H2 : Hid (-(1000000000 * sumF f 8) ≤ s) := h2
          go_wp2
          exact bodyPost_ret (v := .bool (decide (s ≤ 1000000000 * sumF f 8))) (by simp [results, Tryz.results79, go_sem]) rfl (Ans.mk _ (by have := H2.out; simp; omega) (hB _))
        · have H2 : Hid (¬ -(1000000000 * sumF f 8) ≤ s) := h2
          have hd : decide (-(1000000000 * sumF f 8) ≤ s) = false := by simpa using h2
          go_wp2
          exact bodyPost_ret (v := .bool false) (by simp [results, Tryz.results79, go_sem]) rfl (Ans.mk _ (by have := H2.out; simp; omega) (hB _))
      · have H1 : Hid (¬ sumF f 8 = c) := h1
        go_wp2
        exact bodyPost_ret (v := .bool false) (by simp [results, Tryz.results79, go_sem]) rfl (Ans.mk _ (by have := H1.out; simp [this]) (hB _))
end Go.Proofs.YtmeckcaekkangaaGreat
namespace Go.Proofs.YtmeckcaekkangaaGreat
set_option maxRecDepth 100000
open Go.RowKit
set_option linter.unusedSimpArgs false
set_option linter.unusedVariables false

set_option maxHeartbeats 800000 in
theorem goodAgg_impl (c s lo hi : Int) (ao : Option Addr) (n cap : Nat) (f : Nat → Int) (fu : Bool) (w : World) (hr : IRow w ao n f) (hn : n ≤ 1048576) (hs : -9223372036854775808 ≤ s ∧ s ≤ 9223372036854775807) :
    Calls Tryz.prog 59 #[.agg #[.int .i64 c, .int .i64 s, .int .i64 lo, .int .i64 hi, .slice ao n cap, .bool fu]] w fun e w' => Ans (GoodA c s lo hi n f fu) w e w' := by
  have hB := fun o => below_new w o
  cases hc : isC c
  · go_enter Tryz.func59, Tryz.ntmps59
    go_wp2_with fail
    refine (isCount_any c _).mono ?_
    rintro e w1 ⟨rfl, rfl⟩
    go_wp2
    exact bodyPost_ret (v := .bool false) (by simp [results, Tryz.results59, go_sem]) rfl (Ans.mk _ (by simp [GoodA, hc]) (hB _))
  · have hcb : 0 ≤ c ∧ c ≤ 1000000000 := by simpa [isC, btw] using hc
    go_enter Tryz.func59, Tryz.ntmps59
    go_wp2_with fail
    refine (isCount_any c _).mono ?_
    rintro e w1 ⟨rfl, rfl⟩
    go_wp2_with fail
    refine (goodHist_any ao n cap f _ (hr.keep (hB _)) hn).mono ?_
    rintro e w1 ⟨b1, rfl, h1, q1⟩
    obtain ⟨la, a0, a1, a2, a3, a4, a5⟩ := (AAt.new w c s lo hi (.slice ao n cap) fu 46).keep q1
    have r1 := (hr.keep (hB _)).keep q1
    have B1 : Below w.heap.size w w1 := (hB _).trans (q1.mono (by simp))
    clear q1
    cases b1
    · have H1 : Hid (¬ GoodA c s lo hi n f fu) := fun h => by
        have := h1.2 ⟨h.2.1, h.2.2.1⟩
        cases this
      clear h1
      go_wp2
      exact bodyPost_ret (v := .bool false) (by simp [results, Tryz.results59, go_sem]) rfl (Ans.mk _ (by have := H1.out; simp [this]) B1)
    · obtain ⟨h8, hall⟩ := h1.1 rfl
      subst h8
      have HA : Hid (∀ i, i < 8 → isC (f i) = true) := hall
      clear h1 hall
      cases fu
      · go_wp2_with fail
        refine (goodTotals_not c s lo hi ao cap f _ r1 hcb hs HA.out).mono ?_
        rintro e w2 ⟨b2, rfl, h2, q2⟩
        obtain ⟨la, a0, a1, a2, a3, a4, a5⟩ := AAt.keep ⟨la, a0, a1, a2, a3, a4, a5⟩ q2
        have B2 : Below w.heap.size w w2 := B1.trans (q2.mono B1.size)
        clear q2
        cases b2
        · have L2 : Hid (¬ GoodA c s lo hi 8 f false) := fun h => by
            have := h2.2 (h.2.2.2.1 rfl)
            cases this
          clear h2
          go_wp2
          exact bodyPost_ret (v := .bool false) (by simp [results, Tryz.results59, go_sem]) rfl (Ans.mk _ (by have := L2.out; simp [this]) B2)
        · have H2 : Hid (sumF f 8 = c ∧ -1000000000 * c ≤ s ∧ s ≤ 1000000000 * c) := h2.1 rfl
          clear h2
          go_wp2_with fail
          refine (goodBounds_any c s lo hi _ false _).mono ?_
          rintro e w3 ⟨b3, rfl, h3, q3⟩
          have B3 : Below w.heap.size w w3 := B2.trans (q3.mono B2.size)
          clear q3
          have H3 : Hid (b3 = true ↔ GoodA c s lo hi 8 f false) :=
            ⟨fun h => ⟨hc, rfl, HA.out, fun _ => H2.out, fun h => (by cases h), (h3.1 h).1, (h3.1 h).2⟩, fun h => h3.2 ⟨h.2.2.2.2.2.1, h.2.2.2.2.2.2⟩⟩
          clear h3
          go_wp2
          exact bodyPost_ret (v := .bool b3) (by simp [results, Tryz.results59, go_sem]) rfl (Ans.mk _ H3.out B3)
      · go_wp2_with fail
        refine (goodTotals_full c s lo hi _ _).mono ?_
        rintro e w2 ⟨b2, rfl, h2, q2⟩
        obtain ⟨la, a0, a1, a2, a3, a4, a5⟩ := AAt.keep ⟨la, a0, a1, a2, a3, a4, a5⟩ q2
        have B2 : Below w.heap.size w w2 := B1.trans (q2.mono B1.size)
        clear q2
        cases b2
        · have L2 : Hid (¬ GoodA c s lo hi 8 f true) := fun h => by
            have := h2.2 (h.2.2.2.2.1 rfl)
            cases this
          clear h2
          go_wp2
          exact bodyPost_ret (v := .bool false) (by simp [results, Tryz.results59, go_sem]) rfl (Ans.mk _ (by have := L2.out; simp [this]) B2)
        · have H2 : Hid (s = 0 ∧ 0 < c) := h2.1 rfl
          clear h2
          go_wp2_with fail
          refine (goodBounds_any c s lo hi _ true _).mono ?_
          rintro e w3 ⟨b3, rfl, h3, q3⟩
          have B3 : Below w.heap.size w w3 := B2.trans (q3.mono B2.size)
          clear q3
          have H3 : Hid (b3 = true ↔ GoodA c s lo hi 8 f true) :=
            ⟨fun h => ⟨hc, rfl, HA.out, fun h => (by cases h), fun _ => H2.out, (h3.1 h).1, (h3.1 h).2⟩, fun h => h3.2 ⟨h.2.2.2.2.2.1, h.2.2.2.2.2.2⟩⟩
          clear h3
          go_wp2
          exact bodyPost_ret (v := .bool b3) (by simp [results, Tryz.results59, go_sem]) rfl (Ans.mk _ H3.out B3)
end Go.Proofs.YtmeckcaekkangaaGreat
