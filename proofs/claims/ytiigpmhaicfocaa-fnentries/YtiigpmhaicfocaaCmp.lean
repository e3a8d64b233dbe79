/- Texts, ints and entries compared. -/
import Derived.Test.YtiigpmhaicfocaaEnS
import Derived.Lib.Bytealg
import Derived.Deep.RegionHeld3
import Derived.Deep.RegionWith
namespace Go.Proofs.Ytiigpmhaicfocaa
open Go.RowKit
set_option linter.unusedSimpArgs false
set_option linter.unusedVariables false

theorem bl_self : ∀ l : List UInt8, Op.bytesLess l l = false
  | [] => rfl
  | x :: l => by simp [Op.bytesLess, bl_self l]
theorem cb_self : ∀ l : List UInt8, Lib.compareBytes l l = 0
  | [] => rfl
  | x :: l => by simp [Lib.compareBytes, UInt8.lt_irrefl, cb_self l]
theorem cb_lt : ∀ a b : List UInt8, Lib.compareBytes a b < 0 ↔ Op.bytesLess a b = true
  | [], [] => by simp [Lib.compareBytes, Op.bytesLess]
  | [], _ :: _ => by simp [Lib.compareBytes, Op.bytesLess]
  | _ :: _, [] => by simp [Lib.compareBytes, Op.bytesLess]
  | x :: a, y :: b => by
    have ih := cb_lt a b
    unfold Lib.compareBytes Op.bytesLess
    by_cases h1 : x < y
    · simp [h1]
    · by_cases h2 : y < x
      · have : x ≠ y := fun e => by subst e; exact h1 h2
        simp [h1, h2, this]
      · have : x = y := UInt8.le_antisymm (UInt8.not_lt.1 h2) (UInt8.not_lt.1 h1)
        subst this
        simp [h1, ih]
theorem cb_zero : ∀ a b : List UInt8, Lib.compareBytes a b = 0 → a = b
  | [], [], _ => rfl
  | [], _ :: _, h => by simp [Lib.compareBytes] at h
  | _ :: _, [], h => by simp [Lib.compareBytes] at h
  | x :: a, y :: b, h => by
    unfold Lib.compareBytes at h
    by_cases h1 : x < y
    · simp [h1] at h
    · by_cases h2 : y < x
      · simp [h1, h2] at h
      · have : x = y := UInt8.le_antisymm (UInt8.not_lt.1 h2) (UInt8.not_lt.1 h1)
        subst this
        simp [h1] at h
        rw [cb_zero a b h]

/-- What strings.Compare says. -/
def cB (a b : ByteArray) : Int := Lib.compareBytes a.data.toList b.data.toList
/-- What cmp.Compare says. -/
def cI (a b : Int) : Int := if a < b then -1 else if b < a then 1 else 0
theorem cB_lt (a b : ByteArray) : cB a b < 0 ↔ Op.bytesLess a.toList b.toList = true := by
  rw [ByteArray.toList_eq, ByteArray.toList_eq]; exact cb_lt _ _
theorem cB_zero (a b : ByteArray) : cB a b = 0 ↔ a.toList = b.toList := by
  rw [ByteArray.toList_eq, ByteArray.toList_eq]
  exact ⟨cb_zero _ _, fun h => by unfold cB; rw [h]; exact cb_self _⟩
theorem cI_lt (a b : Int) : cI a b < 0 ↔ a < b := by
  unfold cI
  split
  · simp_all
  · split <;> simp_all <;> omega

/-- One entry stands ahead of another. -/
def Bef (x y : Ent) : Prop := Op.bytesLess x.key.toList y.key.toList = true ∨ x.key.toList = y.key.toList ∧ y.seq < x.seq
/-- What compareEntries says. -/
def cE (x y : Ent) : Int := if cB x.key y.key = 0 then cI y.seq x.seq else cB x.key y.key
theorem cE_lt (x y : Ent) : cE x y < 0 ↔ Bef x y := by
  unfold cE Bef
  split
  · rename_i h
    have e := (cB_zero _ _).1 h
    rw [cI_lt, e, bl_self]
    simp
  · rename_i h
    rw [cB_lt]
    have : ¬ x.key.toList = y.key.toList := fun e => h ((cB_zero _ _).2 e)
    simp [this]

set_option maxRecDepth 100000 in
theorem bytealg_any (a b : ByteArray) (w : World) :
    Calls Try.prog 52 #[.string a, .string b] w fun e w' => e = .returned (.int .i64 (cB a b)) ∧ w' = w := by
  go_enter Try.func52, Try.ntmps52
  go_wp2
  rw [run_callFunc_extern Try.func68 (by kernel_rfl) (by kernel_rfl) (by kernel_rfl) (e := Extern.BytealgCompare.compare) (by kernel_rfl), Lib.run_compareString]
  simp only [Result.andThen]
  rw [Oper.upon_value]
  go_wp2
  go_ret
  exact ⟨rfl, rfl⟩
theorem strCmp_any (a b : ByteArray) (w : World) :
    Calls Try.prog 32 #[.string a, .string b] w fun e w' => e = .returned (.int .i64 (cB a b)) ∧ w' = w := by
  go_enter Try.func32, Try.ntmps32
  go_wp2_with fail
  refine (bytealg_any a b _).mono ?_
  rintro e w1 ⟨rfl, rfl⟩
  go_wp2
  go_ret
  exact ⟨rfl, rfl⟩

theorem isNaN_any (a : Int) (w : World) : Calls Try.prog 76 #[.int .i64 a] w fun e w' => e = .returned (.bool false) ∧ w' = w := by
  go_enter Try.func76, Try.ntmps76
  go_wp2
  go_ret
  simp
theorem intCmp_any (a b : Int) (w : World) :
    Calls Try.prog 63 #[.int .i64 a, .int .i64 b] w fun e w' => e = .returned (.int .i64 (cI a b)) ∧ w' = w := by
  unfold cI
  by_cases h1 : a < b
  · rw [if_pos h1]
    go_enter Try.func63, Try.ntmps63
    go_wp2_with (go_at_call 76; refine (isNaN_any _ _).mono ?_; rintro e w' ⟨rfl, rfl⟩)
    go_ret
    simp
  · rw [if_neg h1]
    by_cases h2 : b < a
    · rw [if_pos h2]
      go_enter Try.func63, Try.ntmps63
      go_wp2_with (go_at_call 76; refine (isNaN_any _ _).mono ?_; rintro e w' ⟨rfl, rfl⟩)
      go_ret
      simp
    · rw [if_neg h2]
      go_enter Try.func63, Try.ntmps63
      go_wp2_with (go_at_call 76; refine (isNaN_any _ _).mono ?_; rintro e w' ⟨rfl, rfl⟩)
      go_ret
      simp

/-- What cmp.Or says of two. -/
def orI (p q : Int) : Int := if p = 0 then q else p
theorem cmpOr_any (b off cap : Nat) (p q : Int) (w : World) (h0 : w.cell? ⟨b, off, none⟩ = some (.int .i64 p)) (h1 : w.cell? ⟨b, off + 1, none⟩ = some (.int .i64 q)) :
    Calls Try.prog 62 #[.slice (some ⟨b, off, none⟩) 2 cap] w fun e w' => e = .returned (.int .i64 (orI p q)) ∧ w' = w := by
  unfold orI
  go_enter Try.func62, Try.ntmps62
  go_wp2
  go_loopw [8] (fun i wr => ∃ k : Nat, k ≤ 2 ∧ i = .int .i64 k ∧ (0 < k → p = 0) ∧ (1 < k → q = 0) ∧ wr = w) (fun i _ => 2 - (intOf i).toNat)
  case atStart => exact ⟨0, by omega, rfl, by omega, by omega, rfl⟩
  case round =>
    obtain ⟨k, hk, rfl, hp, hq, rfl⟩ := hrel
    have hk3 : k = 0 ∨ k = 1 ∨ k = 2 := by omega
    rcases hk3 with rfl | rfl | rfl
    · by_cases e : p = 0
      · subst e
        clear hp hq
        go_wp2
        go_roundw
        case rel => exact ⟨1, by omega, by go_num, by simp, by simp, by first | rfl | trivial⟩
        case measure => simp [intOf]
      · clear hp hq
        go_wp2
        go_ret
        simp [e]
    · obtain rfl := hp (by omega)
      by_cases e : q = 0
      · subst e
        clear hp hq
        go_wp2
        go_roundw
        case rel => exact ⟨2, by omega, by go_num, by simp, by simp, by first | rfl | trivial⟩
        case measure => simp [intOf]
      · clear hp hq
        go_wp2
        go_ret
        simp
    · obtain rfl := hp (by omega)
      obtain rfl := hq (by omega)
      clear hp hq
      go_wp2
      go_ret
      simp

/-- What a comparison of entries leaves. -/
def CmpO (x y : Ent) (w : World) (e : Ending) (w' : World) : Prop := e = .returned (.int .i64 (cE x y)) ∧ Below w.heap.size w w'

set_option maxHeartbeats 4000000 in
theorem compareEntries_any (x y : Ent) (ao bo : Option Addr) (ca cb : Nat) (w : World) :
    Calls Try.prog 45 #[.agg #[.string x.key, .int .i64 x.seq, .int .i64 x.kind, .int .i64 x.c, .int .i64 x.s, .int .i64 x.lo, .int .i64 x.hi, .slice ao x.n ca, .bool x.fu], .agg #[.string y.key, .int .i64 y.seq, .int .i64 y.kind, .int .i64 y.c, .int .i64 y.s, .int .i64 y.lo, .int .i64 y.hi, .slice bo y.n cb, .bool y.fu]] w fun e w' => CmpO x y w e w' := by
  have hB : ∀ o p, Below w.heap.size w ((w.alloc o).alloc p) := fun o p => (below_new w o).alloc (by simp) _
  go_enter Try.func45, Try.ntmps45
  go_wp2
  go_region_held3 (fun w' => w'.cell? ⟨w.heap.size, 0, none⟩ = some (.string x.key) ∧ w'.cell? ⟨w.heap.size, 1, none⟩ = some (.int .i64 x.seq) ∧ w'.cell? ⟨w.heap.size + 1, 0, none⟩ = some (.string y.key) ∧ w'.cell? ⟨w.heap.size + 1, 1, none⟩ = some (.int .i64 y.seq)) (go_keep) (first | (go_at_call 32; refine (strCmp_any _ _ _).mono ?_; rintro e w6 ⟨rfl, rfl⟩) | (go_at_call 63; refine (intCmp_any _ _ _).mono ?_; rintro e w6 ⟨rfl, rfl⟩) | (go_at_call 62; refine (cmpOr_any _ 0 _ (cB x.key y.key) (cI y.seq x.seq) _ (by simp [go_sem]) (by simp [go_sem])).mono ?_; rintro e w6 ⟨rfl, rfl⟩))
  go_wp2
  go_ret
  exact ⟨rfl, ((hB _ _).alloc (by simp; omega) _).drew⟩
end Go.Proofs.Ytiigpmhaicfocaa
