/- Texts, ints and entries compared. / Entries that rise, in the program. -/
import Derived.Test.YtapmbgmmonhdoaaGreatDoorGdS
import Derived.Lib.Bytealg
import Derived.Deep.RegionHeld3
import Derived.Deep.RegionWith
import Derived.Test.YtapmbgmmonhdoaaGreatDoorRep
import Derived.Test.YtapmbgmmonhdoaaGreatDoorGe
namespace Go.Proofs.YtapmbgmmonhdoaaGreatDoor
set_option maxRecDepth 100000
open Go.RowKit
set_option linter.unusedSimpArgs false
set_option linter.unusedVariables false

theorem bl_self : ∀ l : List UInt8, Op.bytesLess l l = false
  | [] => rfl
  | x :: l => by simp [Op.bytesLess, bl_self l]
theorem cb_self : ∀ l : List UInt8, Lib.compareBytes l l = 0
  | [] => rfl
  | x :: l => by simp [Lib.compareBytes, UInt8.lt_irrefl, cb_self l]
theorem cb_lt : ∀ a b : List UInt8, Lib.compareBytes a b < 0 ↔ Op.bytesLess a b = true
  | [], [] => by simp [Lib.compareBytes, Op.bytesLess]
  | [], _ :: _ => by simp [Lib.compareBytes, Op.bytesLess]
  | _ :: _, [] => by simp [Lib.compareBytes, Op.bytesLess]
  | x :: a, y :: b => by
    have ih := cb_lt a b
    unfold Lib.compareBytes Op.bytesLess
    by_cases h1 : x < y
    · simp [h1]
    · by_cases h2 : y < x
      · have : x ≠ y := fun e => by subst e; exact h1 h2
        simp [h1, h2, this]
      · have : x = y := UInt8.le_antisymm (UInt8.not_lt.1 h2) (UInt8.not_lt.1 h1)
        subst this
        simp [h1, ih]
theorem cb_zero : ∀ a b : List UInt8, Lib.compareBytes a b = 0 → a = b
  | [], [], _ => rfl
  | [], _ :: _, h => by simp [Lib.compareBytes] at h
  | _ :: _, [], h => by simp [Lib.compareBytes] at h
  | x :: a, y :: b, h => by
    unfold Lib.compareBytes at h
    by_cases h1 : x < y
    · simp [h1] at h
    · by_cases h2 : y < x
      · simp [h1, h2] at h
      · have : x = y := UInt8.le_antisymm (UInt8.not_lt.1 h2) (UInt8.not_lt.1 h1)
        subst this
        simp [h1] at h
        rw [cb_zero a b h]

/-- What strings.Compare says. -/
def cB (a b : ByteArray) : Int := Lib.compareBytes a.data.toList b.data.toList
/-- What cmp.Compare says. -/
def cI (a b : Int) : Int := if a < b then -1 else if b < a then 1 else 0
theorem cB_lt (a b : ByteArray) : cB a b < 0 ↔ Op.bytesLess a.toList b.toList = true := by
  rw [ByteArray.toList_eq, ByteArray.toList_eq]; exact cb_lt _ _
theorem cB_zero (a b : ByteArray) : cB a b = 0 ↔ a.toList = b.toList := by
  rw [ByteArray.toList_eq, ByteArray.toList_eq]
  exact ⟨cb_zero _ _, fun h => by unfold cB; rw [h]; exact cb_self _⟩
theorem cI_lt (a b : Int) : cI a b < 0 ↔ a < b := by
  unfold cI
  split
  · simp_all
  · split <;> simp_all <;> omega

/-- One entry stands ahead of another. -/
def Bef (x y : Ent) : Prop := Op.bytesLess x.key.toList y.key.toList = true ∨ x.key.toList = y.key.toList ∧ y.seq < x.seq
/-- What compareEntries says. -/
def cE (x y : Ent) : Int := if cB x.key y.key = 0 then cI y.seq x.seq else cB x.key y.key
theorem cE_lt (x y : Ent) : cE x y < 0 ↔ Bef x y := by
  unfold cE Bef
  split
  · rename_i h
    have e := (cB_zero _ _).1 h
    rw [cI_lt, e, bl_self]
    simp
  · rename_i h
    rw [cB_lt]
    have : ¬ x.key.toList = y.key.toList := fun e => h ((cB_zero _ _).2 e)
    simp [this]

set_option maxRecDepth 100000 in
theorem bytealg_any (a b : ByteArray) (w : World) :
    Calls Tryz.prog 146 #[.string a, .string b] w fun e w' => e = .returned (.int .i64 (cB a b)) ∧ w' = w := by
  go_enter Tryz.func146, Tryz.ntmps146
  go_wp2
  rw [run_callFunc_extern Tryz.func179 (by kernel_rfl) (by kernel_rfl) (by kernel_rfl) (e := Extern.BytealgCompare.compare) (by kernel_rfl), Lib.run_compareString]
  simp only [Result.andThen]
  rw [Oper.upon_value]
  go_wp2
  go_ret
  exact ⟨rfl, rfl⟩
theorem strCmp_any (a b : ByteArray) (w : World) :
    Calls Tryz.prog 95 #[.string a, .string b] w fun e w' => e = .returned (.int .i64 (cB a b)) ∧ w' = w := by
  go_enter Tryz.func95, Tryz.ntmps95
  go_wp2_with fail
  refine (bytealg_any a b _).mono ?_
  rintro e w1 ⟨rfl, rfl⟩
  go_wp2
  go_ret
  exact ⟨rfl, rfl⟩

theorem isNaN_any (a : Int) (w : World) : Calls Tryz.prog 147 #[.int .i64 a] w fun e w' => e = .returned (.bool false) ∧ w' = w := by
  go_enter Tryz.func147, Tryz.ntmps147
  go_wp2
  go_ret
  simp
theorem intCmp_any (a b : Int) (w : World) :
    Calls Tryz.prog 96 #[.int .i64 a, .int .i64 b] w fun e w' => e = .returned (.int .i64 (cI a b)) ∧ w' = w := by
  unfold cI
  by_cases h1 : a < b
  · rw [if_pos h1]
    go_enter Tryz.func96, Tryz.ntmps96
    go_wp2_with (go_at_call 147; refine (isNaN_any _ _).mono ?_; rintro e w' ⟨rfl, rfl⟩)
    go_ret
    simp
  · rw [if_neg h1]
    by_cases h2 : b < a
    · rw [if_pos h2]
      go_enter Tryz.func96, Tryz.ntmps96
      go_wp2_with (go_at_call 147; refine (isNaN_any _ _).mono ?_; rintro e w' ⟨rfl, rfl⟩)
      go_ret
      simp
    · rw [if_neg h2]
      go_enter Tryz.func96, Tryz.ntmps96
      go_wp2_with (go_at_call 147; refine (isNaN_any _ _).mono ?_; rintro e w' ⟨rfl, rfl⟩)
      go_ret
      simp

/-- What cmp.Or says of two. -/
def orI (p q : Int) : Int := if p = 0 then q else p
theorem cmpOr_any (b off cap : Nat) (p q : Int) (w : World) (h0 : w.cell? ⟨b, off, none⟩ = some (.int .i64 p)) (h1 : w.cell? ⟨b, off + 1, none⟩ = some (.int .i64 q)) :
    Calls Tryz.prog 94 #[.slice (some ⟨b, off, none⟩) 2 cap] w fun e w' => e = .returned (.int .i64 (orI p q)) ∧ w' = w := by
  unfold orI
  go_enter Tryz.func94, Tryz.ntmps94
  go_wp2
  go_loopw [8] (fun i wr => ∃ k : Nat, k ≤ 2 ∧ i = .int .i64 k ∧ (0 < k → p = 0) ∧ (1 < k → q = 0) ∧ wr = w) (fun i _ => 2 - (intOf i).toNat)
  case atStart => exact ⟨0, by omega, rfl, by omega, by omega, rfl⟩
  case round =>
    obtain ⟨k, hk, rfl, hp, hq, rfl⟩ := hrel
    have hk3 : k = 0 ∨ k = 1 ∨ k = 2 := by omega
    rcases hk3 with rfl | rfl | rfl
    · by_cases e : p = 0
      · subst e
        clear hp hq
        go_wp2
        go_roundw
        case rel => exact ⟨1, by omega, by go_num, by simp, by simp, by first | rfl | trivial⟩
        case measure => simp [intOf]
      · clear hp hq
        go_wp2
        go_ret
        simp [e]
    · obtain rfl := hp (by omega)
      by_cases e : q = 0
      · subst e
        clear hp hq
        go_wp2
        go_roundw
        case rel => exact ⟨2, by omega, by go_num, by simp, by simp, by first | rfl | trivial⟩
        case measure => simp [intOf]
      · clear hp hq
        go_wp2
        go_ret
        simp
    · obtain rfl := hp (by omega)
      obtain rfl := hq (by omega)
      clear hp hq
      go_wp2
      go_ret
      simp

/-- What a comparison of entries leaves. -/
def CmpO (x y : Ent) (w : World) (e : Ending) (w' : World) : Prop := e = .returned (.int .i64 (cE x y)) ∧ Below w.heap.size w w'

set_option maxHeartbeats 4000000 in
theorem compareEntries_any (x y : Ent) (ao bo : Option Addr) (ca cb : Nat) (w : World) :
    Calls Tryz.prog 59 #[.agg #[.string x.key, .int .i64 x.seq, .int .i64 x.kind, .int .i64 x.c, .int .i64 x.s, .int .i64 x.lo, .int .i64 x.hi, .slice ao x.n ca, .bool x.fu], .agg #[.string y.key, .int .i64 y.seq, .int .i64 y.kind, .int .i64 y.c, .int .i64 y.s, .int .i64 y.lo, .int .i64 y.hi, .slice bo y.n cb, .bool y.fu]] w fun e w' => CmpO x y w e w' := by
  have hB : ∀ o p, Below w.heap.size w ((w.alloc o).alloc p) := fun o p => (below_new w o).alloc (by simp) _
  go_enter Tryz.func59, Tryz.ntmps59
  go_wp2
  go_region_held3 (fun w' => w'.cell? ⟨w.heap.size, 0, none⟩ = some (.string x.key) ∧ w'.cell? ⟨w.heap.size, 1, none⟩ = some (.int .i64 x.seq) ∧ w'.cell? ⟨w.heap.size + 1, 0, none⟩ = some (.string y.key) ∧ w'.cell? ⟨w.heap.size + 1, 1, none⟩ = some (.int .i64 y.seq)) (go_keep) (first | (go_at_call 95; refine (strCmp_any _ _ _).mono ?_; rintro e w6 ⟨rfl, rfl⟩) | (go_at_call 96; refine (intCmp_any _ _ _).mono ?_; rintro e w6 ⟨rfl, rfl⟩) | (go_at_call 94; refine (cmpOr_any _ 0 _ (cB x.key y.key) (cI y.seq x.seq) _ (by simp [go_sem]) (by simp [go_sem])).mono ?_; rintro e w6 ⟨rfl, rfl⟩))
  go_wp2
  go_ret
  exact ⟨rfl, ((hB _ _).alloc (by simp; omega) _).drew⟩
end Go.Proofs.YtapmbgmmonhdoaaGreatDoor
namespace Go.Proofs.YtapmbgmmonhdoaaGreatDoor
set_option maxRecDepth 100000
open Go.RowKit
set_option linter.unusedSimpArgs false
set_option linter.unusedVariables false

/-- Each stands ahead of the next one, up to k. -/
def RiseE (X : Nat → Ent) (k : Nat) : Prop := ∀ i, i + 1 < k → Bef (X i) (X (i + 1))

set_option maxHeartbeats 2000000 in
theorem rising_any (ko : Option Addr) (n kc : Nat) (X : Nat → Ent) (tv : Value) (w : World) (hr : ERow w ko n X) (hn : n ≤ 1048576) :
    Calls Tryz.prog 99 #[.agg #[.slice ko n kc, tv, .func (.func 59) #[] #[]]] w fun e w' => Ans (RiseE X n) w e w' := by
  obtain ⟨_, hlies⟩ := hr
  have hB := below_new w (.cells #[.slice ko n kc, tv, .func (.func 59) #[] #[]] 158)
  have z0 : (w.alloc (.cells #[.slice ko n kc, tv, .func (.func 59) #[] #[]] 158)).cell? ⟨w.heap.size, 0, none⟩ = some (.slice ko n kc) := by simp [go_sem]
  have z2 : (w.alloc (.cells #[.slice ko n kc, tv, .func (.func 59) #[] #[]] 158)).cell? ⟨w.heap.size, 2, none⟩ = some (.func (.func 59) #[] #[]) := by simp [go_sem]
  have zl : w.heap.size < (w.alloc (.cells #[.slice ko n kc, tv, .func (.func 59) #[] #[]] 158)).heap.size := by simp
  go_enter Tryz.func99, Tryz.ntmps99
  go_wp2
  generalize (w.alloc (.cells #[.slice ko n kc, tv, .func (.func 59) #[] #[]] 158)) = w1 at hB z0 z2 zl ⊢
  go_loopw [3] (fun i wr => ∃ k : Nat, 1 ≤ k ∧ (n = 0 ∨ k ≤ n) ∧ (n = 0 → k = 1) ∧ i = .int .i64 k ∧ Hid (RiseE X k) ∧ Below w1.heap.size w1 wr) (fun i _ => n - (intOf i).toNat)
  case atStart => exact ⟨1, by omega, by omega, by omega, rfl, fun i hi => by omega, Below.refl _ _⟩
  case round =>
    obtain ⟨k, hk1, hk2, hk3, rfl, hR, hbk⟩ := hrel
    have y0 := (hbk.cell (p := ⟨w.heap.size, 0, none⟩) zl).trans z0
    have y2 := (hbk.cell (p := ⟨w.heap.size, 2, none⟩) zl).trans z2
    have bw : Below w.heap.size w wr := hB.trans (hbk.mono (Nat.le_of_lt zl))
    by_cases hlt : k < n
    · obtain ⟨b, off, rfl, hblt, hc⟩ := hlies.resolve_left (by omega)
      obtain ⟨j, hjk⟩ : ∃ j, k = j + 1 := ⟨k - 1, by omega⟩
      obtain ⟨da, dc, ea, _⟩ := hc j (by omega)
      obtain ⟨db, ec, eb, _⟩ := hc k hlt
      have ea1 := ea.keep bw
      obtain ⟨_, a0, a1, a2, a3, a4, a5, a6, a7, a8⟩ := id ea1
      have eb1 := eb.keep bw
      obtain ⟨_, b0, b1, b2, b3, b4, b5, b6, b7, b8⟩ := id eb1
      have zlr : w.heap.size < wr.heap.size := Nat.lt_of_lt_of_le zl hbk.size
      clear hc hlies ea eb z0 z2 hB
      have hj : IntKind.i64.wrap ((k : Int) - 1) = (j : Int) := by rw [IntKind.wrap_i64] <;> omega
      have hj0 : (0 : Int) ≤ (j : Int) := by omega
      have hj1 : (j : Int) < (n : Int) := by omega
      have hk0 : (0 : Int) ≤ (k : Int) := by omega
      have hk1' : (k : Int) < (n : Int) := by omega
      have HJ : Hid (k = j + 1) := hjk
      clear hjk
      have hcc := fun W => compareEntries_any (X j) (X k) da db dc ec W
      have hc2 := cE_lt (X j) (X k)
      go_wp2
      go_region_held3 (fun w' => w'.cell? ⟨w.heap.size, 0, none⟩ = some (.slice (some ⟨b, off, none⟩) n kc) ∧ w'.cell? ⟨w.heap.size, 2, none⟩ = some (.func (.func 59) #[] #[]) ∧ w'.cell? ⟨b, off + j * 9, none⟩ = some (.string (X j).key) ∧ w'.cell? ⟨b, off + j * 9 + 1, none⟩ = some (.int .i64 (X j).seq) ∧ w'.cell? ⟨b, off + j * 9 + 2, none⟩ = some (.int .i64 (X j).kind) ∧ w'.cell? ⟨b, off + j * 9 + 3, none⟩ = some (.int .i64 (X j).c) ∧ w'.cell? ⟨b, off + j * 9 + 4, none⟩ = some (.int .i64 (X j).s) ∧ w'.cell? ⟨b, off + j * 9 + 5, none⟩ = some (.int .i64 (X j).lo) ∧ w'.cell? ⟨b, off + j * 9 + 6, none⟩ = some (.int .i64 (X j).hi) ∧ w'.cell? ⟨b, off + j * 9 + 7, none⟩ = some (.slice da (X j).n dc) ∧ w'.cell? ⟨b, off + j * 9 + 8, none⟩ = some (.bool (X j).fu) ∧ w'.cell? ⟨b, off + k * 9, none⟩ = some (.string (X k).key) ∧ w'.cell? ⟨b, off + k * 9 + 1, none⟩ = some (.int .i64 (X k).seq) ∧ w'.cell? ⟨b, off + k * 9 + 2, none⟩ = some (.int .i64 (X k).kind) ∧ w'.cell? ⟨b, off + k * 9 + 3, none⟩ = some (.int .i64 (X k).c) ∧ w'.cell? ⟨b, off + k * 9 + 4, none⟩ = some (.int .i64 (X k).s) ∧ w'.cell? ⟨b, off + k * 9 + 5, none⟩ = some (.int .i64 (X k).lo) ∧ w'.cell? ⟨b, off + k * 9 + 6, none⟩ = some (.int .i64 (X k).hi) ∧ w'.cell? ⟨b, off + k * 9 + 7, none⟩ = some (.slice db (X k).n ec) ∧ w'.cell? ⟨b, off + k * 9 + 8, none⟩ = some (.bool (X k).fu)) (go_keep) (first | (go_at_call 59; refine (hcc _).mono ?_; rintro e w6 ⟨rfl, hb6⟩; have hb6' := (Below.refl _ wr).drew.trans hb6; obtain ⟨_, p0, p1, p2, p3, p4, p5, p6, p7, p8⟩ := ea1.keep hb6'; obtain ⟨_, q0, q1, q2, q3, q4, q5, q6, q7, q8⟩ := eb1.keep hb6'; have y06 := (hb6'.cell (p := ⟨w.heap.size, 0, none⟩) zlr).trans y0; have y26 := (hb6'.cell (p := ⟨w.heap.size, 2, none⟩) zlr).trans y2; have bw6 := bw.trans (hb6'.mono (Nat.le_of_lt zlr)); have bk6 := hbk.trans (hb6'.mono hbk.size); clear hb6 hb6'))
      clear hcc
      by_cases hx : 0 ≤ cE (X j) (X k)
      · have H : Hid (¬ RiseE X n) := fun h => by
          have hj' := HJ.out
          have := h j (by omega)
          rw [← hj', ← hc2] at this
          omega
        clear hc2
        go_wp2
        go_ret
        exact Ans.mk false (by have := H.out; simp [this]) bw6
      · have H : Hid (RiseE X (k + 1)) := fun i hi => by
          have hj' := HJ.out
          by_cases e : i = j
          · subst e
            rw [← hj']
            exact hc2.1 (by omega)
          · exact hR.out i (by omega)
        clear hc2
        have hx' : decide (0 ≤ cE (X j) (X k)) = false := by simpa using hx
        go_wp2
        go_roundw
        case rel => exact ⟨k + 1, by omega, by omega, by omega, by go_num, H, bk6⟩
        case measure => simp [intOf]; omega
    · have H : Hid (RiseE X n) := fun i hi => hR.out i (by omega)
      clear hR
      go_wp2
      go_ret
      exact Ans.mk true (by have := H.out; simp [this]) bw
end Go.Proofs.YtapmbgmmonhdoaaGreatDoor
