/- Entries that rise, in the program. / slices.Sort and slices.Compact over ints and slices.ContainsFunc over entries, found again at this program (numbers of the seat Ytiigpmhaicfocaa). -/
import Derived.Test.YtiigpmhaicfocaaRep
import Derived.Test.YtiigpmhaicfocaaCmp
import Derived.Test.YtiigpmhaicfocaaGe
import Derived.Shelf.Sort.Plain
import Derived.Shelf.Slices.CompactI
import Derived.Shelf.SlicesQ.IndexFunc
import Derived.Shelf.Slices.In.SortNone
import Derived.Test.YtiigpmhaicfocaaProg
namespace Go.Proofs.Ytiigpmhaicfocaa
open Go.RowKit
set_option linter.unusedSimpArgs false
set_option linter.unusedVariables false

/-- Each stands ahead of the next one, up to k. -/
def RiseE (X : Nat → Ent) (k : Nat) : Prop := ∀ i, i + 1 < k → Bef (X i) (X (i + 1))

set_option maxHeartbeats 2000000 in
theorem rising_any (ko : Option Addr) (n kc : Nat) (X : Nat → Ent) (tv : Value) (w : World) (hr : ERow w ko n X) (hn : n ≤ 1048576) :
    Calls Try.prog 28 #[.agg #[.slice ko n kc, tv, .func (.func 45) #[] #[]]] w fun e w' => Ans (RiseE X n) w e w' := by
  obtain ⟨_, hlies⟩ := hr
  have hB := below_new w (.cells #[.slice ko n kc, tv, .func (.func 45) #[] #[]] 56)
  have z0 : (w.alloc (.cells #[.slice ko n kc, tv, .func (.func 45) #[] #[]] 56)).cell? ⟨w.heap.size, 0, none⟩ = some (.slice ko n kc) := by simp [go_sem]
  have z2 : (w.alloc (.cells #[.slice ko n kc, tv, .func (.func 45) #[] #[]] 56)).cell? ⟨w.heap.size, 2, none⟩ = some (.func (.func 45) #[] #[]) := by simp [go_sem]
  have zl : w.heap.size < (w.alloc (.cells #[.slice ko n kc, tv, .func (.func 45) #[] #[]] 56)).heap.size := by simp
  go_enter Try.func28, Try.ntmps28
  go_wp2
  generalize (w.alloc (.cells #[.slice ko n kc, tv, .func (.func 45) #[] #[]] 56)) = w1 at hB z0 z2 zl ⊢
  go_loopw [3] (fun i wr => ∃ k : Nat, 1 ≤ k ∧ (n = 0 ∨ k ≤ n) ∧ (n = 0 → k = 1) ∧ i = .int .i64 k ∧ Hid (RiseE X k) ∧ Below w1.heap.size w1 wr) (fun i _ => n - (intOf i).toNat)
  case atStart => exact ⟨1, by omega, by omega, by omega, rfl, fun i hi => by omega, Below.refl _ _⟩
  case round =>
    obtain ⟨k, hk1, hk2, hk3, rfl, hR, hbk⟩ := hrel
    have y0 := (hbk.cell (p := ⟨w.heap.size, 0, none⟩) zl).trans z0
    have y2 := (hbk.cell (p := ⟨w.heap.size, 2, none⟩) zl).trans z2
    have bw : Below w.heap.size w wr := hB.trans (hbk.mono (Nat.le_of_lt zl))
    by_cases hlt : k < n
    · obtain ⟨b, off, rfl, hblt, hc⟩ := hlies.resolve_left (by omega)
      obtain ⟨j, hjk⟩ : ∃ j, k = j + 1 := ⟨k - 1, by omega⟩
      obtain ⟨da, dc, ea, _⟩ := hc j (by omega)
      obtain ⟨db, ec, eb, _⟩ := hc k hlt
      have ea1 := ea.keep bw
      obtain ⟨_, a0, a1, a2, a3, a4, a5, a6, a7, a8⟩ := id ea1
      have eb1 := eb.keep bw
      obtain ⟨_, b0, b1, b2, b3, b4, b5, b6, b7, b8⟩ := id eb1
      have zlr : w.heap.size < wr.heap.size := Nat.lt_of_lt_of_le zl hbk.size
      clear hc hlies ea eb z0 z2 hB
      have hj : IntKind.i64.wrap ((k : Int) - 1) = (j : Int) := by rw [IntKind.wrap_i64] <;> omega
      have hj0 : (0 : Int) ≤ (j : Int) := by omega
      have hj1 : (j : Int) < (n : Int) := by omega
      have hk0 : (0 : Int) ≤ (k : Int) := by omega
      have hk1' : (k : Int) < (n : Int) := by omega
      have HJ : Hid (k = j + 1) := hjk
      clear hjk
      have hcc := fun W => compareEntries_any (X j) (X k) da db dc ec W
      have hc2 := cE_lt (X j) (X k)
      go_wp2
      go_region_held3 (fun w' => w'.cell? ⟨w.heap.size, 0, none⟩ = some (.slice (some ⟨b, off, none⟩) n kc) ∧ w'.cell? ⟨w.heap.size, 2, none⟩ = some (.func (.func 45) #[] #[]) ∧ w'.cell? ⟨b, off + j * 9, none⟩ = some (.string (X j).key) ∧ w'.cell? ⟨b, off + j * 9 + 1, none⟩ = some (.int .i64 (X j).seq) ∧ w'.cell? ⟨b, off + j * 9 + 2, none⟩ = some (.int .i64 (X j).kind) ∧ w'.cell? ⟨b, off + j * 9 + 3, none⟩ = some (.int .i64 (X j).c) ∧ w'.cell? ⟨b, off + j * 9 + 4, none⟩ = some (.int .i64 (X j).s) ∧ w'.cell? ⟨b, off + j * 9 + 5, none⟩ = some (.int .i64 (X j).lo) ∧ w'.cell? ⟨b, off + j * 9 + 6, none⟩ = some (.int .i64 (X j).hi) ∧ w'.cell? ⟨b, off + j * 9 + 7, none⟩ = some (.slice da (X j).n dc) ∧ w'.cell? ⟨b, off + j * 9 + 8, none⟩ = some (.bool (X j).fu) ∧ w'.cell? ⟨b, off + k * 9, none⟩ = some (.string (X k).key) ∧ w'.cell? ⟨b, off + k * 9 + 1, none⟩ = some (.int .i64 (X k).seq) ∧ w'.cell? ⟨b, off + k * 9 + 2, none⟩ = some (.int .i64 (X k).kind) ∧ w'.cell? ⟨b, off + k * 9 + 3, none⟩ = some (.int .i64 (X k).c) ∧ w'.cell? ⟨b, off + k * 9 + 4, none⟩ = some (.int .i64 (X k).s) ∧ w'.cell? ⟨b, off + k * 9 + 5, none⟩ = some (.int .i64 (X k).lo) ∧ w'.cell? ⟨b, off + k * 9 + 6, none⟩ = some (.int .i64 (X k).hi) ∧ w'.cell? ⟨b, off + k * 9 + 7, none⟩ = some (.slice db (X k).n ec) ∧ w'.cell? ⟨b, off + k * 9 + 8, none⟩ = some (.bool (X k).fu)) (go_keep) (first | (go_at_call 45; refine (hcc _).mono ?_; rintro e w6 ⟨rfl, hb6⟩; have hb6' := (Below.refl _ wr).drew.trans hb6; obtain ⟨_, p0, p1, p2, p3, p4, p5, p6, p7, p8⟩ := ea1.keep hb6'; obtain ⟨_, q0, q1, q2, q3, q4, q5, q6, q7, q8⟩ := eb1.keep hb6'; have y06 := (hb6'.cell (p := ⟨w.heap.size, 0, none⟩) zlr).trans y0; have y26 := (hb6'.cell (p := ⟨w.heap.size, 2, none⟩) zlr).trans y2; have bw6 := bw.trans (hb6'.mono (Nat.le_of_lt zlr)); have bk6 := hbk.trans (hb6'.mono hbk.size); clear hb6 hb6'))
      clear hcc
      by_cases hx : 0 ≤ cE (X j) (X k)
      · have H : Hid (¬ RiseE X n) := fun h => by
          have hj' := HJ.out
          have := h j (by omega)
          rw [← hj', ← hc2] at this
          omega
        clear hc2
        go_wp2
        go_ret
        exact Ans.mk false (by have := H.out; simp [this]) bw6
      · have H : Hid (RiseE X (k + 1)) := fun i hi => by
          have hj' := HJ.out
          by_cases e : i = j
          · subst e
            rw [← hj']
            exact hc2.1 (by omega)
          · exact hR.out i (by omega)
        clear hc2
        have hx' : decide (0 ≤ cE (X j) (X k)) = false := by simpa using hx
        go_wp2
        go_roundw
        case rel => exact ⟨k + 1, by omega, by omega, by omega, by go_num, H, bk6⟩
        case measure => simp [intOf]; omega
    · have H : Hid (RiseE X n) := fun i hi => hR.out i (by omega)
      clear hR
      go_wp2
      go_ret
      exact Ans.mk true (by have := H.out; simp [this]) bw
end Go.Proofs.Ytiigpmhaicfocaa
namespace Go.Proofs.Ytiigpmhaicfocaa
open Go.Shelf
def sortInts_ren : Go.Shelf.Ren := ⟨fun | 189 => 78 | 125 => 83 | 257 => 82 | 128 => 93 | 129 => 94 | 294 => 84 | 295 => 85 | 296 => 86 | 297 => 87 | 298 => 88 | 299 => 89 | 216 => 90 | 300 => 91 | 301 => 92 | 328 => 95 | 329 => 96 | 330 => 97 | 331 => 98 | 332 => 99 | 215 => 76 | 343 => 100 | n => n, fun | 28 => 24 | 3 => 3 | 46 => 84 | 0 => 0 | 51 => 96 | 53 => 44 | 4 => 4 | 183 => 107 | 182 => 106 | 131 => 112 | 5 => 5 | 9 => 9 | 218 => 116 | 222 => 120 | 228 => 122 | 229 => 123 | n => n, fun | n => n⟩
theorem sortInts : Go.Proofs.Lays.n189 Try.prog sortInts_ren := {
  mixed := by kernel_rfl
  f125 := Try.func83.trans (congrArg some (by kernel_rfl))
  f128 := Try.func93.trans (congrArg some (by kernel_rfl))
  f129 := Try.func94.trans (congrArg some (by kernel_rfl))
  f189 := Try.func78.trans (congrArg some (by kernel_rfl))
  f215 := Try.func76.trans (congrArg some (by kernel_rfl))
  f216 := Try.func90.trans (congrArg some (by kernel_rfl))
  f257 := Try.func82.trans (congrArg some (by kernel_rfl))
  f294 := Try.func84.trans (congrArg some (by kernel_rfl))
  f295 := Try.func85.trans (congrArg some (by kernel_rfl))
  f296 := Try.func86.trans (congrArg some (by kernel_rfl))
  f297 := Try.func87.trans (congrArg some (by kernel_rfl))
  f298 := Try.func88.trans (congrArg some (by kernel_rfl))
  f299 := Try.func89.trans (congrArg some (by kernel_rfl))
  f300 := Try.func91.trans (congrArg some (by kernel_rfl))
  f301 := Try.func92.trans (congrArg some (by kernel_rfl))
  f328 := Try.func95.trans (congrArg some (by kernel_rfl))
  f329 := Try.func96.trans (congrArg some (by kernel_rfl))
  f330 := Try.func97.trans (congrArg some (by kernel_rfl))
  f331 := Try.func98.trans (congrArg some (by kernel_rfl))
  f332 := Try.func99.trans (congrArg some (by kernel_rfl))
  f343 := Try.func100.trans (congrArg some (by kernel_rfl))
  t0 := Try.underlying0
  a0 := Try.isAgg0
  z0 := Try.sizeOf0
  v0 := Try.zeroValue0
  t3 := Try.underlying3
  a3 := Try.isAgg3
  z3 := Try.sizeOf3
  v3 := Try.zeroValue3
  t4 := Try.underlying4
  a4 := Try.isAgg4
  z4 := Try.sizeOf4
  v4 := Try.zeroValue4
  t5 := Try.underlying5
  a5 := Try.isAgg5
  z5 := Try.sizeOf5
  v5 := Try.zeroValue5
  t9 := Try.underlying9
  a9 := Try.isAgg9
  z9 := Try.sizeOf9
  v9 := Try.zeroValue9
  t28 := Try.underlying24
  a28 := Try.isAgg24
  z28 := Try.sizeOf24
  v28 := Try.zeroValue24
  t46 := Try.underlying84
  a46 := Try.isAgg84
  z46 := Try.sizeOf84
  v46 := Try.zeroValue84
  t51 := Try.underlying96
  a51 := Try.isAgg96
  z51 := Try.sizeOf96
  v51 := Try.zeroValue96
  t53 := Try.underlying44
  a53 := Try.isAgg44
  z53 := Try.sizeOf44
  v53 := Try.zeroValue44
  t131 := Try.underlying112
  a131 := Try.isAgg112
  z131 := Try.sizeOf112
  v131 := Try.zeroValue112
  t182 := Try.underlying106
  a182 := Try.isAgg106
  z182 := Try.sizeOf106
  v182 := Try.zeroValue106
  t183 := Try.underlying107
  a183 := Try.isAgg107
  z183 := Try.sizeOf107
  v183 := Try.zeroValue107
  t218 := Try.underlying116
  a218 := Try.isAgg116
  z218 := Try.sizeOf116
  v218 := Try.zeroValue116
  t222 := Try.underlying120
  a222 := Try.isAgg120
  z222 := Try.sizeOf120
  v222 := Try.zeroValue120
  t228 := Try.underlying122
  a228 := Try.isAgg122
  z228 := Try.sizeOf122
  v228 := Try.zeroValue122
  t229 := Try.underlying123
  a229 := Try.isAgg123
  z229 := Try.sizeOf123
  v229 := Try.zeroValue123 }
def compInts_ren : Go.Shelf.Ren := ⟨fun | 20 => 67 | n => n, fun | 22 => 24 | 3 => 3 | 4 => 4 | 0 => 0 | n => n, fun | n => n⟩
theorem compInts : Go.Proofs.Lays2.n20 Try.prog compInts_ren := {
  mixed := by kernel_rfl
  f20 := Try.func67.trans (congrArg some (by kernel_rfl))
  t0 := Try.underlying0
  a0 := Try.isAgg0
  z0 := Try.sizeOf0
  v0 := Try.zeroValue0
  t3 := Try.underlying3
  a3 := Try.isAgg3
  z3 := Try.sizeOf3
  v3 := Try.zeroValue3
  t4 := Try.underlying4
  a4 := Try.isAgg4
  z4 := Try.sizeOf4
  v4 := Try.zeroValue4
  t22 := Try.underlying24
  a22 := Try.isAgg24
  z22 := Try.sizeOf24
  v22 := Try.zeroValue24
  i3 := by kernel_rfl }
def hasFunc_ren : Go.Shelf.Ren := ⟨fun | 8 => 42 | 6 => 60 | n => n, fun | 22 => 23 | 23 => 28 | 25 => 51 | 4 => 4 | 3 => 3 | 0 => 0 | n => n, fun | n => n⟩
theorem hasFunc : Go.Proofs.SlLaysH0.n8 Try.prog hasFunc_ren := {
  mixed := by kernel_rfl
  f6 := ⟨Try.f60.name, by decide, Try.func60.trans (congrArg some (by kernel_rfl))⟩
  f8 := ⟨Try.f42.name, by decide, Try.func42.trans (congrArg some (by kernel_rfl))⟩
  t0 := Try.underlying0
  a0 := Try.isAgg0
  z0 := Try.sizeOf0
  v0 := Try.zeroValue0
  t3 := Try.underlying3
  a3 := Try.isAgg3
  z3 := Try.sizeOf3
  v3 := Try.zeroValue3
  t4 := Try.underlying4
  a4 := Try.isAgg4
  z4 := Try.sizeOf4
  v4 := Try.zeroValue4
  t22 := Try.underlying23
  a22 := Try.isAgg23
  z22 := Try.sizeOf23
  v22 := Try.zeroValue23
  t25 := Try.underlying51
  a25 := Try.isAgg51
  z25 := Try.sizeOf51
  v25 := Try.zeroValue51 }
end Go.Proofs.Ytiigpmhaicfocaa
