/- Entries that rise, in the program. -/
import Derived.Test.YtfdbhkjmkpgomaaRep
import Derived.Test.YtfdbhkjmkpgomaaCmp
import Derived.Test.YtfdbhkjmkpgomaaGe
namespace Go.Proofs.Ytfdbhkjmkpgomaa
open Go.RowKit
set_option linter.unusedSimpArgs false
set_option linter.unusedVariables false

/-- Each stands ahead of the next one, up to k. -/
def RiseE (X : Nat → Ent) (k : Nat) : Prop := ∀ i, i + 1 < k → Bef (X i) (X (i + 1))

set_option maxHeartbeats 2000000 in
theorem rising_any (ko : Option Addr) (n kc : Nat) (X : Nat → Ent) (tv : Value) (w : World) (hr : ERow w ko n X) (hn : n ≤ 1048576) :
    Calls Try.prog 52 #[.agg #[.slice ko n kc, tv, .func (.func 49) #[] #[]]] w fun e w' => Ans (RiseE X n) w e w' := by
  obtain ⟨_, hlies⟩ := hr
  have hB := below_new w (.cells #[.slice ko n kc, tv, .func (.func 49) #[] #[]] 76)
  have z0 : (w.alloc (.cells #[.slice ko n kc, tv, .func (.func 49) #[] #[]] 76)).cell? ⟨w.heap.size, 0, none⟩ = some (.slice ko n kc) := by simp [go_sem]
  have z2 : (w.alloc (.cells #[.slice ko n kc, tv, .func (.func 49) #[] #[]] 76)).cell? ⟨w.heap.size, 2, none⟩ = some (.func (.func 49) #[] #[]) := by simp [go_sem]
  have zl : w.heap.size < (w.alloc (.cells #[.slice ko n kc, tv, .func (.func 49) #[] #[]] 76)).heap.size := by simp
  go_enter Try.func52, Try.ntmps52
  go_wp2
  generalize (w.alloc (.cells #[.slice ko n kc, tv, .func (.func 49) #[] #[]] 76)) = w1 at hB z0 z2 zl ⊢
  go_loopw [3] (fun i wr => ∃ k : Nat, 1 ≤ k ∧ (n = 0 ∨ k ≤ n) ∧ (n = 0 → k = 1) ∧ i = .int .i64 k ∧ Hid (RiseE X k) ∧ Below w1.heap.size w1 wr) (fun i _ => n - (intOf i).toNat)
  case atStart => exact ⟨1, by omega, by omega, by omega, rfl, fun i hi => by omega, Below.refl _ _⟩
  case round =>
    obtain ⟨k, hk1, hk2, hk3, rfl, hR, hbk⟩ := hrel
    have y0 := (hbk.cell (p := ⟨w.heap.size, 0, none⟩) zl).trans z0
    have y2 := (hbk.cell (p := ⟨w.heap.size, 2, none⟩) zl).trans z2
    have bw : Below w.heap.size w wr := hB.trans (hbk.mono (Nat.le_of_lt zl))
    by_cases hlt : k < n
    · obtain ⟨b, off, rfl, hblt, hc⟩ := hlies.resolve_left (by omega)
      obtain ⟨j, hjk⟩ : ∃ j, k = j + 1 := ⟨k - 1, by omega⟩
      obtain ⟨da, dc, ea, _⟩ := hc j (by omega)
      obtain ⟨db, ec, eb, _⟩ := hc k hlt
      have ea1 := ea.keep bw
      obtain ⟨_, a0, a1, a2, a3, a4, a5, a6, a7, a8⟩ := id ea1
      have eb1 := eb.keep bw
      obtain ⟨_, b0, b1, b2, b3, b4, b5, b6, b7, b8⟩ := id eb1
      have zlr : w.heap.size < wr.heap.size := Nat.lt_of_lt_of_le zl hbk.size
      clear hc hlies ea eb z0 z2 hB
      have hj : IntKind.i64.wrap ((k : Int) - 1) = (j : Int) := by rw [IntKind.wrap_i64] <;> omega
      have hj0 : (0 : Int) ≤ (j : Int) := by omega
      have hj1 : (j : Int) < (n : Int) := by omega
      have hk0 : (0 : Int) ≤ (k : Int) := by omega
      have hk1' : (k : Int) < (n : Int) := by omega
      have HJ : Hid (k = j + 1) := hjk
      clear hjk
      have hcc := fun W => compareEntries_any (X j) (X k) da db dc ec W
      have hc2 := cE_lt (X j) (X k)
      go_wp2
      go_region_held3 (fun w' => w'.cell? ⟨w.heap.size, 0, none⟩ = some (.slice (some ⟨b, off, none⟩) n kc) ∧ w'.cell? ⟨w.heap.size, 2, none⟩ = some (.func (.func 49) #[] #[]) ∧ w'.cell? ⟨b, off + j * 9, none⟩ = some (.string (X j).key) ∧ w'.cell? ⟨b, off + j * 9 + 1, none⟩ = some (.int .i64 (X j).seq) ∧ w'.cell? ⟨b, off + j * 9 + 2, none⟩ = some (.int .i64 (X j).kind) ∧ w'.cell? ⟨b, off + j * 9 + 3, none⟩ = some (.int .i64 (X j).c) ∧ w'.cell? ⟨b, off + j * 9 + 4, none⟩ = some (.int .i64 (X j).s) ∧ w'.cell? ⟨b, off + j * 9 + 5, none⟩ = some (.int .i64 (X j).lo) ∧ w'.cell? ⟨b, off + j * 9 + 6, none⟩ = some (.int .i64 (X j).hi) ∧ w'.cell? ⟨b, off + j * 9 + 7, none⟩ = some (.slice da (X j).n dc) ∧ w'.cell? ⟨b, off + j * 9 + 8, none⟩ = some (.bool (X j).fu) ∧ w'.cell? ⟨b, off + k * 9, none⟩ = some (.string (X k).key) ∧ w'.cell? ⟨b, off + k * 9 + 1, none⟩ = some (.int .i64 (X k).seq) ∧ w'.cell? ⟨b, off + k * 9 + 2, none⟩ = some (.int .i64 (X k).kind) ∧ w'.cell? ⟨b, off + k * 9 + 3, none⟩ = some (.int .i64 (X k).c) ∧ w'.cell? ⟨b, off + k * 9 + 4, none⟩ = some (.int .i64 (X k).s) ∧ w'.cell? ⟨b, off + k * 9 + 5, none⟩ = some (.int .i64 (X k).lo) ∧ w'.cell? ⟨b, off + k * 9 + 6, none⟩ = some (.int .i64 (X k).hi) ∧ w'.cell? ⟨b, off + k * 9 + 7, none⟩ = some (.slice db (X k).n ec) ∧ w'.cell? ⟨b, off + k * 9 + 8, none⟩ = some (.bool (X k).fu)) (go_keep) (first | (go_at_call 49; refine (hcc _).mono ?_; rintro e w6 ⟨rfl, hb6⟩; have hb6' := (Below.refl _ wr).drew.trans hb6; obtain ⟨_, p0, p1, p2, p3, p4, p5, p6, p7, p8⟩ := ea1.keep hb6'; obtain ⟨_, q0, q1, q2, q3, q4, q5, q6, q7, q8⟩ := eb1.keep hb6'; have y06 := (hb6'.cell (p := ⟨w.heap.size, 0, none⟩) zlr).trans y0; have y26 := (hb6'.cell (p := ⟨w.heap.size, 2, none⟩) zlr).trans y2; have bw6 := bw.trans (hb6'.mono (Nat.le_of_lt zlr)); have bk6 := hbk.trans (hb6'.mono hbk.size); clear hb6 hb6'))
      clear hcc
      by_cases hx : 0 ≤ cE (X j) (X k)
      · have H : Hid (¬ RiseE X n) := fun h => by
          have hj' := HJ.out
          have := h j (by omega)
          rw [← hj', ← hc2] at this
          omega
        clear hc2
        go_wp2
        go_ret
        exact Ans.mk false (by have := H.out; simp [this]) bw6
      · have H : Hid (RiseE X (k + 1)) := fun i hi => by
          have hj' := HJ.out
          by_cases e : i = j
          · subst e
            rw [← hj']
            exact hc2.1 (by omega)
          · exact hR.out i (by omega)
        clear hc2
        have hx' : decide (0 ≤ cE (X j) (X k)) = false := by simpa using hx
        go_wp2
        go_roundw
        case rel => exact ⟨k + 1, by omega, by omega, by omega, by go_num, H, bk6⟩
        case measure => simp [intOf]; omega
    · have H : Hid (RiseE X n) := fun i hi => hR.out i (by omega)
      clear hR
      go_wp2
      go_ret
      exact Ans.mk true (by have := H.out; simp [this]) bw
end Go.Proofs.Ytfdbhkjmkpgomaa
