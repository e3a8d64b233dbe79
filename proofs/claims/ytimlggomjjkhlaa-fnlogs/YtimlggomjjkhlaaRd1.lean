/- Reading a log: giving up, taking bytes. -/
import Derived.Test.YtimlggomjjkhlaaPcH
import Derived.Deep.RegionWith
import Derived.Deep.RegionHeld3
import Derived.Recover
import Derived.StillTailTactics
namespace Go.Proofs.Ytimlggomjjkhlaa
open Go.RowKit
set_option linter.unusedSimpArgs false
set_option linter.unusedVariables false

def Torn (e : Ending) : Prop := ∃ t v, e = .panicked [{ v := .iface t v, recovered := false }]

theorem giveUp_no (w : World) : Calls Try.prog 46 #[.bool true] w fun e w' => e = .returned (.tuple #[]) ∧ w' = w := by
  go_enter Try.func46, Try.ntmps46
  go_wp2
  go_end0
  exact ⟨rfl, rfl⟩
theorem giveUp_yes (w : World) : Calls Try.prog 46 #[.bool false] w fun e w' => Torn e ∧ w' = w := by
  go_enter Try.func46, Try.ntmps46
  go_wp2
  exact ⟨rfl, ⟨_, _, rfl⟩, rfl⟩

/-- The reader's box. -/
structure Bx (w : World) (RB : Nat) (lg : Value) (a : Nat) (rv : Value) (wh : Nat) : Prop where
  lt : RB < w.heap.size
  c0 : w.cell? ⟨RB, 0, none⟩ = some lg
  c1 : w.cell? ⟨RB, 1, none⟩ = some (.int .i64 a)
  c2 : w.cell? ⟨RB, 2, none⟩ = some rv
  c3 : w.cell? ⟨RB, 3, none⟩ = some (.int .i64 wh)
  fz : ∀ i, w.frozen? ⟨RB, i, none⟩ = false
theorem Bx.keep {w w' : World} {RB : Nat} {lg : Value} {a : Nat} {rv : Value} {wh : Nat} (h : Bx w RB lg a rv wh) (hb : Below w.heap.size w w') : Bx w' RB lg a rv wh :=
  ⟨Nat.lt_of_lt_of_le h.lt hb.size, (hb.cell (p := ⟨RB, 0, none⟩) h.lt).trans h.c0, (hb.cell (p := ⟨RB, 1, none⟩) h.lt).trans h.c1, (hb.cell (p := ⟨RB, 2, none⟩) h.lt).trans h.c2, (hb.cell (p := ⟨RB, 3, none⟩) h.lt).trans h.c3, fun i => (hb.frozen (p := ⟨RB, i, none⟩) h.lt).trans (h.fz i)⟩
theorem Bx.set1 {w : World} {RB : Nat} {lg : Value} {a : Nat} {rv : Value} {wh : Nat} (h : Bx w RB lg a rv wh) (a' : Nat) : Bx (w.setCell ⟨RB, 1, none⟩ (.int .i64 a')) RB lg a' rv wh :=
  ⟨by simpa using h.lt, by rw [World.cell?_setCell_other _ _ _ _ (by intro hh; injection hh with _ h2 _; omega)]; exact h.c0, by rw [World.cell?_setCell_same _ _ _ h.c1], by rw [World.cell?_setCell_other _ _ _ _ (by intro hh; injection hh with _ h2 _; omega)]; exact h.c2, by rw [World.cell?_setCell_other _ _ _ _ (by intro hh; injection hh with _ h2 _; omega)]; exact h.c3, fun i => by simpa using h.fz i⟩
theorem Bx.drew {w : World} {RB : Nat} {lg : Value} {a : Nat} {rv : Value} {wh : Nat} (h : Bx w RB lg a rv wh) : Bx w.drew RB lg a rv wh := h.keep (Below.refl _ _).drew
theorem grown_refl (w : World) (row : Option Nat) : w.grownBy w row := ⟨rfl, rfl, rfl, Nat.le_refl _, fun _ _ _ => rfl⟩
theorem grown_set (w : World) (RB i : Nat) (x : Value) : w.grownBy (w.setCell ⟨RB, i, none⟩ x) (some RB) :=
  ⟨rfl, rfl, rfl, by simp, fun k hk hne => Below.heap_setCell _ _ _ _ (fun e => hne (by rw [e]))⟩
theorem grown_drew {w w' : World} {row : Option Nat} (h : w.drew.grownBy w' row) : w.grownBy w' row := ⟨h.os, h.tape, h.output, h.size, h.block⟩
theorem grown_drewN {w w' : World} {row : Option Nat} {n : Nat} (h : (w.drewN n).grownBy w' row) : w.grownBy w' row := ⟨h.os, h.tape, h.output, h.size, h.block⟩
theorem Bx.drewN {w : World} {RB : Nat} {lg : Value} {a : Nat} {rv : Value} {wh : Nat} (h : Bx w RB lg a rv wh) (n : Nat) : Bx (w.drewN n) RB lg a rv wh := h.keep (below_drewN (Below.refl _ _) n)
theorem At.drewN {w : World} {b off : Nat} {L : List Int} (h : At w b off L) (n : Nat) : At (w.drewN n) b off L := h.keep (below_drewN (Below.refl _ _) n)

/-- The log: B lies in block lb from lo on; the reader's slice of it has the room lc. -/
structure Lg (w : World) (RB lb lo lc : Nat) (B : List Int) : Prop where
  at' : At w lb lo B
  cap : B.length ≤ lc
  ne : lb ≠ RB
  small : B.length ≤ 20000
theorem Lg.grown {w w' : World} {RB lb lo lc : Nat} {B : List Int} (h : Lg w RB lb lo lc B) (hg : w.grownBy w' (some RB)) : Lg w' RB lb lo lc B :=
  ⟨h.at'.grown hg (fun e => h.ne (Option.some.inj e).symm), h.cap, h.ne, h.small⟩

set_option maxHeartbeats 1000000 in
theorem take_yes (RB lb lo lc a m : Nat) (rv : Value) (wh : Nat) (B : List Int) (w : World) (hX : Bx w RB (.slice (some ⟨lb, lo, none⟩) B.length lc) a rv wh) (hL : Lg w RB lb lo lc B) (h : a + m ≤ B.length) :
    Calls Try.prog 51 #[.pointer (some ⟨RB, 0, none⟩), .int .i64 m] w fun e w' => ∃ o c, e = .returned (.slice (some ⟨lb, o, none⟩) m c) ∧ m ≤ c ∧ At w' lb o ((B.drop a).take m) ∧
      Bx w' RB (.slice (some ⟨lb, lo, none⟩) B.length lc) (a + m) rv wh ∧ w.grownBy w' (some RB) := by
  have hsm := hL.small
  have hcp := hL.cap
  have h1 : (m : Int) ≤ (B.length : Int) - (a : Int) := by omega
  obtain ⟨hlt, c0, c1, c2, c3, fz⟩ := id hX
  have f1 := fz 1
  have hAt := (hL.at'.drop a).take m
  have hle : a ≤ B.length := by omega
  have hlc : a + m ≤ lc := by omega
  by_cases hca : lc = a
  · have hm0 : m = 0 := by omega
    subst hm0
    go_enter Try.func51, Try.ntmps51
    go_wp2
    go_quiet ((go_at_call 46; exact Calls.quiet_of_same (giveUp_no _)))
    go_wp2
    go_quiet (fail)
    go_wp2
    go_ret
    rename_i q1
    have hX2 := (hX.drewN (q1 + nq)).set1 (a + 0)
    have hG2 := grown_drewN (grown_set (w.drewN (q1 + nq)) RB 1 (.int .i64 ((a + 0 : Nat) : Int)))
    have hz : ((a + 0 : Nat) : Int) = (a : Int) := by omega
    rw [hz] at hX2 hG2
    refine ⟨lo, 0, ?_, by omega, ?_, ?_, ?_⟩
    · simp
    · exact ⟨by simpa using byt_nil, by have := hL.at'.lt; simpa using this, fun i hi => by simp at hi⟩
    · simpa using hX2
    · simpa using hG2
  · go_enter Try.func51, Try.ntmps51
    go_wp2
    go_quiet ((go_at_call 46; exact Calls.quiet_of_same (giveUp_no _)))
    go_wp2
    go_quiet (fail)
    go_wp2
    go_ret
    rename_i q1
    have hX2 := (hX.drewN (q1 + nq)).set1 (a + m)
    have hG2 := grown_drewN (grown_set (w.drewN (q1 + nq)) RB 1 (.int .i64 ((a + m : Nat) : Int)))
    have hA2 := (hAt.drewN (q1 + nq)).grown (grown_set (w.drewN (q1 + nq)) RB 1 (.int .i64 ((a + m : Nat) : Int))) (fun e => hL.ne (Option.some.inj e).symm)
    rw [Int.natCast_add] at hX2 hG2 hA2
    refine ⟨lo + a, lc - a, ?_, by omega, hA2, ?_, hG2⟩
    · simp [Nat.add_sub_cancel_left]
    · exact hX2

set_option maxHeartbeats 1000000 in
theorem take_no (RB lb lo lc a m : Nat) (rv : Value) (wh : Nat) (B : List Int) (w : World) (hX : Bx w RB (.slice (some ⟨lb, lo, none⟩) B.length lc) a rv wh) (hsm : B.length ≤ 20000) (ha : a ≤ B.length) (hm : m ≤ 255) (h : ¬ a + m ≤ B.length) :
    Calls Try.prog 51 #[.pointer (some ⟨RB, 0, none⟩), .int .i64 m] w fun e w' => Torn e ∧ Bx w' RB (.slice (some ⟨lb, lo, none⟩) B.length lc) a rv wh ∧ w.grownBy w' (some RB) := by
  have h1 : ¬ (m : Int) ≤ (B.length : Int) - (a : Int) := by omega
  have hd : decide ((m : Int) ≤ (B.length : Int) - (a : Int)) = false := by simpa using h1
  have hw : IntKind.i64.wrap ((B.length : Int) - (a : Int)) = (B.length : Int) - (a : Int) := by rw [IntKind.wrap_i64]; omega
  obtain ⟨hlt, c0, c1, c2, c3, fz⟩ := id hX
  go_enter Try.func51, Try.ntmps51
  go_wp2
  go_still_tail 12, (by kernel_rfl)
  go_wp2_with fail
  refine (giveUp_yes _).mono ?_
  rintro e w1 ⟨⟨t, v, rfl⟩, rfl⟩
  exact ⟨rfl, ⟨t, v, rfl⟩, hX.drew, grown_drew (grown_refl _ _)⟩
end Go.Proofs.Ytimlggomjjkhlaa
