/- Small things of an empty store: the log of no bytes, the name of its log, its first version. -/
import Derived.Test.YtapmbgmmonhdoaaGreatDoorBase
import Derived.Defers
import Derived.Laws.BytesArg
import Derived.Recover
import Derived.BigQuiet
import Derived.StillTailTactics
namespace Go.Proofs.YtapmbgmmonhdoaaGreatDoor
set_option maxRecDepth 100000
open Go.RowKit
set_option linter.unusedSimpArgs false
set_option linter.unusedVariables false

/-- What the reader of a log holds. -/
structure LBx (w : World) (RB : Nat) (da : Option Addr) (dc : Nat) : Prop where
  lt : RB < w.heap.size
  c0 : w.cell? ⟨RB, 0, none⟩ = some (.slice da 0 dc)
  c1 : w.cell? ⟨RB, 1, none⟩ = some (.int .i64 0)
  c2 : w.cell? ⟨RB, 2, none⟩ = some (.slice none 0 0)
  c3 : w.cell? ⟨RB, 3, none⟩ = some (.int .i64 0)
theorem LBx.keep {w w' : World} {RB : Nat} {da : Option Addr} {dc : Nat} (h : LBx w RB da dc) (hb : Below w.heap.size w w') : LBx w' RB da dc :=
  ⟨Nat.lt_of_lt_of_le h.lt hb.size, (hb.cell (p := ⟨RB, 0, none⟩) h.lt).trans h.c0, (hb.cell (p := ⟨RB, 1, none⟩) h.lt).trans h.c1, (hb.cell (p := ⟨RB, 2, none⟩) h.lt).trans h.c2, (hb.cell (p := ⟨RB, 3, none⟩) h.lt).trans h.c3⟩
theorem LBx.new (w : World) (t : TypeId) (da : Option Addr) (dc : Nat) : LBx (w.alloc (.cells #[.slice da 0 dc, .int .i64 0, .slice none 0 0, .int .i64 0] t)) w.heap.size da dc := by
  refine ⟨by simp, ?_, ?_, ?_, ?_⟩ <;> simp [go_sem]
theorem below_new0 (w : World) (o : Obj) : Below w.heap.size w (w.alloc o) := (Below.refl _ _).alloc (Nat.le_refl _) _

/-- No panic: the deferred call leaves all as it is. -/
theorem catch_none0 (w : World) :
    CallsD Tryz.prog 165 #[] .returning w fun e u' w' => e = .returned (.tuple #[]) ∧ u' = .returning ∧ w' = w := by
  refine callsD_of_wpS Tryz.func165 rfl fun c₀ cs hu => ?_
  apply wpS_region
  cases c₀
  simp_all [wpOpsS, go_sem, recoverD, hu, Tryz.ntmps165, Exit.thenS, bodyPostS, results, Tryz.results165]

set_option maxHeartbeats 1000000 in
theorem readAll_nil (RB : Nat) (da : Option Addr) (dc : Nat) (w : World) (hX : LBx w RB da dc) :
    Calls Tryz.prog 120 #[.pointer (some ⟨RB, 0, none⟩)] w fun e w' => e = .returned (.tuple #[]) ∧ Below w.heap.size w w' := by
  have hmf : ∀ (fn : Fn) (first cap : Array Value) (w : World), (Instr.makeFunc fn first cap).run Tryz.prog w = .ok (.func fn first cap) w := fun _ _ _ _ => rfl
  go_enter_defers Tryz.func120, Tryz.ntmps120
  go_wp2
  go_loopw [2] (fun _ wr => wr = w) (fun _ _ => 0)
  case atStart => rfl
  case round =>
    obtain rfl := hrel
    obtain ⟨hlt, c0, c1, c2, c3⟩ := id hX
    go_wp2
    go_quiet (fail)
    have bq : Below wr.heap.size wr (wr.drewN nq) := below_drewN (Below.refl _ _) nq
    generalize wr.drewN nq = w2 at *
    go_wp2
    refine leaves_cons (f := 165) (args := #[]) (by simp) (by simp [go_sem]) ?_
    refine (catch_none0 _).mono ?_
    rintro e u' w'' ⟨rfl, rfl, rfl⟩
    simp [Leaves, settle, results, Tryz.results120, go_sem]
    exact bq

set_option maxHeartbeats 1000000 in
theorem readLog_none (da : Option Addr) (dc : Nat) (w : World) : Calls Tryz.prog 82 #[.slice da 0 dc] w fun e w' => e = .returned (.tuple #[.slice none 0 0, .int .i64 0, .bool true]) ∧ Below w.heap.size w w' := by
  have hX := LBx.new w 183 da dc
  have hb0 := below_new0 w (.cells #[.slice da 0 dc, .int .i64 0, .slice none 0 0, .int .i64 0] 183)
  go_enter Tryz.func82, Tryz.ntmps82
  go_wp2_with fail
  refine (readAll_nil w.heap.size da dc _ hX).mono ?_
  rintro e w1 ⟨rfl, hb⟩
  have hX1 := hX.keep hb
  have hbw : Below w.heap.size w w1 := hb0.trans (hb.mono (by simp))
  have c2 := hX1.c2
  have c3 := hX1.c3
  clear hX hb0 hX1 hb
  go_wp2
  go_quiet (fail)
  go_wp2
  have bq : Below w1.heap.size w1 (w1.drewN nq) := below_drewN (Below.refl _ _) nq
  have hbq := hbw.trans (bq.mono hbw.size)
  exact bodyPost_ret (v := .tuple #[.slice none 0 0, .int .i64 0, .bool true]) (by simp [results, Tryz.results82, go_sem]) rfl ⟨rfl, hbq⟩

/-- The name of the first log. -/
def sLog : ByteArray := ⟨#[108, 111, 103, 45, 49]⟩
/-- The manifest's name. -/
def sMan : ByteArray := ⟨#[109, 97, 110, 105, 102, 101, 115, 116]⟩
def sOne : ByteArray := ⟨#[49]⟩
theorem small_one (w : World) : Calls Tryz.prog 76 #[.int .i64 1] w fun e w' => e = .returned (.string sOne) ∧ w' = w := by
  go_enter Tryz.func76, Tryz.ntmps76
  go_wp2
  go_ret
  exact ⟨rfl, rfl⟩
theorem formatInt_one (w : World) : Calls Tryz.prog 51 #[.int .i64 1, .int .i64 10] w fun e w' => e = .returned (.string sOne) ∧ w' = w := by
  go_enter Tryz.func51, Tryz.ntmps51
  go_wp2_with fail
  refine (small_one _).mono ?_
  rintro e w1 ⟨rfl, rfl⟩
  go_wp2
  go_ret
  exact ⟨rfl, rfl⟩
theorem itoa2_one (w : World) : Calls Tryz.prog 37 #[.int .i64 1] w fun e w' => e = .returned (.string sOne) ∧ w' = w := by
  go_enter Tryz.func37, Tryz.ntmps37
  go_wp2_with fail
  refine (formatInt_one _).mono ?_
  rintro e w1 ⟨rfl, rfl⟩
  go_wp2
  go_ret
  exact ⟨rfl, rfl⟩
theorem itoa_one (w : World) : Calls Tryz.prog 25 #[.int .i64 1] w fun e w' => e = .returned (.string sOne) ∧ w' = w := by
  go_enter Tryz.func25, Tryz.ntmps25
  go_wp2_with fail
  refine (itoa2_one _).mono ?_
  rintro e w1 ⟨rfl, rfl⟩
  go_wp2
  go_ret
  exact ⟨rfl, rfl⟩
theorem logName_one (w : World) : Calls Tryz.prog 12 #[.int .i64 1] w fun e w' => e = .returned (.string sLog) ∧ w' = w := by
  have e0 : (⟨#[108, 111, 103, 45]⟩ : ByteArray) ++ sOne = sLog := by decide
  go_enter Tryz.func12, Tryz.ntmps12
  go_wp2_with fail
  refine (itoa_one _).mono ?_
  rintro e w1 ⟨rfl, rfl⟩
  go_wp2
  go_ret
  exact ⟨rfl, rfl⟩
theorem conv_one0 (w u : World) (b : Nat) (z : Int) (hz : u.cell? ⟨b, 0, none⟩ = some (.int .u8 z)) : (convert 38 9 (.slice (some ⟨b, 0, none⟩) 1 1)).run Tryz.prog u = .ok (.string (strOfNums [z])) u :=
  run_convert_bytes_arg (P := Tryz.prog) u 38 5 Tryz.underlying38 Tryz.underlying5 b 0 1 1 [z] rfl (fun i hi => by
    have : i = 0 := by simp at hi; omega
    subst this
    exact hz) 9 Tryz.underlying9
theorem l1Num_one (w : World) : Calls Tryz.prog 24 #[.int .i64 1] w fun e w' => e = .returned (.string sOne) ∧ Below w.heap.size w w' := by
  have hcv := conv_one0 w (w.alloc (.cells #[.int .u8 49] 5)) w.heap.size 49 (by simp [go_sem])
  have e : strOfNums [49] = sOne := by decide
  rw [e] at hcv
  go_enter Tryz.func24, Tryz.ntmps24
  go_wp2
  go_ret
  exact ⟨rfl, below_new0 _ _⟩
theorem l10Log_one (w : World) : Calls Tryz.prog 10 #[.int .i64 1] w fun e w' => e = .returned (.string sLog) ∧ Below w.heap.size w w' := by
  go_enter Tryz.func10, Tryz.ntmps10
  go_wp2_with fail
  refine (l1Num_one _).mono ?_
  rintro e w1 ⟨rfl, hb⟩
  go_wp2
  go_ret
  exact ⟨rfl, hb⟩

end Go.Proofs.YtapmbgmmonhdoaaGreatDoor
