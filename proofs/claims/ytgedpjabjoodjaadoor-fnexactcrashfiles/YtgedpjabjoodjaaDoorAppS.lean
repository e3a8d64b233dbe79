/- l2Append. -/
import Derived.Test.YtgedpjabjoodjaaDoorLOut
import Derived.Test.YtgedpjabjoodjaaDoorRemS
import Derived.Deep.RegionHeld3
namespace Go.Proofs.YtgedpjabjoodjaaDoor
open Go.RowKit
set_option linter.unusedSimpArgs false
set_option linter.unusedVariables false

set_option maxHeartbeats 1000000 in
theorem l2Append_miss (Q : Int) (fb : Nat) (p : Option Addr) (n c base : Nat) (F : Nat → Fil) (s : ByteArray) (bo : Option Addr) (bl bc : Nat) (hat : ∀ v, AtN F n s v → v < 0) (w : World) (hq : QAt w fb Q (.slice p n c)) (hr : SRow w base (.slice p n c) n F) (hn : n ≤ 1048576) :
    Calls Tryd.prog 48 #[.pointer (some ⟨fb, 0, none⟩), .string s, .slice bo bl bc] w fun e w' => LOut Q 2 n F fb base w e w' := by
  obtain ⟨l1, x0, x1⟩ := id hq
  go_enter Tryd.func48, Tryd.ntmps48
  go_wp2_with fail
  refine (l2At_any Q p n c F s _ hr.row hn).mono ?_
  rintro e w1 ⟨v, rfl, hv, hb1⟩
  have hv0 := hat v hv
  clear x0 x1
  go_wp2
  go_ret
  exact ⟨p, c, rfl, hq.keep hb1, (hr.keep hb1).flow, hb1.size, hb1.mono (Nat.le_of_lt l1), fun k _ _ hk => hb1.block k hk⟩

set_option maxHeartbeats 1000000 in
theorem l2Append_full (Q : Int) (fb : Nat) (p : Option Addr) (n c base : Nat) (F : Nat → Fil) (s : ByteArray) (bo : Option Addr) (bl bc : Nat) (hat : ∀ v, AtN F n s v → 0 ≤ v) (hu : used F n ≤ 60000) (hbl : bl ≤ 1048576) (hfull : Q < ((used F n + bl : Nat) : Int)) (w : World) (hq : QAt w fb Q (.slice p n c)) (hr : SRow w base (.slice p n c) n F) (hn : n ≤ 1048576) (hz : FSize n F 1048576) :
    Calls Tryd.prog 48 #[.pointer (some ⟨fb, 0, none⟩), .string s, .slice bo bl bc] w fun e w' => LOut Q 4 n F fb base w e w' := by
  obtain ⟨l1, x0, x1⟩ := id hq
  go_enter Tryd.func48, Tryd.ntmps48
  go_wp2_with fail
  refine (l2At_any Q p n c F s _ hr.row hn).mono ?_
  rintro e w1 ⟨v, rfl, hv, hb1⟩
  have hv0 := hat v hv
  have hv1 : ¬ v < 0 := by omega
  have hq1 := hq.keep hb1
  have hr1 := (hr.keep hb1).row.keep (Below.refl _ _).drew
  obtain ⟨_, y0, y1⟩ := id hq1
  have l2 : fb < w1.heap.size := hq1.lt
  have hwr : IntKind.i64.wrap (((used F n : Nat) : Int) + (bl : Int)) = ((used F n : Nat) : Int) + (bl : Int) := by rw [IntKind.wrap_i64] <;> omega
  have hlt : Q < ((used F n : Nat) : Int) + (bl : Int) := by omega
  have hb1' := hb1
  clear x0 x1 hv hq1
  go_wp2
  go_region_held3 (fun w' => w'.cell? ⟨fb, 0, none⟩ = some (.int .i64 Q) ∧ w'.cell? ⟨fb, 1, none⟩ = some (.slice p n c)) (go_keep) (first | (go_at_call 64; refine (l2Used_any Q p n c F _ hr1 hn hz).mono ?_; rintro e w2 ⟨rfl, hb2⟩; have hb2' := (Below.refl _ w1).drew.trans hb2; have g0 := (hb2'.cell (p := ⟨fb, 0, none⟩) l2).trans y0; have g1 := (hb2'.cell (p := ⟨fb, 1, none⟩) l2).trans y1))
  go_wp2
  go_ret
  have hb3 := hb1.trans (hb2'.mono hb1.size)
  exact ⟨p, c, rfl, hq.keep hb3, (hr.keep hb3).flow, hb3.size, hb3.mono (Nat.le_of_lt l1), fun k _ _ hk => hb3.block k hk⟩
end Go.Proofs.YtgedpjabjoodjaaDoor
