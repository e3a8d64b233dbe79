/- Marks looked for in files; no files marked. -/
import Derived.Test.YtapmbgmmonhdoaaGreatDoorMarkF
namespace Go.Proofs.YtapmbgmmonhdoaaGreatDoor
set_option maxRecDepth 100000
open Go.RowKit
set_option linter.unusedSimpArgs false
set_option linter.unusedVariables false

set_option maxHeartbeats 1000000 in
theorem heldFileS_yes (ao : Option Addr) (n cap : Nat) (F : Nat → Fil) (w : World) (hr : FRow w ao n (fpart F n)) (hn : n ≤ 1048576) (hz : FSize n F 1048576) (hK : cK F n ≤ 4194304) :
    Calls Tryz.prog 34 #[.slice ao n cap, .int .i64 1] w fun e w' => e = .returned (.int .i64 (cK F n)) ∧ Below w.heap.size w w' := by
  obtain ⟨hl⟩ := hr
  go_enter Tryz.func34, Tryz.ntmps34
  go_wp2
  go_loopw [1, 5] (fun q i wr => ∃ k : Nat, k ≤ n ∧ i = .int .i64 k ∧ q = .int .i64 (cK F k) ∧ Below w.heap.size w wr) (fun _ i _ => n - (intOf i).toNat)
  case atStart => exact ⟨0, by omega, rfl, rfl, Below.refl _ _⟩
  case round =>
    obtain ⟨k, hk, rfl, rfl, hbk⟩ := hrel
    by_cases hlt : k < n
    · obtain ⟨b, off, rfl, hblt, hc⟩ := hl.resolve_left (by omega)
      obtain ⟨da, dc, hf⟩ := hc k hlt
      have hfm : fpart F n k = fmark F k := by simp [fpart, hlt]
      rw [hfm] at hf
      obtain ⟨f0, f1, f2, frow⟩ := hf
      have hc0 : wr.cell? ⟨b, off + k * 3, none⟩ = some (.string (mt (cK F k))) := (hbk.cell (p := ⟨b, off + k * 3, none⟩) hblt).trans f0
      have hc1 : wr.cell? ⟨b, off + k * 3 + 1, none⟩ = some (.slice da (F k).len dc) := (hbk.cell (p := ⟨b, off + k * 3 + 1, none⟩) hblt).trans f1
      have hc2 : wr.cell? ⟨b, off + k * 3 + 2, none⟩ = some (.int .i64 ((cK F k + 1 + (F k).len : Nat) : Int)) := (hbk.cell (p := ⟨b, off + k * 3 + 2, none⟩) hblt).trans f2
      have hrow : Row wr da (F k).len (fun j => ((cK F k + 1 + j : Nat) : Int) % 256) := frow.keep hbk
      have hb' : b < wr.heap.size := by have := hbk.size; omega
      have hlen : (F k).len ≤ 1048576 := (hz k hlt).2
      have hs := cK_succ F k
      have hle := cK_le (F := F) (show k + 1 ≤ n from hlt)
      have h1 : 1 ≤ cK F k := by unfold cK; omega
      have hsE : Hid (cK F (k + 1) = cK F k + 1 + (F k).len + 1) := hs
      have hC : cK F k + 1 + (F k).len + 1 ≤ 4194304 := by omega
      clear hc hl f0 f1 f2 frow hfm hs hle
      generalize hM : mt (cK F k) = M at hc0
      have HM : Hid (mt (cK F k) = M) := hM
      generalize hck : cK F k = c at hc2 hrow h1 hsE hC hM
      have HC : Hid (cK F k = c) := hck
      clear hck
      go_wp2
      go_region_held3 (fun w' => w'.cell? ⟨b, off + k * 3, none⟩ = some (.string M) ∧ w'.cell? ⟨b, off + k * 3 + 1, none⟩ = some (.slice da (F k).len dc) ∧ w'.cell? ⟨b, off + k * 3 + 2, none⟩ = some (.int .i64 ((c + 1 + (F k).len : Nat) : Int))) (go_keep) (first | (go_at_call 32; refine (markText_any _ _ (by omega) (by omega)).mono ?_; rintro e w1 ⟨rfl, hb1⟩; rw [hM]; have hb1' := (Below.refl _ wr).drew.trans hb1; have c0 := (hb1'.cell (p := ⟨b, off + k * 3, none⟩) hb').trans hc0; have c1 := (hb1'.cell (p := ⟨b, off + k * 3 + 1, none⟩) hb').trans hc1; have c2 := (hb1'.cell (p := ⟨b, off + k * 3 + 2, none⟩) hb').trans hc2; have bw1 : Below w.heap.size w w1 := hbk.trans (hb1'.mono hbk.size); have hb1s : b < w1.heap.size := Nat.lt_of_lt_of_le hb' hb1'.size; have hrow1 := hrow.keep hb1'))
      clear hb1 hb1' hc0 hc1 hc2 hbk hb' hrow
      have hw1 : IntKind.i64.wrap ((c : Int) + 1) = ((c + 1 : Nat) : Int) := by rw [IntKind.wrap_i64] <;> omega
      go_wp2_with fail
      refine (heldByteS_yes da (F k).len dc (c + 1) _ hrow1 hlen (by omega)).mono ?_
      rintro e w2 ⟨rfl, hb2⟩
      have d2 := (hb2.cell (p := ⟨b, off + k * 3 + 2, none⟩) hb1s).trans c2
      have bw2 : Below w.heap.size w w2 := bw1.trans (hb2.mono bw1.size)
      have hd : decide (((c + 1 + (F k).len : Nat) : Int) < 0) = false := by simp; omega
      clear hb2 c0 c1 c2 bw1 hrow1 hb1s
      go_wp2
      go_roundw
      case rel => exact ⟨k + 1, by omega, by go_num, by rw [hsE.out]; go_num, bw2⟩
      case measure => simp [intOf]; omega
    · have e : k = n := by omega
      subst e
      go_wp2
      go_ret
      exact ⟨rfl, hbk⟩

theorem heldFiles_yes (Q : Int) (ao : Option Addr) (n cap : Nat) (F : Nat → Fil) (w : World) (hr : FRow w ao n (fpart F n)) (hn : n ≤ 1048576) (hz : FSize n F 1048576) (hK : cK F n ≤ 4194304) :
    Calls Tryz.prog 21 #[.agg #[.int .i64 Q, .slice ao n cap], .int .i64 1] w fun e w' => e = .returned (.int .i64 (cK F n)) ∧ Below w.heap.size w w' := by
  have hB : Below w.heap.size w (w.alloc (.cells #[.int .i64 Q, .slice ao n cap] 24)) := (Below.refl _ _).alloc (Nat.le_refl _) _
  have hd : decide (((cK F n : Nat) : Int) < 0) = false := by simp
  go_enter Tryz.func21, Tryz.ntmps21
  go_wp2_with fail
  refine (heldFileS_yes ao n cap F _ (hr.keep hB) hn hz hK).mono ?_
  rintro e w1 ⟨rfl, hb1⟩
  go_wp2
  go_ret
  exact ⟨rfl, hB.trans (hb1.mono (by simp))⟩

theorem markFileS_none (ao : Option Addr) (cap : Nat) (w : World) :
    Calls Tryz.prog 30 #[.slice ao 0 cap, .int .i64 1] w fun e w' => e = .returned (.int .i64 1) ∧ w' = w := by
  go_enter Tryz.func30, Tryz.ntmps30
  go_wp2
  go_loopw [1, 5] (fun q i wr => i = .int .i64 0 ∧ q = .int .i64 1 ∧ wr = w) (fun _ _ _ => 0)
  case atStart => exact ⟨rfl, rfl, rfl⟩
  case round =>
    obtain ⟨rfl, rfl, rfl⟩ := hrel
    go_wp2
    go_ret
    exact ⟨rfl, rfl⟩
theorem markFiles_none (Q : Int) (ao : Option Addr) (cap : Nat) (w : World) :
    Calls Tryz.prog 18 #[.agg #[.int .i64 Q, .slice ao 0 cap], .int .i64 1] w fun e w' => e = .returned (.int .i64 1) ∧ Below w.heap.size w w' := by
  have hB : Below w.heap.size w (w.alloc (.cells #[.int .i64 Q, .slice ao 0 cap] 24)) := (Below.refl _ _).alloc (Nat.le_refl _) _
  go_enter Tryz.func18, Tryz.ntmps18
  go_wp2_with fail
  refine (markFileS_none ao cap _).mono ?_
  rintro e w1 ⟨rfl, rfl⟩
  go_wp2
  go_ret
  exact ⟨rfl, hB⟩

/-- Files of a call's own, between B and U: none, or in a block. -/
def FV (w : World) (B U : Nat) (ao : Option Addr) (n : Nat) (F : Nat → Fil) (G : Nat → Nat) : Prop :=
  n = 0 ∨ ∃ b, ao = some ⟨b, 0, none⟩ ∧ FBox w b n F G B U
theorem FV.row {w : World} {B U n : Nat} {ao : Option Addr} {F : Nat → Fil} {G : Nat → Nat} (h : FV w B U ao n F G) : FRow w ao n F := by
  rcases h with h | ⟨b, rfl, h⟩
  · exact ⟨.inl h⟩
  · exact h.row
theorem FV.keep {w w' : World} {B U n : Nat} {ao : Option Addr} {F : Nat → Fil} {G : Nat → Nat} (h : FV w B U ao n F G) (hb : Below w.heap.size w w') : FV w' B U ao n F G := by
  rcases h with h | ⟨b, rfl, h⟩
  · exact .inl h
  · exact .inr ⟨b, rfl, h.keep hb⟩
theorem cK_zero (F : Nat → Fil) : cK F 0 = 1 := by unfold cK; rfl
theorem FV.marked (Q : Int) {w : World} {B U n cap : Nat} {ao : Option Addr} {F : Nat → Fil} {G : Nat → Nat} (h : FV w B U ao n F G) (hn : n ≤ 1048576) (hz : FSize n F 1048576) (hK : cK F n ≤ 4194304) :
    Calls Tryz.prog 18 #[.agg #[.int .i64 Q, .slice ao n cap], .int .i64 1] w fun e w' => e = .returned (.int .i64 (cK F n)) ∧ FV w' B U ao n (fpart F n) G ∧ Mid B U w w' := by
  rcases h with h | ⟨b, rfl, h⟩
  · subst h
    refine (markFiles_none Q ao cap w).mono ?_
    rintro e w' ⟨rfl, hb⟩
    exact ⟨by rw [cK_zero]; rfl, .inl rfl, Mid.of_below hb⟩
  · refine (markFiles_any Q b n cap F G B U w h hn hz hK).mono ?_
    rintro e w' ⟨rfl, hf, hm⟩
    exact ⟨rfl, .inr ⟨b, rfl, hf⟩, hm⟩
end Go.Proofs.YtapmbgmmonhdoaaGreatDoor
