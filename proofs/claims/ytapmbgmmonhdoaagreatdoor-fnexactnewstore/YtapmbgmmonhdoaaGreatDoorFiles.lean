/- Files in memory: measured, copied, compared. -/
import Derived.Test.YtapmbgmmonhdoaaGreatDoorNames
import Derived.Deep.RegionWith
import Derived.Deep.RegionHeld3
namespace Go.Proofs.YtapmbgmmonhdoaaGreatDoor
set_option maxRecDepth 100000
open Go.RowKit
set_option linter.unusedSimpArgs false
set_option linter.unusedVariables false

/-- What a file holds: its name, its bytes, how many of them are synced. -/
structure Fil where
  nm : ByteArray
  len : Nat
  f : Nat → Int
  sy : Int
/-- A file lies in the three cells from off on. -/
structure FAt (w : World) (b off : Nat) (x : Fil) (da : Option Addr) (dc : Nat) : Prop where
  c0 : w.cell? ⟨b, off, none⟩ = some (.string x.nm)
  c1 : w.cell? ⟨b, off + 1, none⟩ = some (.slice da x.len dc)
  c2 : w.cell? ⟨b, off + 2, none⟩ = some (.int .i64 x.sy)
  row : Row w da x.len x.f
theorem FAt.keep {w w' : World} {B b off : Nat} {x : Fil} {da : Option Addr} {dc : Nat} (h : FAt w b off x da dc) (hlt : b < w.heap.size) (hb : Below w.heap.size w w') : FAt w' b off x da dc :=
  ⟨(hb.cell (p := ⟨b, off, none⟩) hlt).trans h.c0, (hb.cell (p := ⟨b, off + 1, none⟩) hlt).trans h.c1, (hb.cell (p := ⟨b, off + 2, none⟩) hlt).trans h.c2, h.row.keep hb⟩
/-- n files lie at ao. -/
structure FRow (w : World) (ao : Option Addr) (n : Nat) (F : Nat → Fil) : Prop where
  lies : n = 0 ∨ ∃ b off, ao = some ⟨b, off, none⟩ ∧ b < w.heap.size ∧ ∀ i, i < n → ∃ da dc, FAt w b (off + i * 3) (F i) da dc
theorem FRow.keep {w w' : World} {ao : Option Addr} {n : Nat} {F : Nat → Fil} (h : FRow w ao n F) (hb : Below w.heap.size w w') : FRow w' ao n F :=
  ⟨h.lies.elim .inl fun ⟨b, off, e, hlt, hc⟩ => .inr ⟨b, off, e, Nat.lt_of_lt_of_le hlt hb.size, fun i hi => by obtain ⟨da, dc, h⟩ := hc i hi; exact ⟨da, dc, h.keep (B := 0) hlt hb⟩⟩⟩

/-- What a measure leaves. -/
def SzOutF (left : Int) (P : Prop) (w : World) (e : Ending) (w' : World) : Prop :=
  ∃ v : Int, e = .returned (.int .i64 v) ∧ -1 ≤ v ∧ v ≤ left ∧ (0 ≤ v → P) ∧ Below w.heap.size w w'

def FSize (n : Nat) (F : Nat → Fil) (B : Nat) : Prop := ∀ i, i < n → (F i).nm.size ≤ B ∧ (F i).len ≤ B

set_option maxHeartbeats 400000 in
theorem eqFile_same (nm : ByteArray) (sy : Int) (da db : Option Addr) (len ca cb : Nat) (f : Nat → Int) (w : World) (hr : Row w da len f) (hs : Row w db len f) (hn : len ≤ 1048576) :
    Calls Tryz.prog 44 #[.agg #[.string nm, .slice da len ca, .int .i64 sy], .agg #[.string nm, .slice db len cb, .int .i64 sy]] w fun e w' => e = .returned (.bool true) ∧ Below w.heap.size w w' := by
  have hB : Below w.heap.size w ((w.alloc (.cells #[.string nm, .slice da len ca, .int .i64 sy] 40)).alloc (.cells #[.string nm, .slice db len cb, .int .i64 sy] 40)) := ((Below.refl _ _).alloc (Nat.le_refl _) _).alloc (by simp) _
  go_enter Tryz.func44, Tryz.ntmps44
  go_wp2_with fail
  refine (eqByteS_same da db len ca cb f _ (hr.keep hB) (hs.keep hB) hn).mono ?_
  rintro e w1 ⟨rfl, hb⟩
  have hbw : Below w.heap.size w w1 := hB.trans (hb.mono (by simp; omega))
  have c0 : w1.cell? ⟨w.heap.size, 2, none⟩ = some (.int .i64 sy) := (hb.cell (p := ⟨w.heap.size, 2, none⟩) (by simp; omega)).trans (by simp [go_sem])
  have c1 : w1.cell? ⟨w.heap.size + 1, 2, none⟩ = some (.int .i64 sy) := (hb.cell (p := ⟨w.heap.size + 1, 2, none⟩) (by simp)).trans (by simp [go_sem])
  clear hb hB
  go_wp2
  go_ret
  exact ⟨rfl, hbw⟩

set_option maxHeartbeats 1000000 in
theorem eqFileS_same (ao bo : Option Addr) (n ca cb : Nat) (F : Nat → Fil) (w : World) (hr : FRow w ao n F) (hs : FRow w bo n F) (hn : n ≤ 1048576) (hz : FSize n F 1048576) :
    Calls Tryz.prog 27 #[.slice ao n ca, .slice bo n cb] w fun e w' => e = .returned (.bool true) ∧ Below w.heap.size w w' := by
  obtain ⟨hl⟩ := hr
  obtain ⟨hm⟩ := hs
  go_enter Tryz.func27, Tryz.ntmps27
  go_wp2
  go_loopw [5] (fun i wr => ∃ k : Nat, k ≤ n ∧ i = .int .i64 k ∧ Below w.heap.size w wr) (fun i _ => n - (intOf i).toNat)
  case atStart => exact ⟨0, Nat.zero_le _, rfl, Below.refl _ _⟩
  case round =>
    obtain ⟨k, hk, rfl, hbk⟩ := hrel
    by_cases hlt : k < n
    · obtain ⟨b, off, rfl, hblt, hc⟩ := hl.resolve_left (by omega)
      obtain ⟨b', off', rfl, hblt', hc'⟩ := hm.resolve_left (by omega)
      obtain ⟨da, dc, hf⟩ := hc k hlt
      obtain ⟨da', dc', hf'⟩ := hc' k hlt
      have hlen := (hz k hlt).2
      have h0 : wr.cell? ⟨b, off + k * 3, none⟩ = some (.string (F k).nm) := (hbk.cell (p := ⟨b, off + k * 3, none⟩) hblt).trans hf.c0
      have h1 : wr.cell? ⟨b, off + k * 3 + 1, none⟩ = some (.slice da (F k).len dc) := (hbk.cell (p := ⟨b, off + k * 3 + 1, none⟩) hblt).trans hf.c1
      have h2 : wr.cell? ⟨b, off + k * 3 + 2, none⟩ = some (.int .i64 (F k).sy) := (hbk.cell (p := ⟨b, off + k * 3 + 2, none⟩) hblt).trans hf.c2
      have h0' : wr.cell? ⟨b', off' + k * 3, none⟩ = some (.string (F k).nm) := (hbk.cell (p := ⟨b', off' + k * 3, none⟩) hblt').trans hf'.c0
      have h1' : wr.cell? ⟨b', off' + k * 3 + 1, none⟩ = some (.slice da' (F k).len dc') := (hbk.cell (p := ⟨b', off' + k * 3 + 1, none⟩) hblt').trans hf'.c1
      have h2' : wr.cell? ⟨b', off' + k * 3 + 2, none⟩ = some (.int .i64 (F k).sy) := (hbk.cell (p := ⟨b', off' + k * 3 + 2, none⟩) hblt').trans hf'.c2
      have r1 := (hf.row.keep hbk).keep (Below.refl _ _).drew
      have r2 := (hf'.row.keep hbk).keep (Below.refl _ _).drew
      clear hc hc' hl hm hf hf'
      go_wp2
      go_region_held3 (fun w' => w'.cell? ⟨b, off + k * 3, none⟩ = some (.string (F k).nm) ∧ w'.cell? ⟨b, off + k * 3 + 1, none⟩ = some (.slice da (F k).len dc) ∧ w'.cell? ⟨b, off + k * 3 + 2, none⟩ = some (.int .i64 (F k).sy) ∧ w'.cell? ⟨b', off' + k * 3, none⟩ = some (.string (F k).nm) ∧ w'.cell? ⟨b', off' + k * 3 + 1, none⟩ = some (.slice da' (F k).len dc') ∧ w'.cell? ⟨b', off' + k * 3 + 2, none⟩ = some (.int .i64 (F k).sy)) (go_keep) (first | (go_at_call 44; refine (eqFile_same _ _ _ _ _ _ _ (F k).f _ r1 r2 hlen).mono ?_; rintro e w1 ⟨rfl, hb1⟩; have hb1' := (Below.refl _ wr).drew.trans hb1; have g0 := (hb1'.cell (p := ⟨b, off + k * 3, none⟩) (Nat.lt_of_lt_of_le hblt hbk.size)).trans h0; have g1 := (hb1'.cell (p := ⟨b, off + k * 3 + 1, none⟩) (Nat.lt_of_lt_of_le hblt hbk.size)).trans h1; have g2 := (hb1'.cell (p := ⟨b, off + k * 3 + 2, none⟩) (Nat.lt_of_lt_of_le hblt hbk.size)).trans h2; have g0' := (hb1'.cell (p := ⟨b', off' + k * 3, none⟩) (Nat.lt_of_lt_of_le hblt' hbk.size)).trans h0'; have g1' := (hb1'.cell (p := ⟨b', off' + k * 3 + 1, none⟩) (Nat.lt_of_lt_of_le hblt' hbk.size)).trans h1'; have g2' := (hb1'.cell (p := ⟨b', off' + k * 3 + 2, none⟩) (Nat.lt_of_lt_of_le hblt' hbk.size)).trans h2'; have bw1 : Below w.heap.size w w1 := hbk.trans (hb1'.mono hbk.size)))
      clear hb1 hb1' h0 h1 h2 h0' h1' h2' g0 g1 g2 g0' g1' g2' r1 r2
      go_wp2
      go_roundw
      case rel => exact ⟨k + 1, by omega, by go_num, bw1⟩
      case measure => simp [intOf]; omega
    · go_wp2
      go_ret
      exact ⟨rfl, hbk⟩

set_option maxHeartbeats 400000 in
theorem eqFiles_same (Q : Int) (ao bo : Option Addr) (n ca cb : Nat) (F : Nat → Fil) (w : World) (hr : FRow w ao n F) (hs : FRow w bo n F) (hn : n ≤ 1048576) (hz : FSize n F 1048576) :
    Calls Tryz.prog 15 #[.agg #[.int .i64 Q, .slice ao n ca], .agg #[.int .i64 Q, .slice bo n cb]] w fun e w' => e = .returned (.bool true) ∧ Below w.heap.size w w' := by
  have hB : Below w.heap.size w ((w.alloc (.cells #[.int .i64 Q, .slice ao n ca] 24)).alloc (.cells #[.int .i64 Q, .slice bo n cb] 24)) := ((Below.refl _ _).alloc (Nat.le_refl _) _).alloc (by simp) _
  go_enter Tryz.func15, Tryz.ntmps15
  go_wp2_with fail
  refine (eqFileS_same ao bo n ca cb F _ (hr.keep hB) (hs.keep hB) hn hz).mono ?_
  rintro e w1 ⟨rfl, hb⟩
  have hbw : Below w.heap.size w w1 := hB.trans (hb.mono (by simp; omega))
  clear hb hB
  go_wp2
  go_ret
  exact ⟨rfl, hbw⟩
end Go.Proofs.YtapmbgmmonhdoaaGreatDoor
