/- Files in memory: measured, copied, compared. -/
import Derived.Test.YtgedpjabjoodjaaDoorNames
import Derived.Deep.RegionWith
import Derived.Deep.RegionHeld3
namespace Go.Proofs.YtgedpjabjoodjaaDoor
open Go.RowKit
set_option linter.unusedSimpArgs false
set_option linter.unusedVariables false

/-- What a file holds: its name, its bytes, how many of them are synced. -/
structure Fil where
  nm : ByteArray
  len : Nat
  f : Nat → Int
  sy : Int
/-- A file lies in the three cells from off on. -/
structure FAt (w : World) (b off : Nat) (x : Fil) (da : Option Addr) (dc : Nat) : Prop where
  c0 : w.cell? ⟨b, off, none⟩ = some (.string x.nm)
  c1 : w.cell? ⟨b, off + 1, none⟩ = some (.slice da x.len dc)
  c2 : w.cell? ⟨b, off + 2, none⟩ = some (.int .i64 x.sy)
  row : Row w da x.len x.f
theorem FAt.keep {w w' : World} {B b off : Nat} {x : Fil} {da : Option Addr} {dc : Nat} (h : FAt w b off x da dc) (hlt : b < w.heap.size) (hb : Below w.heap.size w w') : FAt w' b off x da dc :=
  ⟨(hb.cell (p := ⟨b, off, none⟩) hlt).trans h.c0, (hb.cell (p := ⟨b, off + 1, none⟩) hlt).trans h.c1, (hb.cell (p := ⟨b, off + 2, none⟩) hlt).trans h.c2, h.row.keep hb⟩
/-- n files lie at ao. -/
structure FRow (w : World) (ao : Option Addr) (n : Nat) (F : Nat → Fil) : Prop where
  lies : n = 0 ∨ ∃ b off, ao = some ⟨b, off, none⟩ ∧ b < w.heap.size ∧ ∀ i, i < n → ∃ da dc, FAt w b (off + i * 3) (F i) da dc
theorem FRow.keep {w w' : World} {ao : Option Addr} {n : Nat} {F : Nat → Fil} (h : FRow w ao n F) (hb : Below w.heap.size w w') : FRow w' ao n F :=
  ⟨h.lies.elim .inl fun ⟨b, off, e, hlt, hc⟩ => .inr ⟨b, off, e, Nat.lt_of_lt_of_le hlt hb.size, fun i hi => by obtain ⟨da, dc, h⟩ := hc i hi; exact ⟨da, dc, h.keep (B := 0) hlt hb⟩⟩⟩

/-- What a measure leaves. -/
def SzOut (left : Int) (P : Prop) (w : World) (e : Ending) (w' : World) : Prop :=
  ∃ v : Int, e = .returned (.int .i64 v) ∧ -1 ≤ v ∧ v ≤ left ∧ (0 ≤ v → P) ∧ Below w.heap.size w w'

theorem szByteS_any (ao : Option Addr) (n cap : Nat) (left : Int) (w : World) (hl : 0 ≤ left ∧ left ≤ 1048576) (hn : n ≤ 9223372036854775807) :
    Calls Tryd.prog 76 #[.slice ao n cap, .int .i64 left] w fun e w' => SzOut left (n ≤ 1048576) w e w' := by
  by_cases h1 : left - (n : Int) < 0
  · go_enter Tryd.func76, Tryd.ntmps76
    go_wp2
    go_ret
    exact ⟨-1, rfl, by omega, by omega, fun h => by omega, Below.refl _ _⟩
  · go_enter Tryd.func76, Tryd.ntmps76
    go_wp2
    go_ret
    exact ⟨_, rfl, by omega, by omega, fun h => by omega, Below.refl _ _⟩

set_option maxHeartbeats 400000 in
theorem szFile_any (nm : ByteArray) (da : Option Addr) (len dc : Nat) (sy : Int) (left : Int) (w : World) (hl : 0 ≤ left ∧ left ≤ 1048576) (hm : nm.size ≤ 9223372036854775807) (hn : len ≤ 9223372036854775807) :
    Calls Tryd.prog 62 #[.agg #[.string nm, .slice da len dc, .int .i64 sy], .int .i64 left] w fun e w' => SzOut left (nm.size ≤ 1048576 ∧ len ≤ 1048576) w e w' := by
  by_cases h1 : left - (nm.size : Int) < 0
  · go_enter Tryd.func62, Tryd.ntmps62
    go_wp2
    go_ret
    exact ⟨-1, rfl, by omega, by omega, fun h => by omega, (Below.refl _ _).alloc (Nat.le_refl _) _⟩
  · go_enter Tryd.func62, Tryd.ntmps62
    go_wp2_with fail
    refine (szByteS_any da len dc _ _ (by omega) hn).mono ?_
    rintro e w1 ⟨v, rfl, hv1, hv2, hv3, hb⟩
    have hbw : Below w.heap.size w w1 := ((Below.refl _ _).alloc (Nat.le_refl _) _).trans (hb.mono (by simp))
    by_cases hv : v < 0
    · clear hv3
      go_wp2
      go_ret
      exact ⟨-1, rfl, by omega, by omega, fun h => by omega, hbw⟩
    · have H : Hid (len ≤ 1048576) := hv3 (by omega)
      clear hv3
      go_wp2
      go_ret
      exact ⟨v, rfl, by omega, by omega, fun _ => ⟨by omega, H.out⟩, hbw⟩

def FSize (n : Nat) (F : Nat → Fil) (B : Nat) : Prop := ∀ i, i < n → (F i).nm.size ≤ B ∧ (F i).len ≤ B

set_option maxHeartbeats 400000 in
theorem szFileS_any (ao : Option Addr) (n cap : Nat) (F : Nat → Fil) (left : Int) (w : World) (hr : FRow w ao n F) (hl : 0 ≤ left ∧ left ≤ 1048576) (hn : n ≤ 9223372036854775807) (hs : FSize n F 9223372036854775807) :
    Calls Tryd.prog 36 #[.slice ao n cap, .int .i64 left] w fun e w' => SzOut left (n ≤ 1048576 ∧ FSize n F 1048576) w e w' := by
  obtain ⟨hlies⟩ := hr
  by_cases h1 : left - (n : Int) < 0
  · go_enter Tryd.func36, Tryd.ntmps36
    go_wp2
    go_ret
    exact ⟨-1, rfl, by omega, by omega, fun h => by omega, Below.refl _ _⟩
  · go_enter Tryd.func36, Tryd.ntmps36
    go_wp2
    go_loopw [1, 5] (fun q i wr => ∃ (k : Nat) (l : Int), k ≤ n ∧ i = .int .i64 k ∧ q = .int .i64 l ∧ 0 ≤ l ∧ l ≤ left ∧ Hid (∀ i, i < k → (F i).nm.size ≤ 1048576 ∧ (F i).len ≤ 1048576) ∧ Below w.heap.size w wr) (fun _ i _ => n - (intOf i).toNat)
    case atStart => exact ⟨0, _, Nat.zero_le _, rfl, rfl, by omega, by omega, fun i h => by omega, Below.refl _ _⟩
    case round =>
      obtain ⟨k, l, hk, rfl, rfl, hl0, hl1, HS, hbk⟩ := hrel
      by_cases hlt : k < n
      · obtain ⟨b, off, rfl, hblt, hc⟩ := hlies.resolve_left (by omega)
        obtain ⟨da, dc, hf⟩ := hc k hlt
        have hc1 : wr.cell? ⟨b, off + k * 3, none⟩ = some (.string (F k).nm) := (hbk.cell (p := ⟨b, off + k * 3, none⟩) hblt).trans hf.c0
        have hc2 : wr.cell? ⟨b, off + k * 3 + 1, none⟩ = some (.slice da (F k).len dc) := (hbk.cell (p := ⟨b, off + k * 3 + 1, none⟩) hblt).trans hf.c1
        have hc3 : wr.cell? ⟨b, off + k * 3 + 2, none⟩ = some (.int .i64 (F k).sy) := (hbk.cell (p := ⟨b, off + k * 3 + 2, none⟩) hblt).trans hf.c2
        have hsk := hs k hlt
        clear hc hlies hf
        go_wp2_with fail
        refine (szFile_any _ _ _ _ _ _ _ (by omega) hsk.1 hsk.2).mono ?_
        rintro e w2 ⟨v, rfl, hv1, hv2, hv3, hb2⟩
        have hbw := hbk.trans (hb2.mono hbk.size)
        by_cases hv : v < 0
        · clear hv3
          go_wp2
          go_ret
          exact ⟨-1, rfl, by omega, by omega, fun h => by omega, hbw⟩
        · have hq := hv3 (by omega)
          have HS' : Hid (∀ i, i < k + 1 → (F i).nm.size ≤ 1048576 ∧ (F i).len ≤ 1048576) := fun i h => by
            rcases Nat.lt_succ_iff_lt_or_eq.1 h with h | h
            · exact HS.out i h
            · subst h; exact hq
          clear hv3 hq
          go_wp2
          go_roundw
          case rel => exact ⟨k + 1, v, by omega, by go_num, rfl, by omega, by omega, HS', hbw⟩
          case measure => simp [intOf]; omega
      · have e : k = n := by omega
        subst e
        go_wp2
        go_ret
        exact ⟨l, rfl, by omega, by omega, fun _ => ⟨by omega, HS.out⟩, hbk⟩

set_option maxHeartbeats 400000 in
theorem szFiles_any (Q : Int) (ao : Option Addr) (n cap : Nat) (F : Nat → Fil) (left : Int) (w : World) (hr : FRow w ao n F) (hl : 0 ≤ left ∧ left ≤ 1048576) (hn : n ≤ 9223372036854775807) (hs : FSize n F 9223372036854775807) :
    Calls Tryd.prog 10 #[.agg #[.int .i64 Q, .slice ao n cap], .int .i64 left] w fun e w' => SzOut left (n ≤ 1048576 ∧ FSize n F 1048576) w e w' := by
  go_enter Tryd.func10, Tryd.ntmps10
  go_wp2_with fail
  refine (szFileS_any ao n cap F _ _ (hr.keep ((Below.refl _ _).alloc (Nat.le_refl _) _)) hl hn hs).mono ?_
  rintro e w1 ⟨v, rfl, hv1, hv2, hv3, hb⟩
  have hbw : Below w.heap.size w w1 := ((Below.refl _ _).alloc (Nat.le_refl _) _).trans (hb.mono (by simp))
  by_cases hv : v < 0
  · clear hv3
    go_wp2
    go_ret
    exact ⟨-1, rfl, by omega, by omega, fun h => by omega, hbw⟩
  · have H : Hid (n ≤ 1048576 ∧ FSize n F 1048576) := hv3 (by omega)
    clear hv3
    go_wp2
    go_ret
    exact ⟨v, rfl, by omega, by omega, fun _ => H.out, hbw⟩

set_option maxHeartbeats 400000 in
theorem eqFile_same (nm : ByteArray) (sy : Int) (da db : Option Addr) (len ca cb : Nat) (f : Nat → Int) (w : World) (hr : Row w da len f) (hs : Row w db len f) (hn : len ≤ 1048576) :
    Calls Tryd.prog 70 #[.agg #[.string nm, .slice da len ca, .int .i64 sy], .agg #[.string nm, .slice db len cb, .int .i64 sy]] w fun e w' => e = .returned (.bool true) ∧ Below w.heap.size w w' := by
  have hB : Below w.heap.size w ((w.alloc (.cells #[.string nm, .slice da len ca, .int .i64 sy] 73)).alloc (.cells #[.string nm, .slice db len cb, .int .i64 sy] 73)) := ((Below.refl _ _).alloc (Nat.le_refl _) _).alloc (by simp) _
  go_enter Tryd.func70, Tryd.ntmps70
  go_wp2_with fail
  refine (eqByteS_same da db len ca cb f _ (hr.keep hB) (hs.keep hB) hn).mono ?_
  rintro e w1 ⟨rfl, hb⟩
  have hbw : Below w.heap.size w w1 := hB.trans (hb.mono (by simp; omega))
  have c0 : w1.cell? ⟨w.heap.size, 2, none⟩ = some (.int .i64 sy) := (hb.cell (p := ⟨w.heap.size, 2, none⟩) (by simp; omega)).trans (by simp [go_sem])
  have c1 : w1.cell? ⟨w.heap.size + 1, 2, none⟩ = some (.int .i64 sy) := (hb.cell (p := ⟨w.heap.size + 1, 2, none⟩) (by simp)).trans (by simp [go_sem])
  clear hb hB
  go_wp2
  go_ret
  exact ⟨rfl, hbw⟩

set_option maxHeartbeats 1000000 in
theorem eqFileS_same (ao bo : Option Addr) (n ca cb : Nat) (F : Nat → Fil) (w : World) (hr : FRow w ao n F) (hs : FRow w bo n F) (hn : n ≤ 1048576) (hz : FSize n F 1048576) :
    Calls Tryd.prog 45 #[.slice ao n ca, .slice bo n cb] w fun e w' => e = .returned (.bool true) ∧ Below w.heap.size w w' := by
  obtain ⟨hl⟩ := hr
  obtain ⟨hm⟩ := hs
  go_enter Tryd.func45, Tryd.ntmps45
  go_wp2
  go_loopw [5] (fun i wr => ∃ k : Nat, k ≤ n ∧ i = .int .i64 k ∧ Below w.heap.size w wr) (fun i _ => n - (intOf i).toNat)
  case atStart => exact ⟨0, Nat.zero_le _, rfl, Below.refl _ _⟩
  case round =>
    obtain ⟨k, hk, rfl, hbk⟩ := hrel
    by_cases hlt : k < n
    · obtain ⟨b, off, rfl, hblt, hc⟩ := hl.resolve_left (by omega)
      obtain ⟨b', off', rfl, hblt', hc'⟩ := hm.resolve_left (by omega)
      obtain ⟨da, dc, hf⟩ := hc k hlt
      obtain ⟨da', dc', hf'⟩ := hc' k hlt
      have hlen := (hz k hlt).2
      have h0 : wr.cell? ⟨b, off + k * 3, none⟩ = some (.string (F k).nm) := (hbk.cell (p := ⟨b, off + k * 3, none⟩) hblt).trans hf.c0
      have h1 : wr.cell? ⟨b, off + k * 3 + 1, none⟩ = some (.slice da (F k).len dc) := (hbk.cell (p := ⟨b, off + k * 3 + 1, none⟩) hblt).trans hf.c1
      have h2 : wr.cell? ⟨b, off + k * 3 + 2, none⟩ = some (.int .i64 (F k).sy) := (hbk.cell (p := ⟨b, off + k * 3 + 2, none⟩) hblt).trans hf.c2
      have h0' : wr.cell? ⟨b', off' + k * 3, none⟩ = some (.string (F k).nm) := (hbk.cell (p := ⟨b', off' + k * 3, none⟩) hblt').trans hf'.c0
      have h1' : wr.cell? ⟨b', off' + k * 3 + 1, none⟩ = some (.slice da' (F k).len dc') := (hbk.cell (p := ⟨b', off' + k * 3 + 1, none⟩) hblt').trans hf'.c1
      have h2' : wr.cell? ⟨b', off' + k * 3 + 2, none⟩ = some (.int .i64 (F k).sy) := (hbk.cell (p := ⟨b', off' + k * 3 + 2, none⟩) hblt').trans hf'.c2
      have r1 := (hf.row.keep hbk).keep (Below.refl _ _).drew
      have r2 := (hf'.row.keep hbk).keep (Below.refl _ _).drew
      clear hc hc' hl hm hf hf'
      go_wp2
      go_region_held3 (fun w' => w'.cell? ⟨b, off + k * 3, none⟩ = some (.string (F k).nm) ∧ w'.cell? ⟨b, off + k * 3 + 1, none⟩ = some (.slice da (F k).len dc) ∧ w'.cell? ⟨b, off + k * 3 + 2, none⟩ = some (.int .i64 (F k).sy) ∧ w'.cell? ⟨b', off' + k * 3, none⟩ = some (.string (F k).nm) ∧ w'.cell? ⟨b', off' + k * 3 + 1, none⟩ = some (.slice da' (F k).len dc') ∧ w'.cell? ⟨b', off' + k * 3 + 2, none⟩ = some (.int .i64 (F k).sy)) (go_keep) (first | (go_at_call 70; refine (eqFile_same _ _ _ _ _ _ _ (F k).f _ r1 r2 hlen).mono ?_; rintro e w1 ⟨rfl, hb1⟩; have hb1' := (Below.refl _ wr).drew.trans hb1; have g0 := (hb1'.cell (p := ⟨b, off + k * 3, none⟩) (Nat.lt_of_lt_of_le hblt hbk.size)).trans h0; have g1 := (hb1'.cell (p := ⟨b, off + k * 3 + 1, none⟩) (Nat.lt_of_lt_of_le hblt hbk.size)).trans h1; have g2 := (hb1'.cell (p := ⟨b, off + k * 3 + 2, none⟩) (Nat.lt_of_lt_of_le hblt hbk.size)).trans h2; have g0' := (hb1'.cell (p := ⟨b', off' + k * 3, none⟩) (Nat.lt_of_lt_of_le hblt' hbk.size)).trans h0'; have g1' := (hb1'.cell (p := ⟨b', off' + k * 3 + 1, none⟩) (Nat.lt_of_lt_of_le hblt' hbk.size)).trans h1'; have g2' := (hb1'.cell (p := ⟨b', off' + k * 3 + 2, none⟩) (Nat.lt_of_lt_of_le hblt' hbk.size)).trans h2'; have bw1 : Below w.heap.size w w1 := hbk.trans (hb1'.mono hbk.size)))
      clear hb1 hb1' h0 h1 h2 h0' h1' h2' g0 g1 g2 g0' g1' g2' r1 r2
      go_wp2
      go_roundw
      case rel => exact ⟨k + 1, by omega, by go_num, bw1⟩
      case measure => simp [intOf]; omega
    · go_wp2
      go_ret
      exact ⟨rfl, hbk⟩

set_option maxHeartbeats 400000 in
theorem eqFiles_same (Q : Int) (ao bo : Option Addr) (n ca cb : Nat) (F : Nat → Fil) (w : World) (hr : FRow w ao n F) (hs : FRow w bo n F) (hn : n ≤ 1048576) (hz : FSize n F 1048576) :
    Calls Tryd.prog 14 #[.agg #[.int .i64 Q, .slice ao n ca], .agg #[.int .i64 Q, .slice bo n cb]] w fun e w' => e = .returned (.bool true) ∧ Below w.heap.size w w' := by
  have hB : Below w.heap.size w ((w.alloc (.cells #[.int .i64 Q, .slice ao n ca] 28)).alloc (.cells #[.int .i64 Q, .slice bo n cb] 28)) := ((Below.refl _ _).alloc (Nat.le_refl _) _).alloc (by simp) _
  go_enter Tryd.func14, Tryd.ntmps14
  go_wp2_with fail
  refine (eqFileS_same ao bo n ca cb F _ (hr.keep hB) (hs.keep hB) hn hz).mono ?_
  rintro e w1 ⟨rfl, hb⟩
  have hbw : Below w.heap.size w w1 := hB.trans (hb.mono (by simp; omega))
  clear hb hB
  go_wp2
  go_ret
  exact ⟨rfl, hbw⟩
end Go.Proofs.YtgedpjabjoodjaaDoor
