/- The laws' own measure of files, all of it. -/
import Derived.Test.YtgedpjabjoodjaaDoorGood
namespace Go.Proofs.YtgedpjabjoodjaaDoor
open Go.RowKit
set_option linter.unusedSimpArgs false
set_option linter.unusedVariables false

/-- What a measure leaves: c at least is gone. -/
def SzT (left : Int) (c : Nat) (P : Prop) (w : World) (e : Ending) (w' : World) : Prop :=
  ∃ v : Int, e = .returned (.int .i64 v) ∧ -1 ≤ v ∧ v ≤ left ∧ (0 ≤ v → v + (c : Int) ≤ left ∧ P) ∧ Below w.heap.size w w'

theorem szByteS_tot (ao : Option Addr) (n cap : Nat) (left : Int) (w : World) (hl : 0 ≤ left ∧ left ≤ 1048576) (hn : n ≤ 9223372036854775807) :
    Calls Tryd.prog 76 #[.slice ao n cap, .int .i64 left] w fun e w' => SzT left n True w e w' := by
  by_cases h1 : left - (n : Int) < 0
  · go_enter Tryd.func76, Tryd.ntmps76
    go_wp2
    go_ret
    exact ⟨-1, rfl, by omega, by omega, fun h => by omega, Below.refl _ _⟩
  · go_enter Tryd.func76, Tryd.ntmps76
    go_wp2
    go_ret
    exact ⟨_, rfl, by omega, by omega, fun h => ⟨by omega, trivial⟩, Below.refl _ _⟩

set_option maxHeartbeats 400000 in
theorem szFile_tot (nm : ByteArray) (da : Option Addr) (len dc : Nat) (sy : Int) (left : Int) (w : World) (hl : 0 ≤ left ∧ left ≤ 1048576) (hm : nm.size ≤ 9223372036854775807) (hn : len ≤ 9223372036854775807) :
    Calls Tryd.prog 62 #[.agg #[.string nm, .slice da len dc, .int .i64 sy], .int .i64 left] w fun e w' => SzT left len (nm.size ≤ 1048576 ∧ len ≤ 1048576) w e w' := by
  by_cases h1 : left - (nm.size : Int) < 0
  · go_enter Tryd.func62, Tryd.ntmps62
    go_wp2
    go_ret
    exact ⟨-1, rfl, by omega, by omega, fun h => by omega, (Below.refl _ _).alloc (Nat.le_refl _) _⟩
  · go_enter Tryd.func62, Tryd.ntmps62
    go_wp2_with fail
    refine (szByteS_tot da len dc _ _ (by omega) hn).mono ?_
    rintro e w1 ⟨v, rfl, hv1, hv2, hv3, hb⟩
    have hbw : Below w.heap.size w w1 := ((Below.refl _ _).alloc (Nat.le_refl _) _).trans (hb.mono (by simp))
    by_cases hv : v < 0
    · clear hv3
      go_wp2
      go_ret
      exact ⟨-1, rfl, by omega, by omega, fun h => by omega, hbw⟩
    · have H := (hv3 (by omega)).1
      clear hv3
      go_wp2
      go_ret
      exact ⟨v, rfl, by omega, by omega, fun _ => ⟨by omega, by omega, by omega⟩, hbw⟩

set_option maxHeartbeats 400000 in
theorem szFileS_tot (ao : Option Addr) (n cap : Nat) (F : Nat → Fil) (left : Int) (w : World) (hr : FRow w ao n F) (hl : 0 ≤ left ∧ left ≤ 1048576) (hn : n ≤ 9223372036854775807) (hs : FSize n F 9223372036854775807) :
    Calls Tryd.prog 36 #[.slice ao n cap, .int .i64 left] w fun e w' => SzT left (n + used F n) (n ≤ 1048576 ∧ FSize n F 1048576) w e w' := by
  obtain ⟨hlies⟩ := hr
  by_cases h1 : left - (n : Int) < 0
  · go_enter Tryd.func36, Tryd.ntmps36
    go_wp2
    go_ret
    exact ⟨-1, rfl, by omega, by omega, fun h => by omega, Below.refl _ _⟩
  · go_enter Tryd.func36, Tryd.ntmps36
    go_wp2
    go_loopw [1, 5] (fun q i wr => ∃ (k : Nat) (l : Int), k ≤ n ∧ i = .int .i64 k ∧ q = .int .i64 l ∧ 0 ≤ l ∧ l ≤ left ∧ l + (n : Int) + (used F k : Int) ≤ left ∧ Hid (∀ i, i < k → (F i).nm.size ≤ 1048576 ∧ (F i).len ≤ 1048576) ∧ Below w.heap.size w wr) (fun _ i _ => n - (intOf i).toNat)
    case atStart => exact ⟨0, _, Nat.zero_le _, rfl, rfl, by omega, by omega, by simp [used], fun i h => by omega, Below.refl _ _⟩
    case round =>
      obtain ⟨k, l, hk, rfl, rfl, hl0, hl1, hl2, HS, hbk⟩ := hrel
      by_cases hlt : k < n
      · obtain ⟨b, off, rfl, hblt, hc⟩ := hlies.resolve_left (by omega)
        obtain ⟨da, dc, hf⟩ := hc k hlt
        have hc1 : wr.cell? ⟨b, off + k * 3, none⟩ = some (.string (F k).nm) := (hbk.cell (p := ⟨b, off + k * 3, none⟩) hblt).trans hf.c0
        have hc2 : wr.cell? ⟨b, off + k * 3 + 1, none⟩ = some (.slice da (F k).len dc) := (hbk.cell (p := ⟨b, off + k * 3 + 1, none⟩) hblt).trans hf.c1
        have hc3 : wr.cell? ⟨b, off + k * 3 + 2, none⟩ = some (.int .i64 (F k).sy) := (hbk.cell (p := ⟨b, off + k * 3 + 2, none⟩) hblt).trans hf.c2
        have hsk := hs k hlt
        have huk : used F (k + 1) = used F k + (F k).len := rfl
        clear hc hlies hf
        go_wp2_with fail
        refine (szFile_tot _ _ _ _ _ _ _ (by omega) hsk.1 hsk.2).mono ?_
        rintro e w2 ⟨v, rfl, hv1, hv2, hv3, hb2⟩
        have hbw := hbk.trans (hb2.mono hbk.size)
        by_cases hv : v < 0
        · clear hv3
          go_wp2
          go_ret
          exact ⟨-1, rfl, by omega, by omega, fun h => by omega, hbw⟩
        · obtain ⟨hc, hq⟩ := hv3 (by omega)
          have HS' : Hid (∀ i, i < k + 1 → (F i).nm.size ≤ 1048576 ∧ (F i).len ≤ 1048576) := fun i h => by
            rcases Nat.lt_succ_iff_lt_or_eq.1 h with h | h
            · exact HS.out i h
            · subst h; exact hq
          clear hv3 hq
          go_wp2
          go_roundw
          case rel => exact ⟨k + 1, v, by omega, by go_num, rfl, by omega, by omega, by rw [huk]; omega, HS', hbw⟩
          case measure => simp [intOf]; omega
      · have e : k = n := by omega
        subst e
        go_wp2
        go_ret
        exact ⟨l, rfl, by omega, by omega, fun _ => ⟨by omega, by omega, HS.out⟩, hbk⟩

set_option maxHeartbeats 400000 in
theorem szFiles_tot (Q : Int) (ao : Option Addr) (n cap : Nat) (F : Nat → Fil) (left : Int) (w : World) (hr : FRow w ao n F) (hl : 0 ≤ left ∧ left ≤ 1048576) (hn : n ≤ 9223372036854775807) (hs : FSize n F 9223372036854775807) :
    Calls Tryd.prog 10 #[.agg #[.int .i64 Q, .slice ao n cap], .int .i64 left] w fun e w' => SzT left (n + used F n) (n ≤ 1048576 ∧ FSize n F 1048576) w e w' := by
  go_enter Tryd.func10, Tryd.ntmps10
  go_wp2_with fail
  refine (szFileS_tot ao n cap F _ _ (hr.keep ((Below.refl _ _).alloc (Nat.le_refl _) _)) hl hn hs).mono ?_
  rintro e w1 ⟨v, rfl, hv1, hv2, hv3, hb⟩
  have hbw : Below w.heap.size w w1 := ((Below.refl _ _).alloc (Nat.le_refl _) _).trans (hb.mono (by simp))
  by_cases hv : v < 0
  · clear hv3
    go_wp2
    go_ret
    exact ⟨-1, rfl, by omega, by omega, fun h => by omega, hbw⟩
  · have H : Hid (v + ((n + used F n : Nat) : Int) ≤ left ∧ n ≤ 1048576 ∧ FSize n F 1048576) := hv3 (by omega)
    clear hv3
    go_wp2
    go_ret
    exact ⟨v, rfl, by omega, by omega, fun _ => H.out, hbw⟩
end Go.Proofs.YtgedpjabjoodjaaDoor
