/- The laws' own measure of a key, and two keys compared. -/
import Derived.Test.YtjdijikmdlklkaaToKey
namespace Go.Proofs.Ytjdijikmdlklkaa
open Go.RowKit
set_option linter.unusedSimpArgs false
set_option linter.unusedVariables false

/-- What szTag leaves. -/
def SzOut (left : Int) (P : Prop) (w : World) (e : Ending) (w' : World) : Prop :=
  ∃ v : Int, e = .returned (.int .i64 v) ∧ -1 ≤ v ∧ v ≤ left ∧ (0 ≤ v → P) ∧ Below w.heap.size w w'

set_option maxHeartbeats 400000 in
theorem szTag_any (a b : ByteArray) (left : Int) (w : World) (hl : 0 ≤ left ∧ left ≤ 1048576) (ha : a.size ≤ 9223372036854775807) (hb : b.size ≤ 9223372036854775807) :
    Calls Try.prog 58 #[.agg #[.string a, .string b], .int .i64 left] w fun e w' => SzOut left (a.size ≤ 1048576 ∧ b.size ≤ 1048576) w e w' := by
  by_cases h1 : left - (a.size : Int) < 0
  · go_enter Try.func58, Try.ntmps58
    go_wp2
    go_ret
    exact ⟨-1, rfl, by omega, by omega, fun h => by omega, (Below.refl _ _).alloc (Nat.le_refl _) _⟩
  · by_cases h2 : left - (a.size : Int) - (b.size : Int) < 0
    · go_enter Try.func58, Try.ntmps58
      go_wp2
      go_ret
      exact ⟨-1, rfl, by omega, by omega, fun h => by omega, (Below.refl _ _).alloc (Nat.le_refl _) _⟩
    · go_enter Try.func58, Try.ntmps58
      go_wp2
      go_ret
      exact ⟨_, rfl, by omega, by omega, fun h => by omega, (Below.refl _ _).alloc (Nat.le_refl _) _⟩

def TSize (n : Nat) (nm vl : Nat → ByteArray) (B : Nat) : Prop := ∀ i, i < n → (nm i).size ≤ B ∧ (vl i).size ≤ B

set_option maxHeartbeats 400000 in
theorem szTagS_any (ao : Option Addr) (n cap : Nat) (nm vl : Nat → ByteArray) (left : Int) (w : World) (hr : TRow w ao n nm vl) (hl : 0 ≤ left ∧ left ≤ 1048576) (hn : n ≤ 9223372036854775807) (hs : TSize n nm vl 9223372036854775807) :
    Calls Try.prog 47 #[.slice ao n cap, .int .i64 left] w fun e w' => SzOut left (n ≤ 1048576 ∧ TSize n nm vl 1048576) w e w' := by
  obtain ⟨hlies⟩ := hr
  by_cases h1 : left - (n : Int) < 0
  · go_enter Try.func47, Try.ntmps47
    go_wp2
    go_ret
    exact ⟨-1, rfl, by omega, by omega, fun h => by omega, Below.refl _ _⟩
  · go_enter Try.func47, Try.ntmps47
    go_wp2
    go_loopw [1, 5] (fun q i wr => ∃ (k : Nat) (l : Int), k ≤ n ∧ i = .int .i64 k ∧ q = .int .i64 l ∧ 0 ≤ l ∧ l ≤ left ∧ Hid (∀ i, i < k → (nm i).size ≤ 1048576 ∧ (vl i).size ≤ 1048576) ∧ Below w.heap.size w wr) (fun _ i _ => n - (intOf i).toNat)
    case atStart => exact ⟨0, _, Nat.zero_le _, rfl, rfl, by omega, by omega, fun i h => by omega, Below.refl _ _⟩
    case round =>
      obtain ⟨k, l, hk, rfl, rfl, hl0, hl1, HS, hbk⟩ := hrel
      by_cases hlt : k < n
      · obtain ⟨b, off, rfl, hblt, hc⟩ := hlies.resolve_left (by omega)
        have hc1 : wr.cell? ⟨b, off + k * 2, none⟩ = some (.string (nm k)) := (hbk.cell (p := ⟨b, off + k * 2, none⟩) hblt).trans (hc k hlt).1
        have hc2 : wr.cell? ⟨b, off + k * 2 + 1, none⟩ = some (.string (vl k)) := (hbk.cell (p := ⟨b, off + k * 2 + 1, none⟩) hblt).trans (hc k hlt).2
        have hsk := hs k hlt
        clear hc hlies
        go_wp2_with fail
        refine (szTag_any _ _ _ _ (by omega) hsk.1 hsk.2).mono ?_
        rintro e w2 ⟨v, rfl, hv1, hv2, hv3, hb2⟩
        have hbw := hbk.trans (hb2.mono hbk.size)
        by_cases hv : v < 0
        · clear hv3
          go_wp2
          go_ret
          exact ⟨-1, rfl, by omega, by omega, fun h => by omega, hbw⟩
        · have hq := hv3 (by omega)
          have HS' : Hid (∀ i, i < k + 1 → (nm i).size ≤ 1048576 ∧ (vl i).size ≤ 1048576) := fun i h => by
            rcases Nat.lt_succ_iff_lt_or_eq.1 h with h | h
            · exact HS.out i h
            · subst h; exact hq
          clear hv3 hq
          go_wp2
          go_roundw
          case rel => exact ⟨k + 1, v, by omega, by go_num, rfl, by omega, by omega, HS', hbw⟩
          case measure => simp [intOf]; omega
      · have e : k = n := by omega
        subst e
        go_wp2
        go_ret
        exact ⟨l, rfl, by omega, by omega, fun _ => ⟨by omega, HS.out⟩, hbk⟩

set_option maxHeartbeats 400000 in
theorem szKey_any (m : ByteArray) (st : Int) (ao : Option Addr) (n cap : Nat) (nm vl : Nat → ByteArray) (left : Int) (w : World) (hr : TRow w ao n nm vl) (hl : 0 ≤ left ∧ left ≤ 1048576) (hm : m.size ≤ 9223372036854775807) (hn : n ≤ 9223372036854775807) (hs : TSize n nm vl 9223372036854775807) :
    Calls Try.prog 28 #[.agg #[.string m, .slice ao n cap, .int .i64 st], .int .i64 left] w fun e w' => SzOut left (m.size ≤ 1048576 ∧ n ≤ 1048576 ∧ TSize n nm vl 1048576) w e w' := by
  by_cases h1 : left - (m.size : Int) < 0
  · go_enter Try.func28, Try.ntmps28
    go_wp2
    go_ret
    exact ⟨-1, rfl, by omega, by omega, fun h => by omega, (Below.refl _ _).alloc (Nat.le_refl _) _⟩
  · go_enter Try.func28, Try.ntmps28
    go_wp2_with fail
    refine (szTagS_any ao n cap nm vl _ _ (hr.keep ((Below.refl _ _).alloc (Nat.le_refl _) _)) (by omega) hn hs).mono ?_
    rintro e w1 ⟨v, rfl, hv1, hv2, hv3, hb⟩
    have hbw : Below w.heap.size w w1 := ((Below.refl _ _).alloc (Nat.le_refl _) _).trans (hb.mono (by simp))
    by_cases hv : v < 0
    · clear hv3
      go_wp2
      go_ret
      exact ⟨-1, rfl, by omega, by omega, fun h => by omega, hbw⟩
    · have H : Hid (n ≤ 1048576 ∧ TSize n nm vl 1048576) := hv3 (by omega)
      clear hv3
      go_wp2
      go_ret
      exact ⟨v, rfl, by omega, by omega, fun _ => ⟨by omega, H.out⟩, hbw⟩

set_option maxHeartbeats 400000 in
theorem eqKey_same (m : ByteArray) (st : Int) (ao bo : Option Addr) (n ca cb : Nat) (nm vl : Nat → ByteArray) (w : World) (hr : TRow w ao n nm vl) (hs : TRow w bo n nm vl) (hn : n ≤ 1048576) :
    Calls Try.prog 45 #[.agg #[.string m, .slice ao n ca, .int .i64 st], .agg #[.string m, .slice bo n cb, .int .i64 st]] w fun e w' => e = .returned (.bool true) ∧ Below w.heap.size w w' := by
  have hB : Below w.heap.size w ((w.alloc (.cells #[.string m, .slice ao n ca, .int .i64 st] 42)).alloc (.cells #[.string m, .slice bo n cb, .int .i64 st] 42)) := ((Below.refl _ _).alloc (Nat.le_refl _) _).alloc (by simp) _
  go_enter Try.func45, Try.ntmps45
  go_wp2_with fail
  refine (eqTagS_same ao bo n ca cb nm vl _ (hr.keep hB) (hs.keep hB) hn).mono ?_
  rintro e w1 ⟨rfl, hb⟩
  have hbw : Below w.heap.size w w1 := hB.trans (hb.mono (by simp; omega))
  have c0 : w1.cell? ⟨w.heap.size, 2, none⟩ = some (.int .i64 st) := (hb.cell (p := ⟨w.heap.size, 2, none⟩) (by simp; omega)).trans (by simp [go_sem])
  have c1 : w1.cell? ⟨w.heap.size + 1, 2, none⟩ = some (.int .i64 st) := (hb.cell (p := ⟨w.heap.size + 1, 2, none⟩) (by simp)).trans (by simp [go_sem])
  clear hb hB
  go_wp2
  go_ret
  exact ⟨rfl, hbw⟩
end Go.Proofs.Ytjdijikmdlklkaa
