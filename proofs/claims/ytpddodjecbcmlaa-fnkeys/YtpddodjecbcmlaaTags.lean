/- Tags in memory: copied, compared. -/
import Derived.Test.YtpddodjecbcmlaaNames
import Derived.Deep.RegionWith
namespace Go.Proofs.Ytpddodjecbcmlaa
open Go.RowKit
set_option linter.unusedSimpArgs false
set_option linter.unusedVariables false

/-- n tags, their names and values, lie at ao. -/
structure TRow (w : World) (ao : Option Addr) (n : Nat) (nm vl : Nat → ByteArray) : Prop where
  lies : n = 0 ∨ ∃ b off, ao = some ⟨b, off, none⟩ ∧ b < w.heap.size ∧ ∀ i, i < n → w.cell? ⟨b, off + i * 2, none⟩ = some (.string (nm i)) ∧ w.cell? ⟨b, off + i * 2 + 1, none⟩ = some (.string (vl i))

theorem TRow.keep {w w' : World} {ao : Option Addr} {n : Nat} {nm vl : Nat → ByteArray} (h : TRow w ao n nm vl) (hb : Below w.heap.size w w') : TRow w' ao n nm vl :=
  ⟨h.lies.elim .inl fun ⟨b, off, e, hlt, hc⟩ => .inr ⟨b, off, e, Nat.lt_of_lt_of_le hlt hb.size, fun i hi => ⟨(hb.cell (p := ⟨b, off + i * 2, none⟩) hlt).trans (hc i hi).1, (hb.cell (p := ⟨b, off + i * 2 + 1, none⟩) hlt).trans (hc i hi).2⟩⟩⟩

theorem eqTag_same (a b : ByteArray) (w : World) :
    Calls Try.prog 57 #[.agg #[.string a, .string b], .agg #[.string a, .string b]] w fun e w' => e = .returned (.bool true) ∧ Below w.heap.size w w' := by
  go_enter Try.func57, Try.ntmps57
  go_wp2
  go_ret
  exact ⟨rfl, ((Below.refl _ _).alloc (Nat.le_refl _) _).alloc (by simp) _⟩

set_option maxHeartbeats 400000 in
theorem eqTagS_same (ao bo : Option Addr) (n ca cb : Nat) (nm vl : Nat → ByteArray) (w : World) (hr : TRow w ao n nm vl) (hs : TRow w bo n nm vl) (hn : n ≤ 1048576) :
    Calls Try.prog 44 #[.slice ao n ca, .slice bo n cb] w fun e w' => e = .returned (.bool true) ∧ Below w.heap.size w w' := by
  obtain ⟨hl⟩ := hr
  obtain ⟨hm⟩ := hs
  go_enter Try.func44, Try.ntmps44
  go_wp2
  go_loopw [5] (fun i wr => ∃ k : Nat, k ≤ n ∧ i = .int .i64 k ∧ Below w.heap.size w wr) (fun i _ => n - (intOf i).toNat)
  case atStart => exact ⟨0, Nat.zero_le _, rfl, Below.refl _ _⟩
  case round =>
    obtain ⟨k, hk, rfl, hbk⟩ := hrel
    by_cases hlt : k < n
    · obtain ⟨b, off, rfl, hblt, hc⟩ := hl.resolve_left (by omega)
      obtain ⟨b', off', rfl, hblt', hc'⟩ := hm.resolve_left (by omega)
      have h1 : wr.cell? ⟨b, off + k * 2, none⟩ = some (.string (nm k)) := (hbk.cell (p := ⟨b, off + k * 2, none⟩) hblt).trans (hc k hlt).1
      have h1' : wr.cell? ⟨b, off + k * 2 + 1, none⟩ = some (.string (vl k)) := (hbk.cell (p := ⟨b, off + k * 2 + 1, none⟩) hblt).trans (hc k hlt).2
      have h2 : wr.cell? ⟨b', off' + k * 2, none⟩ = some (.string (nm k)) := (hbk.cell (p := ⟨b', off' + k * 2, none⟩) hblt').trans (hc' k hlt).1
      have h2' : wr.cell? ⟨b', off' + k * 2 + 1, none⟩ = some (.string (vl k)) := (hbk.cell (p := ⟨b', off' + k * 2 + 1, none⟩) hblt').trans (hc' k hlt).2
      clear hc hc' hl hm
      go_wp2
      go_region_with (go_at_call 57; refine (eqTag_same _ _ _).mono ?_; rintro e w' ⟨rfl, hb⟩)
      all_goals
        have hb := hb.mono hbk.size
        have hbw : Below w.heap.size w _ := hbk.drew.trans hb
        clear hb
        go_wp2
        go_roundw
        case rel => exact ⟨k + 1, by omega, by go_num, hbw⟩
        case measure => simp [intOf]; omega
    · go_wp2
      go_ret
      exact ⟨rfl, hbk⟩
end Go.Proofs.Ytpddodjecbcmlaa
