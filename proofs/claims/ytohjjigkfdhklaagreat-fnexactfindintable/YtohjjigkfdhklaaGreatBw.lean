/- The reader of bytes: so many bytes, and a kind. -/
import Derived.Test.YtohjjigkfdhklaaGreatOh
import Derived.BigQuiet
namespace Go.Proofs.YtohjjigkfdhklaaGreat
set_option maxRecDepth 100000
open Go.RowKit
set_option linter.unusedSimpArgs false
set_option linter.unusedVariables false

/-- What take leaves. -/
def TakR (f : Nat → Int) (B bb bo n cap q : Nat) (t : Bool) (m : Nat) (w : World) (e : Ending) (w' : World) : Prop :=
  ((q + m ≤ n ∧ ∃ A c, e = .returned (.slice A m c) ∧ m ≤ c ∧ (A = some ⟨bb, bo + q, none⟩ ∨ m = 0) ∧ (∃ b o, A = some ⟨b, o, none⟩) ∧ BR w' B (some ⟨bb, bo, none⟩) n cap (q + m) t) ∨ (¬ q + m ≤ n ∧ e = .returned (.slice none 0 0) ∧ BR w' B (some ⟨bb, bo, none⟩) n cap q true)) ∧ Mid B (B + 1) w w'

set_option maxHeartbeats 3200000 in
theorem take_any (f : Nat → Int) (B bb bo n cap q : Nat) (t : Bool) (m : Nat) (hm : m ≤ 9223372036854775807) (w : World) (hB : BR w B (some ⟨bb, bo, none⟩) n cap q t) (hn : n ≤ 1048576) (hcap : n ≤ cap) (hq : q ≤ n) :
    Calls Tryz.prog 129 #[.pointer (some ⟨B, 0, none⟩), .int .i64 (m : Nat)] w fun e w' => TakR f B bb bo n cap q t m w e w' := by
  have hws : IntKind.i64.wrap ((n : Int) - (q : Int)) = (n : Int) - (q : Int) := by rw [IntKind.wrap_i64] <;> omega
  obtain ⟨_, c0, c1, c2, fz⟩ := hB
  have hB : BR w B (some ⟨bb, bo, none⟩) n cap q t := ⟨by assumption, c0, c1, c2, fz⟩
  have B1 := hB.keep (Below.refl _ w).drew
  have M1 : Mid B (B + 1) w w.drew := Mid.of_below (Below.refl _ w).drew
  by_cases hlt : q + m ≤ n
  · have hc : ¬ (n : Int) - (q : Int) < (m : Int) := by omega
    have hwa : IntKind.i64.wrap ((q : Int) + (m : Int)) = (q : Int) + (m : Int) := by rw [IntKind.wrap_i64] <;> omega
    have hqm : q + m - q = m := by omega
    have hqc : q + m ≤ cap := by omega
    have B3 : BR w.drew.drew B (some ⟨bb, bo, none⟩) n cap q t := B1.keep (Below.refl _ _).drew
    have B4 := B3.set1 (q + m)
    have M4 : Mid B (B + 1) w (w.drew.drew.setCell ⟨B, 1, none⟩ (.int .i64 ((q + m : Nat) : Int))) := (M1.trans (Mid.of_below (Below.refl _ w.drew).drew)).trans (Mid.of_others (Others.setCell _ B 1 _) (Nat.le_refl _) (Nat.lt_succ_self _))
    rw [show ((q + m : Nat) : Int) = (q : Int) + (m : Int) from by omega] at B4 M4
    rcases Nat.lt_or_ge q cap with hlc | hlc
    · have hcq : ¬ cap = q := by omega
      go_enter Tryz.func129, Tryz.ntmps129
      go_wp2
      go_region
      go_wp2
      go_region
      go_wp2
      refine bodyPost_ret (v := .slice (some ⟨bb, bo + q, none⟩) m (cap - q)) (by simp [results, Tryz.results129, go_sem, hqm]) rfl ?_
      exact ⟨.inl ⟨hlt, _, _, rfl, by omega, .inl rfl, ⟨_, _, rfl⟩, B4⟩, M4⟩
    · obtain rfl : cap = q := by omega
      obtain rfl : m = 0 := by omega
      obtain rfl : n = cap := by omega
      go_enter Tryz.func129, Tryz.ntmps129
      go_wp2
      go_region
      go_wp2
      go_region
      go_wp2
      refine bodyPost_ret (v := .slice (some ⟨bb, bo, none⟩) 0 0) (by simp [results, Tryz.results129, go_sem]) rfl ?_
      simp only [Int.natCast_zero, Int.add_zero, Nat.add_zero] at B4 M4
      exact ⟨.inl ⟨hlt, _, _, rfl, Nat.le_refl _, .inr rfl, ⟨_, _, rfl⟩, B4⟩, M4⟩
  · have hc : (n : Int) - (q : Int) < (m : Int) := by omega
    have B2 := B1.set2 true
    have M2 := M1.trans (Mid.of_others (Others.setCell w.drew B 2 (.bool true)) (Nat.le_refl _) (Nat.lt_succ_self _))
    go_enter Tryz.func129, Tryz.ntmps129
    go_wp2
    go_region
    go_wp2
    go_ret
    exact ⟨.inr ⟨hlt, rfl, B2⟩, M2⟩

/-- What kind leaves. -/
def KinR (f : Nat → Int) (B bb bo n cap q : Nat) (t : Bool) (w : World) (e : Ending) (w' : World) : Prop :=
  ((q + 1 ≤ n ∧ t = false ∧ e = .returned (.int .i64 (f q)) ∧ BR w' B (some ⟨bb, bo, none⟩) n cap (q + 1) false) ∨ (¬ (q + 1 ≤ n ∧ t = false) ∧ e = .returned (.int .i64 0) ∧ ∃ q', q' ≤ n ∧ BR w' B (some ⟨bb, bo, none⟩) n cap q' true)) ∧ Mid B (B + 1) w w'

set_option maxHeartbeats 3200000 in
theorem kind_any (f : Nat → Int) (B bb bo n cap q : Nat) (t : Bool) (w : World) (hB : BR w B (some ⟨bb, bo, none⟩) n cap q t) (hr : Row w (some ⟨bb, bo, none⟩) n f) (hne : bb ≠ B) (hn : n ≤ 1048576) (hcap : n ≤ cap) (hq : q ≤ n) :
    Calls Tryz.prog 128 #[.pointer (some ⟨B, 0, none⟩)] w fun e w' => KinR f B bb bo n cap q t w e w' := by
  have hcall := take_any f B bb bo n cap q t 1 (by omega) w hB hn hcap hq
  go_enter Tryz.func128, Tryz.ntmps128
  go_wp2_with fail
  refine hcall.mono ?_
  rintro e w1 ⟨⟨h1, A, c, rfl, hc, hA, _, B1⟩ | ⟨h1, rfl, B1⟩, M1⟩
  · obtain rfl : A = some ⟨bb, bo + q, none⟩ := hA.resolve_right (by omega)
    have hr1 := M1.row hr (fun b o e _ => by injection e with e; injection e with e1 e2; omega)
    obtain ⟨b', o', e, hlt, hcc⟩ := hr1.lies.resolve_left (by omega)
    injection e with e
    injection e with e1 e2 _
    subst e1 e2
    have hcell := hcc q (by omega)
    have hfb := hr.bd q
    have hw : IntKind.i64.wrap (f q) = f q := by rw [IntKind.wrap_i64]; omega
    obtain ⟨_, d0, d1, d2, dz⟩ := B1
    have B1 : BR w1 B (some ⟨bb, bo, none⟩) n cap (q + 1) t := ⟨by assumption, d0, d1, d2, dz⟩
    clear hcall hcc hr1
    have h01 : 0 < 1 := by omega
    cases t
    · go_wp2
      go_ret
      exact ⟨.inl ⟨h1, rfl, rfl, B1⟩, M1⟩
    · go_wp2
      go_ret
      exact ⟨.inr ⟨by simp, rfl, q + 1, h1, B1⟩, M1⟩
  · obtain ⟨_, d0, d1, d2, dz⟩ := B1
    have B1 : BR w1 B (some ⟨bb, bo, none⟩) n cap q true := ⟨by assumption, d0, d1, d2, dz⟩
    clear hcall
    go_wp2
    go_ret
    exact ⟨.inr ⟨fun h => h1 h.1, rfl, q, hq, B1⟩, M1⟩
end Go.Proofs.YtohjjigkfdhklaaGreat
