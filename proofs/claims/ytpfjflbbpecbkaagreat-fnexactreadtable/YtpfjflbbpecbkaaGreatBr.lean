/- The reader of bytes: a number, so many bytes, a kind. -/
import Derived.Test.YtpfjflbbpecbkaaGreatRg
import Derived.Test.YtpfjflbbpecbkaaGreatBV
import Derived.Deep.RegionHeld3
namespace Go.Proofs.YtpfjflbbpecbkaaGreat
set_option maxRecDepth 100000
open Go.RowKit
set_option linter.unusedSimpArgs false
set_option linter.unusedVariables false

/-- A reader of the bytes at ao in block B, at place q, torn or not. -/
structure BR (w : World) (B : Nat) (ao : Option Addr) (n cap q : Nat) (t : Bool) : Prop where
  lt : B < w.heap.size
  c0 : w.cell? ⟨B, 0, none⟩ = some (.slice ao n cap)
  c1 : w.cell? ⟨B, 1, none⟩ = some (.int .i64 (q : Int))
  c2 : w.cell? ⟨B, 2, none⟩ = some (.bool t)
  fz : ∀ j, w.frozen? ⟨B, j, none⟩ = false
section
variable {w w' : World} {B : Nat} {ao : Option Addr} {n cap q : Nat} {t : Bool}
theorem BR.keep (h : BR w B ao n cap q t) (hb : Below w.heap.size w w') : BR w' B ao n cap q t :=
  ⟨Nat.lt_of_lt_of_le h.lt hb.size, (hb.cell (p := ⟨B, 0, none⟩) h.lt).trans h.c0, (hb.cell (p := ⟨B, 1, none⟩) h.lt).trans h.c1, (hb.cell (p := ⟨B, 2, none⟩) h.lt).trans h.c2, fun j => (hb.frozen (p := ⟨B, j, none⟩) h.lt).trans (h.fz j)⟩
theorem BR.set1 (h : BR w B ao n cap q t) (p : Nat) : BR (w.setCell ⟨B, 1, none⟩ (.int .i64 (p : Int))) B ao n cap p t :=
  ⟨by simpa using h.lt, (World.cell?_setCell_other _ _ _ _ (by simp)).trans h.c0, World.cell?_setCell_same _ _ _ h.c1, (World.cell?_setCell_other _ _ _ _ (by simp)).trans h.c2, fun j => by simpa using h.fz j⟩
theorem BR.set2 (h : BR w B ao n cap q t) (s : Bool) : BR (w.setCell ⟨B, 2, none⟩ (.bool s)) B ao n cap q s :=
  ⟨by simpa using h.lt, (World.cell?_setCell_other _ _ _ _ (by simp)).trans h.c0, (World.cell?_setCell_other _ _ _ _ (by simp)).trans h.c1, World.cell?_setCell_same _ _ _ h.c2, fun j => by simpa using h.fz j⟩
end
/-- A number at place q, and the place behind it. -/
def rdNum (f : Nat → Int) (n q : Nat) : Option (Int × Nat) := if (rdVar f n q).2.2 = true ∧ (rdVar f n q).1 ≤ 9223372036854775807 then some ((rdVar f n q).1, (rdVar f n q).2.1.toNat) else none
theorem rdNum_pos {f : Nat → Int} {n q q' : Nat} {u : Int} (h : rdNum f n q = some (u, q')) : q < q' ∧ q' ≤ n ∧ 0 ≤ u ∧ u ≤ 9223372036854775807 := by
  unfold rdNum at h
  split at h
  · next hc =>
    simp only [Option.some.injEq, Prod.mk.injEq] at h
    have h1 := rdVar_pos hc.1
    have h2 := rdVar_bd f n q
    omega
  · cases h
/-- What a step of the reader leaves: what is answered, the place and whether it is torn. -/
def NumR (f : Nat → Int) (B : Nat) (ao : Option Addr) (n cap q : Nat) (t : Bool) (w : World) (e : Ending) (w' : World) : Prop :=
  ((∃ u q', rdNum f n q = some (u, q') ∧ e = .returned (.int .i64 u) ∧ BR w' B ao n cap q' t) ∨ (rdNum f n q = none ∧ e = .returned (.int .i64 0) ∧ BR w' B ao n cap q true)) ∧ Mid B (B + 1) w w'

set_option maxHeartbeats 3200000 in
theorem number_any (f : Nat → Int) (B : Nat) (ao : Option Addr) (n cap q : Nat) (t : Bool) (w : World) (hB : BR w B ao n cap q t) (hr : Row w ao n f) (hn : n ≤ 1048576) (hcap : n ≤ cap) :
    Calls Tryz.prog 91 #[.pointer (some ⟨B, 0, none⟩)] w fun e w' => NumR f B ao n cap q t w e w' := by
  have hcall := fun W h => readVar_impl ao n cap f (q : Int) W h hn hcap
  have hv := rdVar_bd f n (q : Int)
  have hN : Hid (rdNum f n q = if (rdVar f n q).2.2 = true ∧ (rdVar f n q).1 ≤ 9223372036854775807 then some ((rdVar f n q).1, (rdVar f n q).2.1.toNat) else none) := rfl
  have hP : Hid ((rdVar f n (q : Int)).2.2 = true → (q : Int) < (rdVar f n (q : Int)).2.1 ∧ (rdVar f n (q : Int)).2.1 ≤ n) := fun h => ⟨(rdVar_pos h).1, (rdVar_pos h).2.1⟩
  obtain ⟨_, c0, c1, c2, fz⟩ := hB
  have hB : BR w B ao n cap q t := ⟨by assumption, c0, c1, c2, fz⟩
  generalize rdVar f n (q : Int) = R at *
  obtain ⟨u, q2, ok⟩ := R
  simp only at hcall hv hN hP
  go_enter Tryz.func91, Tryz.ntmps91
  go_wp2
  go_region_held3 (fun w' => w'.cell? ⟨B, 0, none⟩ = some (.slice ao n cap) ∧ w'.cell? ⟨B, 1, none⟩ = some (.int .i64 (q : Int))) (go_keep) (first | (go_at_call 103; refine (hcall _ (hr.keep (Below.refl _ _).drew)).mono ?_; rintro e w1 ⟨rfl, q1⟩; have bw1 : Below w.heap.size w w1 := (Below.refl _ w).drew.trans q1; have B1 := hB.keep bw1; have B1' := B1; obtain ⟨_, d0, d1, d2, dz⟩ := B1') | fail)
  have M1 : Mid B (B + 1) w w1 := Mid.of_below bw1
  clear hcall hB c0 c1 c2 fz q1 bw1
  by_cases hk : ok = true ∧ u ≤ 9223372036854775807
  · obtain ⟨rfl, hu⟩ := hk
    obtain ⟨h1, h2⟩ := hP.out rfl
    have HS : Hid (rdNum f n q = some (u, q2.toNat)) := by unfold Hid; rw [hN.out, if_pos ⟨rfl, hu⟩]
    have hui : ¬ (9223372036854775807 : Int) < u := by omega
    have hwu : IntKind.i64.wrap u = u := by rw [IntKind.wrap_i64]; omega
    obtain ⟨q3, rfl⟩ : ∃ q3 : Nat, q2 = (q3 : Int) := ⟨q2.toNat, by omega⟩
    have B2 := B1.set1 q3
    have M2 := M1.trans (Mid.of_others (Others.setCell w1 B 1 (.int .i64 (q3 : Int))) (Nat.le_refl _) (Nat.lt_succ_self _))
    clear hN hP
    go_wp2
    go_ret
    exact ⟨.inl ⟨u, q3, by rw [HS.out]; rfl, rfl, B2⟩, M2⟩
  · have HS : Hid (rdNum f n q = none) := by unfold Hid; rw [hN.out, if_neg hk]
    have B2 := B1.set2 true
    have M2 := M1.trans (Mid.of_others (Others.setCell w1 B 2 (.bool true)) (Nat.le_refl _) (Nat.lt_succ_self _))
    cases ok
    · clear hN hP hk
      go_wp2
      go_ret
      exact ⟨.inr ⟨HS.out, rfl, B2⟩, M2⟩
    · have hui : (9223372036854775807 : Int) < u := by
        by_cases h : u ≤ 9223372036854775807
        · exact absurd ⟨rfl, h⟩ hk
        · omega
      clear hN hP hk
      go_wp2
      go_ret
      exact ⟨.inr ⟨HS.out, rfl, B2⟩, M2⟩
end Go.Proofs.YtpfjflbbpecbkaaGreat
