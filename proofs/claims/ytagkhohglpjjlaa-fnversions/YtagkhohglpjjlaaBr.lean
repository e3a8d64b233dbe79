/- ReadVar, the program. / The reader of bytes: a number, so many bytes. -/
import Derived.Test.YtagkhohglpjjlaaRvD
import Derived.Test.YtagkhohglpjjlaaVal
import Derived.Test.YtagkhohglpjjlaaBV
import Derived.Test.YtagkhohglpjjlaaTb
import Derived.Laws.BytesArg
import Derived.Deep.RegionHeld3
namespace Go.Proofs.Ytagkhohglpjjlaa
open Go.RowKit
set_option linter.unusedSimpArgs false
set_option linter.unusedVariables false

/-- What ReadVar answers. -/
def rdVar (f : Nat → Int) (n : Nat) (a : Int) : Int × Int × Bool :=
  if 0 ≤ a ∧ a < n then ((rvAll f n a.toNat).1, (rvAll f n a.toNat).2, decide (0 < (rvAll f n a.toNat).2)) else (0, 0, false)

set_option maxHeartbeats 400000 in
theorem readVar_impl (ao : Option Addr) (n cap : Nat) (f : Nat → Int) (a : Int) (w : World) (hr : Row w ao n f) (hn : n ≤ 1048576) (hcap : n ≤ cap) :
    Calls Try.prog 50 #[.slice ao n cap, .int .i64 a] w fun e w' => e = .returned (.tuple #[.int .u64 (rdVar f n a).1, .int .i64 (rdVar f n a).2.1, .bool (rdVar f n a).2.2]) ∧ Below w.heap.size w w' := by
  by_cases h : 0 ≤ a ∧ a < n
  · obtain ⟨h0, h1⟩ := h
    obtain ⟨q, rfl⟩ := Int.eq_ofNat_of_zero_le h0
    have hq : q < n := by omega
    have E : Hid (rdVar f n (q : Int) = ((rvAll f n q).1, (rvAll f n q).2, decide (0 < (rvAll f n q).2))) := by
      unfold Hid rdVar; rw [if_pos ⟨h0, h1⟩]; simp
    generalize rdVar f n (q : Int) = T at *
    generalize hR : rvAll f n q = R at *
    have HR : Hid (rv f n q 10 0 0 = R) := hR
    clear hR
    obtain ⟨hbd, hl⟩ := hr
    obtain ⟨b, off, rfl, hblt, hc⟩ := hl.resolve_left (by omega)
    have hd : decide ((q : Int) < 0) = false := by simp
    by_cases hmin : n ≤ q + 10
    · go_enter Try.func50, Try.ntmps50
      go_wp2
      go_loopw [8, 30] (fun a i wr => ∃ k : Nat, ∃ acc : Int, k ≤ (n - q) ∧ i = .int .i64 k ∧ a = .int .u64 acc ∧ Hid (rv f n q (10 - k) k acc = R) ∧ Below w.heap.size w wr) (fun _ i _ => (n - q) - (intOf i).toNat)
      case atStart => exact ⟨0, 0, by omega, rfl, rfl, HR, Below.refl _ _⟩
      case round =>
        obtain ⟨k, acc, hk, rfl, rfl, HK, hbk⟩ := hrel
        by_cases hlt : k < (n - q)
        · have hin : q + k < n := by omega
          have hk10 : k < 10 := by omega
          have h1 : wr.cell? ⟨b, off + q + k, none⟩ = some (.int .u8 (f (q + k))) := by rw [Nat.add_assoc]; exact (hbk.cell (p := ⟨b, off + (q + k), none⟩) hblt).trans (hc _ hin)
          have hb := hbd (q + k)
          clear hc hl hbd
          by_cases h2 : k = 9 ∧ 1 < f (q + k)
          · have e := rv_high f n q k acc hk10 h2
            have HE : Hid (R = (0, 0)) := HK.out.symm.trans e
            clear e
            have e9 : ((k : Int) == 9) = true := by simp; omega
            have e1 := h2.2
            clear h2
            go_wp2
            go_ret3
            rw [E.out, HE.out]
            exact ⟨rfl, hbk⟩
          · have h9 : ((k : Int) == 9) = false ∨ (((k : Int) == 9) = true ∧ ¬ 1 < f (q + k)) := by
              by_cases h : k = 9
              · exact .inr ⟨by simp; omega, fun h5 => h2 ⟨h, h5⟩⟩
              · exact .inl (by simp; omega)
            by_cases h3 : f (q + k) < 128
            · by_cases h4 : 0 < k ∧ f (q + k) = 0
              · have e := rv_nought f n q k acc hk10 h4
                have HE : Hid (R = (0, 0)) := HK.out.symm.trans e
                clear e
                have e0 : (f (q + k) == 0) = true := by simp; omega
                have ek := h4.1
                clear h2 h4
                rcases h9 with h9 | ⟨h9, h10⟩
                all_goals
                  go_wp2
                  go_ret3
                  rw [E.out, HE.out]
                  exact ⟨rfl, hbk⟩
              · have e := rv_last f n q k acc hk10 hin h2 h3 h4
                have HE : Hid (R = (rvStep acc (f (q + k)) k, (q : Int) + k + 1)) := HK.out.symm.trans e
                clear e
                have hpos : Hid (decide (0 < (q : Int) + k + 1) = true) := by unfold Hid; simp; omega
                have h0' : (f (q + k) == 0) = false ∨ ((f (q + k) == 0) = true ∧ ¬ 0 < k) := by
                  by_cases h : f (q + k) = 0
                  · exact .inr ⟨by simp [h], fun h5 => h4 ⟨h5, h⟩⟩
                  · exact .inl (by simp [h])
                clear h2 h4
                rcases h9 with h9 | ⟨h9, h10⟩ <;> rcases h0' with h00 | ⟨h00, h01⟩
                all_goals
                  go_wp2
                  go_ret3
                  rw [E.out, HE.out]
                  simp only [hpos.out]
                  exact ⟨rfl, hbk⟩
            · have e := rv_more f n q k acc hk10 hin h2 h3
              have HE : Hid (rv f n q (10 - (k + 1)) (k + 1) (rvStep acc (f (q + k)) k) = R) := e.symm.trans HK.out
              clear e
              have hgt : 127 < f (q + k) := by omega
              clear h2
              rcases h9 with h9 | ⟨h9, h10⟩
              · go_wp2
                go_roundw
                case rel => exact ⟨k + 1, _, by omega, by go_num, rfl, HE, hbk⟩
                case measure => simp [intOf]; omega
              · omega
        · have HE : Hid (R = (0, 0)) := by
            refine HK.out.symm.trans ?_
            by_cases h10 : k < 10
            · exact rv_out f n q k acc h10 (by omega)
            · exact rv_end f n q k acc h10
          go_wp2
          go_ret3
          rw [E.out, HE.out]
          exact ⟨rfl, hbk⟩
    · go_enter Try.func50, Try.ntmps50
      go_wp2
      go_loopw [8, 30] (fun a i wr => ∃ k : Nat, ∃ acc : Int, k ≤ 10 ∧ i = .int .i64 k ∧ a = .int .u64 acc ∧ Hid (rv f n q (10 - k) k acc = R) ∧ Below w.heap.size w wr) (fun _ i _ => 10 - (intOf i).toNat)
      case atStart => exact ⟨0, 0, by omega, rfl, rfl, HR, Below.refl _ _⟩
      case round =>
        obtain ⟨k, acc, hk, rfl, rfl, HK, hbk⟩ := hrel
        by_cases hlt : k < 10
        · have hin : q + k < n := by omega
          have hk10 : k < 10 := by omega
          have h1 : wr.cell? ⟨b, off + q + k, none⟩ = some (.int .u8 (f (q + k))) := by rw [Nat.add_assoc]; exact (hbk.cell (p := ⟨b, off + (q + k), none⟩) hblt).trans (hc _ hin)
          have hb := hbd (q + k)
          clear hc hl hbd
          by_cases h2 : k = 9 ∧ 1 < f (q + k)
          · have e := rv_high f n q k acc hk10 h2
            have HE : Hid (R = (0, 0)) := HK.out.symm.trans e
            clear e
            have e9 : ((k : Int) == 9) = true := by simp; omega
            have e1 := h2.2
            clear h2
            go_wp2
            go_ret3
            rw [E.out, HE.out]
            exact ⟨rfl, hbk⟩
          · have h9 : ((k : Int) == 9) = false ∨ (((k : Int) == 9) = true ∧ ¬ 1 < f (q + k)) := by
              by_cases h : k = 9
              · exact .inr ⟨by simp; omega, fun h5 => h2 ⟨h, h5⟩⟩
              · exact .inl (by simp; omega)
            by_cases h3 : f (q + k) < 128
            · by_cases h4 : 0 < k ∧ f (q + k) = 0
              · have e := rv_nought f n q k acc hk10 h4
                have HE : Hid (R = (0, 0)) := HK.out.symm.trans e
                clear e
                have e0 : (f (q + k) == 0) = true := by simp; omega
                have ek := h4.1
                clear h2 h4
                rcases h9 with h9 | ⟨h9, h10⟩
                all_goals
                  go_wp2
                  go_ret3
                  rw [E.out, HE.out]
                  exact ⟨rfl, hbk⟩
              · have e := rv_last f n q k acc hk10 hin h2 h3 h4
                have HE : Hid (R = (rvStep acc (f (q + k)) k, (q : Int) + k + 1)) := HK.out.symm.trans e
                clear e
                have hpos : Hid (decide (0 < (q : Int) + k + 1) = true) := by unfold Hid; simp; omega
                have h0' : (f (q + k) == 0) = false ∨ ((f (q + k) == 0) = true ∧ ¬ 0 < k) := by
                  by_cases h : f (q + k) = 0
                  · exact .inr ⟨by simp [h], fun h5 => h4 ⟨h5, h⟩⟩
                  · exact .inl (by simp [h])
                clear h2 h4
                rcases h9 with h9 | ⟨h9, h10⟩ <;> rcases h0' with h00 | ⟨h00, h01⟩
                all_goals
                  go_wp2
                  go_ret3
                  rw [E.out, HE.out]
                  simp only [hpos.out]
                  exact ⟨rfl, hbk⟩
            · have e := rv_more f n q k acc hk10 hin h2 h3
              have HE : Hid (rv f n q (10 - (k + 1)) (k + 1) (rvStep acc (f (q + k)) k) = R) := e.symm.trans HK.out
              clear e
              have hgt : 127 < f (q + k) := by omega
              clear h2
              rcases h9 with h9 | ⟨h9, h10⟩
              · go_wp2
                go_roundw
                case rel => exact ⟨k + 1, _, by omega, by go_num, rfl, HE, hbk⟩
                case measure => simp [intOf]; omega
              · omega
        · have HE : Hid (R = (0, 0)) := by
            refine HK.out.symm.trans ?_
            by_cases h10 : k < 10
            · exact rv_out f n q k acc h10 (by omega)
            · exact rv_end f n q k acc h10
          go_wp2
          go_ret3
          rw [E.out, HE.out]
          exact ⟨rfl, hbk⟩
  · have e : Hid (rdVar f n a = (0, 0, false)) := by unfold Hid rdVar; rw [if_neg h]
    generalize rdVar f n a = T at *
    by_cases h0 : a < 0
    · go_enter Try.func50, Try.ntmps50
      go_wp2
      go_ret3
      rw [e.out]
      exact ⟨rfl, Below.refl _ _⟩
    · have hd : decide (a < 0) = false := by simpa using h0
      have h1 : (n : Int) ≤ a := by omega
      go_enter Try.func50, Try.ntmps50
      go_wp2
      go_ret3
      rw [e.out]
      exact ⟨rfl, Below.refl _ _⟩
end Go.Proofs.Ytagkhohglpjjlaa
namespace Go.Proofs.Ytagkhohglpjjlaa
open Go.RowKit
set_option linter.unusedSimpArgs false
set_option linter.unusedVariables false

theorem rvStep_bd (a x : Int) (k : Nat) : 0 ≤ rvStep a x k ∧ rvStep a x k ≤ 18446744073709551615 := bounds_u64 (wf_bits _ _ _ _)
theorem rv_bd (f : Nat → Int) (n q : Nat) : ∀ t k acc, 0 ≤ (rv f n q t k acc).1 ∧ (rv f n q t k acc).1 ≤ 18446744073709551615
  | 0, _, _ => by simp [rv]
  | t + 1, k, acc => by
    unfold rv
    repeat' split
    · simp
    · simp
    · exact rvStep_bd _ _ _
    · exact rv_bd f n q t _ _
    · simp
theorem rdVar_bd (f : Nat → Int) (n : Nat) (a : Int) : 0 ≤ (rdVar f n a).1 ∧ (rdVar f n a).1 ≤ 18446744073709551615 := by
  unfold rdVar
  split
  · exact rv_bd _ _ _ _ _ _
  · simp

theorem rv_pos (f : Nat → Int) (n q : Nat) : ∀ t k acc, 0 < (rv f n q t k acc).2 → (q : Int) < (rv f n q t k acc).2 ∧ (rv f n q t k acc).2 ≤ n
  | 0, _, _ => by simp [rv]
  | t + 1, k, acc => by
    unfold rv
    repeat' split
    · simp
    · simp
    · intro h; simp only; omega
    · exact rv_pos f n q t _ _
    · simp
theorem rdVar_pos {f : Nat → Int} {n : Nat} {a : Int} (h : (rdVar f n a).2.2 = true) : a < (rdVar f n a).2.1 ∧ (rdVar f n a).2.1 ≤ n ∧ 0 ≤ a := by
  unfold rdVar at h ⊢
  split at h
  · next hc =>
    rw [if_pos hc]
    have := rv_pos f n a.toNat 10 0 0 (by have := of_decide_eq_true h; simpa [rvAll] using this)
    simp only [rvAll]
    omega
  · simp at h
/-- A reader of the bytes at ao in block B, at place q, torn or not. -/
structure BR (w : World) (B : Nat) (ao : Option Addr) (n cap q : Nat) (t : Bool) : Prop where
  lt : B < w.heap.size
  c0 : w.cell? ⟨B, 0, none⟩ = some (.slice ao n cap)
  c1 : w.cell? ⟨B, 1, none⟩ = some (.int .i64 (q : Int))
  c2 : w.cell? ⟨B, 2, none⟩ = some (.bool t)
  fz : ∀ j, w.frozen? ⟨B, j, none⟩ = false
section
variable {w w' : World} {B : Nat} {ao : Option Addr} {n cap q : Nat} {t : Bool}
theorem BR.keep (h : BR w B ao n cap q t) (hb : Below w.heap.size w w') : BR w' B ao n cap q t :=
  ⟨Nat.lt_of_lt_of_le h.lt hb.size, (hb.cell (p := ⟨B, 0, none⟩) h.lt).trans h.c0, (hb.cell (p := ⟨B, 1, none⟩) h.lt).trans h.c1, (hb.cell (p := ⟨B, 2, none⟩) h.lt).trans h.c2, fun j => (hb.frozen (p := ⟨B, j, none⟩) h.lt).trans (h.fz j)⟩
theorem BR.set1 (h : BR w B ao n cap q t) (p : Nat) : BR (w.setCell ⟨B, 1, none⟩ (.int .i64 (p : Int))) B ao n cap p t :=
  ⟨by simpa using h.lt, (World.cell?_setCell_other _ _ _ _ (by simp)).trans h.c0, World.cell?_setCell_same _ _ _ h.c1, (World.cell?_setCell_other _ _ _ _ (by simp)).trans h.c2, fun j => by simpa using h.fz j⟩
theorem BR.set2 (h : BR w B ao n cap q t) (s : Bool) : BR (w.setCell ⟨B, 2, none⟩ (.bool s)) B ao n cap q s :=
  ⟨by simpa using h.lt, (World.cell?_setCell_other _ _ _ _ (by simp)).trans h.c0, (World.cell?_setCell_other _ _ _ _ (by simp)).trans h.c1, World.cell?_setCell_same _ _ _ h.c2, fun j => by simpa using h.fz j⟩
end
/-- A number at place q, and the place behind it. -/
def rdNum (f : Nat → Int) (n q : Nat) : Option (Int × Nat) := if (rdVar f n q).2.2 = true ∧ (rdVar f n q).1 ≤ 9223372036854775807 then some ((rdVar f n q).1, (rdVar f n q).2.1.toNat) else none
theorem rdNum_pos {f : Nat → Int} {n q q' : Nat} {u : Int} (h : rdNum f n q = some (u, q')) : q < q' ∧ q' ≤ n ∧ 0 ≤ u ∧ u ≤ 9223372036854775807 := by
  unfold rdNum at h
  split at h
  · next hc =>
    simp only [Option.some.injEq, Prod.mk.injEq] at h
    have h1 := rdVar_pos hc.1
    have h2 := rdVar_bd f n q
    omega
  · cases h
/-- What a step of the reader leaves: what is answered, the place and whether it is torn. -/
def NumR (f : Nat → Int) (B : Nat) (ao : Option Addr) (n cap q : Nat) (t : Bool) (w : World) (e : Ending) (w' : World) : Prop :=
  ((∃ u q', rdNum f n q = some (u, q') ∧ e = .returned (.int .i64 u) ∧ BR w' B ao n cap q' t) ∨ (rdNum f n q = none ∧ e = .returned (.int .i64 0) ∧ BR w' B ao n cap q true)) ∧ Mid B (B + 1) w w'

set_option maxHeartbeats 3200000 in
theorem number_any (f : Nat → Int) (B : Nat) (ao : Option Addr) (n cap q : Nat) (t : Bool) (w : World) (hB : BR w B ao n cap q t) (hr : Row w ao n f) (hn : n ≤ 1048576) (hcap : n ≤ cap) :
    Calls Try.prog 27 #[.pointer (some ⟨B, 0, none⟩)] w fun e w' => NumR f B ao n cap q t w e w' := by
  have hcall := fun W h => readVar_impl ao n cap f (q : Int) W h hn hcap
  have hv := rdVar_bd f n (q : Int)
  have hN : Hid (rdNum f n q = if (rdVar f n q).2.2 = true ∧ (rdVar f n q).1 ≤ 9223372036854775807 then some ((rdVar f n q).1, (rdVar f n q).2.1.toNat) else none) := rfl
  have hP : Hid ((rdVar f n (q : Int)).2.2 = true → (q : Int) < (rdVar f n (q : Int)).2.1 ∧ (rdVar f n (q : Int)).2.1 ≤ n) := fun h => ⟨(rdVar_pos h).1, (rdVar_pos h).2.1⟩
  obtain ⟨_, c0, c1, c2, fz⟩ := hB
  have hB : BR w B ao n cap q t := ⟨by assumption, c0, c1, c2, fz⟩
  generalize rdVar f n (q : Int) = R at *
  obtain ⟨u, q2, ok⟩ := R
  simp only at hcall hv hN hP
  go_enter Try.func27, Try.ntmps27
  go_wp2
  go_region_held3 (fun w' => w'.cell? ⟨B, 0, none⟩ = some (.slice ao n cap) ∧ w'.cell? ⟨B, 1, none⟩ = some (.int .i64 (q : Int))) (go_keep) (first | (go_at_call 50; refine (hcall _ (hr.keep (Below.refl _ _).drew)).mono ?_; rintro e w1 ⟨rfl, q1⟩; have bw1 : Below w.heap.size w w1 := (Below.refl _ w).drew.trans q1; have B1 := hB.keep bw1; have B1' := B1; obtain ⟨_, d0, d1, d2, dz⟩ := B1') | fail)
  have M1 : Mid B (B + 1) w w1 := Mid.of_below bw1
  clear hcall hB c0 c1 c2 fz q1 bw1
  by_cases hk : ok = true ∧ u ≤ 9223372036854775807
  · obtain ⟨rfl, hu⟩ := hk
    obtain ⟨h1, h2⟩ := hP.out rfl
    have HS : Hid (rdNum f n q = some (u, q2.toNat)) := by unfold Hid; rw [hN.out, if_pos ⟨rfl, hu⟩]
    have hui : ¬ (9223372036854775807 : Int) < u := by omega
    have hwu : IntKind.i64.wrap u = u := by rw [IntKind.wrap_i64]; omega
    obtain ⟨q3, rfl⟩ : ∃ q3 : Nat, q2 = (q3 : Int) := ⟨q2.toNat, by omega⟩
    have B2 := B1.set1 q3
    have M2 := M1.trans (Mid.of_others (Others.setCell w1 B 1 (.int .i64 (q3 : Int))) (Nat.le_refl _) (Nat.lt_succ_self _))
    clear hN hP
    go_wp2
    go_ret
    exact ⟨.inl ⟨u, q3, by rw [HS.out]; rfl, rfl, B2⟩, M2⟩
  · have HS : Hid (rdNum f n q = none) := by unfold Hid; rw [hN.out, if_neg hk]
    have B2 := B1.set2 true
    have M2 := M1.trans (Mid.of_others (Others.setCell w1 B 2 (.bool true)) (Nat.le_refl _) (Nat.lt_succ_self _))
    cases ok
    · clear hN hP hk
      go_wp2
      go_ret
      exact ⟨.inr ⟨HS.out, rfl, B2⟩, M2⟩
    · have hui : (9223372036854775807 : Int) < u := by
        by_cases h : u ≤ 9223372036854775807
        · exact absurd ⟨rfl, h⟩ hk
        · omega
      clear hN hP hk
      go_wp2
      go_ret
      exact ⟨.inr ⟨HS.out, rfl, B2⟩, M2⟩


/-- What take leaves. -/
def TakR (f : Nat → Int) (B bb bo n cap q : Nat) (t : Bool) (m : Nat) (w : World) (e : Ending) (w' : World) : Prop :=
  ((q + m ≤ n ∧ ∃ A c, e = .returned (.slice A m c) ∧ m ≤ c ∧ (A = some ⟨bb, bo + q, none⟩ ∨ m = 0) ∧ (∃ b o, A = some ⟨b, o, none⟩) ∧ BR w' B (some ⟨bb, bo, none⟩) n cap (q + m) t) ∨ (¬ q + m ≤ n ∧ e = .returned (.slice none 0 0) ∧ BR w' B (some ⟨bb, bo, none⟩) n cap q true)) ∧ Mid B (B + 1) w w'

set_option maxHeartbeats 3200000 in
theorem take_any (f : Nat → Int) (B bb bo n cap q : Nat) (t : Bool) (m : Nat) (hm : m ≤ 9223372036854775807) (w : World) (hB : BR w B (some ⟨bb, bo, none⟩) n cap q t) (hn : n ≤ 1048576) (hcap : n ≤ cap) (hq : q ≤ n) :
    Calls Try.prog 69 #[.pointer (some ⟨B, 0, none⟩), .int .i64 (m : Nat)] w fun e w' => TakR f B bb bo n cap q t m w e w' := by
  have hws : IntKind.i64.wrap ((n : Int) - (q : Int)) = (n : Int) - (q : Int) := by rw [IntKind.wrap_i64] <;> omega
  obtain ⟨_, c0, c1, c2, fz⟩ := hB
  have hB : BR w B (some ⟨bb, bo, none⟩) n cap q t := ⟨by assumption, c0, c1, c2, fz⟩
  have B1 := hB.keep (Below.refl _ w).drew
  have M1 : Mid B (B + 1) w w.drew := Mid.of_below (Below.refl _ w).drew
  by_cases hlt : q + m ≤ n
  · have hc : ¬ (n : Int) - (q : Int) < (m : Int) := by omega
    have hwa : IntKind.i64.wrap ((q : Int) + (m : Int)) = (q : Int) + (m : Int) := by rw [IntKind.wrap_i64] <;> omega
    have hqm : q + m - q = m := by omega
    have hqc : q + m ≤ cap := by omega
    have B3 : BR w.drew.drew B (some ⟨bb, bo, none⟩) n cap q t := B1.keep (Below.refl _ _).drew
    have B4 := B3.set1 (q + m)
    have M4 : Mid B (B + 1) w (w.drew.drew.setCell ⟨B, 1, none⟩ (.int .i64 ((q + m : Nat) : Int))) := (M1.trans (Mid.of_below (Below.refl _ w.drew).drew)).trans (Mid.of_others (Others.setCell _ B 1 _) (Nat.le_refl _) (Nat.lt_succ_self _))
    rw [show ((q + m : Nat) : Int) = (q : Int) + (m : Int) from by omega] at B4 M4
    rcases Nat.lt_or_ge q cap with hlc | hlc
    · have hcq : ¬ cap = q := by omega
      go_enter Try.func69, Try.ntmps69
      go_wp2
      go_region
      go_wp2
      go_region
      go_wp2
      refine bodyPost_ret (v := .slice (some ⟨bb, bo + q, none⟩) m (cap - q)) (by simp [results, Try.results69, go_sem, hqm]) rfl ?_
      exact ⟨.inl ⟨hlt, _, _, rfl, by omega, .inl rfl, ⟨_, _, rfl⟩, B4⟩, M4⟩
    · obtain rfl : cap = q := by omega
      obtain rfl : m = 0 := by omega
      obtain rfl : n = cap := by omega
      go_enter Try.func69, Try.ntmps69
      go_wp2
      go_region
      go_wp2
      go_region
      go_wp2
      refine bodyPost_ret (v := .slice (some ⟨bb, bo, none⟩) 0 0) (by simp [results, Try.results69, go_sem]) rfl ?_
      simp only [Int.natCast_zero, Int.add_zero, Nat.add_zero] at B4 M4
      exact ⟨.inl ⟨hlt, _, _, rfl, Nat.le_refl _, .inr rfl, ⟨_, _, rfl⟩, B4⟩, M4⟩
  · have hc : (n : Int) - (q : Int) < (m : Int) := by omega
    have B2 := B1.set2 true
    have M2 := M1.trans (Mid.of_others (Others.setCell w.drew B 2 (.bool true)) (Nat.le_refl _) (Nat.lt_succ_self _))
    go_enter Try.func69, Try.ntmps69
    go_wp2
    go_region
    go_wp2
    go_ret
    exact ⟨.inr ⟨hlt, rfl, B2⟩, M2⟩


/-- What number leaves, torn ahead or not. -/
def NumU (f : Nat → Int) (B bb bo n cap q : Nat) (t : Bool) (w : World) (e : Ending) (w' : World) : Prop :=
  ∃ (u q' : Nat) (t' : Bool), e = .returned (.int .i64 (u : Int)) ∧ (u : Int) ≤ 9223372036854775807 ∧ q' ≤ n ∧ BR w' B (some ⟨bb, bo, none⟩) n cap q' t' ∧ Mid B (B + 1) w w' ∧
    ((t' = false ∧ t = false ∧ rdNum f n q = some ((u : Int), q')) ∨ (t' = true ∧ (t = true ∨ rdNum f n q = none)))
theorem number_u (f : Nat → Int) (B bb bo n cap q : Nat) (t : Bool) (w : World) (hB : BR w B (some ⟨bb, bo, none⟩) n cap q t) (hr : Row w (some ⟨bb, bo, none⟩) n f) (hn : n ≤ 1048576) (hcap : n ≤ cap) (hq : q ≤ n) :
    Calls Try.prog 27 #[.pointer (some ⟨B, 0, none⟩)] w fun e w' => NumU f B bb bo n cap q t w e w' := by
  refine (number_any f B _ n cap q t w hB hr hn hcap).mono ?_
  rintro e w' ⟨⟨u, q', h, rfl, hB'⟩ | ⟨h, rfl, hB'⟩, M⟩
  · obtain ⟨h1, h2, h3, h4⟩ := rdNum_pos h
    obtain ⟨u, rfl⟩ := Int.eq_ofNat_of_zero_le h3
    refine ⟨u, q', t, rfl, h4, h2, hB', M, ?_⟩
    cases t
    · exact .inl ⟨rfl, rfl, h⟩
    · exact .inr ⟨rfl, .inl rfl⟩
  · exact ⟨0, q, true, rfl, by decide, hq, hB', M, .inr ⟨rfl, .inr h⟩⟩

/-- The numbers of m bytes at place q. -/
def segL (f : Nat → Int) (q m : Nat) : List Int := (List.range m).map fun i => f (q + i)
theorem segL_len (f : Nat → Int) (q m : Nat) : (segL f q m).length = m := by simp [segL]
/-- What take leaves, torn ahead or not: k bytes, all that were asked for if it isn't torn. -/
def TakU (f : Nat → Int) (B bb bo n cap q : Nat) (t : Bool) (m : Nat) (w : World) (e : Ending) (w' : World) : Prop :=
  ∃ (A : Option Addr) (k c q' : Nat) (t' : Bool), e = .returned (.slice A k c) ∧ Row w' A (segL f q k).length (fl (segL f q k)) ∧ q' ≤ n ∧ BR w' B (some ⟨bb, bo, none⟩) n cap q' t' ∧ Mid B (B + 1) w w' ∧
    ((t' = false ∧ t = false ∧ q + m ≤ n ∧ k = m ∧ q' = q + m) ∨ (t' = true ∧ k ≤ n ∧ (t = true ∨ ¬ q + m ≤ n)))
theorem take_u (f : Nat → Int) (B bb bo n cap q : Nat) (t : Bool) (m : Nat) (hm : m ≤ 9223372036854775807) (w : World) (hB : BR w B (some ⟨bb, bo, none⟩) n cap q t) (hr : Row w (some ⟨bb, bo, none⟩) n f) (hne : bb ≠ B) (hn : n ≤ 1048576) (hcap : n ≤ cap) (hq : q ≤ n) :
    Calls Try.prog 69 #[.pointer (some ⟨B, 0, none⟩), .int .i64 (m : Nat)] w fun e w' => TakU f B bb bo n cap q t m w e w' := by
  refine (take_any f B bb bo n cap q t m hm w hB hn hcap hq).mono ?_
  have hfl : ∀ k i, i < k → fl (segL f q k) i = f (q + i) := fun k i hi => by simp [fl, segL, hi]
  have hbd : ∀ k i, 0 ≤ fl (segL f q k) i ∧ fl (segL f q k) i ≤ 255 := fun k i => by
    rcases Nat.lt_or_ge i k with h | h
    · rw [hfl k i h]; exact hr.bd _
    · have : fl (segL f q k) i = 0 := by simp [fl, segL, Nat.not_lt.mpr h]
      omega
  rintro e w' ⟨⟨h1, A, c, rfl, hc, hA, _, hB'⟩ | ⟨h1, rfl, hB'⟩, M⟩
  · refine ⟨A, m, c, q + m, t, rfl, ⟨hbd m, ?_⟩, h1, hB', M, ?_⟩
    · rw [segL_len]
      rcases Nat.eq_zero_or_pos m with rfl | hp
      · exact .inl rfl
      · obtain rfl := hA.resolve_right (by omega)
        have hr1 := M.row hr (fun b o e _ => by injection e with e; injection e with e1 e2; omega)
        obtain ⟨b', o', e, hlt, hcc⟩ := hr1.lies.resolve_left (by omega)
        injection e with e
        injection e with e1 e2 _
        subst e1 e2
        exact .inr ⟨bb, bo + q, rfl, hlt, fun i hi => by rw [hfl m i hi, Nat.add_assoc]; exact hcc (q + i) (by omega)⟩
    · cases t
      · exact .inl ⟨rfl, rfl, h1, rfl, rfl⟩
      · exact .inr ⟨rfl, by omega, .inl rfl⟩
  · exact ⟨none, 0, 0, q, true, rfl, ⟨hbd 0, .inl (segL_len f q 0)⟩, hq, hB', M, .inr ⟨rfl, by omega, .inr h1⟩⟩

theorem conv_row (w : World) (ao : Option Addr) (c : Nat) (L : List Int) (hr : Row w ao L.length (fl L)) : (convert 22 9 (.slice ao L.length c)).run Try.prog w = .ok (.string (strOfNums L)) w := by
  by_cases h0 : L.length = 0
  · have e : L = [] := List.eq_nil_of_length_eq_zero h0
    subst e
    cases ao with
    | none => exact run_convert_bytes_nil (P := Try.prog) w 22 5 Try.underlying22 Try.underlying5 0 c 9 Try.underlying9
    | some p =>
      show (convert 22 9 (.slice (some p) 0 c)).run Try.prog w = .ok (.string (strOfNums [])) w
      rw [run_convert_bytes_string w 22 9 5 (some p) 0 c Try.underlying22 Try.underlying5 Try.underlying9, run_bytesToString w p 0 c [] (by simp [loadCells, loadCellsFrom])]
      rfl
  · obtain ⟨b, off, rfl, hlt, hc⟩ := hr.lies.resolve_left h0
    exact run_convert_bytes_arg (P := Try.prog) w 22 5 Try.underlying22 Try.underlying5 b off L.length c L rfl (fun i hi => hc i hi) 9 Try.underlying9
theorem bytesOf_append (a b : ByteArray) : bytesOf (a ++ b) = bytesOf a ++ bytesOf b := by simp [bytesOf, ByteArray.data_append]
theorem bytesOf_nums (L : List Int) (h : ∀ z, z ∈ L → 0 ≤ z ∧ z ≤ 255) : bytesOf (strOfNums L) = L := by
  unfold bytesOf
  rw [strOfNums_data, List.map_map]
  conv => rhs; rw [← List.map_id L]
  refine List.map_congr_left fun z hz => ?_
  have := h z hz
  simp only [Function.comp_apply, id_eq, UInt8.toNat_ofNat']
  omega
theorem BR.others {w w' : World} {B D : Nat} {ao : Option Addr} {n cap q : Nat} {t : Bool} (h : BR w B ao n cap q t) (ho : Others D w w') (hne : B ≠ D) : BR w' B ao n cap q t :=
  have cl : ∀ j, w'.cell? ⟨B, j, none⟩ = w.cell? ⟨B, j, none⟩ := fun j => World.cell?_of_block (w := w) (a := ⟨B, j, none⟩) (ho.block B hne)
  ⟨by rw [ho.size]; exact h.lt, (cl _).trans h.c0, (cl _).trans h.c1, (cl _).trans h.c2, fun j => (World.frozen?_of_block (w := w) (a := ⟨B, j, none⟩) (ho.block B hne)).trans (h.fz j)⟩

end Go.Proofs.Ytagkhohglpjjlaa
