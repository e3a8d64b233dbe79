/- The model's reader of edits: a number, a text. -/
import Derived.Test.YtdcmclbbecnihaaRd
import Derived.Test.YtdcmclbbecnihaaCl
namespace Go.Proofs.Ytdcmclbbecnihaa
open Go.RowKit
set_option linter.unusedSimpArgs false
set_option linter.unusedVariables false

set_option maxHeartbeats 1000000 in
theorem l1Var_any (b off : Nat) (n cap : Nat) (f : Nat → Int) (q : Nat) (w : World) (hr : Row w (some ⟨b, off, none⟩) n f) (hblt : b < w.heap.size) (hn : n ≤ 1048576) (hq : q ≤ n) :
    Calls Try.prog 103 #[.slice (some ⟨b, off, none⟩) n cap, .int .i64 q] w fun e w' => e = .returned (.tuple #[.int .u64 (rvAll f n q).1, .int .i64 (rvAll f n q).2]) ∧ Below w.heap.size w w' := by
  obtain ⟨hbd, hl⟩ := hr
  have hc : ∀ i, i < n → w.cell? ⟨b, off + i, none⟩ = some (.int .u8 (f i)) := fun i hi => by
    obtain ⟨b', off', e, _, h⟩ := hl.resolve_left (by omega)
    injection e with e
    injection e with e1 e2 _
    subst e1 e2
    exact h i hi
  generalize hrv : rvAll f n q = R
  have HR : Hid (rv f n q 10 0 0 = R) := hrv
  clear hrv
  go_enter Try.func103, Try.ntmps103
  go_wp2
  go_loopw [6, 7] (fun a i wr => ∃ k : Nat, ∃ acc : Int, k ≤ 10 ∧ i = .int .i64 k ∧ a = .int .u64 acc ∧ Hid (rv f n q (10 - k) k acc = R) ∧ Below w.heap.size w wr) (fun _ i _ => 10 - (intOf i).toNat)
  case atStart => exact ⟨0, 0, by omega, rfl, rfl, HR, Below.refl _ _⟩
  case round =>
    obtain ⟨k, acc, hk, rfl, rfl, HK, hbk⟩ := hrel
    by_cases hlt : k < 10
    · by_cases hin : q + k < n
      · have h1 : wr.cell? ⟨b, off + (q + k), none⟩ = some (.int .u8 (f (q + k))) := (hbk.cell (p := ⟨b, off + (q + k), none⟩) hblt).trans (hc _ hin)
        have hb := hbd (q + k)
        clear hc hl hbd
        by_cases h2 : k = 9 ∧ 1 < f (q + k)
        · have e := rv_high f n q k acc hlt h2
          have HE : Hid (R = (0, 0)) := HK.out.symm.trans e
          clear e
          have e9 : ((k : Int) == 9) = true := by simp; omega
          have e1 := h2.2
          clear h2
          go_wp2
          go_ret2
          rw [HE.out]
          exact ⟨rfl, hbk⟩
        · by_cases h3 : f (q + k) < 128
          · by_cases h4 : 0 < k ∧ f (q + k) = 0
            · have e := rv_nought f n q k acc hlt h4
              have HE : Hid (R = (0, 0)) := HK.out.symm.trans e
              clear e
              have e0 : (f (q + k) == 0) = true := by simp; omega
              have e1 : ¬ 1 < f (q + k) := by omega
              have ek := h4.1
              have h9 : ((k : Int) == 9) = false ∨ ((k : Int) == 9) = true := by cases ((k : Int) == 9) <;> simp
              clear h2 h4
              rcases h9 with h9 | h9
              all_goals
                go_wp2
                go_ret2
                rw [HE.out]
                exact ⟨rfl, hbk⟩
            · have e := rv_last f n q k acc hlt hin h2 h3 h4
              have HE : Hid (R = (rvStep acc (f (q + k)) k, (q : Int) + k + 1)) := HK.out.symm.trans e
              clear e
              have h9 : ((k : Int) == 9) = false ∨ (((k : Int) == 9) = true ∧ ¬ 1 < f (q + k)) := by
                by_cases h : k = 9
                · exact .inr ⟨by simp; omega, fun h5 => h2 ⟨h, h5⟩⟩
                · exact .inl (by simp; omega)
              have h0 : ¬ 0 < k ∨ (0 < k ∧ (f (q + k) == 0) = false) := by
                by_cases h : 0 < k
                · exact .inr ⟨h, by simp; omega⟩
                · exact .inl h
              clear h2 h4
              rcases h9 with h9 | ⟨h9, h10⟩ <;> rcases h0 with h0 | ⟨h0, h00⟩
              all_goals
                go_wp2
                go_ret2
                rw [HE.out]
                exact ⟨rfl, hbk⟩
          · have e := rv_more f n q k acc hlt hin h2 h3
            have HE : Hid (rv f n q (10 - (k + 1)) (k + 1) (rvStep acc (f (q + k)) k) = R) := e.symm.trans HK.out
            clear e
            have h9 : ((k : Int) == 9) = false ∨ (((k : Int) == 9) = true ∧ ¬ 1 < f (q + k)) := by
              by_cases h : k = 9
              · exact .inr ⟨by simp; omega, fun h5 => h2 ⟨h, h5⟩⟩
              · exact .inl (by simp; omega)
            clear h2
            rcases h9 with h9 | ⟨h9, h10⟩
            · go_wp2
              go_roundw
              case rel => exact ⟨k + 1, _, by omega, by go_num, rfl, HE, hbk⟩
              case measure => simp [intOf]; omega
            · omega
      · have e := rv_out f n q k acc hlt hin
        have HE : Hid (R = (0, 0)) := HK.out.symm.trans e
        clear e
        go_wp2
        go_ret2
        rw [HE.out]
        exact ⟨rfl, hbk⟩
    · have e := rv_end f n q k acc hlt
      have HE : Hid (R = (0, 0)) := HK.out.symm.trans e
      clear e
      go_wp2
      go_ret2
      rw [HE.out]
      exact ⟨rfl, hbk⟩

/-- A number at place q in the model: none that is too great. -/
def sN (f : Nat → Int) (n q : Nat) : Option (Int × Nat) :=
  match rdNum f n q with
  | none => none
  | some (u, q1) => if u ≤ 2000000000 then some (u, q1) else none
theorem rv_full (f : Nat → Int) (n : Nat) : rvAll f n n = (0, 0) := by
  have := rv_out f n n 0 0 (by omega) (by omega)
  simpa [rvAll] using this
theorem rdNum_rv {f : Nat → Int} {n q : Nat} (hq : q ≤ n) : rdNum f n q = if 0 < (rvAll f n q).2 ∧ (rvAll f n q).1 ≤ 9223372036854775807 then some ((rvAll f n q).1, (rvAll f n q).2.toNat) else none := by
  unfold rdNum
  rcases Nat.lt_or_ge q n with h | h
  · have e : rdVar f n (q : Int) = ((rvAll f n q).1, (rvAll f n q).2, decide (0 < (rvAll f n q).2)) := by
      unfold rdVar
      have hc : 0 ≤ (q : Int) ∧ (q : Int) < (n : Int) := by omega
      rw [if_pos hc]
      simp
    rw [e]
    simp
  · obtain rfl : q = n := by omega
    have e : rdVar f q (q : Int) = (0, 0, false) := by
      unfold rdVar
      have hc : ¬ (0 ≤ (q : Int) ∧ (q : Int) < (q : Int)) := by omega
      rw [if_neg hc]
    rw [e, rv_full]
    simp

theorem rv_nn (f : Nat → Int) (n q : Nat) : ∀ t k acc, 0 ≤ (rv f n q t k acc).2
  | 0, _, _ => by simp [rv]
  | t + 1, k, acc => by
    unfold rv
    split
    · split
      · simp
      · split
        · split
          · simp
          · simp only; omega
        · exact rv_nn f n q t _ _
    · simp
/-- What the model's number leaves. -/
def SnU (f : Nat → Int) (B bb bo n cap q : Nat) (t : Bool) (w : World) (e : Ending) (w' : World) : Prop :=
  ∃ (u q' : Nat) (t' : Bool), e = .returned (.int .i64 (u : Int)) ∧ u ≤ 2000000000 ∧ q' ≤ n ∧ BR w' B (some ⟨bb, bo, none⟩) n cap q' t' ∧ Mid B (B + 1) w w' ∧
    ((t' = false ∧ t = false ∧ sN f n q = some ((u : Int), q')) ∨ (t' = true ∧ u = 0 ∧ q' = q ∧ (t = true ∨ sN f n q = none)))

set_option maxHeartbeats 3200000 in
theorem number_s (f : Nat → Int) (B bb bo n cap q : Nat) (t : Bool) (w : World) (hB : BR w B (some ⟨bb, bo, none⟩) n cap q t) (hr : Row w (some ⟨bb, bo, none⟩) n f) (hbb : bb < w.heap.size) (hn : n ≤ 1048576) (hq : q ≤ n) :
    Calls Try.prog 73 #[.pointer (some ⟨B, 0, none⟩)] w fun e w' => SnU f B bb bo n cap q t w e w' := by
  have hcall := fun W (h : Row W (some ⟨bb, bo, none⟩) n f) (hb : bb < W.heap.size) => l1Var_any bb bo n cap f q W h hb hn hq
  have hbd := rv_bd f n q 10 0 0
  have HN : Hid (rdNum f n q = if 0 < (rvAll f n q).2 ∧ (rvAll f n q).1 ≤ 9223372036854775807 then some ((rvAll f n q).1, (rvAll f n q).2.toNat) else none) := rdNum_rv hq
  have hpos : Hid (∀ u q', rdNum f n q = some (u, q') → q < q' ∧ q' ≤ n ∧ 0 ≤ u) := fun u q' h => by have := rdNum_pos h; exact ⟨this.1, this.2.1, this.2.2.1⟩
  have hbl := hB.lt
  obtain ⟨c0, c1, c2, fz⟩ : _ ∧ _ ∧ _ ∧ _ := ⟨hB.c0, hB.c1, hB.c2, hB.fz⟩
  have hbd2 : 0 ≤ (rvAll f n q).1 ∧ (rvAll f n q).1 ≤ 18446744073709551615 := hbd
  have hnn : 0 ≤ (rvAll f n q).2 := rv_nn f n q 10 0 0
  generalize rvAll f n q = R at *
  obtain ⟨x, y⟩ := R
  simp only at hcall HN hbd2 hnn
  clear hbd
  go_enter Try.func73, Try.ntmps73
  go_wp2
  go_region_held3 (fun w' => w'.cell? ⟨B, 0, none⟩ = some (.slice (some ⟨bb, bo, none⟩) n cap) ∧ w'.cell? ⟨B, 1, none⟩ = some (.int .i64 (q : Int))) (go_keep) (first | (go_at_call 103; refine (hcall _ (hr.keep (Below.refl _ _).drew) hbb).mono ?_; rintro e w1 ⟨rfl, hb1⟩; have hb1' := (Below.refl _ w).drew.trans hb1; have B1 := hB.keep hb1'; have p0 := B1.c0; have p1 := B1.c1; clear hb1))
  have M1 : Mid B (B + 1) w w1 := Mid.of_below hb1'
  have d2 := B1.c2
  have g1 := B1.fz 1
  have g2 := B1.fz 2
  have B2 := B1.set2 true
  have M2 := M1.trans (Mid.of_others (Others.setCell w1 B 2 (.bool true)) (Nat.le_refl _) (Nat.lt_succ_self _))
  clear hcall c0 c1 c2 fz hb1'
  cases t
  rotate_left
  · clear HN hpos
    go_wp2
    go_ret
    exact ⟨0, q, true, rfl, by omega, hq, B2, M2, .inr ⟨rfl, rfl, rfl, .inl rfl⟩⟩
  by_cases hy : y = 0
  · have HS : Hid (sN f n q = none) := by
      unfold Hid sN
      rw [HN.out, if_neg (by omega)]
    have hyb : (y == 0) = true := beq_iff_eq.2 hy
    clear HN hpos hy
    go_wp2
    go_ret
    exact ⟨0, q, true, rfl, by omega, hq, B2, M2, .inr ⟨rfl, rfl, rfl, .inr HS.out⟩⟩
  have hyb : (y == 0) = false := beq_eq_false_iff_ne.2 hy
  by_cases hx : 2000000000 < x
  · have HS : Hid (sN f n q = none) := by
      unfold Hid sN
      rw [HN.out]
      split
      · rfl
      · next u q1 h =>
        split at h
        · injection h with h
          injection h with h1 h2
          rw [if_neg (by omega)]
        · cases h
    clear HN hpos hy
    go_wp2
    go_ret
    exact ⟨0, q, true, rfl, by omega, hq, B2, M2, .inr ⟨rfl, rfl, rfl, .inr HS.out⟩⟩
  · obtain ⟨y', rfl⟩ : ∃ y' : Nat, y = (y' : Int) := ⟨y.toNat, by omega⟩
    obtain ⟨x', rfl⟩ : ∃ x' : Nat, x = (x' : Int) := ⟨x.toNat, by omega⟩
    have HR : Hid (rdNum f n q = some ((x' : Int), y')) := by
      unfold Hid
      rw [HN.out, if_pos (by omega)]
      simp
    have HS : Hid (sN f n q = some ((x' : Int), y')) := by
      unfold Hid sN
      rw [HR.out]
      simp only
      rw [if_pos (by omega)]
    have hyn : y' ≤ n := (hpos.out _ _ HR.out).2.1
    have hwu : IntKind.i64.wrap (x' : Int) = (x' : Int) := by rw [IntKind.wrap_i64]; omega
    have B3 := B1.set1 y'
    have M3 := M1.trans (Mid.of_others (Others.setCell w1 B 1 (.int .i64 (y' : Int))) (Nat.le_refl _) (Nat.lt_succ_self _))
    clear HN hpos hy HR B2 M2
    go_wp2
    go_ret
    exact ⟨x', y', false, rfl, by omega, hyn, B3, M3, .inl ⟨rfl, rfl, HS.out⟩⟩

/-- A text in the model. -/
def sT (f : Nat → Int) (n q : Nat) : Option (ByteArray × Nat) :=
  match sN f n q with
  | none => none
  | some (u, q1) => if q1 + u.toNat ≤ n then some (strOfNums (segL f q1 u.toNat), q1 + u.toNat) else none
def StU (f : Nat → Int) (B bb bo n cap q : Nat) (t : Bool) (w : World) (e : Ending) (w' : World) : Prop :=
  ∃ (x : ByteArray) (q' : Nat) (t' : Bool), e = .returned (.string x) ∧ x.size ≤ 1048576 ∧ q' ≤ n ∧ BR w' B (some ⟨bb, bo, none⟩) n cap q' t' ∧ Mid B (B + 1) w w' ∧
    ((t' = false ∧ t = false ∧ sT f n q = some (x, q')) ∨ (t' = true ∧ (t = true ∨ sT f n q = none)))
theorem BR.drewN {w : World} {B : Nat} {ao : Option Addr} {n cap q : Nat} {t : Bool} (h : BR w B ao n cap q t) (k : Nat) : BR (w.drewN k) B ao n cap q t := h.keep (below_drewN (Below.refl _ _) k)

set_option maxHeartbeats 3200000 in
theorem text_s (f : Nat → Int) (B bb bo n cap q : Nat) (t : Bool) (w : World) (hB : BR w B (some ⟨bb, bo, none⟩) n cap q t) (hr : Row w (some ⟨bb, bo, none⟩) n f) (hbb : bb < w.heap.size) (hne : bb ≠ B) (hn : n ≤ 1048576) (hcap : n ≤ cap) (hq : q ≤ n) :
    Calls Try.prog 74 #[.pointer (some ⟨B, 0, none⟩)] w fun e w' => StU f B bb bo n cap q t w e w' := by
  have hrow : ∀ {W W' : World}, Row W (some ⟨bb, bo, none⟩) n f → Mid B (B + 1) W W' → Row W' (some ⟨bb, bo, none⟩) n f := fun h M => M.row h (fun b o e _ => by injection e with e; injection e with e1 e2; omega)
  go_enter Try.func74, Try.ntmps74
  go_wp2_with fail
  refine (number_s f B bb bo n cap q t w hB hr hbb hn hq).mono ?_
  rintro e w1 ⟨u, q1, t1, rfl, hu, hq1, B1, M1, D1⟩
  have r1 := hrow hr M1
  obtain ⟨l1, c0, c1, c2, fz⟩ := id B1
  have hw1 : IntKind.i64.wrap ((n : Int) - (q1 : Int)) = (n : Int) - (q1 : Int) := by rw [IntKind.wrap_i64] <;> omega
  cases t1
  rotate_left
  · have H : Hid (t = true ∨ sT f n q = none) := by
      rcases D1 with ⟨h, _⟩ | ⟨_, _, _, h | h⟩
      · cases h
      · exact .inl h
      · right; unfold sT; rw [h]
    clear D1 r1
    go_wp2
    go_quiet (fail)
    generalize hW : w1.drewN nq = w2 at *
    have B2 : BR w2 B (some ⟨bb, bo, none⟩) n cap q1 true := by rw [← hW]; exact B1.drewN nq
    have M2 : Mid B (B + 1) w w2 := M1.trans (by rw [← hW]; exact Mid.of_below (below_drewN (Below.refl _ _) nq))
    have B3 := B2.set2 true
    have M3 := M2.trans (Mid.of_others (Others.setCell w2 B 2 (.bool true)) (Nat.le_refl _) (Nat.lt_succ_self _))
    obtain ⟨l2, e0, e1, e2, ez⟩ := id B2
    have ez2 := ez 2
    clear hW c0 c1 c2 fz ez
    go_wp2
    go_ret
    exact ⟨_, q1, true, rfl, Nat.zero_le 1048576, hq1, B3, M3, .inr ⟨rfl, H.out⟩⟩
  by_cases hlt : q1 + u ≤ n
  rotate_left
  · have hd : decide ((n : Int) - (q1 : Int) < (u : Int)) = true := decide_eq_true (by omega)
    have H : Hid (t = true ∨ sT f n q = none) := by
      rcases D1 with ⟨_, _, h⟩ | ⟨h, _⟩
      · right
        unfold sT
        rw [h]
        simp only [Int.toNat_natCast]
        rw [if_neg hlt]
      · cases h
    clear D1 r1
    go_wp2
    go_quiet (fail)
    generalize hW : w1.drewN nq = w2 at *
    have B2 : BR w2 B (some ⟨bb, bo, none⟩) n cap q1 false := by rw [← hW]; exact B1.drewN nq
    have M2 : Mid B (B + 1) w w2 := M1.trans (by rw [← hW]; exact Mid.of_below (below_drewN (Below.refl _ _) nq))
    have B3 := B2.set2 true
    have M3 := M2.trans (Mid.of_others (Others.setCell w2 B 2 (.bool true)) (Nat.le_refl _) (Nat.lt_succ_self _))
    obtain ⟨l2, e0, e1, e2, ez⟩ := id B2
    have ez2 := ez 2
    clear hW c0 c1 c2 fz ez
    go_wp2
    go_ret
    exact ⟨_, q1, true, rfl, Nat.zero_le 1048576, hq1, B3, M3, .inr ⟨rfl, H.out⟩⟩
  have hd : decide ((n : Int) - (q1 : Int) < (u : Int)) = false := decide_eq_false (by omega)
  have hwa : IntKind.i64.wrap ((q1 : Int) + (u : Int)) = (q1 : Int) + (u : Int) := by rw [IntKind.wrap_i64] <;> omega
  have hwb : IntKind.i64.wrap ((q1 : Int) + (u : Int) - (u : Int)) = (q1 : Int) := by rw [IntKind.wrap_i64] <;> omega
  have hseg := segL_len f q1 u
  have hss := strOf_size (segL f q1 u)
  have H : Hid (t = false ∧ sT f n q = some (strOfNums (segL f q1 u), q1 + u)) := by
    rcases D1 with ⟨_, h2, h⟩ | ⟨h, _⟩
    · refine ⟨h2, ?_⟩
      unfold sT
      rw [h]
      simp only [Int.toNat_natCast]
      rw [if_pos hlt]
    · cases h
  clear D1
  go_wp2
  go_quiet (fail)
  generalize hW : w1.drewN nq = w2 at *
  have B2 : BR w2 B (some ⟨bb, bo, none⟩) n cap q1 false := by rw [← hW]; exact B1.drewN nq
  have M2 : Mid B (B + 1) w w2 := M1.trans (by rw [← hW]; exact Mid.of_below (below_drewN (Below.refl _ _) nq))
  have r2 : Row w2 (some ⟨bb, bo, none⟩) n f := by rw [← hW]; exact r1.keep (below_drewN (Below.refl _ _) nq)
  obtain ⟨l2, e0, e1, e2, ez⟩ := id B2
  have ez1 := ez 1
  have B3 := B2.set1 (q1 + u)
  have M3' : Mid B (B + 1) w2 (w2.setCell ⟨B, 1, none⟩ (.int .i64 ((q1 + u : Nat) : Int))) := Mid.of_others (Others.setCell w2 B 1 _) (Nat.le_refl _) (Nat.lt_succ_self _)
  have M3 := M2.trans M3'
  have r3 := hrow r2 M3'
  rw [show ((q1 + u : Nat) : Int) = (q1 : Int) + (u : Int) from by omega] at B3 M3 r3
  clear hW c0 c1 c2 fz ez r1 M1 B1 r2 M3' M2
  have r4 := r3.keep (Below.refl _ (w2.setCell ⟨B, 1, none⟩ (.int .i64 ((q1 : Int) + (u : Int))))).drew
  have hrw : Row (w2.setCell ⟨B, 1, none⟩ (.int .i64 ((q1 : Int) + (u : Int)))).drew (some ⟨bb, bo + q1, none⟩) (segL f q1 u).length (fl (segL f q1 u)) := by
    have hfl : ∀ i, i < u → fl (segL f q1 u) i = f (q1 + i) := fun i hi => by simp [fl, segL, hi]
    refine ⟨fun i => ?_, ?_⟩
    · rcases Nat.lt_or_ge i u with h | h
      · rw [hfl i h]; exact r4.bd _
      · have : fl (segL f q1 u) i = 0 := by simp [fl, segL, Nat.not_lt.mpr h]
        omega
    · rw [hseg]
      by_cases h0 : u = 0
      · exact .inl h0
      · obtain ⟨b', o', e, hb, hc⟩ := r4.lies.resolve_left (by omega)
        injection e with e
        injection e with e1 e2 _
        subst e1 e2
        exact .inr ⟨_, _, rfl, hb, fun i hi => by rw [hfl i hi, Nat.add_assoc]; exact hc _ (by omega)⟩
  have hsz : (strOfNums (segL f q1 u)).size ≤ 1048576 := by rw [hss, hseg]; omega
  have B4 := B3.keep (Below.refl _ (w2.setCell ⟨B, 1, none⟩ (.int .i64 ((q1 : Int) + (u : Int))))).drew
  have M4 := M3.trans (Mid.of_below (Below.refl _ (w2.setCell ⟨B, 1, none⟩ (.int .i64 ((q1 : Int) + (u : Int))))).drew)
  have hqm : q1 + u - q1 = u := by omega
  have hqc : q1 + u ≤ cap := by omega
  rcases Nat.lt_or_ge q1 cap with hlc | hlc
  · have hcq : ¬ cap = q1 := by omega
    have hcv := conv_row _ (some ⟨bb, bo + q1, none⟩) (cap - q1) (segL f q1 u) hrw
    rw [hseg] at hcv
    generalize strOfNums (segL f q1 u) = S at *
    clear hrw r4 r3 hss hseg hrow
    go_wp2
    go_region
    go_wp2
    go_ret
    exact ⟨S, q1 + u, false, rfl, hsz, hlt, B4, M4, .inl ⟨rfl, H.out.1, H.out.2⟩⟩
  · obtain rfl : cap = q1 := by omega
    obtain rfl : u = 0 := by omega
    have hcv := conv_row (w2.setCell ⟨B, 1, none⟩ (.int .i64 ((cap : Int) + ((0 : Nat) : Int)))).drew (some ⟨bb, bo, none⟩) 0 (segL f cap 0) ⟨hrw.bd, .inl rfl⟩
    rw [hseg] at hcv
    have ezz : (cap : Int) + ((0 : Nat) : Int) = (cap : Int) := by simp
    rw [ezz] at hcv B4 M4
    clear ezz
    generalize strOfNums (segL f cap 0) = S at *
    clear hrw r4 r3 hss hseg hrow
    go_wp2
    go_region
    go_wp2
    go_ret
    exact ⟨S, cap + 0, false, rfl, hsz, hlt, B4, M4, .inl ⟨rfl, H.out.1, H.out.2⟩⟩
end Go.Proofs.Ytdcmclbbecnihaa
