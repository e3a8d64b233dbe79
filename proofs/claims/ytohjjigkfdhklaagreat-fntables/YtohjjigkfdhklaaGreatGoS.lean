/- Good entries, in the model. -/
import Derived.Test.YtohjjigkfdhklaaGreatGoI
import Derived.Test.YtohjjigkfdhklaaGreatBef
import Derived.Test.YtohjjigkfdhklaaGreatIL
namespace Go.Proofs.YtohjjigkfdhklaaGreat
set_option maxRecDepth 100000
open Go.RowKit
set_option linter.unusedSimpArgs false
set_option linter.unusedVariables false

theorem seqL_succ (X : Nat → Ent) (k : Nat) : seqL X k ++ [(X k).seq] = seqL X (k + 1) := by simp [seqL, List.range_succ]
theorem seqL_fi (X : Nat → Ent) {n i : Nat} (h : i < n) : fi (seqL X n) i = (X i).seq := by simp [fi, seqL, h]

set_option maxHeartbeats 4000000 in
theorem goodEntries_spec (ao : Option Addr) (n cap : Nat) (X : Nat → Ent) (w : World) (hr : ERow w ao n X) (hn : n ≤ 1048576) (hz : ESize n X) :
    Calls Tryz.prog 28 #[.slice ao n cap] w fun e w' => Ans (GoodL X n) w e w' := by
  obtain ⟨hbd, hlies⟩ := hr
  go_enter Tryz.func28, Tryz.ntmps28
  go_wp2
  go_loopw [3, 12] (fun q i wr => ∃ k : Nat, k ≤ n ∧ i = .int .i64 k ∧ OwnI wr w.heap.size q (seqL X k) ∧ Hid ((∀ i, i < k → GoodE (X i)) ∧ RiseE X k) ∧ Below w.heap.size w wr) (fun _ i _ => n - (intOf i).toNat)
  case atStart => exact ⟨0, Nat.zero_le _, rfl, ownI_nil _ _, ⟨fun i h => by omega, fun i h => by omega⟩, Below.refl _ _⟩
  case round =>
    obtain ⟨k, hk, rfl, hO, hG, hbk⟩ := hrel
    by_cases hlt : k < n
    · obtain ⟨b, off, rfl, hblt, hc⟩ := hlies.resolve_left (by omega)
      obtain ⟨da, dc, ea, ir⟩ := hc k hlt
      obtain ⟨_, a0, a1, a2, a3, a4, a5, a6, a7, a8⟩ := ea.keep hbk
      obtain ⟨W1, hW1⟩ : ∃ W1, W1 = wr.alloc (.cells #[.string (X k).key, .int .i64 (X k).seq, .int .i64 (X k).kind, .int .i64 (X k).c, .int .i64 (X k).s, .int .i64 (X k).lo, .int .i64 (X k).hi, .slice da (X k).n dc, .bool (X k).fu] 35) := ⟨_, rfl⟩
      have N1 : EAt W1 wr.heap.size 0 (X k) da dc := by rw [hW1]; exact EAt.new wr (X k) da dc 35
      have B1 : Below wr.heap.size wr W1 := by rw [hW1]; exact below_new _ _
      have irk := (ir.keep hbk).keep B1
      have bwk := hbk.trans (B1.mono hbk.size)
      have hcall := fun W h => goodEntry_spec (X k) da dc W h (hz k hlt).2 (hbd k hlt).s
      have hsw := hbk.size
      obtain ⟨lx, x0, x1, x2, x3, x4, x5, x6, x7, x8⟩ := N1.z
      have hO1 := hO.keep B1
      clear hO B1 a0 a1 a2 a3 a4 a5 a6 a7 a8
      obtain ⟨_, a0, a1, a2, a3, a4, a5, a6, a7, a8⟩ := ea.keep hbk
      by_cases hg : GoodE (X k)
      rotate_left
      · have H : Hid (¬ GoodL X n) := fun h => hg (h.1 k hlt)
        have hF : ∀ W, IRow W da (X k).n (X k).f → Calls Tryz.prog 54 #[.agg #[.string (X k).key, .int .i64 (X k).seq, .int .i64 (X k).kind, .int .i64 (X k).c, .int .i64 (X k).s, .int .i64 (X k).lo, .int .i64 (X k).hi, .slice da (X k).n dc, .bool (X k).fu]] W fun e w' => e = .returned (.bool false) ∧ Below W.heap.size W w' := fun W h => (hcall W h).mono (by
          rintro e w' ⟨b6, rfl, h6, q6⟩
          cases b6 with
          | false => exact ⟨rfl, q6⟩
          | true => exact absurd (h6.1 rfl) hg)
        clear hc hlies ea ir
        have hud : undef = Value.tuple #[] := rfl
        go_wp2
        rw [← hW1]
        clear hW1
        first | go_region_with (go_at_call 54; refine (hF _ (irk.keep (Below.refl _ _).drew)).mono ?_; rintro e w6 ⟨rfl, q6⟩; have q6' := (Below.refl _ W1).drew.trans q6; have N6 := N1.keep q6'; obtain ⟨lp, p0, p1, p2, p3, p4, p5, p6, p7, p8⟩ := N6.z; have bw6 := bwk.trans (q6'.mono bwk.size); clear q6 q6') | fail
        all_goals
          clear hcall hg hF
          go_wp2
          go_ret
          exact Ans.mk false (by have := H.out; simp [this]) bw6
      by_cases h0 : k = 0
      · have hk0 : decide ((0 : Int) < (k : Int)) = false := by simp; omega
        have hk02 : decide (0 < k) = false := by simp; omega
        have H : Hid ((∀ i, i < k + 1 → GoodE (X i)) ∧ RiseE X (k + 1)) := ⟨fun i hi => by rw [show i = k from by omega]; exact hg, fun i hi => by omega⟩
        clear hc hlies ea ir hG h0
        go_wp2
        rw [← hW1]
        clear hW1
        first | go_region_with ((go_at_call 54; refine (hcall _ (irk.keep (Below.refl _ _).drew)).mono ?_; rintro e w6 ⟨b6, rfl, h6, q6⟩; obtain rfl := h6.2 hg; have q6' := (Below.refl _ W1).drew.trans q6; have N6 := N1.keep q6'; obtain ⟨lp, p0, p1, p2, p3, p4, p5, p6, p7, p8⟩ := N6.z; have bw6 := bwk.trans (q6'.mono bwk.size); have hO6 := hO1.keep q6'; clear q6 q6' h6)) | fail
        all_goals
          clear hcall hg
          have sz6 := bw6.size
          go_wp2_with (at_builtin; refine wpList_pushI rfl (.tmp 34) (.tmp 37) rfl w.heap.size _ (seqL X k) (X k).seq rfl hO6 (hbd k hlt).seq rfl (by rw [seqL_len]; omega) sz6 ?_; intro v8 w8 hO8 hg8)
          have bw8 : Below w.heap.size w w8 := (hO6.keep (below_new w6 _)).below (bw6.alloc sz6 _) hg8 (Nat.le_refl _) (by simp; omega)
          rw [seqL_succ] at hO8
          go_roundw
          case rel => exact ⟨k + 1, by omega, by go_num, hO8, H, bw8⟩
          case measure => simp [intOf]; omega
      obtain ⟨j, hjk⟩ : ∃ j, k = j + 1 := ⟨k - 1, by omega⟩
      obtain ⟨db, ec, ej, _⟩ := hc j (by omega)
      have ejk := ej.keep bwk
      obtain ⟨ly, y0, y1, y2, y3, y4, y5, y6, y7, y8⟩ := id ejk
      have hj : IntKind.i64.wrap ((k : Int) - 1) = (j : Int) := by rw [IntKind.wrap_i64] <;> omega
      have hj0 : (0 : Int) ≤ (j : Int) := by omega
      have hj1 : (j : Int) < (n : Int) := by omega
      have hkp : (0 : Int) < (k : Int) := by omega
      have hkd : decide ((0 : Int) < (k : Int)) = true := by simpa using hkp
      have hkn : 0 < k := by omega
      have hkd2 : decide (0 < k) = true := by simpa using hkn
      have HJ : Hid (k = j + 1) := hjk
      clear hjk h0 hc hlies ea ir ej
      by_cases hbf : Bef (X j) (X k)
      · have H : Hid ((∀ i, i < k + 1 → GoodE (X i)) ∧ RiseE X (k + 1)) := ⟨fun i hi => by
          rcases Nat.lt_succ_iff_lt_or_eq.1 hi with h | h
          · exact hG.out.1 i h
          · subst h; exact hg, fun i hi => by
          have hj' := HJ.out
          by_cases e : i = j
          · subst e
            rw [← hj']
            exact hbf
          · exact hG.out.2 i (by omega)⟩
        clear hG
        go_wp2
        rw [← hW1]
        clear hW1
        go_region_held3 (fun w' => w'.cell? ⟨wr.heap.size, 0, none⟩ = some (.string (X k).key) ∧ w'.cell? ⟨wr.heap.size, 1, none⟩ = some (.int .i64 (X k).seq) ∧ w'.cell? ⟨wr.heap.size, 2, none⟩ = some (.int .i64 (X k).kind) ∧ w'.cell? ⟨wr.heap.size, 3, none⟩ = some (.int .i64 (X k).c) ∧ w'.cell? ⟨wr.heap.size, 4, none⟩ = some (.int .i64 (X k).s) ∧ w'.cell? ⟨wr.heap.size, 5, none⟩ = some (.int .i64 (X k).lo) ∧ w'.cell? ⟨wr.heap.size, 6, none⟩ = some (.int .i64 (X k).hi) ∧ w'.cell? ⟨wr.heap.size, 7, none⟩ = some (.slice da (X k).n dc) ∧ w'.cell? ⟨wr.heap.size, 8, none⟩ = some (.bool (X k).fu) ∧ w'.cell? ⟨b, off + j * 9, none⟩ = some (.string (X j).key) ∧ w'.cell? ⟨b, off + j * 9 + 1, none⟩ = some (.int .i64 (X j).seq) ∧ w'.cell? ⟨b, off + j * 9 + 2, none⟩ = some (.int .i64 (X j).kind) ∧ w'.cell? ⟨b, off + j * 9 + 3, none⟩ = some (.int .i64 (X j).c) ∧ w'.cell? ⟨b, off + j * 9 + 4, none⟩ = some (.int .i64 (X j).s) ∧ w'.cell? ⟨b, off + j * 9 + 5, none⟩ = some (.int .i64 (X j).lo) ∧ w'.cell? ⟨b, off + j * 9 + 6, none⟩ = some (.int .i64 (X j).hi) ∧ w'.cell? ⟨b, off + j * 9 + 7, none⟩ = some (.slice db (X j).n ec) ∧ w'.cell? ⟨b, off + j * 9 + 8, none⟩ = some (.bool (X j).fu)) (go_keep) (first | (go_at_call 54; refine (hcall _ (irk.keep (Below.refl _ _).drew)).mono ?_; rintro e w6 ⟨b6, rfl, h6, q6⟩; obtain rfl := h6.2 hg; have q6' := (Below.refl _ W1).drew.trans q6; have N6 := N1.keep q6'; obtain ⟨lp, p0, p1, p2, p3, p4, p5, p6, p7, p8⟩ := N6.z; have ej6 := ejk.keep q6'; obtain ⟨lr, r0, r1, r2, r3, r4, r5, r6, r7, r8⟩ := id ej6; have bw6 := bwk.trans (q6'.mono bwk.size); have hO6 := hO1.keep q6'; clear q6 q6' h6) | (go_at_call 55; refine (l5Before_any (X j) (X k) db da ec dc _).mono ?_; rintro e w7 ⟨b7, rfl, h7, q7⟩; obtain rfl := h7.2 hbf; have N7 := N6.keep q7; obtain ⟨ls, s0, s1, s2, s3, s4, s5, s6, s7, s8⟩ := N7.z; have ej7 := ej6.keep q7; obtain ⟨lt, t0, t1, t2, t3, t4, t5, t6, t7, t8⟩ := id ej7; have bw7 := bw6.trans (q7.mono bw6.size); have hO7 := hO6.keep q7; clear q7 h7))
        clear hcall hg hbf
        have sz7 := bw7.size
        go_wp2_with (at_builtin; refine wpList_pushI rfl (.tmp 34) (.tmp 37) rfl w.heap.size _ (seqL X k) (X k).seq rfl hO7 (hbd k hlt).seq rfl (by rw [seqL_len]; omega) sz7 ?_; intro v8 w8 hO8 hg8)
        have bw8 : Below w.heap.size w w8 := (hO7.keep (below_new w7 _)).below (bw7.alloc sz7 _) hg8 (Nat.le_refl _) (by simp; omega)
        rw [seqL_succ] at hO8
        go_roundw
        case rel => exact ⟨k + 1, by omega, by go_num, hO8, H, bw8⟩
        case measure => simp [intOf]; omega
      · have H : Hid (¬ GoodL X n) := fun h => hbf (by
          have hj' := HJ.out
          have := h.2.1 j (by omega)
          rwa [← hj'] at this)
        clear hG
        go_wp2
        rw [← hW1]
        clear hW1
        go_region_held3 (fun w' => w'.cell? ⟨wr.heap.size, 0, none⟩ = some (.string (X k).key) ∧ w'.cell? ⟨wr.heap.size, 1, none⟩ = some (.int .i64 (X k).seq) ∧ w'.cell? ⟨wr.heap.size, 2, none⟩ = some (.int .i64 (X k).kind) ∧ w'.cell? ⟨wr.heap.size, 3, none⟩ = some (.int .i64 (X k).c) ∧ w'.cell? ⟨wr.heap.size, 4, none⟩ = some (.int .i64 (X k).s) ∧ w'.cell? ⟨wr.heap.size, 5, none⟩ = some (.int .i64 (X k).lo) ∧ w'.cell? ⟨wr.heap.size, 6, none⟩ = some (.int .i64 (X k).hi) ∧ w'.cell? ⟨wr.heap.size, 7, none⟩ = some (.slice da (X k).n dc) ∧ w'.cell? ⟨wr.heap.size, 8, none⟩ = some (.bool (X k).fu) ∧ w'.cell? ⟨b, off + j * 9, none⟩ = some (.string (X j).key) ∧ w'.cell? ⟨b, off + j * 9 + 1, none⟩ = some (.int .i64 (X j).seq) ∧ w'.cell? ⟨b, off + j * 9 + 2, none⟩ = some (.int .i64 (X j).kind) ∧ w'.cell? ⟨b, off + j * 9 + 3, none⟩ = some (.int .i64 (X j).c) ∧ w'.cell? ⟨b, off + j * 9 + 4, none⟩ = some (.int .i64 (X j).s) ∧ w'.cell? ⟨b, off + j * 9 + 5, none⟩ = some (.int .i64 (X j).lo) ∧ w'.cell? ⟨b, off + j * 9 + 6, none⟩ = some (.int .i64 (X j).hi) ∧ w'.cell? ⟨b, off + j * 9 + 7, none⟩ = some (.slice db (X j).n ec) ∧ w'.cell? ⟨b, off + j * 9 + 8, none⟩ = some (.bool (X j).fu)) (go_keep) (first | (go_at_call 54; refine (hcall _ (irk.keep (Below.refl _ _).drew)).mono ?_; rintro e w6 ⟨b6, rfl, h6, q6⟩; obtain rfl := h6.2 hg; have q6' := (Below.refl _ W1).drew.trans q6; have N6 := N1.keep q6'; obtain ⟨lp, p0, p1, p2, p3, p4, p5, p6, p7, p8⟩ := N6.z; have ej6 := ejk.keep q6'; obtain ⟨lr, r0, r1, r2, r3, r4, r5, r6, r7, r8⟩ := id ej6; have bw6 := bwk.trans (q6'.mono bwk.size); have hO6 := hO1.keep q6'; clear q6 q6' h6) | (go_at_call 55; refine (l5Before_any (X j) (X k) db da ec dc _).mono ?_; rintro e w7 ⟨b7, rfl, h7, q7⟩; obtain rfl : b7 = false := (by cases b7 with | false => rfl | true => exact absurd (h7.1 rfl) hbf); have N7 := N6.keep q7; obtain ⟨ls, s0, s1, s2, s3, s4, s5, s6, s7, s8⟩ := N7.z; have ej7 := ej6.keep q7; obtain ⟨lt, t0, t1, t2, t3, t4, t5, t6, t7, t8⟩ := id ej7; have bw7 := bw6.trans (q7.mono bw6.size); have hO7 := hO6.keep q7; clear q7 h7))
        clear hcall hg hbf
        go_wp2
        go_ret
        exact Ans.mk false (by have := H.out; simp [this]) bw7
    · have e : k = n := by omega
      subst e
      obtain ⟨so, sc, rfl, hsc, hS⟩ := hO.form
      rw [seqL_len] at hS hsc ⊢
      clear hlies hlt hO
      obtain ⟨_, hSl⟩ := hS
      go_wp2
      go_loopw [42] (fun i w1 => ∃ q : Nat, q ≤ k ∧ i = .int .i64 q ∧ Hid (NoTwo X q) ∧ w1 = wr) (fun i _ => k - (intOf i).toNat)
      case atStart => exact ⟨0, Nat.zero_le _, rfl, fun i j h1 h2 => by omega, rfl⟩
      case round =>
        obtain ⟨q, hq, rfl, hNo, hw2⟩ := hrel
        have hw3 := hw2.symm
        clear hw2
        subst hw3
        by_cases hql : q < k
        · obtain ⟨b, off, rfl, hblt, hc⟩ := hSl.resolve_left (by omega)
          have c1 := hc q hql
          rw [seqL_fi X hql] at c1
          have HC : Hid (∀ i, i < k → wr.cell? ⟨b, off + i, none⟩ = some (.int .i64 (X i).seq)) := fun i hi => by rw [hc i hi, seqL_fi X hi]
          clear hSl hc
          go_wp2
          go_loopw [51] (fun i w1 => ∃ r : Nat, r ≤ q ∧ i = .int .i64 r ∧ Hid (∀ i, i < r → (X i).seq ≠ (X q).seq) ∧ w1 = wr) (fun i _ => q - (intOf i).toNat)
          case atStart => exact ⟨0, Nat.zero_le _, rfl, fun i h1 => by omega, rfl⟩
          case round =>
            obtain ⟨r, hr1, rfl, hNe, hw2⟩ := hrel
            have hw3 := hw2.symm
            clear hw2
            subst hw3
            by_cases hrl : r < q
            · have c2 := HC.out r (by omega)
              by_cases he : (X r).seq = (X q).seq
              · have H : Hid (¬ GoodL X k) := fun h => h.2.2 r q hrl hql he
                clear hG hNo hNe
                rw [he] at c2
                clear he
                go_wp2
                go_ret
                exact Ans.mk false (by have := H.out; simp [this]) hbk
              · have H : Hid (∀ i, i < r + 1 → (X i).seq ≠ (X q).seq) := fun i hi => by
                  rcases Nat.lt_succ_iff_lt_or_eq.1 hi with h | h
                  · exact hNe.out i h
                  · subst h; exact he
                have he' : ((X r).seq == (X q).seq) = false := by simpa using he
                clear hNe
                go_wp2
                go_roundw
                case rel => exact ⟨r + 1, by omega, by go_num, H, by first | rfl | trivial⟩
                case measure => simp [intOf]; omega
            · have H : Hid (NoTwo X (q + 1)) := fun i j hij hj => by
                rcases Nat.lt_succ_iff_lt_or_eq.1 hj with h | h
                · exact hNo.out i j hij h
                · subst h; exact hNe.out i (by omega)
              clear hNo hNe
              go_wp2
              go_roundw
              case rel => exact ⟨q + 1, by omega, by go_num, H, by first | rfl | trivial⟩
              case measure => simp [intOf]; omega
        · have e : q = k := by omega
          have H : Hid (GoodL X k) := ⟨hG.out.1, hG.out.2, e ▸ hNo.out⟩
          clear hG hNo hSl
          go_wp2
          go_ret
          exact Ans.mk true (by have := H.out; simp [this]) hbk
end Go.Proofs.YtohjjigkfdhklaaGreat
