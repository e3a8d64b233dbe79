/- One agg taken into another, in the program. -/
import Derived.Test.YtpggmgmdcccmeaaTkS
import Derived.BigRegion
import Derived.BigQuiet
import Derived.Deep.CutRange
import Derived.Deep.DeepCutAuto
import Derived.Deep.RegionHeld3
namespace Go.Proofs.Ytpggmgmdcccmeaa
open Go.RowKit
set_option linter.unusedSimpArgs false
set_option linter.unusedVariables false

theorem together_any (a b : Int) (w : World) (ha : 0 ≤ a ∧ a ≤ 1000000000) (hb : 0 ≤ b ∧ b ≤ 1000000000) :
    Calls Try.prog 88 #[.int .i64 a, .int .i64 b] w fun e w' => e = .returned (.tuple #[.int .i64 (min (a + b) 1000000000), .bool (decide ((1000000000 : Int) < a + b))]) ∧ w' = w := by
  have hw : IntKind.i64.wrap (a + b) = a + b := by rw [IntKind.wrap_i64]; omega
  by_cases h : (1000000000 : Int) < a + b
  · have hm : min (a + b) 1000000000 = 1000000000 := by omega
    rw [hm, decide_eq_true h]
    go_enter Try.func88, Try.ntmps88
    go_wp2
    exact bodyPost_ret (v := .tuple #[.int .i64 1000000000, .bool true]) (by simp [results, Try.results88, go_sem]) rfl ⟨rfl, rfl⟩
  · have hm : min (a + b) 1000000000 = a + b := by omega
    have hd : decide ((1000000000 : Int) < a + b) = false := decide_eq_false h
    rw [hm, hd]
    go_enter Try.func88, Try.ntmps88
    go_wp2
    exact bodyPost_ret (v := .tuple #[.int .i64 (a + b), .bool false]) (by simp [results, Try.results88, go_sem]) rfl ⟨rfl, rfl⟩

/-- How what is written in the end is made of what was there: c, s, l, h, u, f. -/
structure FIN (y b : Ent) (c s l h : Int) (u : Bool) (f : Nat → Int) : Prop where
  ec : y.c = min (c + b.c) 1000000000
  efu : y.fu = ((u || b.fu || decide ((1000000000 : Int) < c + b.c)) || ov f b.f 8)
  es : y.s = if y.fu = true then 0 else IntKind.i64.wrap (s + b.s)
  elo : y.lo = if b.lo < l then b.lo else l
  ehi : y.hi = if h < b.hi then b.hi else h
  ef : ∀ i, y.f i = if i < 8 then min (f i + b.f i) 1000000000 else 0
theorem ov_zero {g : Nat → Int} (h : ∀ i, i < 8 → g i ≤ 1000000000) : ∀ k, k ≤ 8 → ov (fun _ => 0) g k = false
  | 0, _ => rfl
  | k + 1, hk => by
    unfold ov
    have := h k (by omega)
    simp [ov_zero h k (by omega)]
    omega
theorem fin_zero {a b : Ent} (hac : a.c = 0) (hb : GA b) : FIN (jn a b) b 0 0 b.lo b.hi false (fun _ => 0) := by
  have hc := hb.c
  have hs := hb.s
  have hz := ov_zero (fun i hi => (hb.f i hi).2) 8 (Nat.le_refl _)
  have hd : decide ((1000000000 : Int) < 0 + b.c) = false := decide_eq_false (by omega)
  have e : jn a b = cA b := by unfold jn; rw [if_pos hac]
  rw [e]
  refine ⟨by show b.c = _; omega, by show b.fu = _; rw [hz, hd]; simp, ?_, by show b.lo = _; simp, by show b.hi = _; simp, fun i => ?_⟩
  · show b.s = if b.fu = true then 0 else _
    split
    · rename_i h; exact hb.full h
    · rw [IntKind.wrap_i64]; omega
  · show (if i < 8 then b.f i else 0) = _
    split
    · rename_i hi
      have := hb.f i hi
      omega
    · rfl
theorem fin_two {a b : Ent} (hac : a.c ≠ 0) (hbc : b.c ≠ 0) : FIN (jn a b) b a.c a.s a.lo a.hi a.fu a.f := by
  have e : jn a b = ⟨.empty, 0, 0, min (a.c + b.c) 1000000000, if fuJ a b = true then 0 else IntKind.i64.wrap (a.s + b.s), min a.lo b.lo, max a.hi b.hi, 8, fun i => if i < 8 then min (a.f i + b.f i) 1000000000 else 0, fuJ a b⟩ := by
    unfold jn; rw [if_neg hac, if_neg hbc]
  rw [e]
  exact ⟨rfl, rfl, rfl, by show min a.lo b.lo = _; split <;> omega, by show max a.hi b.hi = _; split <;> omega, fun i => rfl⟩

/-- What is left when an agg is taken. -/
def TkO (B G : Nat) (y : Ent) (w : World) (e : Ending) (w' : World) : Prop :=
  (∃ v, e = .returned v) ∧ AAt w' B y.c y.s y.lo y.hi (.slice (some ⟨G, 0, none⟩) 8 8) y.fu ∧ (∀ j, j < 6 → w'.frozen? ⟨B, j, none⟩ = false) ∧ IOwn w' G 0 8 y.f ∧ w'.os = w.os ∧ w'.tape = w.tape ∧ w'.output = w.output ∧ w.heap.size ≤ w'.heap.size ∧ ∀ c, c < w.heap.size → c ≠ B → c ≠ G → w'.heap[c]? = w.heap[c]?

set_option maxRecDepth 100000 in
set_option maxHeartbeats 4000000 in
theorem take_any (B G : Nat) (a b : Ent) (bo : Option Addr) (bc : Nat) (w : World) (hA : AAt w B a.c a.s a.lo a.hi (.slice (some ⟨G, 0, none⟩) 8 8) a.fu) (hfz : ∀ j, j < 6 → w.frozen? ⟨B, j, none⟩ = false) (hG : IOwn w G 0 8 a.f) (hBG : B ≠ G)
    (hb : IRow w bo b.n b.f) (hbo : ∀ g off p, bo = some ⟨g, off, p⟩ → g ≠ B ∧ g ≠ G) (ha : AI a) (hg : GA b) :
    Calls Try.prog 78 #[.pointer (some ⟨B, 0, none⟩), .agg #[.int .i64 b.c, .int .i64 b.s, .int .i64 b.lo, .int .i64 b.hi, .slice bo b.n bc, .bool b.fu]] w fun e w' => TkO B G (jn a b) w e w' := by
  have hB := below_new w (.cells #[.int .i64 b.c, .int .i64 b.s, .int .i64 b.lo, .int .i64 b.hi, .slice bo b.n bc, .bool b.fu] 35)
  by_cases hbc : b.c = 0
  · have hj : jn a b = a := by
      unfold jn
      by_cases hac : a.c = 0
      · rw [if_pos hac, hg.zero hbc, ha.z hac]
      · rw [if_neg hac, if_pos hbc, ha.can]
    have H : Hid (∀ W, Below w.heap.size w W → TkO B G (jn a b) w (.returned (.tuple #[])) W) := by
      intro W hB
      rw [hj]
      exact ⟨⟨_, rfl⟩, hA.keep hB, fun j hj => (hB.frozen (p := ⟨B, j, none⟩) hA.lt).trans (hfz j hj), hG.keep hB, hB.os, hB.tape, hB.output, hB.size, fun c hc _ _ => hB.block c hc⟩
    clear hfz hA hG hB hj
    go_enter Try.func78, Try.ntmps78
    go_wp2
    refine bodyPost_ret (results_none rfl _ _ _) rfl (H.out _ (below_new _ _))
  have hbd : (b.c == 0) = false := by simp [hbc]
  have hBl := hA.lt
  have hGl := hG.lt
  have HN : Hid (b.n = 8) := hg.n
  have hDB : w.heap.size ≠ B := by omega
  have hDG : w.heap.size ≠ G := by omega
  have T0 : TS B G w.heap.size b bo bc (w.alloc (.cells #[.int .i64 b.c, .int .i64 b.s, .int .i64 b.lo, .int .i64 b.hi, .slice bo b.n bc, .bool b.fu] 35)) (w.alloc (.cells #[.int .i64 b.c, .int .i64 b.s, .int .i64 b.lo, .int .i64 b.hi, .slice bo b.n bc, .bool b.fu] 35)) a.c a.s a.lo a.hi a.fu a.f := ⟨hA.keep hB, fun j hj => (hB.frozen (p := ⟨B, j, none⟩) hA.lt).trans (hfz j hj), AAt.new w b.c b.s b.lo b.hi (.slice bo b.n bc) b.fu 35, hG.keep hB, hb.keep hB, rfl, rfl, rfl, rfl, fun _ _ _ => rfl⟩
  have hcb := hg.c
  have hfb := hg.f
  have HQ : Hid (∀ W, TS B G w.heap.size b bo bc (w.alloc (.cells #[.int .i64 b.c, .int .i64 b.s, .int .i64 b.lo, .int .i64 b.hi, .slice bo b.n bc, .bool b.fu] 35)) W (jn a b).c (jn a b).s (jn a b).lo (jn a b).hi (jn a b).fu (jn a b).f → TkO B G (jn a b) w (.returned (.tuple #[])) W) := by
    intro W h
    exact ⟨⟨_, rfl⟩, h.A, h.fz, h.H, h.os.trans hB.os, h.tape.trans hB.tape, h.output.trans hB.output, by rw [h.size]; exact hB.size, fun c h1 h2 h3 => (h.block c h2 h3).trans (hB.block c h1)⟩
  clear hA hG hb hfz
  have FZ : Hid (a.c = 0 → FIN (jn a b) b 0 0 b.lo b.hi false (fun _ => 0)) := fun hac => fin_zero hac hg
  have FT : Hid (a.c ≠ 0 → FIN (jn a b) b a.c a.s a.lo a.hi a.fu a.f) := fun hac => fin_two hac hbc
  generalize jn a b = y at *
  have hz0 : Hid (a.c = 0 → a = dZ) := ha.z
  have TA := T0.A
  have TN := T0.N
  obtain ⟨_, c0, c1, c2, c3, c4, c5⟩ := TA
  obtain ⟨_, n0, n1, n2, n3, n4, n5⟩ := TN
  go_enter Try.func78, Try.ntmps78
  go_upto_if 15 with fail
  generalize w.alloc (.cells #[.int .i64 b.c, .int .i64 b.s, .int .i64 b.lo, .int .i64 b.hi, .slice bo b.n bc, .bool b.fu] 35) = w0 at *
  go_cut [0] from 16 (fun s0 wx => s0 = .pointer (some ⟨B, 0, none⟩) ∧ ∃ c s l h u f, TS B G w.heap.size b bo bc w0 wx c s l h u f ∧ FIN y b c s l h u f ∧ (0 ≤ c ∧ c ≤ 1000000000) ∧ (∀ i, 0 ≤ f i ∧ f i ≤ 1000000000))
  case first =>
    by_cases hac : a.c = 0
    · have F1 : FIN y b 0 0 b.lo b.hi false (fun _ => 0) := FZ.out hac
      have T1 : TS B G w.heap.size b bo bc w0 w0 0 0 0 0 false (fun _ => 0) := by
        have e := hz0.out hac
        rw [e] at T0
        exact T0
      have had : (a.c == 0) = true := by simp [hac]
      clear T0 c0 c1 c2 c3 c4 c5 hac FZ FT hz0
      have p2 := T1.fz 2 (by omega)
      have p3 := T1.fz 3 (by omega)
      have TA := T1.A
      obtain ⟨_, c0, c1, c2, c3, c4, c5⟩ := TA
      go_wp2
      go_region
      go_wp2
      go_meet
      exact ⟨rfl, _, _, _, _, _, _, ((T1.set2 hBG hDB hbo b.lo).set3 hBG hDB hbo b.hi).drew, F1, by omega, fun i => by simp⟩
    · have had : (a.c == 0) = false := by simp [hac]
      have F1 := FT.out hac
      clear hac FZ FT hz0
      go_wp2
      go_meet
      exact ⟨rfl, _, _, _, _, _, _, T0, F1, ha.c, ha.f⟩
  case rest =>
    obtain ⟨rfl, c, s, l, h, u, f, T2, F1, hcc, hff⟩ := hcut
    clear T0 c0 c1 c2 c3 c4 c5 n0 n1 n2 n3 n4 n5 FZ FT hz0
    go_wp2
    have p2 := T2.fz 2 (by omega)
    have p3 := T2.fz 3 (by omega)
    have TA := T2.A
    have TN := T2.N
    obtain ⟨_, c0, c1, c2, c3, c4, c5⟩ := TA
    obtain ⟨_, n0, n1, n2, n3, n4, n5⟩ := TN
    go_region
    have T3 := ((T2.set2 hBG hDB hbo (if b.lo < l then b.lo else l)).set3 hBG hDB hbo (if h < b.hi then b.hi else h)).drew
    rw [← F1.elo, ← F1.ehi] at T3 ⊢
    clear T2 c0 c1 c2 c3 c4 c5 n0 n1 n2 n3 n4 n5 p2 p3
    generalize ((wc.setCell ⟨B, 2, none⟩ (.int .i64 y.lo)).setCell ⟨B, 3, none⟩ (.int .i64 y.hi)).drew = w3 at T3 ⊢
    have TA := T3.A
    have TN := T3.N
    obtain ⟨_, c0, c1, c2, c3, c4, c5⟩ := TA
    obtain ⟨_, n0, n1, n2, n3, n4, n5⟩ := TN
    have HCU : Hid (decide ((1000000000 : Int) < c + b.c) = decide ((1000000000 : Int) < c + b.c)) := rfl
    go_wp2
    go_region_held3 (fun w' => w'.cell? ⟨B, 0, none⟩ = some (.int .i64 c) ∧ w'.cell? ⟨w.heap.size, 0, none⟩ = some (.int .i64 b.c)) (go_keep) (first | (go_at_call 88; refine (together_any c b.c _ hcc hcb).mono ?_; rintro e _ ⟨rfl, rfl⟩))
    have T4 := T3.drew
    generalize w3.drew = w4 at T4 ⊢
    obtain ⟨q, hq⟩ : ∃ q, decide ((1000000000 : Int) < c + b.c) = q := ⟨_, rfl⟩
    have F2 := F1.efu
    rw [hq] at F2 ⊢
    rw [← F1.ec]
    clear T3 c0 c1 c2 c3 c4 c5 n0 n1 n2 n3 n4 n5 HCU
    have p0 := T4.fz 0 (by omega)
    have p5 := T4.fz 5 (by omega)
    have TA := T4.A
    have TN := T4.N
    obtain ⟨_, c0, c1, c2, c3, c4, c5⟩ := TA
    obtain ⟨_, n0, n1, n2, n3, n4, n5⟩ := TN
    go_upto_region 6 with fail
    go_cut [0] from 56 (fun s0 wx => s0 = .pointer (some ⟨B, 0, none⟩) ∧ ∃ r, TS B G w.heap.size b bo bc w0 wx y.c s y.lo y.hi r f ∧ Hid (y.fu = (r || ov f b.f 8)))
    case first =>
      have hcase : u = true ∨ (u = false ∧ b.fu = true) ∨ (u = false ∧ b.fu = false) := by cases u <;> cases b.fu <;> simp
      rcases hcase with hu | ⟨hu, hf⟩ | ⟨hu, hf⟩
      · rw [hu] at c5
        have F3 : Hid (y.fu = (true || ov f b.f 8)) := by unfold Hid; rw [F2, hu]; simp
        clear hu
        go_wp2
        go_region
        go_wp2
        go_meet
        exact ⟨rfl, _, ((T4.set0 hBG hDB hbo y.c).set5 hBG hDB hbo true).drew, F3⟩
      · rw [hu] at c5
        rw [hf] at n5
        have F3 : Hid (y.fu = (true || ov f b.f 8)) := by unfold Hid; rw [F2, hu, hf]; simp
        clear hu hf
        go_wp2
        go_region
        go_wp2
        go_meet
        exact ⟨rfl, _, ((T4.set0 hBG hDB hbo y.c).set5 hBG hDB hbo true).drew, F3⟩
      · rw [hu] at c5
        rw [hf] at n5
        have F3 : Hid (y.fu = (q || ov f b.f 8)) := by unfold Hid; rw [F2, hu, hf]; simp
        clear hu hf
        go_wp2
        go_region
        go_wp2
        go_meet
        exact ⟨rfl, _, ((T4.set0 hBG hDB hbo y.c).set5 hBG hDB hbo q).drew, F3⟩
    case rest =>
      obtain ⟨rfl, r, T6, F4⟩ := hcut
      clear T4 F2 c0 c1 c2 c3 c4 c5 n0 n1 n2 n3 n4 n5 p0 p5
      have TA := T6.A
      have TN := T6.N
      obtain ⟨_, c0, c1, c2, c3, c4, c5⟩ := TA
      obtain ⟨_, n0, n1, n2, n3, n4, n5⟩ := TN
      have T7 : TS B G w.heap.size b bo bc w0 wc y.c s y.lo y.hi (r || ov f b.f 0) (fun j => if j < 0 then y.f j else f j) := by
        simpa [ov] using T6
      clear T6
      go_wp2
      clear c0 c1 c2 c3 c4 c5 n0 n1 n2 n3 n4 n5
      go_loopw [77] (fun i wr => ∃ k : Nat, k ≤ 8 ∧ i = .int .i64 k ∧ TS B G w.heap.size b bo bc w0 wr y.c s y.lo y.hi (r || ov f b.f k) (fun j => if j < k then y.f j else f j)) (fun i _ => 8 - (intOf i).toNat)
      case atStart => exact ⟨0, by omega, rfl, T7⟩
      case round =>
        obtain ⟨k, hk, rfl, T8⟩ := hrel
        clear T7
        by_cases hlt : k < 8
        · have hkn : k < b.n := by rw [HN.out]; exact hlt
          have hfk := hff k
          have hgk := hfb k hlt
          have HV : Hid (y.f k = min (f k + b.f k) 1000000000) := by unfold Hid; rw [F1.ef k, if_pos hlt]
          have TG : wr.cell? ⟨G, k, none⟩ = some (.int .i64 (f k)) := by
            have := T8.H.cell k hlt
            rw [Nat.zero_add, if_neg (Nat.lt_irrefl k)] at this
            exact this
          have TF : wr.frozen? ⟨G, k, none⟩ = false := by
            have := T8.H.free k hlt
            rwa [Nat.zero_add] at this
          have hyk : -9223372036854775808 ≤ y.f k ∧ y.f k ≤ 9223372036854775807 := by rw [HV.out]; omega
          have p5 := T8.fz 5 (by omega)
          have TA := T8.A
          have TN := T8.N
          have TR := T8.R
          obtain ⟨_, c0, c1, c2, c3, c4, c5⟩ := TA
          obtain ⟨_, n0, n1, n2, n3, n4, n5⟩ := TN
          obtain ⟨_, hl⟩ := TR
          obtain ⟨gg, go, hge, _, hgc⟩ := hl.resolve_left (by omega)
          have cB := hgc k hkn
          have hgb := hbo _ _ _ hge
          subst hge
          obtain ⟨q', hq'⟩ : ∃ q', decide ((1000000000 : Int) < f k + b.f k) = q' := ⟨_, rfl⟩
          have HO : Hid ((r || ov f b.f (k + 1)) = ((r || ov f b.f k) || q')) := by unfold Hid; rw [ov, hq', Bool.or_assoc]
          have HE : Hid ((fun j => if j = k then y.f k else if j < k then y.f j else f j) = (fun j => if j < k + 1 then y.f j else f j)) := by
            funext j
            by_cases h1 : j = k
            · subst h1; simp
            · by_cases h2 : j < k
              · simp [h1, h2, show j < k + 1 by omega]
              · simp [h1, h2, show ¬ j < k + 1 by omega]
          have htg := together_any (f k) (b.f k) wr hfk hgk
          rw [hq', ← HV.out] at htg
          have hGB : G ≠ B := hBG.symm
          generalize (r || ov f b.f k) = z at *
          clear hgc hl hq' hff
          cases z
          · have T9 : TS B G w.heap.size b (some ⟨gg, go, none⟩) bc w0 _ y.c s y.lo y.hi q' _ := ((T8.hist hBG hDG hbo k hlt (y.f k) hyk).set5 hBG hDB hbo q').drew
            rw [HE.out] at T9
            go_wp2_with fail
            refine htg.mono ?_
            rintro e _ ⟨rfl, rfl⟩
            clear htg
            go_wp2
            go_region
            go_wp2
            go_roundw
            case rel => exact ⟨k + 1, by omega, by go_num, by rw [HO.out, Bool.false_or]; exact T9⟩
            case measure => simp [intOf]; omega
          · have T9 : TS B G w.heap.size b (some ⟨gg, go, none⟩) bc w0 _ y.c s y.lo y.hi true _ := ((T8.hist hBG hDG hbo k hlt (y.f k) hyk).set5 hBG hDB hbo true).drew
            rw [HE.out] at T9
            go_wp2_with fail
            refine htg.mono ?_
            rintro e _ ⟨rfl, rfl⟩
            clear htg
            go_wp2
            go_region
            go_wp2
            go_roundw
            case rel => exact ⟨k + 1, by omega, by go_num, by rw [HO.out, Bool.true_or]; exact T9⟩
            case measure => simp [intOf]; omega
        · obtain rfl : k = 8 := by omega
          have hkn : ¬ 8 < b.n := by rw [HN.out]; omega
          have e8 : (r || ov f b.f 8) = y.fu := F4.out.symm
          rw [e8] at T8
          have T9 : TS B G w.heap.size b bo bc w0 wr y.c s y.lo y.hi y.fu y.f := by
            obtain ⟨t1, t2, t3, t4, t5, t6, t7, t8, t9, t10⟩ := T8
            refine ⟨t1, t2, t3, ⟨fun i => ?_, t4.lt, fun i hi => ?_, t4.free⟩, t5, t6, t7, t8, t9, t10⟩
            · rw [F1.ef i]
              split
              · rename_i hi
                have h1 := hff i
                have h2 := hfb i hi
                omega
              · omega
            · have := t4.cell i hi
              rw [if_pos hi] at this
              exact this
          obtain ⟨sv, hsv⟩ : ∃ sv, IntKind.i64.wrap (s + b.s) = sv := ⟨_, rfl⟩
          have hsv2 : wrap64 (s + b.s) = sv := by rw [← hsv, IntWalk.i64_left]
          have HS : Hid (y.s = if y.fu = true then 0 else sv) := by unfold Hid; rw [F1.es, hsv]
          have p1 := T9.fz 1 (by omega)
          have TA := T9.A
          have TN := T9.N
          obtain ⟨_, c0, c1, c2, c3, c4, c5⟩ := TA
          obtain ⟨_, n0, n1, n2, n3, n4, n5⟩ := TN
          have T10 := (T9.set1 hBG hDB hbo sv).drew
          clear T8 F1 F4 hff e8
          go_wp2
          go_region
          clear c0 c1 c2 c3 c4 c5 n0 n1 n2 n3 n4 n5 p1 T9
          generalize (wr.setCell ⟨B, 1, none⟩ (.int .i64 sv)).drew = w9 at T10 ⊢
          have p1 := T10.fz 1 (by omega)
          have TA := T10.A
          obtain ⟨_, c0, c1, c2, c3, c4, c5⟩ := TA
          cases hyf : y.fu
          · rw [hyf] at c5
            have e : sv = y.s := by rw [HS.out, hyf]; simp
            rw [e] at T10
            have HZ := HQ.out w9 T10
            clear HQ HS T10 e
            go_wp2
            go_end0
            exact HZ
          · rw [hyf] at c5
            have e : y.s = 0 := by rw [HS.out, hyf]; simp
            have T11 := T10.set1 hBG hDB hbo 0
            rw [← e] at T11
            have HZ := HQ.out _ T11
            rw [e] at HZ
            clear HQ HS T10 T11 e
            go_wp2
            go_end0
            exact HZ
end Go.Proofs.Ytpggmgmdcccmeaa
