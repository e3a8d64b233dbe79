/- Two aggs joined, in the model. -/
import Derived.Test.YtohjjigkfdhklaaGreatOb
import Derived.Test.YtohjjigkfdhklaaGreatFTk
import Derived.Test.YtohjjigkfdhklaaGreatOf
import Derived.Test.YtohjjigkfdhklaaGreatFCeO
import Derived.Deep.CutRange
import Derived.Deep.DeepCutAuto
namespace Go.Proofs.YtohjjigkfdhklaaGreat
set_option maxRecDepth 100000
open Go.RowKit
set_option linter.unusedSimpArgs false
set_option linter.unusedVariables false

/-- An agg of the call's own in answer. -/
def SjO (y : Ent) (w : World) (e : Ending) (w' : World) : Prop :=
  ∃ g cap, e = .returned (.agg #[.int .i64 y.c, .int .i64 y.s, .int .i64 y.lo, .int .i64 y.hi, .slice (some ⟨g, 0, none⟩) 8 cap, .bool y.fu]) ∧ (w.heap.size ≤ g ∧ 8 ≤ cap) ∧ IOwn w' g 0 8 y.f ∧ Below w.heap.size w w'
theorem IOwn.cong {w : World} {g n : Nat} {f f' : Nat → Int} (h : IOwn w g 0 n f) (hbd : ∀ i, -9223372036854775808 ≤ f' i ∧ f' i ≤ 9223372036854775807) (e : ∀ i, i < n → f i = f' i) : IOwn w g 0 n f' :=
  ⟨hbd, h.lt, fun i hi => by rw [← e i hi]; exact h.cell i hi, h.free⟩
/-- An agg copied: as it is said. -/
theorem own_sj {x : Ent} {w w' : World} {e : Ending} (hn : x.n = 8) (h : OwnO x w e w') : SjO (cA x) w e w' := by
  obtain ⟨hv, rfl, hH, hb⟩ := h
  obtain ⟨lo, lc, rfl, h0 | ⟨g, rfl, hg, _, ho⟩⟩ := hH.io
  · omega
  · rw [hn] at ho
    have hcp : x.n ≤ lc := by
      rcases hH.own.2 with ⟨e, h0⟩ | ⟨g, cap, cur, e, _, _, hnc, _⟩
      · injection e with _ e2 e3; omega
      · injection e with _ e2 e3; omega
    refine ⟨g, lc, by rw [hn]; rfl, ⟨hg, by omega⟩, ho.cong (fun i => ?_) (fun i hi => by simp [cA, hi]), hb⟩
    show -9223372036854775808 ≤ (if i < 8 then x.f i else 0) ∧ (if i < 8 then x.f i else 0) ≤ 9223372036854775807
    split
    · exact hH.bd i
    · omega

theorem OB.keepD {w W W' : World} {D : Nat} {c s lo hi : Int} {hv : Value} {fu : Bool} (h : OB w W D c s lo hi hv fu) (hb : Below (D + 1) W W') : OB w W' D c s lo hi hv fu :=
  have k : ∀ j, W'.cell? ⟨D, j, none⟩ = W.cell? ⟨D, j, none⟩ := fun j => hb.cell (p := ⟨D, j, none⟩) (Nat.lt_succ_self _)
  ⟨⟨Nat.lt_of_lt_of_le h.A.lt hb.size, (k _).trans h.A.c0, (k _).trans h.A.c1, (k _).trans h.A.c2, (k _).trans h.A.c3, (k _).trans h.A.c4, (k _).trans h.A.c5⟩, fun j => (hb.frozen (p := ⟨D, j, none⟩) (Nat.lt_succ_self _)).trans (h.fz j), h.bw.trans (hb.mono (Nat.le_succ _))⟩
theorem OwnI.others {w w' : World} {base d : Nat} {v : Value} {L : List Int} (h : OwnI w base v L) (ho : Others d w w') (hd : d < base) : OwnI w' base v L :=
  ⟨h.bd, ownsRow_kept h.own (others_grown ho) (fun k hk e => by injection hk with hk; have := (h.own.lt k e).1; omega)⟩
/-- The first k numbers of a Hist. -/
def hL (f : Nat → Int) (k : Nat) : List Int := (List.range k).map f
theorem hL_succ (f : Nat → Int) (k : Nat) : hL f (k + 1) = hL f k ++ [f k] := by simp [hL, List.range_succ]
theorem hL_len (f : Nat → Int) (k : Nat) : (hL f k).length = k := by simp [hL]
theorem hL_at (f : Nat → Int) {k i : Nat} (hi : i < k) : fi (hL f k) i = f i := by simp [fi, hL, List.getD, hi]

set_option maxRecDepth 100000 in
set_option maxHeartbeats 4000000 in
theorem l4Join_any (a b : Ent) (ao bo : Option Addr) (ac bc : Nat) (w : World) (ha : IRow w ao a.n a.f) (hb : IRow w bo b.n b.f) (hA : AI a) (hg : GA b) :
    Calls Tryz.prog 115 #[.agg #[.int .i64 a.c, .int .i64 a.s, .int .i64 a.lo, .int .i64 a.hi, .slice ao a.n ac, .bool a.fu], .agg #[.int .i64 b.c, .int .i64 b.s, .int .i64 b.lo, .int .i64 b.hi, .slice bo b.n bc, .bool b.fu]] w fun e w' => SjO (jn a b) w e w' := by
  have han : a.n = 8 := by have := congrArg Ent.n hA.can; exact this.symm
  have hbn := hg.n
  have HB : Hid (b.n = 8) := hbn
  have HA : Hid (a.n = 8) := han
  have HO : True := trivial
  have FT : True := trivial
  have hB3 : Below w.heap.size w (((w.alloc (.cells #[.int .i64 a.c, .int .i64 a.s, .int .i64 a.lo, .int .i64 a.hi, .slice ao a.n ac, .bool a.fu] 33)).alloc (.cells #[.int .i64 b.c, .int .i64 b.s, .int .i64 b.lo, .int .i64 b.hi, .slice bo b.n bc, .bool b.fu] 33)).alloc (.cells #[.int .i64 0, .int .i64 0, .int .i64 0, .int .i64 0, .slice none 0 0, .bool false] 33)) := (((Below.refl _ _).alloc (Nat.le_refl _) _).alloc (by simp) _).alloc (by simp; omega) _
  have N0 : AAt (((w.alloc (.cells #[.int .i64 a.c, .int .i64 a.s, .int .i64 a.lo, .int .i64 a.hi, .slice ao a.n ac, .bool a.fu] 33)).alloc (.cells #[.int .i64 b.c, .int .i64 b.s, .int .i64 b.lo, .int .i64 b.hi, .slice bo b.n bc, .bool b.fu] 33)).alloc (.cells #[.int .i64 0, .int .i64 0, .int .i64 0, .int .i64 0, .slice none 0 0, .bool false] 33)) w.heap.size a.c a.s a.lo a.hi (.slice ao a.n ac) a.fu := ((AAt.new w a.c a.s a.lo a.hi (.slice ao a.n ac) a.fu 33).keep (below_new _ _)).keep (below_new _ _)
  have N1 : AAt (((w.alloc (.cells #[.int .i64 a.c, .int .i64 a.s, .int .i64 a.lo, .int .i64 a.hi, .slice ao a.n ac, .bool a.fu] 33)).alloc (.cells #[.int .i64 b.c, .int .i64 b.s, .int .i64 b.lo, .int .i64 b.hi, .slice bo b.n bc, .bool b.fu] 33)).alloc (.cells #[.int .i64 0, .int .i64 0, .int .i64 0, .int .i64 0, .slice none 0 0, .bool false] 33)) (w.heap.size + 1) b.c b.s b.lo b.hi (.slice bo b.n bc) b.fu := by
    have := (AAt.new (w.alloc (.cells #[.int .i64 a.c, .int .i64 a.s, .int .i64 a.lo, .int .i64 a.hi, .slice ao a.n ac, .bool a.fu] 33)) b.c b.s b.lo b.hi (.slice bo b.n bc) b.fu 33).keep (below_new _ (.cells #[.int .i64 0, .int .i64 0, .int .i64 0, .int .i64 0, .slice none 0 0, .bool false] 33))
    rw [World.size_alloc] at this
    exact this
  have R3 : AAt (((w.alloc (.cells #[.int .i64 a.c, .int .i64 a.s, .int .i64 a.lo, .int .i64 a.hi, .slice ao a.n ac, .bool a.fu] 33)).alloc (.cells #[.int .i64 b.c, .int .i64 b.s, .int .i64 b.lo, .int .i64 b.hi, .slice bo b.n bc, .bool b.fu] 33)).alloc (.cells #[.int .i64 0, .int .i64 0, .int .i64 0, .int .i64 0, .slice none 0 0, .bool false] 33)) (w.heap.size + 1 + 1) 0 0 0 0 (.slice none 0 0) false := by
    have := AAt.new ((w.alloc (.cells #[.int .i64 a.c, .int .i64 a.s, .int .i64 a.lo, .int .i64 a.hi, .slice ao a.n ac, .bool a.fu] 33)).alloc (.cells #[.int .i64 b.c, .int .i64 b.s, .int .i64 b.lo, .int .i64 b.hi, .slice bo b.n bc, .bool b.fu] 33)) 0 0 0 0 (.slice none 0 0) false 33
    rw [World.size_alloc, World.size_alloc] at this
    exact this
  have Z3 : ∀ j, ((((w.alloc (.cells #[.int .i64 a.c, .int .i64 a.s, .int .i64 a.lo, .int .i64 a.hi, .slice ao a.n ac, .bool a.fu] 33)).alloc (.cells #[.int .i64 b.c, .int .i64 b.s, .int .i64 b.lo, .int .i64 b.hi, .slice bo b.n bc, .bool b.fu] 33)).alloc (.cells #[.int .i64 0, .int .i64 0, .int .i64 0, .int .i64 0, .slice none 0 0, .bool false] 33))).frozen? ⟨w.heap.size + 1 + 1, j, none⟩ = false := fun j => by simp [go_sem]
  by_cases hac : a.c = 0
  · have hj : jn a b = cA b := by unfold jn; rw [if_pos hac]
    rw [hj]
    have had : (a.c == 0) = true := by simp [hac]
    have hO := l4Own_any b bo bc (((w.alloc (.cells #[.int .i64 a.c, .int .i64 a.s, .int .i64 a.lo, .int .i64 a.hi, .slice ao a.n ac, .bool a.fu] 33)).alloc (.cells #[.int .i64 b.c, .int .i64 b.s, .int .i64 b.lo, .int .i64 b.hi, .slice bo b.n bc, .bool b.fu] 33)).alloc (.cells #[.int .i64 0, .int .i64 0, .int .i64 0, .int .i64 0, .slice none 0 0, .bool false] 33)) (hb.keep hB3) (by omega)
    clear hac hj han hbn ha hb HO FT
    go_enter Tryz.func115, Tryz.ntmps115
    go_wp2_with fail
    generalize (((w.alloc (.cells #[.int .i64 a.c, .int .i64 a.s, .int .i64 a.lo, .int .i64 a.hi, .slice ao a.n ac, .bool a.fu] 33)).alloc (.cells #[.int .i64 b.c, .int .i64 b.s, .int .i64 b.lo, .int .i64 b.hi, .slice bo b.n bc, .bool b.fu] 33)).alloc (.cells #[.int .i64 0, .int .i64 0, .int .i64 0, .int .i64 0, .slice none 0 0, .bool false] 33)) = w3 at hB3 R3 Z3 N0 N1 hO ⊢
    refine hO.mono ?_
    rintro e w4 hO4
    obtain ⟨g, cap, rfl, ⟨hg4, hc4⟩, o4, hb4⟩ := own_sj (by first | exact HA.out | exact HB.out) hO4
    have R4 := R3.keep hb4
    have Z4 : ∀ j, w4.frozen? ⟨w.heap.size + 1 + 1, j, none⟩ = false := fun j => (hb4.frozen (p := ⟨w.heap.size + 1 + 1, j, none⟩) R3.lt).trans (Z3 j)
    have hRl := R3.lt
    have bw4 := hB3.trans (hb4.mono hB3.size)
    have s3 := hB3.size
    obtain ⟨_, r0, r1, r2, r3, r4, r5⟩ := R4
    clear hO hO4 R3 Z3
    go_wp2
    refine bodyPost_ret (v := .agg #[.int .i64 (cA b).c, .int .i64 (cA b).s, .int .i64 (cA b).lo, .int .i64 (cA b).hi, .slice (some ⟨g, 0, none⟩) 8 cap, .bool (cA b).fu]) (by simp [results, Tryz.results115, go_sem, r0, r1, r2, r3, r4, r5, cA]) rfl ⟨g, cap, rfl, ⟨by omega, hc4⟩, ?_, ?_⟩
    · repeat' refine iown_others ?_ (Others.setCell _ _ _ _) (by omega)
      exact o4
    · repeat' refine Below.setCell ?_ (by first | (simp; done) | (simp; omega)) _
      exact bw4
  by_cases hbc : b.c = 0
  · have hj : jn a b = cA a := by unfold jn; rw [if_neg hac, if_pos hbc]
    rw [hj]
    have had : (a.c == 0) = false := by simp [hac]
    have hbd : (b.c == 0) = true := by simp [hbc]
    have hO := l4Own_any a ao ac (((w.alloc (.cells #[.int .i64 a.c, .int .i64 a.s, .int .i64 a.lo, .int .i64 a.hi, .slice ao a.n ac, .bool a.fu] 33)).alloc (.cells #[.int .i64 b.c, .int .i64 b.s, .int .i64 b.lo, .int .i64 b.hi, .slice bo b.n bc, .bool b.fu] 33)).alloc (.cells #[.int .i64 0, .int .i64 0, .int .i64 0, .int .i64 0, .slice none 0 0, .bool false] 33)) (ha.keep hB3) (by omega)
    clear hac hbc hj han hbn ha hb HO FT
    go_enter Tryz.func115, Tryz.ntmps115
    go_wp2_with fail
    generalize (((w.alloc (.cells #[.int .i64 a.c, .int .i64 a.s, .int .i64 a.lo, .int .i64 a.hi, .slice ao a.n ac, .bool a.fu] 33)).alloc (.cells #[.int .i64 b.c, .int .i64 b.s, .int .i64 b.lo, .int .i64 b.hi, .slice bo b.n bc, .bool b.fu] 33)).alloc (.cells #[.int .i64 0, .int .i64 0, .int .i64 0, .int .i64 0, .slice none 0 0, .bool false] 33)) = w3 at hB3 R3 Z3 N0 N1 hO ⊢
    refine hO.mono ?_
    rintro e w4 hO4
    obtain ⟨g, cap, rfl, ⟨hg4, hc4⟩, o4, hb4⟩ := own_sj (by first | exact HA.out | exact HB.out) hO4
    have R4 := R3.keep hb4
    have Z4 : ∀ j, w4.frozen? ⟨w.heap.size + 1 + 1, j, none⟩ = false := fun j => (hb4.frozen (p := ⟨w.heap.size + 1 + 1, j, none⟩) R3.lt).trans (Z3 j)
    have hRl := R3.lt
    have bw4 := hB3.trans (hb4.mono hB3.size)
    have s3 := hB3.size
    obtain ⟨_, r0, r1, r2, r3, r4, r5⟩ := R4
    clear hO hO4 R3 Z3
    go_wp2
    refine bodyPost_ret (v := .agg #[.int .i64 (cA a).c, .int .i64 (cA a).s, .int .i64 (cA a).lo, .int .i64 (cA a).hi, .slice (some ⟨g, 0, none⟩) 8 cap, .bool (cA a).fu]) (by simp [results, Tryz.results115, go_sem, r0, r1, r2, r3, r4, r5, cA]) rfl ⟨g, cap, rfl, ⟨by omega, hc4⟩, ?_, ?_⟩
    · repeat' refine iown_others ?_ (Others.setCell _ _ _ _) (by omega)
      exact o4
    · repeat' refine Below.setCell ?_ (by first | (simp; done) | (simp; omega)) _
      exact bw4
  have had : (a.c == 0) = false := by simp [hac]
  have hbd : (b.c == 0) = false := by simp [hbc]
  have F1 := fin_two hac hbc
  generalize jn a b = y at *
  have r0 := ha.keep hB3
  have r1 := hb.keep hB3
  have hcb := hg.c
  have hfb := hg.f
  have hca := hA.c
  have hfa := hA.f
  have hwc : IntKind.i64.wrap (a.c + b.c) = a.c + b.c := by rw [IntKind.wrap_i64]; omega
  obtain ⟨sv, hsv⟩ : ∃ sv, IntKind.i64.wrap (a.s + b.s) = sv := ⟨_, rfl⟩
  have hsv2 : wrap64 (a.s + b.s) = sv := by rw [← hsv, IntWalk.i64_left]
  have HS : Hid (y.s = if y.fu = true then 0 else sv) := by unfold Hid; rw [F1.es, hsv]
  obtain ⟨cs, hcs⟩ : ∃ cs, a.c + b.c = cs := ⟨_, rfl⟩
  rw [hcs] at hwc
  have n0 := N0
  have n1 := N1
  obtain ⟨_, m0, m1, m2, m3, m4, m5⟩ := n0
  obtain ⟨_, k0, k1, k2, k3, k4, k5⟩ := n1
  clear ha hb hac hbc han hbn
  go_enter Tryz.func115, Tryz.ntmps115
  go_upto_region 5 with fail
  generalize (((w.alloc (.cells #[.int .i64 a.c, .int .i64 a.s, .int .i64 a.lo, .int .i64 a.hi, .slice ao a.n ac, .bool a.fu] 33)).alloc (.cells #[.int .i64 b.c, .int .i64 b.s, .int .i64 b.lo, .int .i64 b.hi, .slice bo b.n bc, .bool b.fu] 33)).alloc (.cells #[.int .i64 0, .int .i64 0, .int .i64 0, .int .i64 0, .slice none 0 0, .bool false] 33)) = w3 at *
  go_cut [5] from 19 (fun s5 wx => s5 = .pointer (some ⟨w3.heap.size, 0, none⟩) ∧ ∃ u, OB w3 wx w3.heap.size cs sv a.lo a.hi (.slice none 0 0) u ∧ Hid (u = (a.fu || b.fu)))
  case first =>
    have hcase : a.fu = true ∨ (a.fu = false ∧ b.fu = true) ∨ (a.fu = false ∧ b.fu = false) := by cases a.fu <;> cases b.fu <;> simp
    rcases hcase with hu | ⟨hu, hf⟩ | ⟨hu, hf⟩
    · rw [hu] at m5
      have HU : Hid (true = (a.fu || b.fu)) := by unfold Hid; rw [hu]; rfl
      go_wp2
      go_meet
      exact ⟨rfl, _, ⟨AAt.new w3 cs sv a.lo a.hi (.slice none 0 0) true 33, fun j => by simp [go_sem], below_new _ _⟩, HU⟩
    · rw [hu] at m5
      rw [hf] at k5
      have HU : Hid (true = (a.fu || b.fu)) := by unfold Hid; rw [hu, hf]; rfl
      go_wp2
      go_meet
      exact ⟨rfl, _, ⟨AAt.new w3 cs sv a.lo a.hi (.slice none 0 0) true 33, fun j => by simp [go_sem], below_new _ _⟩, HU⟩
    · rw [hu] at m5
      rw [hf] at k5
      have HU : Hid (false = (a.fu || b.fu)) := by unfold Hid; rw [hu, hf]; rfl
      go_wp2
      go_meet
      exact ⟨rfl, _, ⟨AAt.new w3 cs sv a.lo a.hi (.slice none 0 0) false 33, fun j => by simp [go_sem], below_new _ _⟩, HU⟩
  case rest =>
    obtain ⟨rfl, u, T1, HU⟩ := hcut
    have HFU : Hid (y.fu = ((u || decide ((1000000000 : Int) < cs)) || ov a.f b.f 8)) := by unfold Hid; rw [F1.efu, HU.out, hcs]
    have HC : Hid (y.c = min cs 1000000000) := by unfold Hid; rw [F1.ec, hcs]
    clear m0 m1 m2 m3 m4 m5 k0 k1 k2 k3 k4 k5
    have z1 := T1.fz
    obtain ⟨_, c0, c1, c2, c3, c4, c5⟩ := T1.A
    go_upto_if 42 with fail
    go_cut [5] from 43 (fun s5 wx => s5 = .pointer (some ⟨w3.heap.size, 0, none⟩) ∧ OB w3 wx w3.heap.size y.c sv a.lo a.hi (.slice none 0 0) (u || decide ((1000000000 : Int) < cs)))
    case first =>
      by_cases hov : (1000000000 : Int) < cs
      · have HY : Hid (y.c = 1000000000) := by have := HC.out; unfold Hid; omega
        have hd : Hid (decide ((1000000000 : Int) < cs) = true) := decide_eq_true hov
        go_wp2
        go_meet
        exact ⟨rfl, by rw [HY.out, hd.out, Bool.or_true]; exact (T1.set0 1000000000).set5 true⟩
      · have HY : Hid (y.c = cs) := by have := HC.out; unfold Hid; omega
        have hd : Hid (decide ((1000000000 : Int) < cs) = false) := decide_eq_false hov
        go_wp2
        go_meet
        exact ⟨rfl, by rw [HY.out, hd.out, Bool.or_false]; exact T1⟩
    case rest =>
      obtain ⟨rfl, T2⟩ := hcut
      generalize (u || decide ((1000000000 : Int) < cs)) = u2 at *
      clear T1 c0 c1 c2 c3 c4 c5 z1 HU
      have z1 := T2.fz
      obtain ⟨_, c0, c1, c2, c3, c4, c5⟩ := T2.A
      have N1b := N1.keep T2.bw
      obtain ⟨_, k0, k1, k2, k3, k4, k5⟩ := N1b
      go_upto_if 49 with fail
      go_cut [5] from 50 (fun s5 wx => s5 = .pointer (some ⟨w3.heap.size, 0, none⟩) ∧ OB w3 wx w3.heap.size y.c sv y.lo a.hi (.slice none 0 0) u2)
      case first =>
        have HL := F1.elo
        by_cases hlo : b.lo < a.lo
        · have HY : Hid (y.lo = b.lo) := by unfold Hid; rw [HL, if_pos hlo]
          clear HL
          go_wp2
          go_meet
          exact ⟨rfl, by rw [HY.out]; exact T2.set2 b.lo⟩
        · have HY : Hid (y.lo = a.lo) := by unfold Hid; rw [HL, if_neg hlo]
          clear HL
          go_wp2
          go_meet
          exact ⟨rfl, by rw [HY.out]; exact T2⟩
      case rest =>
        obtain ⟨rfl, T3⟩ := hcut
        clear T2 c0 c1 c2 c3 c4 c5 z1 k0 k1 k2 k3 k4 k5
        have z1 := T3.fz
        obtain ⟨_, c0, c1, c2, c3, c4, c5⟩ := T3.A
        have N1b := N1.keep T3.bw
        obtain ⟨_, k0, k1, k2, k3, k4, k5⟩ := N1b
        go_upto_if 57 with fail
        go_cut [5] from 58 (fun s5 wx => s5 = .pointer (some ⟨w3.heap.size, 0, none⟩) ∧ OB w3 wx w3.heap.size y.c sv y.lo y.hi (.slice none 0 0) u2)
        case first =>
          have HL := F1.ehi
          by_cases hlo : a.hi < b.hi
          · have HY : Hid (y.hi = b.hi) := by unfold Hid; rw [HL, if_pos hlo]
            clear HL
            go_wp2
            go_meet
            exact ⟨rfl, by rw [HY.out]; exact T3.set3 b.hi⟩
          · have HY : Hid (y.hi = a.hi) := by unfold Hid; rw [HL, if_neg hlo]
            clear HL
            go_wp2
            go_meet
            exact ⟨rfl, by rw [HY.out]; exact T3⟩
        case rest =>
          obtain ⟨rfl, T4⟩ := hcut
          clear T3 c0 c1 c2 c3 c4 c5 z1 k0 k1 k2 k3 k4 k5
          have N0b := N0.keep T4.bw
          obtain ⟨_, m0, m1, m2, m3, m4, m5⟩ := N0b
          clear m0 m1 m2 m3 m5
          go_wp2
          have han := HA.out
          have hbn := HB.out
          have H4 : OB w3 wc w3.heap.size y.c sv y.lo y.hi (.slice none 0 0) (u2 || ov a.f b.f 0) := by simpa [ov] using T4
          go_loopw [64] (fun i wr => ∃ (k : Nat) (v : Value), k ≤ 8 ∧ i = .int .i64 k ∧ OB w3 wr w3.heap.size y.c sv y.lo y.hi v (u2 || ov a.f b.f k) ∧ OwnI wr (w3.heap.size + 1) v (hL y.f k)) (fun i _ => 8 - (intOf i).toNat)
          case atStart => exact ⟨0, _, by omega, rfl, H4, ownI_nil _ _⟩
          case round =>
            clear H4 T4 m4
            obtain ⟨k, v, hk, rfl, T6, O6⟩ := hrel
            obtain ⟨vo, vc, rfl, _, _⟩ := O6.form
            rw [hL_len] at T6 O6
            have z6 := T6.fz
            obtain ⟨_, c0, c1, c2, c3, c4, c5⟩ := T6.A
            have N1w := N1.keep T6.bw
            obtain ⟨_, k0, k1, k2, k3, k4, k5⟩ := N1w
            by_cases hlt : k < 8
            · have r0k := r0.keep T6.bw
              have r1k := r1.keep T6.bw
              obtain ⟨ag, aof, rfl, _, hac⟩ := r0k.lies.resolve_left (by omega)
              obtain ⟨bg, bof, rfl, _, hbc⟩ := r1k.lies.resolve_left (by omega)
              have ca := hac k (by omega)
              have cb := hbc k (by omega)
              have hkn : k < b.n := by omega
              have hka : k < a.n := by omega
              have hfk := hfa k
              have hgk := hfb k hlt
              have HV : Hid (y.f k = min (a.f k + b.f k) 1000000000) := by unfold Hid; rw [F1.ef k, if_pos hlt]
              have hyk : -9223372036854775808 ≤ y.f k ∧ y.f k ≤ 9223372036854775807 := by rw [HV.out]; omega
              have hwk : IntKind.i64.wrap (a.f k + b.f k) = a.f k + b.f k := by rw [IntKind.wrap_i64]; omega
              clear hac hbc r0k r1k han hbn
              by_cases hov : (1000000000 : Int) < a.f k + b.f k
              · have HY : Hid (y.f k = 1000000000) := by have := HV.out; unfold Hid; omega
                have HD : Hid ((u2 || ov a.f b.f (k + 1)) = true) := by unfold Hid; rw [ov, decide_eq_true hov]; simp
                have T7 := T6.set5 true
                have O7 : OwnI (wr.setCell ⟨w3.heap.size, 5, none⟩ (.bool true)) (w3.heap.size + 1) (.slice vo k vc) (hL y.f k) := O6.others (Others.setCell wr w3.heap.size 5 (.bool true)) (Nat.lt_succ_self _)
                have s7 : w3.heap.size + 1 ≤ (wr.setCell ⟨w3.heap.size, 5, none⟩ (.bool true)).heap.size := T7.A.lt
                have z7 := T7.fz
                obtain ⟨_, d0, d1, d2, d3, d4, d5⟩ := T7.A
                have hbv : (-9223372036854775808 : Int) ≤ 1000000000 ∧ (1000000000 : Int) ≤ 9223372036854775807 := by omega
                go_wp2_with (at_builtin; refine wpList_pushI (w := (wr.setCell ⟨w3.heap.size, 5, none⟩ (.bool true))) rfl (.tmp 80) (.tmp 82) rfl (w3.heap.size + 1) _ (hL y.f k) 1000000000 rfl O7 hbv (by rw [World.size_setCell]; rfl) (by rw [hL_len]; omega) s7 ?_; intro v8 w8 O8 g8; have hb8 : Below (w3.heap.size + 1) (wr.setCell ⟨w3.heap.size, 5, none⟩ (.bool true)) w8 := (O7.keep (below_new (wr.setCell ⟨w3.heap.size, 5, none⟩ (.bool true)) _)).below ((Below.refl _ _).alloc s7 _) g8 (Nat.le_refl _) (by simp; omega); have T8 := T7.keepD hb8; have z8 := T8.fz; obtain ⟨_, e0, e1, e2, e3, e4, e5⟩ := T8.A; rw [show hL y.f k ++ [(1000000000 : Int)] = hL y.f (k + 1) from by rw [hL_succ, HY.out]] at O8; obtain ⟨vo8, vc8, rfl, _, _⟩ := O8.form; rw [hL_len] at O8)
                go_roundw
                case rel => exact ⟨k + 1, _, by omega, by go_num, by rw [HD.out]; exact T8.set4 _, by rw [hL_len]; exact O8.others (Others.setCell _ _ _ _) (Nat.lt_succ_self _)⟩
                case measure => simp [intOf]; omega
              · have HY : Hid (y.f k = a.f k + b.f k) := by have := HV.out; unfold Hid; omega
                have HD : Hid ((u2 || ov a.f b.f (k + 1)) = (u2 || ov a.f b.f k)) := by unfold Hid; rw [ov, decide_eq_false hov, Bool.or_false]
                have T7 := T6
                have O7 := O6
                have s7 : w3.heap.size + 1 ≤ wr.heap.size := T7.A.lt
                have z7 := T7.fz
                obtain ⟨_, d0, d1, d2, d3, d4, d5⟩ := T7.A
                have hbv : -9223372036854775808 ≤ (a.f k + b.f k) ∧ (a.f k + b.f k) ≤ 9223372036854775807 := by omega
                go_wp2_with (at_builtin; refine wpList_pushI (w := wr) rfl (.tmp 80) (.tmp 82) rfl (w3.heap.size + 1) _ (hL y.f k) (a.f k + b.f k) rfl O7 hbv rfl (by rw [hL_len]; omega) s7 ?_; intro v8 w8 O8 g8; have hb8 : Below (w3.heap.size + 1) wr w8 := (O7.keep (below_new wr _)).below ((Below.refl _ _).alloc s7 _) g8 (Nat.le_refl _) (by simp; omega); have T8 := T7.keepD hb8; have z8 := T8.fz; obtain ⟨_, e0, e1, e2, e3, e4, e5⟩ := T8.A; rw [← HY.out, ← hL_succ] at O8; obtain ⟨vo8, vc8, rfl, _, _⟩ := O8.form; rw [hL_len] at O8)
                go_roundw
                case rel => exact ⟨k + 1, _, by omega, by go_num, by rw [HD.out]; exact T8.set4 _, by rw [hL_len]; exact O8.others (Others.setCell _ _ _ _) (Nat.lt_succ_self _)⟩
                case measure => simp [intOf]; omega
            · obtain rfl : k = 8 := by omega
              have e8 : (u2 || ov a.f b.f 8) = y.fu := HFU.out.symm
              rw [e8] at T6 c5
              obtain ⟨g, cap, hge, hgb, hvc8, hio⟩ := O6.own' (by rw [hL_len]; omega)
              rw [hL_len] at hge hio hvc8
              injection hge with e1 _ e3
              subst e1 e3
              have io : IOwn wr g 0 8 y.f := hio.cong (fun i => by
                rw [F1.ef i]
                split
                · rename_i hi
                  have h1 := hfa i
                  have h2 := hfb i hi
                  omega
                · omega) (fun i hi => hL_at y.f hi)
              have RR := R3.keep T6.bw
              have ZR : ∀ j, wr.frozen? ⟨w.heap.size + 1 + 1, j, none⟩ = false := fun j => (T6.bw.frozen (p := ⟨w.heap.size + 1 + 1, j, none⟩) R3.lt).trans (Z3 j)
              have hRl := R3.lt
              have s3 := hB3.size
              have bwr := hB3.trans (T6.bw.mono s3)
              obtain ⟨_, x0, x1, x2, x3, x4, x5⟩ := RR
              clear r0 r1 F1 HFU e8
              cases hyf : y.fu
              · rw [hyf] at c5
                have HS2 : Hid (sv = y.s) := by unfold Hid; rw [HS.out, hyf]; simp
                go_wp2
                refine bodyPost_ret (v := .agg #[.int .i64 y.c, .int .i64 sv, .int .i64 y.lo, .int .i64 y.hi, .slice (some ⟨g, 0, none⟩) 8 vc, .bool false]) (by simp [results, Tryz.results115, go_sem, x0, x1, x2, x3, x4, x5]) rfl ⟨g, vc, by rw [HS2.out, hyf], ⟨by omega, hvc8⟩, ?_, ?_⟩
                · repeat' refine iown_others ?_ (Others.setCell _ _ _ _) (by omega)
                  exact io
                · repeat' refine Below.setCell ?_ (by first | (simp; done) | (simp; omega)) _
                  exact bwr
              · rw [hyf] at c5
                have HS2 : Hid (y.s = 0) := by unfold Hid; rw [HS.out, hyf]; simp
                go_wp2
                refine bodyPost_ret (v := .agg #[.int .i64 y.c, .int .i64 0, .int .i64 y.lo, .int .i64 y.hi, .slice (some ⟨g, 0, none⟩) 8 vc, .bool true]) (by simp [results, Tryz.results115, go_sem, x0, x1, x2, x3, x4, x5]) rfl ⟨g, vc, by rw [HS2.out, hyf], ⟨by omega, hvc8⟩, ?_, ?_⟩
                · repeat' refine iown_others ?_ (Others.setCell _ _ _ _) (by omega)
                  exact io
                · repeat' refine Below.setCell ?_ (by first | (simp; done) | (simp; omega)) _
                  exact bwr
end Go.Proofs.YtohjjigkfdhklaaGreat
