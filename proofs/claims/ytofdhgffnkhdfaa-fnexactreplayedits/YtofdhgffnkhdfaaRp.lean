/- Edits replayed: in numbers, and in the program (made by mkrp.py). -/
import Derived.Test.YtofdhgffnkhdfaaEr
import Derived.Test.YtofdhgffnkhdfaaCm
import Derived.Test.YtofdhgffnkhdfaaFv
namespace Go.Proofs.Ytofdhgffnkhdfaa
open Go.RowKit
set_option linter.unusedSimpArgs false
set_option linter.unusedVariables false

/-- A version, in numbers. -/
structure Ver where
  nx : Int
  lg : Int
  sq : Int
  LL : Nat → List Met
/-- The version behind the first k edits. -/
def rpV (E : Nat → Edt) : Nat → Ver
  | 0 => ⟨2, 1, 0, fun _ => []⟩
  | k + 1 => ⟨(E k).nx, (E k).lg, (E k).sq, apL (rpV E k).LL (E k).D (E k).A⟩
/-- The edit k applies. -/
def GoodK (E : Nat → Edt) (k : Nat) : Prop := GoodAp (rpV E k).nx (rpV E k).lg (rpV E k).sq 3 (rpV E k).LL (E k).nx (E k).lg (E k).sq (E k).D (E k).A
/-- k is where the replaying ends. -/
def Ends (E : Nat → Edt) (n k : Nat) : Prop := k ≤ n ∧ (∀ i, i < k → GoodK E i) ∧ (k = n ∨ ¬ GoodK E k)
theorem ends_ex (E : Nat → Edt) (n : Nat) : ∃ k, Ends E n k := by
  have h : ∀ j, j ≤ n → (∀ i, i < j → GoodK E i) ∨ ∃ k, Ends E n k := fun j => by
    induction j with
    | zero => intro _; exact .inl (fun i hi => absurd hi (Nat.not_lt_zero _))
    | succ j ih =>
      intro hj
      rcases ih (by omega) with h | h
      · by_cases hg : GoodK E j
        · exact .inl (fun i hi => by
            by_cases e : i = j
            · subst e; exact hg
            · exact h i (by omega))
        · exact .inr ⟨j, by omega, h, .inr hg⟩
      · exact .inr h
  rcases h n (Nat.le_refl _) with h | h
  · exact ⟨n, Nat.le_refl _, h, .inl rfl⟩
  · exact h
theorem ends_one {E : Nat → Edt} {n k k' : Nat} (h : Ends E n k) (h' : Ends E n k') : k = k' := by
  rcases Nat.lt_trichotomy k k' with hl | e | hl
  · rcases h.2.2 with e | hb
    · have := h'.1; omega
    · exact absurd (h'.2.1 k hl) hb
  · exact e
  · rcases h'.2.2 with e | hb
    · have := h.1; omega
    · exact absurd (h.2.1 k' hl) hb
/-- What is known of the version behind the first k. -/
theorem rp_avs {E : Nat → Edt} {k : Nat} (h : ∀ i, i < k → GoodK E i) (ok : Bool) : Avs (rpV E k).nx (rpV E k).lg (rpV E k).sq 3 (rpV E k).LL ok ∧ (0 ≤ (rpV E k).nx ∧ (rpV E k).nx ≤ 9223372036854775807) := by
  cases k with
  | zero => exact ⟨⟨Nat.le_refl _, fun i _ => by simp [rpV], fun i _ j hj => by simp [rpV] at hj⟩, by simp [rpV]⟩
  | succ k =>
    have h6 := (h k (by omega)).2.2.2.2.2
    have hf := GoodVP.few (LL := apL (rpV E k).LL (E k).D (E k).A) h6
    refine ⟨⟨Nat.le_refl _, hf.2, fun i hi j hj => gm_mb ((h6.2.2.2.2.1.2 i hi).1.2 j hj)⟩, ?_⟩
    have h1 : fN (E k).nx = true := h6.1
    show 0 ≤ (E k).nx ∧ (E k).nx ≤ _
    simp only [fN, btw, Bool.and_eq_true, decide_eq_true_eq] at h1
    omega
theorem VZ.put' {w : World} {b : Nat} {nx lg sq : Int} {ao : Option Addr} {N cap : Nat} (h : VZ w b nx lg sq ao N cap) (n' l' s' : Int) (a' : Option Addr) (N' c' : Nat) :
    VZ ((((w.setCell ⟨b, 0, none⟩ (.int .i64 n')).setCell ⟨b, 1, none⟩ (.int .i64 l')).setCell ⟨b, 2, none⟩ (.int .i64 s')).setCell ⟨b, 3, none⟩ (.slice a' N' c')) b n' l' s' a' N' c' := by
  obtain ⟨⟨lt, c0, c1, c2, c3⟩, fz⟩ := h
  refine ⟨⟨by simpa using lt, ?_, ?_, ?_, ?_⟩, fun j => by simp [go_sem]; exact fz j⟩ <;> simp [go_sem, c0, c1, c2, c3]
/-- A replaying: the version in the box B, the answer's box ahead of it. -/
structure RS (w : World) (B : Nat) (v : Ver) (ao : Option Addr) (c : Nat) (wr : World) : Prop where
  box : VZ wr B v.nx v.lg v.sq ao 3 c
  va : ∃ lo hi, VA wr lo hi ao 3 (fun i => mL (v.LL i)) (fun i => (v.LL i).length) ∧ w.heap.size < lo ∧ (hi ≤ B ∨ B < lo)
  res : VZ wr w.heap.size 0 0 0 none 0 0
  lt : w.heap.size < B
  bel : Below w.heap.size w wr
theorem RS.keep {w wr w' : World} {B : Nat} {v : Ver} {ao : Option Addr} {c : Nat} (h : RS w B v ao c wr) (hb : Below wr.heap.size wr w') : RS w B v ao c w' := by
  obtain ⟨lo, hi, h1, h2, h3⟩ := h.va
  exact ⟨h.box.keep hb, ⟨lo, hi, h1.keep hb, h2, h3⟩, h.res.keep hb, h.lt, h.bel.trans (hb.mono h.bel.size)⟩
/-- Another version put into the box. -/
theorem RS.put {w wr : World} {B : Nat} {v : Ver} {ao : Option Addr} {c : Nat} (h : RS w B v ao c wr) (u : Ver) (a' : Option Addr) (c' lo hi : Nat) (hV : VA wr lo hi a' 3 (fun i => mL (u.LL i)) (fun i => (u.LL i).length)) (hlo : B < lo) :
    RS w B u a' c' ((((wr.setCell ⟨B, 0, none⟩ (.int .i64 u.nx)).setCell ⟨B, 1, none⟩ (.int .i64 u.lg)).setCell ⟨B, 2, none⟩ (.int .i64 u.sq)).setCell ⟨B, 3, none⟩ (.slice a' 3 c')) := by
  have oth : Others B wr ((((wr.setCell ⟨B, 0, none⟩ (.int .i64 u.nx)).setCell ⟨B, 1, none⟩ (.int .i64 u.lg)).setCell ⟨B, 2, none⟩ (.int .i64 u.sq)).setCell ⟨B, 3, none⟩ (.slice a' 3 c')) := (((Others.setCell _ _ _ _).trans (Others.setCell _ _ _ _)).trans (Others.setCell _ _ _ _)).trans (Others.setCell _ _ _ _)
  have lt := h.lt
  exact ⟨h.box.put' u.nx u.lg u.sq a' 3 c', ⟨lo, hi, hV.same (by rw [oth.size]; exact Nat.le_refl _) (fun q h1 _ => oth.block q (by omega)), by omega, .inr hlo⟩, h.res.same (by rw [oth.size]; exact Nat.le_refl _) (oth.block _ (by omega)), lt, h.bel.trans (oth.below (by omega))⟩
/-- What is answered. -/
def RvO (nx lg sq : Int) (N : Nat) (LA : Nat → List Met) (k : Int) (ok : Bool) (w : World) (e : Ending) (w' : World) : Prop :=
  ∃ ao c, e = .returned (.tuple #[.agg #[.int .i64 nx, .int .i64 lg, .int .i64 sq, .slice ao N c], .int .i64 k, .bool ok]) ∧ VA w' w.heap.size w'.heap.size ao N (fun i => mL (LA i)) (fun i => (LA i).length) ∧ Below w.heap.size w w'
/-- What the replaying itself answers. -/
def RwO (E : Nat → Edt) (k : Nat) (w : World) (e : Ending) (w' : World) : Prop :=
  ∃ ao c, e = .returned (.tuple #[.agg #[.int .i64 (rpV E k).nx, .int .i64 (rpV E k).lg, .int .i64 (rpV E k).sq, .slice ao 3 c], .int .i64 k]) ∧ VA w' w.heap.size w'.heap.size ao 3 (fun i => mL ((rpV E k).LL i)) (fun i => ((rpV E k).LL i).length) ∧ Below w.heap.size w w'
theorem fv_va {w : World} {lo hi : Nat} {ao : Option Addr} (h : VA w lo hi ao 3 noR noM) : VA w lo hi ao 3 (fun i => mL ((fun _ => [] : Nat → List Met) i)) (fun i => ((fun _ => [] : Nat → List Met) i).length) :=
  h.congr (fun i _ => rfl) (fun i _ j hj => by simp [noM] at hj)

set_option maxRecDepth 100000 in
set_option maxHeartbeats 8000000 in
theorem replayEdits_impl (ao : Option Addr) (n cap : Nat) (E : Nat → Edt) (K : Nat) (w : World) (hr : EdRow false w ao n E) (hn : n ≤ 60) (hz : EdSize n E) (hK : Hid (Ends E n K)) :
    Calls Try.prog 7 #[.slice ao n cap] w fun e w' => RvO (rpV E K).nx (rpV E K).lg (rpV E K).sq 3 (rpV E K).LL K true w e w' := by
  obtain ⟨hbd, hlies⟩ := hr
  have hng : ¬ (60 : Int) < (n : Int) := by omega
  have b0 := below_new w (.cells #[.int .i64 0, .int .i64 0, .int .i64 0, .slice none 0 0] 26)
  have Z0 := VZ.new w 0 0 0 none 0 0 26
  have s0 : (w.alloc (.cells #[.int .i64 0, .int .i64 0, .int .i64 0, .slice none 0 0] 26)).heap.size = w.heap.size + 1 := by simp
  go_enter Try.func7, Try.ntmps7
  go_wp2_with fail
  refine (firstVersion_impl _).mono ?_
  rintro e w1 ⟨g1, rfl, V1, q1⟩
  have bn1 := below_new w1 (.cells #[.int .i64 2, .int .i64 1, .int .i64 0, .slice (some ⟨g1, 0, none⟩) 3 3] 26)
  have s1 := q1.size
  have R1 : RS w w1.heap.size (rpV E 0) (some ⟨g1, 0, none⟩) 3 (w1.alloc (.cells #[.int .i64 2, .int .i64 1, .int .i64 0, .slice (some ⟨g1, 0, none⟩) 3 3] 26)) :=
    ⟨VZ.new w1 2 1 0 (some ⟨g1, 0, none⟩) 3 3 26, ⟨_, _, (fv_va V1).keep bn1, by rw [s0]; omega, .inl (Nat.le_refl _)⟩, (Z0.keep q1).keep bn1, by omega, (b0.trans (q1.mono b0.size)).trans (bn1.mono (Nat.le_trans b0.size q1.size))⟩
  clear V1 q1 Z0 b0 bn1
  go_wp2
  generalize w1.alloc (.cells #[.int .i64 2, .int .i64 1, .int .i64 0, .slice (some ⟨g1, 0, none⟩) 3 3] 26) = w2 at *
  obtain ⟨B, hB⟩ : ∃ B, B = w1.heap.size := ⟨_, rfl⟩
  rw [← hB] at R1 ⊢
  clear hB
  go_loopw [17] (fun i wr => ∃ (k : Nat) (va : Option Addr) (vc : Nat), k ≤ n ∧ i = .int .i64 k ∧ Hid (∀ i, i < k → GoodK E i) ∧ RS w B (rpV E k) va vc wr) (fun i _ => n - (intOf i).toNat)
  case atStart => exact ⟨0, _, 3, Nat.zero_le _, rfl, (fun i hi => absurd hi (Nat.not_lt_zero _) : ∀ i, i < 0 → GoodK E i), R1⟩
  case round =>
    obtain ⟨k, va, vc, hk, rfl, HG, hR⟩ := hrel
    have lt := hR.lt
    by_cases hlt : k < n
    rotate_left
    · have e : k = n := by omega
      subst e
      have hKn : K = k := ends_one hK.out ⟨Nat.le_refl _, HG.out, .inl rfl⟩
      subst hKn
      obtain ⟨⟨lb, x0, x1, x2, x3⟩, xf⟩ := hR.box
      obtain ⟨⟨lr, d0, d1, d2, d3⟩, df⟩ := hR.res
      obtain ⟨lo, hi, hV, hlo, _⟩ := hR.va
      have bel := hR.bel
      clear hR hlies R1
      go_wp2
      refine bodyPost_ret (v := .tuple #[.agg #[.int .i64 (rpV E K).nx, .int .i64 (rpV E K).lg, .int .i64 (rpV E K).sq, .slice va 3 vc], .int .i64 K, .bool true]) (by simp [results, Try.results7, go_sem, d0, d1, d2, d3]) rfl ⟨va, vc, rfl, ?_, ?_⟩
      · refine VA.mono (hV.same (by simp) (fun q h1 _ => ?_)) (by omega) (by have := hV.1; simp; omega) (Nat.le_refl _)
        repeat' refine (Below.heap_setCell _ _ _ _ (by first | omega | (dsimp only; omega))).trans ?_
        rfl
      · repeat' refine Below.setCell ?_ (by first | (simp; done) | (simp; omega)) _
        exact bel
    obtain ⟨b, off, rfl, hblt, hc⟩ := hlies.resolve_left (by omega)
    obtain ⟨da, aa, cd, ca, ea, r0, r1, hcd⟩ := hc k hlt
    have hS := hz k hlt
    obtain ⟨avs, hnx⟩ := rp_avs HG.out true
    have HGK : Hid (GoodK E k ↔ GoodAp (rpV E k).nx (rpV E k).lg (rpV E k).sq 3 (rpV E k).LL (E k).nx (E k).lg (E k).sq (E k).D (E k).A) := Iff.rfl
    have HV : Hid (rpV E (k + 1) = ⟨(E k).nx, (E k).lg, (E k).sq, apL (rpV E k).LL (E k).D (E k).A⟩) := rfl
    obtain ⟨x, hx⟩ : ∃ x, x = E k := ⟨_, rfl⟩
    obtain ⟨v, hv⟩ : ∃ v, v = rpV E k := ⟨_, rfl⟩
    have HVk : Hid (v = rpV E k) := hv
    rw [← hx] at ea r0 r1 hS HGK HV hcd
    rw [← hv] at avs hnx HGK HV hR
    clear hx hv hc hlies R1
    obtain ⟨_, d0, d1, d2, d3, d4⟩ := ea.keep (w' := wr) (hR.bel)
    have bE0 := hR.bel
    have bn := below_new wr (.cells #[.int .i64 x.nx, .int .i64 x.lg, .int .i64 x.sq, .slice da x.D.length cd, .slice aa x.A.length ca] 45)
    have R2 := hR.keep bn
    have bE : Below w.heap.size w (wr.alloc (.cells #[.int .i64 x.nx, .int .i64 x.lg, .int .i64 x.sq, .slice da x.D.length cd, .slice aa x.A.length ca] 45)) := R2.bel
    obtain ⟨⟨lb, x0, x1, x2, x3⟩, xf⟩ := R2.box
    obtain ⟨lo, hi, hV, hlo, hlb⟩ := R2.va
    have hl2 : ∀ i, i < 3 → (v.LL i).length ≤ 9223372036854775807 := fun i hi => by have := avs.len i hi; omega
    have vr := hV.row avs.mb hl2
    have hap := applyEdit_impl v.nx v.lg v.sq va 3 vc v.LL x.nx x.lg x.sq da cd x.D aa ca x.A _ vr (r0.keep bE) (r1.keep bE) (by omega) (by have := avs.sum; omega) hS.1 hS.2
    have sE : (wr.alloc (.cells #[.int .i64 x.nx, .int .i64 x.lg, .int .i64 x.sq, .slice da x.D.length cd, .slice aa x.A.length ca] 45)).heap.size = wr.heap.size + 1 := by simp
    have hq0 : (0 : Int) ≤ (k : Int) := by omega
    have hq1 : (k : Int) < (n : Int) := by omega
    have AVS : Hid (Avs v.nx v.lg v.sq 3 v.LL true) := avs
    clear hR bn bE0 hV vr hl2 avs
    go_wp2_with fail
    refine hap.mono ?_
    clear hap x0 x1 x2 x3 xf
    generalize wr.alloc (.cells #[.int .i64 x.nx, .int .i64 x.lg, .int .i64 x.sq, .slice da x.D.length cd, .slice aa x.A.length ca] 45) = we at *
    rintro e w3 (⟨hG, a3, c3, rfl, V3, q3⟩ | ⟨hN, rfl, q3⟩)
    · have HG2 : Hid (∀ i, i < k + 1 → GoodK E i) := fun i hi => by
        by_cases e : i = k
        · subst e; exact HGK.out.2 hG
        · exact HG.out i (by omega)
      have bn3 := below_new w3 (.cells #[.int .i64 x.nx, .int .i64 x.lg, .int .i64 x.sq, .slice a3 3 c3] 26)
      have N3 := VX.new w3 x.nx x.lg x.sq a3 3 c3 26
      have R3 := (R2.keep q3).keep bn3
      have V4 := V3.keep bn3
      have s3 := q3.size
      have hBe := R2.box.vx.lt
      have R4 := R3.put ⟨x.nx, x.lg, x.sq, apL v.LL x.D x.A⟩ a3 c3 _ _ V4 hBe
      obtain ⟨⟨lb, x0, x1, x2, x3⟩, xf⟩ := R3.box
      obtain ⟨_, y0, y1, y2, y3⟩ := N3
      rw [← HV.out] at R4
      have HR4 := R4
      rw [HV.out] at HR4
      clear R2 R3 V3 V4 q3 bn3 hG
      have f0 := xf 0
      have f1 := xf 1
      have f2 := xf 2
      have f3 := xf 3
      rw [HV.out] at R4
      go_wp2
      rw [← HV.out] at R4
      go_roundw
      case rel => exact ⟨k + 1, a3, c3, by omega, by go_num, HG2, R4⟩
      case measure => simp [intOf]; omega
    · have hKk : K = k := ends_one hK.out ⟨by omega, HG.out, .inr (fun h => hN (HGK.out.1 h))⟩
      subst hKk
      have bn3 := below_new w3 (.cells #[.int .i64 0, .int .i64 0, .int .i64 0, .slice none 0 0] 26)
      have R3 := (R2.keep q3).keep bn3
      have s3 := q3.size
      have s3' : (w3.alloc (.cells #[.int .i64 0, .int .i64 0, .int .i64 0, .slice none 0 0] 26)).heap.size = w3.heap.size + 1 := by simp
      obtain ⟨⟨lb, x0, x1, x2, x3⟩, xf⟩ := R3.box
      obtain ⟨⟨lr, t0, t1, t2, t3⟩, tf⟩ := R3.res
      obtain ⟨lo, hi, hV, hlo, _⟩ := R3.va
      have bel := R3.bel
      clear R2 R3 q3 bn3 hN
      go_wp2
      generalize w3.alloc (.cells #[.int .i64 0, .int .i64 0, .int .i64 0, .slice none 0 0] 26) = w4 at *
      rw [← HVk.out]
      refine bodyPost_ret (v := .tuple #[.agg #[.int .i64 v.nx, .int .i64 v.lg, .int .i64 v.sq, .slice va 3 vc], .int .i64 K, .bool true]) (by simp [results, Try.results7, go_sem, t0, t1, t2, t3]) rfl ⟨va, vc, rfl, ?_, ?_⟩
      · refine VA.mono (hV.same (by simp) (fun q h1 _ => ?_)) (by omega) (by have := hV.1; simp; omega) (Nat.le_refl _)
        repeat' refine (Below.heap_setCell _ _ _ _ (by first | omega | (dsimp only; omega))).trans ?_
        rfl
      · repeat' refine Below.setCell ?_ (by first | (simp; done) | (simp; omega)) _
        exact bel
end Go.Proofs.Ytofdhgffnkhdfaa
