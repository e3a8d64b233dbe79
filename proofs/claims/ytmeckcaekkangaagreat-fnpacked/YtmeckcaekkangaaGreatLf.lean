/- l5Fold, in the model. -/
import Derived.Test.YtmeckcaekkangaaGreatSj
import Derived.Test.YtmeckcaekkangaaGreatNd
import Derived.Deep.RegionWith
namespace Go.Proofs.YtmeckcaekkangaaGreat
set_option maxRecDepth 100000
open Go.RowKit
set_option linter.unusedSimpArgs false
set_option linter.unusedVariables false

/-- What is gathered of the first m, from the last one down, k of them gone through. -/
def fdn (X : Nat → Ent) (m : Nat) : Nat → Ent
  | 0 => dZ
  | k + 1 => if (X (m - 1 - k)).kind = 2 then fdn X m k else jn (fdn X m k) (X (m - 1 - k))
/-- What is folded in all. -/
def fdA (X : Nat → Ent) (n : Nat) : Ent := fdn X (mN X n) (mN X n)
theorem GoodE.ga {x : Ent} (h : GoodE x) (hk : x.kind ≠ 2) : GA x := by
  rcases h.2.2 with ⟨_, h⟩ | ⟨h, _⟩
  · exact h
  · exact absurd h hk
theorem GoodE.k13 {x : Ent} (h : GoodE x) (h3 : x.kind ≠ 3) (h2 : x.kind ≠ 2) : x.kind = 1 := by
  rcases h.2.2 with ⟨h | h, _⟩ | ⟨h, _⟩
  · exact h
  · exact absurd h h3
  · exact absurd h h2
theorem fdn_ai {X : Nat → Ent} {n m : Nat} (hg : ∀ i, i < n → GoodE (X i)) (hm : m ≤ n) : ∀ k, k ≤ m → AI (fdn X m k)
  | 0, _ => ai_zero
  | k + 1, hk => by
    unfold fdn
    split
    · exact fdn_ai hg hm k (by omega)
    · rename_i h
      exact ai_jn (fdn_ai hg hm k (by omega)) ((hg _ (by omega)).ga h)
theorem fdn_join {X : Nat → Ent} {m k : Nat} (hk : k + 1 ≤ m) (h3 : (X k).kind = 3) : fdn X m (m - k) = jn (fdn X m (m - (k + 1))) (X k) := by
  obtain ⟨j, hj⟩ : ∃ j, m - k = j + 1 := ⟨m - k - 1, by omega⟩
  rw [hj, show m - (k + 1) = j by omega]
  have e : m - 1 - j = k := by omega
  rw [fdn, e, if_neg (by omega)]

/-- An agg in answer. -/
def FlO (y : Ent) (h : Bool) (w : World) (e : Ending) (w' : World) : Prop :=
  ∃ lo lc, e = .returned (.tuple #[.agg #[.int .i64 y.c, .int .i64 y.s, .int .i64 y.lo, .int .i64 y.hi, .slice lo y.n lc, .bool y.fu], .bool h]) ∧ (y.n = 0 ∨ ∃ q, lo = some ⟨q, 0, none⟩ ∧ w.heap.size ≤ q ∧ IOwn w' q 0 y.n y.f) ∧ Below w.heap.size w w'
/-- Nothing there. -/
def NoF (X : Nat → Ent) (n : Nat) : Prop := n = 0 ∨ (X 0).kind = 2
/-- The agg that is gathered in the box D, what is answered in the box R. -/
structure GS (w W : World) (D g cap : Nat) (y : Ent) : Prop where
  A : AAt W D y.c y.s y.lo y.hi (.slice (some ⟨g, 0, none⟩) 8 cap) y.fu
  fz : ∀ j, W.frozen? ⟨D, j, none⟩ = false
  H : IOwn W g 0 8 y.f
  R : AAt W w.heap.size 0 0 0 0 (.slice none 0 0) false
  rz : ∀ j, W.frozen? ⟨w.heap.size, j, none⟩ = false
  bw : Below w.heap.size w W
  gD : w.heap.size < D ∧ w.heap.size < g ∧ g ≠ D

/-- What l5Fold leaves. -/
def LfO (X : Nat → Ent) (n : Nat) (w : World) (e : Ending) (w' : World) : Prop := (NoF X n → FlO dE false w e w') ∧ (¬ NoF X n → FlO (fdA X n) true w e w')
theorem GS.keep {w W W' : World} {D g cap : Nat} {y : Ent} (h : GS w W D g cap y) (hb : Below W.heap.size W W') : GS w W' D g cap y :=
  ⟨h.A.keep hb, fun j => (hb.frozen (p := ⟨D, j, none⟩) h.A.lt).trans (h.fz j), h.H.keep hb, h.R.keep hb, fun j => (hb.frozen (p := ⟨w.heap.size, j, none⟩) h.R.lt).trans (h.rz j), h.bw.trans (hb.mono h.bw.size), h.gD⟩
theorem GS.put {w W : World} {D g cap g' cap' : Nat} {y y' : Ent} (h : GS w W D g cap y) (ho : IOwn W g' 0 8 y'.f) (hg : w.heap.size < g' ∧ g' ≠ D) : GS w ((((((W.setCell ⟨D, 0, none⟩ (.int .i64 y'.c)).setCell ⟨D, 1, none⟩ (.int .i64 y'.s)).setCell ⟨D, 2, none⟩ (.int .i64 y'.lo)).setCell ⟨D, 3, none⟩ (.int .i64 y'.hi)).setCell ⟨D, 4, none⟩ (.slice (some ⟨g', 0, none⟩) 8 cap')).setCell ⟨D, 5, none⟩ (.bool y'.fu)) D g' cap' y' := by
  have O : OB W W D y.c y.s y.lo y.hi (.slice (some ⟨g, 0, none⟩) 8 cap) y.fu := ⟨h.A, h.fz, Below.refl _ _⟩
  have O' := (((((O.set0 y'.c).set1 y'.s).set2 y'.lo).set3 y'.hi).set4 (.slice (some ⟨g', 0, none⟩) 8 cap')).set5 y'.fu
  have ot : Others D W ((((((W.setCell ⟨D, 0, none⟩ (.int .i64 y'.c)).setCell ⟨D, 1, none⟩ (.int .i64 y'.s)).setCell ⟨D, 2, none⟩ (.int .i64 y'.lo)).setCell ⟨D, 3, none⟩ (.int .i64 y'.hi)).setCell ⟨D, 4, none⟩ (.slice (some ⟨g', 0, none⟩) 8 cap')).setCell ⟨D, 5, none⟩ (.bool y'.fu)) := (((((Others.setCell _ _ _ _).trans (Others.setCell _ _ _ _)).trans (Others.setCell _ _ _ _)).trans (Others.setCell _ _ _ _)).trans (Others.setCell _ _ _ _)).trans (Others.setCell _ _ _ _)
  have hD := h.gD.1
  exact ⟨O'.A, O'.fz, iown_others ho ot hg.2, h.R.others ot (by omega), fun j => (World.frozen?_of_block (w := W) (a := ⟨w.heap.size, j, none⟩) (ot.block w.heap.size (by omega))).trans (h.rz j), h.bw.trans (O'.bw.mono (by omega)), hD, hg.1, hg.2⟩

set_option maxRecDepth 100000 in
set_option maxHeartbeats 8000000 in
theorem l5Fold_any (b off n cap : Nat) (X : Nat → Ent) (w : World) (hr : ERow w (some ⟨b, off, none⟩) n X) (hg : ∀ i, i < n → GoodE (X i)) (hn : n ≤ 1048576) :
    Calls Tryz.prog 58 #[.slice (some ⟨b, off, none⟩) n cap] w fun e w' => LfO X n w e w' := by
  have hB := below_new w (.cells #[.int .i64 0, .int .i64 0, .int .i64 0, .int .i64 0, .slice none 0 0, .bool false] 46)
  have R0 := AAt.new w 0 0 0 0 (.slice none 0 0) false 46
  have F0 : ∀ j, (w.alloc (.cells #[.int .i64 0, .int .i64 0, .int .i64 0, .int .i64 0, .slice none 0 0, .bool false] 46)).frozen? ⟨w.heap.size, j, none⟩ = false := fun j => by simp [go_sem]
  obtain ⟨hbd, hlies⟩ := hr
  by_cases h0 : n = 0
  · subst h0
    have H : Hid (NoF X 0) := .inl rfl
    clear hlies
    go_enter Tryz.func58, Tryz.ntmps58
    go_wp2
    refine bodyPost_ret (v := .tuple #[.agg #[.int .i64 0, .int .i64 0, .int .i64 0, .int .i64 0, .slice none 0 0, .bool false], .bool false]) (by simp [results, Tryz.results58, go_sem]) rfl ⟨fun _ => ⟨none, 0, rfl, .inl rfl, hB⟩, fun h => absurd H.out h⟩
  obtain ⟨b', off', e, hblt, hc⟩ := hlies.resolve_left h0
  injection e with e
  injection e with e1 e2 _
  subst e1 e2
  have h0n : 0 < n := by omega
  have hnd : ((n : Int) == 0) = false := by simp; omega
  have hpi : (0 : Int) < (n : Int) := by omega
  obtain ⟨d0, e0, ea0, _⟩ := hc 0 h0n
  have q0 := (ea0.keep hB).c2
  rw [Nat.zero_mul, Nat.add_zero] at q0
  by_cases hk2 : (X 0).kind = 2
  · have H : Hid (NoF X n) := .inr hk2
    have hkd : ((X 0).kind == 2) = true := by simp [hk2]
    rw [hk2] at q0
    clear hk2 hc ea0
    go_enter Tryz.func58, Tryz.ntmps58
    go_wp2
    refine bodyPost_ret (v := .tuple #[.agg #[.int .i64 0, .int .i64 0, .int .i64 0, .int .i64 0, .slice none 0 0, .bool false], .bool false]) (by simp [results, Tryz.results58, go_sem]) rfl ⟨fun _ => ⟨none, 0, rfl, .inl rfl, hB⟩, fun h => absurd H.out h⟩
  have HN : Hid (¬ NoF X n) := by rintro (h | h); exact h0 h; exact hk2 h
  have hkd : ((X 0).kind == 2) = false := by simp [hk2]
  obtain ⟨Q, hQ⟩ : ∃ Q, en X n 0 = Q := ⟨_, rfl⟩
  have hQe := en_le (X := X) (n := n) (q := 0) (Nat.zero_le _)
  rw [hQ] at hQe
  obtain ⟨m, hm⟩ : ∃ m, mN X n = m := ⟨_, rfl⟩
  have HM : Hid ((if Q < n then Q + 1 else n) = m) := by rw [← hm, ← hQ]; rfl
  have HF : Hid (fdA X n = fdn X m m) := by unfold Hid fdA; rw [hm]
  have HQ : Hid (en X n 0 = Q) := hQ
  have HJ : Hid (∀ i, i < Q → (X i).kind = 3) := fun i hi => hQe.2.2 i (Nat.zero_le _) hi
  have hQn := hQe.2.1
  clear hQ hm hQe hk2 ea0 h0
  go_enter Tryz.func58, Tryz.ntmps58
  go_wp2
  generalize w.alloc (.cells #[.int .i64 0, .int .i64 0, .int .i64 0, .int .i64 0, .slice none 0 0, .bool false] 46) = w0 at hB R0 F0 q0 ⊢
  go_loopw [4] (fun i wr => ∃ k : Nat, k ≤ n ∧ i = .int .i64 k ∧ Hid (en X n k = Q) ∧ wr = w0) (fun i _ => n - (intOf i).toNat)
  case atStart => exact ⟨0, Nat.zero_le _, rfl, HQ, rfl⟩
  case round =>
    clear HQ q0
    obtain ⟨k, hk, rfl, HK, hw⟩ := hrel
    have hw2 := hw.symm
    clear hw
    subst hw2
    by_cases hlt : k < n
    · obtain ⟨da, dc, ea, ir⟩ := hc k hlt
      have eak := ea.keep hB
      obtain ⟨_, a0, a1, a2, a3, a4, a5, a6, a7, a8⟩ := eak
      by_cases hj : (X k).kind = 3
      · have hjd : ((X k).kind == 3) = true := by simp [hj]
        have HK2 : Hid (en X n (k + 1) = Q) := by have := HK.out; rw [en_step hlt hj] at this; exact this
        clear hj HK hc ea ir
        go_wp2
        go_roundw
        case rel => exact ⟨k + 1, by omega, by go_num, HK2, by first | rfl | trivial⟩
        case measure => simp [intOf]; omega
      · have hjd : ((X k).kind == 3) = false := by simp [hj]
        obtain rfl : k = Q := by have := HK.out; rw [en_stop hlt hj] at this; exact this
        have HM2 : Hid (m = k + 1) := by have := HM.out; rw [if_pos hlt] at this; exact this.symm
        by_cases hp : (X k).kind = 1
        · have hpd : ((X k).kind == 1) = true := by simp [hp]
          have hga : GA (X k) := (hg k hlt).ga (by omega)
          have HS : Hid (fdn X m (m - k) = cA (X k)) := by
            unfold Hid
            rw [HM2.out, show k + 1 - k = 1 by omega, fdn, show k + 1 - 1 - 0 = k by omega, if_neg (by omega), fdn]
            rfl
          clear HK hj hp
          go_wp2_with fail
          refine (l4Zero_any _).mono ?_
          rintro e w1 ⟨g1, rfl, hg1, og1, hb1⟩
          have hlR := R0.lt
          have hB2 := below_new w1 (.cells #[.int .i64 0, .int .i64 0, .int .i64 0, .int .i64 0, .slice (some ⟨g1, 0, none⟩) 8 8, .bool false] 46)
          have s1 := hb1.size
          have l1 := og1.lt
          have hsz0 := hB.size
          have G2 : GS w (w1.alloc (.cells #[.int .i64 0, .int .i64 0, .int .i64 0, .int .i64 0, .slice (some ⟨g1, 0, none⟩) 8 8, .bool false] 46)) w1.heap.size g1 8 dZ := ⟨AAt.new w1 0 0 0 0 (.slice (some ⟨g1, 0, none⟩) 8 8) false 46, fun j => by simp [go_sem], og1.keep hB2, (R0.keep hb1).keep hB2, fun j => (hB2.frozen (p := ⟨w.heap.size, j, none⟩) (by show w.heap.size < _; omega)).trans ((hb1.frozen (p := ⟨w.heap.size, j, none⟩) hlR).trans (F0 j)), (hB.trans (hb1.mono hsz0)).trans (hB2.mono (by omega)), by omega, by omega, by omega⟩
          clear a0 a1 a2 a3 a4 a5 a6 a7 a8
          clear hB2 og1 hb1
          have eak := ea.keep G2.bw
          obtain ⟨_, a0, a1, a2, a3, a4, a5, a6, a7, a8⟩ := eak
          have hO := l4Own_any (X k) da dc (w1.alloc (.cells #[.int .i64 0, .int .i64 0, .int .i64 0, .int .i64 0, .slice (some ⟨g1, 0, none⟩) 8 8, .bool false] 46)) (ir.keep G2.bw) (by have := hga.n; omega)
          clear R0 F0 ir ea
          go_wp2_with fail
          generalize (w1.alloc (.cells #[.int .i64 0, .int .i64 0, .int .i64 0, .int .i64 0, .slice (some ⟨g1, 0, none⟩) 8 8, .bool false] 46)) = w2 at *
          refine hO.mono ?_
          rintro e w3 hO3
          obtain ⟨g3, cap3, rfl, hg3, o3, hb3⟩ := own_sj hga.n hO3
          have G3 := G2.keep hb3
          have G4a : GS w ((((((w3.setCell ⟨w1.heap.size, 0, none⟩ (.int .i64 (cA (X k)).c)).setCell ⟨w1.heap.size, 1, none⟩ (.int .i64 (cA (X k)).s)).setCell ⟨w1.heap.size, 2, none⟩ (.int .i64 (cA (X k)).lo)).setCell ⟨w1.heap.size, 3, none⟩ (.int .i64 (cA (X k)).hi)).setCell ⟨w1.heap.size, 4, none⟩ (.slice (some ⟨g3, 0, none⟩) 8 cap3)).setCell ⟨w1.heap.size, 5, none⟩ (.bool (cA (X k)).fu)) w1.heap.size g3 cap3 (cA (X k)) := G3.put (g' := g3) (cap' := cap3) (y' := cA (X k)) o3 (by have := G2.A.lt; omega)
          have G4 : GS w ((((((w3.setCell ⟨w1.heap.size, 0, none⟩ (.int .i64 (cA (X k)).c)).setCell ⟨w1.heap.size, 1, none⟩ (.int .i64 (cA (X k)).s)).setCell ⟨w1.heap.size, 2, none⟩ (.int .i64 (cA (X k)).lo)).setCell ⟨w1.heap.size, 3, none⟩ (.int .i64 (cA (X k)).hi)).setCell ⟨w1.heap.size, 4, none⟩ (.slice (some ⟨g3, 0, none⟩) 8 cap3)).setCell ⟨w1.heap.size, 5, none⟩ (.bool (cA (X k)).fu)) w1.heap.size g3 cap3 (fdn X m (m - k)) := by rw [HS.out]; exact G4a
          clear G4a
          have z3 := G3.fz
          obtain ⟨_, f0, f1, f2, f3, f4, f5⟩ := G3.A
          clear hO hO3 o3 hb3 G2 a0 a1 a2 a3 a4 a5 a6 a7 a8
          have hw1 : IntKind.i64.wrap ((k : Int) - 1) = (k : Int) - 1 := by rw [IntKind.wrap_i64]; omega
          go_wp2
          generalize ((((((w3.setCell ⟨w1.heap.size, 0, none⟩ (.int .i64 (cA (X k)).c)).setCell ⟨w1.heap.size, 1, none⟩ (.int .i64 (cA (X k)).s)).setCell ⟨w1.heap.size, 2, none⟩ (.int .i64 (cA (X k)).lo)).setCell ⟨w1.heap.size, 3, none⟩ (.int .i64 (cA (X k)).hi)).setCell ⟨w1.heap.size, 4, none⟩ (.slice (some ⟨g3, 0, none⟩) 8 cap3)).setCell ⟨w1.heap.size, 5, none⟩ (.bool (cA (X k)).fu)) = w5 at G4 ⊢
          go_loopw [6] (fun i wr => ∃ (j g cap : Nat), j ≤ k ∧ i = .int .i64 ((j : Int) - 1) ∧ GS w wr w1.heap.size g cap (fdn X m (m - j))) (fun i _ => (intOf i + 1).toNat)
          case atStart => exact ⟨k, _, _, Nat.le_refl _, by first | rfl | go_num, G4⟩
          case round =>
            clear G4
            obtain ⟨j, g, cap, hj, rfl, G⟩ := hrel
            have hAI := fdn_ai (X := X) (n := n) (m := m) hg (by have := HM2.out; omega) (m - j) (by omega)
            have hn8 : (fdn X m (m - j)).n = 8 := by have := congrArg Ent.n hAI.can; exact this.symm
            have z6 := G.fz
            obtain ⟨_, c0, c1, c2, c3, c4, c5⟩ := G.A
            by_cases hj0 : j = 0
            · subst hj0
              rw [Nat.sub_zero] at *
              have Rz := G.rz
              have hgD := G.gD
              have HFl : Hid (∀ W, IOwn W g 0 8 (fdn X m m).f → Below w.heap.size w W → LfO X n w (.returned (.tuple #[.agg #[.int .i64 (fdn X m m).c, .int .i64 (fdn X m m).s, .int .i64 (fdn X m m).lo, .int .i64 (fdn X m m).hi, .slice (some ⟨g, 0, none⟩) 8 cap, .bool (fdn X m m).fu], .bool true])) W) := by
                intro W h1 h2
                refine ⟨fun h => absurd h HN.out, fun _ => ?_⟩
                rw [HF.out]
                exact ⟨some ⟨g, 0, none⟩, cap, by rw [hn8], .inr ⟨g, rfl, by omega, by rw [hn8]; exact h1⟩, h2⟩
              have GH := G.H
              have Gb := G.bw
              obtain ⟨_, x0, x1, x2, x3, x4, x5⟩ := G.R
              clear hAI hn8 G
              generalize fdn X m m = y at *
              go_wp2
              refine bodyPost_ret (v := .tuple #[.agg #[.int .i64 y.c, .int .i64 y.s, .int .i64 y.lo, .int .i64 y.hi, .slice (some ⟨g, 0, none⟩) 8 cap, .bool y.fu], .bool true]) (by simp [results, Tryz.results58, go_sem, x0, x1, x2, x3, x4, x5]) rfl (HFl.out _ ?_ ?_)
              · repeat' refine iown_others ?_ (Others.setCell _ _ _ _) (by omega)
                exact GH
              · repeat' refine Below.setCell ?_ (by first | (simp; done) | (simp; omega)) _
                exact Gb
            · obtain ⟨p, rfl⟩ : ∃ p, j = p + 1 := ⟨j - 1, by omega⟩
              have hpn : p < n := by omega
              have hk3 := HJ.out p (by omega)
              have hgp : GA (X p) := (hg p hpn).ga (by omega)
              obtain ⟨pa, pd, pe, pr⟩ := hc p hpn
              obtain ⟨_, b0, b1, b2, b3, b4, b5, b6, b7, b8⟩ := pe.keep G.bw
              have hjn : fdn X m (m - p) = jn (fdn X m (m - (p + 1))) (X p) := fdn_join (by have := HM2.out; omega) hk3
              have hcall := fun W (hb : Below wr.heap.size wr W) => l4Join_any (fdn X m (m - (p + 1))) (X p) (some ⟨g, 0, none⟩) pa cap pd W (by rw [hn8]; exact (G.H.keep hb).row) ((pr.keep G.bw).keep hb) hAI hgp
              rw [← hjn, hn8] at hcall
              have HJN : Hid (True) := trivial
              have hgD := G.gD
              have hDl := G.A.lt
              have hwp : IntKind.i64.wrap ((p : Int) - 1) = (p : Int) - 1 := by rw [IntKind.wrap_i64]; omega
              have hpp : (((p + 1 : Nat) : Int) - 1) = (p : Int) := by omega
              rw [hpp]
              clear hjn hn8 hAI pe pr hk3 hgp
              generalize fdn X m (m - (p + 1)) = y at *
              go_wp2
              go_region_with (first | (go_at_call 69; refine (hcall _ (Below.refl _ wr).drew).mono ?_; rintro e w6 ⟨g', cap', rfl, hg', o', hb'⟩; have hb6 := (Below.refl _ wr).drew.trans hb'; have G6 := G.keep hb6; have z7 := G6.fz; have G7 := G6.put (g' := g') (cap' := cap') (y' := fdn X m (m - p)) o' (by simp at hg'; omega); obtain ⟨_, e0, e1, e2, e3, e4, e5⟩ := G6.A))
              all_goals
                clear hcall G
                go_wp2
                go_roundw
                case rel => exact ⟨p, _, _, by omega, by first | rfl | go_num, G7⟩
                case measure => first | (simp [intOf]; done) | (simp [intOf]; omega)
        · have hpd : ((X k).kind == 1) = false := by simp [hp]
          have hk2 : (X k).kind = 2 := by
            by_cases h2 : (X k).kind = 2
            · exact h2
            · exact absurd ((hg k hlt).k13 hj h2) hp
          have HS : Hid (fdn X m (m - k) = dZ) := by
            unfold Hid
            rw [HM2.out, show k + 1 - k = 1 by omega, fdn, show k + 1 - 1 - 0 = k by omega, if_pos hk2, fdn]
          clear HK hj hp hk2
          go_wp2_with fail
          refine (l4Zero_any _).mono ?_
          rintro e w1 ⟨g1, rfl, hg1, og1, hb1⟩
          have hlR := R0.lt
          have hB2 := below_new w1 (.cells #[.int .i64 0, .int .i64 0, .int .i64 0, .int .i64 0, .slice (some ⟨g1, 0, none⟩) 8 8, .bool false] 46)
          have s1 := hb1.size
          have l1 := og1.lt
          have hsz0 := hB.size
          have G2 : GS w (w1.alloc (.cells #[.int .i64 0, .int .i64 0, .int .i64 0, .int .i64 0, .slice (some ⟨g1, 0, none⟩) 8 8, .bool false] 46)) w1.heap.size g1 8 dZ := ⟨AAt.new w1 0 0 0 0 (.slice (some ⟨g1, 0, none⟩) 8 8) false 46, fun j => by simp [go_sem], og1.keep hB2, (R0.keep hb1).keep hB2, fun j => (hB2.frozen (p := ⟨w.heap.size, j, none⟩) (by show w.heap.size < _; omega)).trans ((hb1.frozen (p := ⟨w.heap.size, j, none⟩) hlR).trans (F0 j)), (hB.trans (hb1.mono hsz0)).trans (hB2.mono (by omega)), by omega, by omega, by omega⟩
          clear a0 a1 a2 a3 a4 a5 a6 a7 a8
          clear hB2 og1 hb1
          have eak := ea.keep G2.bw
          obtain ⟨_, a0, a1, a2, a3, a4, a5, a6, a7, a8⟩ := eak
          have G4 := G2
          rw [← HS.out] at G4
          clear R0 F0 ir ea G2
          have hw1 : IntKind.i64.wrap ((k : Int) - 1) = (k : Int) - 1 := by rw [IntKind.wrap_i64]; omega
          go_wp2
          generalize (w1.alloc (.cells #[.int .i64 0, .int .i64 0, .int .i64 0, .int .i64 0, .slice (some ⟨g1, 0, none⟩) 8 8, .bool false] 46)) = w5 at G4 ⊢
          go_loopw [6] (fun i wr => ∃ (j g cap : Nat), j ≤ k ∧ i = .int .i64 ((j : Int) - 1) ∧ GS w wr w1.heap.size g cap (fdn X m (m - j))) (fun i _ => (intOf i + 1).toNat)
          case atStart => exact ⟨k, _, _, Nat.le_refl _, by first | rfl | go_num, G4⟩
          case round =>
            clear G4
            obtain ⟨j, g, cap, hj, rfl, G⟩ := hrel
            have hAI := fdn_ai (X := X) (n := n) (m := m) hg (by have := HM2.out; omega) (m - j) (by omega)
            have hn8 : (fdn X m (m - j)).n = 8 := by have := congrArg Ent.n hAI.can; exact this.symm
            have z6 := G.fz
            obtain ⟨_, c0, c1, c2, c3, c4, c5⟩ := G.A
            by_cases hj0 : j = 0
            · subst hj0
              rw [Nat.sub_zero] at *
              have Rz := G.rz
              have hgD := G.gD
              have HFl : Hid (∀ W, IOwn W g 0 8 (fdn X m m).f → Below w.heap.size w W → LfO X n w (.returned (.tuple #[.agg #[.int .i64 (fdn X m m).c, .int .i64 (fdn X m m).s, .int .i64 (fdn X m m).lo, .int .i64 (fdn X m m).hi, .slice (some ⟨g, 0, none⟩) 8 cap, .bool (fdn X m m).fu], .bool true])) W) := by
                intro W h1 h2
                refine ⟨fun h => absurd h HN.out, fun _ => ?_⟩
                rw [HF.out]
                exact ⟨some ⟨g, 0, none⟩, cap, by rw [hn8], .inr ⟨g, rfl, by omega, by rw [hn8]; exact h1⟩, h2⟩
              have GH := G.H
              have Gb := G.bw
              obtain ⟨_, x0, x1, x2, x3, x4, x5⟩ := G.R
              clear hAI hn8 G
              generalize fdn X m m = y at *
              go_wp2
              refine bodyPost_ret (v := .tuple #[.agg #[.int .i64 y.c, .int .i64 y.s, .int .i64 y.lo, .int .i64 y.hi, .slice (some ⟨g, 0, none⟩) 8 cap, .bool y.fu], .bool true]) (by simp [results, Tryz.results58, go_sem, x0, x1, x2, x3, x4, x5]) rfl (HFl.out _ ?_ ?_)
              · repeat' refine iown_others ?_ (Others.setCell _ _ _ _) (by omega)
                exact GH
              · repeat' refine Below.setCell ?_ (by first | (simp; done) | (simp; omega)) _
                exact Gb
            · obtain ⟨p, rfl⟩ : ∃ p, j = p + 1 := ⟨j - 1, by omega⟩
              have hpn : p < n := by omega
              have hk3 := HJ.out p (by omega)
              have hgp : GA (X p) := (hg p hpn).ga (by omega)
              obtain ⟨pa, pd, pe, pr⟩ := hc p hpn
              obtain ⟨_, b0, b1, b2, b3, b4, b5, b6, b7, b8⟩ := pe.keep G.bw
              have hjn : fdn X m (m - p) = jn (fdn X m (m - (p + 1))) (X p) := fdn_join (by have := HM2.out; omega) hk3
              have hcall := fun W (hb : Below wr.heap.size wr W) => l4Join_any (fdn X m (m - (p + 1))) (X p) (some ⟨g, 0, none⟩) pa cap pd W (by rw [hn8]; exact (G.H.keep hb).row) ((pr.keep G.bw).keep hb) hAI hgp
              rw [← hjn, hn8] at hcall
              have HJN : Hid (True) := trivial
              have hgD := G.gD
              have hDl := G.A.lt
              have hwp : IntKind.i64.wrap ((p : Int) - 1) = (p : Int) - 1 := by rw [IntKind.wrap_i64]; omega
              have hpp : (((p + 1 : Nat) : Int) - 1) = (p : Int) := by omega
              rw [hpp]
              clear hjn hn8 hAI pe pr hk3 hgp
              generalize fdn X m (m - (p + 1)) = y at *
              go_wp2
              go_region_with (first | (go_at_call 69; refine (hcall _ (Below.refl _ wr).drew).mono ?_; rintro e w6 ⟨g', cap', rfl, hg', o', hb'⟩; have hb6 := (Below.refl _ wr).drew.trans hb'; have G6 := G.keep hb6; have z7 := G6.fz; have G7 := G6.put (g' := g') (cap' := cap') (y' := fdn X m (m - p)) o' (by simp at hg'; omega); obtain ⟨_, e0, e1, e2, e3, e4, e5⟩ := G6.A))
              all_goals
                clear hcall G
                go_wp2
                go_roundw
                case rel => exact ⟨p, _, _, by omega, by first | rfl | go_num, G7⟩
                case measure => first | (simp [intOf]; done) | (simp [intOf]; omega)
    · have hkd2 : decide ((k : Int) < (n : Int)) = false := by simp; omega
      have HKN : Hid (k = n) := by unfold Hid; omega
      obtain rfl : k = Q := by have := HK.out; rw [en_end (by omega)] at this; exact this
      have HM2 : Hid (m = k) := by have := HM.out; rw [if_neg hlt] at this; rw [← this]; exact HKN.out.symm
      have HS : Hid (fdn X m (m - k) = dZ) := by
        unfold Hid
        rw [HM2.out, Nat.sub_self, fdn]
      clear HK
      go_wp2_with fail
      refine (l4Zero_any _).mono ?_
      rintro e w1 ⟨g1, rfl, hg1, og1, hb1⟩
      have hlR := R0.lt
      have hB2 := below_new w1 (.cells #[.int .i64 0, .int .i64 0, .int .i64 0, .int .i64 0, .slice (some ⟨g1, 0, none⟩) 8 8, .bool false] 46)
      have s1 := hb1.size
      have l1 := og1.lt
      have hsz0 := hB.size
      have G2 : GS w (w1.alloc (.cells #[.int .i64 0, .int .i64 0, .int .i64 0, .int .i64 0, .slice (some ⟨g1, 0, none⟩) 8 8, .bool false] 46)) w1.heap.size g1 8 dZ := ⟨AAt.new w1 0 0 0 0 (.slice (some ⟨g1, 0, none⟩) 8 8) false 46, fun j => by simp [go_sem], og1.keep hB2, (R0.keep hb1).keep hB2, fun j => (hB2.frozen (p := ⟨w.heap.size, j, none⟩) (by show w.heap.size < _; omega)).trans ((hb1.frozen (p := ⟨w.heap.size, j, none⟩) hlR).trans (F0 j)), (hB.trans (hb1.mono hsz0)).trans (hB2.mono (by omega)), by omega, by omega, by omega⟩
      clear hB2 og1 hb1
      have G4 := G2
      rw [← HS.out] at G4
      clear R0 F0 G2
      have hw1 : IntKind.i64.wrap ((k : Int) - 1) = (k : Int) - 1 := by rw [IntKind.wrap_i64]; omega
      go_wp2
      generalize (w1.alloc (.cells #[.int .i64 0, .int .i64 0, .int .i64 0, .int .i64 0, .slice (some ⟨g1, 0, none⟩) 8 8, .bool false] 46)) = w5 at G4 ⊢
      go_loopw [6] (fun i wr => ∃ (j g cap : Nat), j ≤ k ∧ i = .int .i64 ((j : Int) - 1) ∧ GS w wr w1.heap.size g cap (fdn X m (m - j))) (fun i _ => (intOf i + 1).toNat)
      case atStart => exact ⟨k, _, _, Nat.le_refl _, by first | rfl | go_num, G4⟩
      case round =>
        clear G4
        obtain ⟨j, g, cap, hj, rfl, G⟩ := hrel
        have hAI := fdn_ai (X := X) (n := n) (m := m) hg (by have := HM2.out; omega) (m - j) (by omega)
        have hn8 : (fdn X m (m - j)).n = 8 := by have := congrArg Ent.n hAI.can; exact this.symm
        have z6 := G.fz
        obtain ⟨_, c0, c1, c2, c3, c4, c5⟩ := G.A
        by_cases hj0 : j = 0
        · subst hj0
          rw [Nat.sub_zero] at *
          have Rz := G.rz
          have hgD := G.gD
          have HFl : Hid (∀ W, IOwn W g 0 8 (fdn X m m).f → Below w.heap.size w W → LfO X n w (.returned (.tuple #[.agg #[.int .i64 (fdn X m m).c, .int .i64 (fdn X m m).s, .int .i64 (fdn X m m).lo, .int .i64 (fdn X m m).hi, .slice (some ⟨g, 0, none⟩) 8 cap, .bool (fdn X m m).fu], .bool true])) W) := by
            intro W h1 h2
            refine ⟨fun h => absurd h HN.out, fun _ => ?_⟩
            rw [HF.out]
            exact ⟨some ⟨g, 0, none⟩, cap, by rw [hn8], .inr ⟨g, rfl, by omega, by rw [hn8]; exact h1⟩, h2⟩
          have GH := G.H
          have Gb := G.bw
          obtain ⟨_, x0, x1, x2, x3, x4, x5⟩ := G.R
          clear hAI hn8 G
          generalize fdn X m m = y at *
          go_wp2
          refine bodyPost_ret (v := .tuple #[.agg #[.int .i64 y.c, .int .i64 y.s, .int .i64 y.lo, .int .i64 y.hi, .slice (some ⟨g, 0, none⟩) 8 cap, .bool y.fu], .bool true]) (by simp [results, Tryz.results58, go_sem, x0, x1, x2, x3, x4, x5]) rfl (HFl.out _ ?_ ?_)
          · repeat' refine iown_others ?_ (Others.setCell _ _ _ _) (by omega)
            exact GH
          · repeat' refine Below.setCell ?_ (by first | (simp; done) | (simp; omega)) _
            exact Gb
        · obtain ⟨p, rfl⟩ : ∃ p, j = p + 1 := ⟨j - 1, by omega⟩
          have hpn : p < n := by omega
          have hk3 := HJ.out p (by omega)
          have hgp : GA (X p) := (hg p hpn).ga (by omega)
          obtain ⟨pa, pd, pe, pr⟩ := hc p hpn
          obtain ⟨_, b0, b1, b2, b3, b4, b5, b6, b7, b8⟩ := pe.keep G.bw
          have hjn : fdn X m (m - p) = jn (fdn X m (m - (p + 1))) (X p) := fdn_join (by have := HM2.out; omega) hk3
          have hcall := fun W (hb : Below wr.heap.size wr W) => l4Join_any (fdn X m (m - (p + 1))) (X p) (some ⟨g, 0, none⟩) pa cap pd W (by rw [hn8]; exact (G.H.keep hb).row) ((pr.keep G.bw).keep hb) hAI hgp
          rw [← hjn, hn8] at hcall
          have HJN : Hid (True) := trivial
          have hgD := G.gD
          have hDl := G.A.lt
          have hwp : IntKind.i64.wrap ((p : Int) - 1) = (p : Int) - 1 := by rw [IntKind.wrap_i64]; omega
          have hpp : (((p + 1 : Nat) : Int) - 1) = (p : Int) := by omega
          rw [hpp]
          clear hjn hn8 hAI pe pr hk3 hgp
          generalize fdn X m (m - (p + 1)) = y at *
          go_wp2
          go_region_with (first | (go_at_call 69; refine (hcall _ (Below.refl _ wr).drew).mono ?_; rintro e w6 ⟨g', cap', rfl, hg', o', hb'⟩; have hb6 := (Below.refl _ wr).drew.trans hb'; have G6 := G.keep hb6; have z7 := G6.fz; have G7 := G6.put (g' := g') (cap' := cap') (y' := fdn X m (m - p)) o' (by simp at hg'; omega); obtain ⟨_, e0, e1, e2, e3, e4, e5⟩ := G6.A))
          all_goals
            clear hcall G
            go_wp2
            go_roundw
            case rel => exact ⟨p, _, _, by omega, by first | rfl | go_num, G7⟩
            case measure => first | (simp [intOf]; done) | (simp [intOf]; omega)
end Go.Proofs.YtmeckcaekkangaaGreat
