/- The law of FnEntries, walked. -/
import Derived.Test.YtiigpmhaicfocaaDh
import Derived.Test.YtiigpmhaicfocaaDi
import Derived.Test.YtiigpmhaicfocaaSb
import Derived.Test.YtiigpmhaicfocaaPf
import Derived.Test.YtiigpmhaicfocaaTi
import Derived.Test.YtiigpmhaicfocaaTs
import Derived.Test.YtiigpmhaicfocaaSo
import Derived.Deep.CutRange
import Derived.Deep.DeepCutAuto
namespace Go.Proofs.Ytiigpmhaicfocaa
open Go.RowKit
set_option linter.unusedSimpArgs false
set_option linter.unusedVariables false

theorem less_trans : ∀ a b c : List UInt8, Op.bytesLess a b = true → Op.bytesLess b c = true → Op.bytesLess a c = true
  | [], [], _ => by simp [Op.bytesLess]
  | [], _ :: _, [] => by simp [Op.bytesLess]
  | [], _ :: _, _ :: _ => by simp [Op.bytesLess]
  | _ :: _, [], _ => by simp [Op.bytesLess]
  | _ :: _, _ :: _, [] => by simp [Op.bytesLess]
  | x :: a, y :: b, z :: c => by
    have ih := less_trans a b c
    simp only [Op.bytesLess, Bool.or_eq_true, Bool.and_eq_true, decide_eq_true_eq, beq_iff_eq]
    rintro (h | ⟨rfl, h⟩) (h' | ⟨rfl, h'⟩)
    · left; rw [UInt8.lt_iff_toNat_lt] at *; omega
    · left; exact h
    · left; exact h'
    · right; exact ⟨rfl, ih h h'⟩
theorem rise_less {K : Nat → ByteArray} {n : Nat} (h : RiseT K n) {c : Nat} : ∀ i, c < i → i < n → Op.bytesLess (K c).toList (K i).toList = true
  | 0, h1, _ => by omega
  | i + 1, h1, h2 => by
    rcases Nat.lt_succ_iff_lt_or_eq.1 h1 with h3 | h3
    · exact less_trans _ _ _ (rise_less h i h3 (by omega)) (h i h2)
    · subst h3; exact h c h2
/-- Where the keys below a key end. -/
theorem place_ok {K : Nat → ByteArray} {t : Nat → Int} {n m c : Nat} {key : ByteArray} (g : GoodT K t n m) (hcn : c ≤ n) (h1 : ∀ i, i < c → Op.bytesLess (K i).toList key.toList = true) (h2 : c < n → Op.bytesLess (K c).toList key.toList = false) :
    (pathF t n K key 6 (0, [])).1 = c ∧ (pathF t n K key 6 (0, [])).2.length ≤ c := by
  obtain ⟨_, ⟨_, ht, e⟩, hr⟩ := g
  subst e
  refine pathF_place (t := t) (K := K) (key := key) (fun i hi => (ht i hi).1) hcn (fun i hi => (cB_lt _ _).2 (h1 i hi)) (fun i hi hb => ?_) 5 0 [] (Nat.zero_le _) (Nat.le_refl _)
  rcases Nat.lt_or_ge i c with h | h
  · exact h
  · exfalso
    have hb' := (cB_lt _ _).1 hb
    rcases Nat.eq_or_lt_of_le h with h3 | h3
    · subst h3; rw [h2 hi] at hb'; cases hb'
    · have := less_trans _ _ _ (rise_less hr i h3 hi) hb'
      rw [h2 (by omega)] at this
      cases this

theorem first_not (K : Nat → ByteArray) (key : ByteArray) : ∀ n, ∃ c, c ≤ n ∧ (∀ i, i < c → Op.bytesLess (K i).toList key.toList = true) ∧ (c < n → Op.bytesLess (K c).toList key.toList = false)
  | 0 => ⟨0, Nat.le_refl _, fun i h => by omega, fun h => by omega⟩
  | n + 1 => by
    obtain ⟨c, h1, h2, h3⟩ := first_not K key n
    by_cases hc : c < n
    · exact ⟨c, by omega, h2, fun _ => h3 hc⟩
    · have e : c = n := by omega
      subst e
      cases hb : Op.bytesLess (K c).toList key.toList
      · exact ⟨c, by omega, h2, fun _ => hb⟩
      · refine ⟨c + 1, Nat.le_refl _, fun i hi => ?_, fun h => by omega⟩
        rcases Nat.lt_succ_iff_lt_or_eq.1 hi with h | rfl
        · exact h2 i h
        · exact hb

set_option maxRecDepth 100000 in
set_option maxHeartbeats 8000000 in
theorem fnEntries_good (co : Option Addr) (cn cc : Nat) (cf : Nat → Int) (mo : Option Addr) (mn mc : Nat) (mf : Nat → Int) (w : World) (hc : Row w co cn cf) (hm : Row w mo mn mf) (hn : cn + mn ≤ 1048576) :
    Calls Try.prog 3 #[.slice co cn cc, .slice mo mn mc] w fun e w' => e = .returned (.bool true) ∧ Below w.heap.size w w' := by
  have hn1 : ¬ (1048576 : Int) < (cn : Int) + (mn : Int) := by omega
  go_enter Try.func3, Try.ntmps3
  go_wp2_with fail
  refine (drawPutEntry_any co cn cc cf _ hc (by omega)).mono ?_
  rintro e w1 ⟨m, lo, lc, X, x, xo, xc, rfl, hm60, E1, hcap, hnls, hz, hx, hS, b1⟩
  have B1 := below_new w1 (.cells #[.string x.key, .int .i64 x.seq, .int .i64 x.kind, .int .i64 x.c, .int .i64 x.s, .int .i64 x.lo, .int .i64 x.hi, .slice xo x.n xc, .bool x.fu] 28)
  have EX := EAt.new w1 x xo xc 28
  have bw2 : Below w.heap.size w (w1.alloc (.cells #[.string x.key, .int .i64 x.seq, .int .i64 x.kind, .int .i64 x.c, .int .i64 x.s, .int .i64 x.lo, .int .i64 x.hi, .slice xo x.n xc, .bool x.fu] 28)) := b1.trans (B1.mono b1.size)
  have E2 := E1.keep B1
  have X2 := hx.keep B1
  have hi := fun W (hb : Below (w1.alloc (.cells #[.string x.key, .int .i64 x.seq, .int .i64 x.kind, .int .i64 x.c, .int .i64 x.s, .int .i64 x.lo, .int .i64 x.hi, .slice xo x.n xc, .bool x.fu] 28)).heap.size (w1.alloc (.cells #[.string x.key, .int .i64 x.seq, .int .i64 x.kind, .int .i64 x.c, .int .i64 x.s, .int .i64 x.lo, .int .i64 x.hi, .slice xo x.n xc, .bool x.fu] 28)) W) => putEntry_impl lo m lc hcap X x xo xc W (E2.keep hb) (X2.keep hb) (by omega) hz (by have := hS.2.2; omega) hS.1.s
  have hs := fun W (hb : Below (w1.alloc (.cells #[.string x.key, .int .i64 x.seq, .int .i64 x.kind, .int .i64 x.c, .int .i64 x.s, .int .i64 x.lo, .int .i64 x.hi, .slice xo x.n xc, .bool x.fu] 28)).heap.size (w1.alloc (.cells #[.string x.key, .int .i64 x.seq, .int .i64 x.kind, .int .i64 x.c, .int .i64 x.s, .int .i64 x.lo, .int .i64 x.hi, .slice xo x.n xc, .bool x.fu] 28)) W) => putEntry_spec lo m lc hcap hnls X x xo xc W (E2.keep hb) (X2.keep hb) hS.1 (by omega) hz ⟨by have := hS.2.1; omega, by have := hS.2.2; omega⟩
  have HB : Hid (∀ i, i < m + 1 → EB (eL (pE X m x (pc X m x 0)) i) ∧ (eL (pE X m x (pc X m x 0)) i).key.size ≤ 1048576 ∧ (eL (pE X m x (pc X m x 0)) i).n ≤ 1048576) := fun i hi => by
    rw [pE_at X m x _ hi]
    exact pX_all (Q := fun y => EB y ∧ y.key.size ≤ 1048576 ∧ y.n ≤ 1048576) (fun j hj => ⟨E1.bd j hj, hz j hj⟩) ⟨hS.1, by have := hS.2.1; omega, by have := hS.2.2; omega⟩ (pc_le (Nat.zero_le _)).2 i hi
  clear E1 hx hz hS hcap hnls b1 B1
  obtain ⟨_, d0, d1, d2, d3, d4, d5, d6, d7, d8⟩ := EX.z
  go_wp2_with fail
  generalize w1.alloc (.cells #[.string x.key, .int .i64 x.seq, .int .i64 x.kind, .int .i64 x.c, .int .i64 x.s, .int .i64 x.lo, .int .i64 x.hi, .slice xo x.n xc, .bool x.fu] 28) = w2 at EX bw2 E2 X2 hi hs d0 d1 d2 d3 d4 d5 d6 d7 d8 ⊢
  have HF : Hid (GoodP X m x → GoodL (eL (pE X m x (pc X m x 0))) (m + 1) ∧ 0 < (fX (eL (pE X m x (pc X m x 0))) x.key (m + 1)).length) := fun g => ⟨good_put g, put_found⟩
  have hlen := pE_len X m x (pc X m x 0)
  generalize pE X m x (pc X m x 0) = PL at hi hs HB HF hlen
  refine (hi w2 (Below.refl _ _)).mono ?_
  rintro e w3 (⟨ng, v3, V3, rfl, O3, q3⟩ | ⟨g, v3, V3, rfl, O3, q3⟩)
  · obtain ⟨l3, c3, rfl⟩ := ownsRow_form O3.own
    have EX3 := EX.keep q3
    have hs3 := hs w3 q3
    have bw3 := bw2.trans (q3.mono bw2.size)
    clear hi hs d0 d1 d2 d3 d4 d5 d6 d7 d8 HB HF E2 X2 EX
    obtain ⟨_, d0, d1, d2, d3, d4, d5, d6, d7, d8⟩ := EX3.z
    go_wp2_with fail
    refine hs3.mono ?_
    rintro e w4 (⟨_, v4, V4, rfl, O4, q4⟩ | ⟨g, _⟩)
    rotate_left
    · exact absurd g ng
    obtain ⟨l4, c4, rfl⟩ := ownsRow_form O4.own
    have bw4 := bw3.trans (q4.mono bw3.size)
    clear hs3 d0 d1 d2 d3 d4 d5 d6 d7 d8 EX3 O3 O4 q3 q4
    go_wp2_with fail
    refine (sameEntries_any l3 l4 0 c3 c4 X _ ⟨fun i h => by omega, .inl rfl⟩ ⟨fun i h => by omega, .inl rfl⟩ (by omega) (fun i h => by omega)).mono ?_
    rintro e w5 ⟨rfl, q5⟩
    have bw5 := bw4.trans (q5.mono bw4.size)
    clear q5 bw4 bw3 bw2
    go_wp2_with fail
    refine (drawTowerPath_any mo mn mc mf _ (hm.keep bw5) (by omega)).mono ?_
    rintro e t1 ⟨K, tm, t, ka, ta, kc, tc, s, rfl, hT, hI, hK10, hm10, c1⟩
    have bt1 := bw5.trans (c1.mono bw5.size)
    obtain ⟨c, hcn, hc1, hc2⟩ := first_not (fun i => K.getD i ⟨#[]⟩) s K.length
    have HP : Hid (GoodT (fun i => K.getD i ⟨#[]⟩) t K.length tm → (pathF t K.length (fun i => K.getD i ⟨#[]⟩) s 6 (0, [])).1 = c ∧ (pathF t K.length (fun i => K.getD i ⟨#[]⟩) s 6 (0, [])).2.length ≤ c) := fun g => place_ok g hcn hc1 hc2
    have HC1 : Hid (∀ i, i < c → Op.bytesLess (K.getD i ⟨#[]⟩).toList s.toList = true) := hc1
    have HC2 : Hid (c < K.length → Op.bytesLess (K.getD c ⟨#[]⟩).toList s.toList = false) := hc2
    clear hc1 hc2 c1
    go_wp2_with fail
    refine (towerPath_impl ka ta K.length kc tm tc _ t s _ hT hI (by omega) (by omega)).mono ?_
    rintro e t2 ⟨⟨ng, rfl⟩ | ⟨g, v, rfl, O⟩, q2⟩
    · go_wp2_with fail
      refine (towerPath_spec ka ta K.length kc tm tc _ t s _ (hT.keep q2) (hI.keep q2) (by omega) (by omega)).mono ?_
      rintro e t3 ⟨⟨_, rfl⟩ | ⟨g, _⟩, q3⟩
      · clear HP HC1 HC2 hT hI
        go_wp2_with fail
        refine (sameInts_any none none 0 0 0 (fun _ => 0) (fun _ => 0) _ ⟨fun _ => by show -9223372036854775808 ≤ (0 : Int) ∧ (0 : Int) ≤ 9223372036854775807; omega, .inl rfl⟩ ⟨fun _ => by show -9223372036854775808 ≤ (0 : Int) ∧ (0 : Int) ≤ 9223372036854775807; omega, .inl rfl⟩ (fun i h => by omega) (by omega)).mono ?_
        rintro e t4 ⟨rfl, q4⟩
        have bt4 : Below w.heap.size w t4 := ((bt1.trans (q2.mono bt1.size)).trans (q3.mono (Nat.le_trans bt1.size q2.size))).trans (q4.mono (Nat.le_trans bt1.size (Nat.le_trans q2.size q3.size)))
        go_wp2
        go_ret
        exact ⟨rfl, bt4⟩
      · exact absurd g ng
    · obtain ⟨vo, vc, rfl, _, I2⟩ := O.form
      have hsp := towerPath_spec ka ta K.length kc tm tc _ t s _ (hT.keep q2) (hI.keep q2) (by omega) (by omega)
      obtain ⟨hp1, hp2⟩ := HP.out g
      clear HP O
      generalize pathF t K.length (fun i => K.getD i ⟨#[]⟩) s 6 (0, []) = R at *
      obtain ⟨r, L⟩ := R
      dsimp only at hp1 hp2 hsp I2 ⊢
      subst hp1
      go_wp2_with fail
      refine hsp.mono ?_
      rintro e t3 ⟨⟨ng, _⟩ | ⟨_, v', rfl, O'⟩, q3⟩
      · exact absurd g ng
      obtain ⟨vo', vc', rfl, _, I3⟩ := O'.form
      have HG : Hid (GoodT (fun i => K.getD i ⟨#[]⟩) t K.length tm) := g
      clear hsp O' g
      dsimp only at I3 ⊢
      go_wp2_with fail
      refine (sameInts_any vo vo' L.length vc vc' (fi L) (fi L) _ (I2.keep q3) I3 (fun _ _ => rfl) (by omega)).mono ?_
      rintro e t4 ⟨rfl, q4⟩
      have bt4 : Below w.heap.size w t4 := ((bt1.trans (q2.mono bt1.size)).trans (q3.mono (Nat.le_trans bt1.size q2.size))).trans (q4.mono (Nat.le_trans bt1.size (Nat.le_trans q2.size q3.size)))
      have hT4 := ((hT.keep q2).keep q3).keep q4
      clear hT hI I2 I3 q2 q3 q4 bt1
      generalize L.length = ll at *
      go_wp2
      go_loopw [22] (fun q wr => ∃ k : Nat, q = .int .i64 k ∧ k ≤ r ∧ wr = t4) (fun q _ => r - (intOf q).toNat)
      case atStart => exact ⟨0, rfl, Nat.zero_le _, rfl⟩
      case round =>
        obtain ⟨k, rfl, hk, hw⟩ := hrel
        have hw2 := hw.symm
        clear hw
        subst hw2
        by_cases hkr : k < r
        · have hkn : k < K.length := by omega
          have hkd : decide ((k : Int) < (K.length : Int)) = true := decide_eq_true (by omega)
          have hki : (k : Int) < (K.length : Int) := by omega
          obtain ⟨kb, ko, rfl, hkl, hcc⟩ := hT4.lies.resolve_left (by omega)
          have hck := hcc k hkn
          have hlk := HC1.out k hkr
          generalize K.getD k ⟨#[]⟩ = ks at hck hlk
          clear hcc hT4
          generalize K.length = kl at *
          go_wp2
          go_roundw
          case rel => exact ⟨k + 1, by go_num, by omega, by first | rfl | trivial⟩
          case measure => simp [intOf]; omega
        · obtain rfl : k = r := by omega
          have hle : decide ((ll : Int) ≤ (k : Int)) = true := decide_eq_true (by omega)
          have hlp : (ll : Int) ≤ (k : Int) := by omega
          by_cases hkn : k < K.length
          · have hkd : decide ((k : Int) < (K.length : Int)) = true := decide_eq_true (by omega)
            have hki : (k : Int) < (K.length : Int) := by omega
            obtain ⟨kb, ko, rfl, hkl, hcc⟩ := hT4.lies.resolve_left (by omega)
            have hck := hcc k hkn
            have hlk := HC2.out hkn
            generalize K.getD k ⟨#[]⟩ = ks at hck hlk
            clear hcc hT4 HG HC1 HC2
            generalize K.length = kl at *
            go_wp2
            go_ret
            exact ⟨rfl, bt4⟩
          · have hkd : decide ((k : Int) < (K.length : Int)) = false := decide_eq_false (by omega)
            have hki : ¬ (k : Int) < (K.length : Int) := by omega
            clear hT4 HG HC1 HC2
            generalize K.length = kl at *
            go_wp2
            go_ret
            exact ⟨rfl, bt4⟩
  · obtain ⟨hGL, hFl⟩ := HF.out g
    rw [hlen] at O3
    obtain ⟨l3, c3, rfl, E3⟩ := O3.erow (fun i hi => (HB.out i hi).1)
    have EX3 := EX.keep q3
    have hs3 := hs w3 q3
    have bw3 := bw2.trans (q3.mono bw2.size)
    clear hi hs d0 d1 d2 d3 d4 d5 d6 d7 d8 HF E2 X2 EX O3
    obtain ⟨_, d0, d1, d2, d3, d4, d5, d6, d7, d8⟩ := EX3.z
    go_wp2_with fail
    refine hs3.mono ?_
    rintro e w4 (⟨ng, _⟩ | ⟨_, v4, V4, rfl, O4, q4⟩)
    · exact absurd g ng
    rw [hlen] at O4
    obtain ⟨l4, c4, rfl, E4⟩ := O4.erow (fun i hi => (HB.out i hi).1)
    have bw4 := bw3.trans (q4.mono bw3.size)
    have E34 := E3.keep q4
    have EX4 := EX3.keep q4
    have hzY : ESize (m + 1) (eL PL) := fun i hi => (HB.out i hi).2
    clear hs3 d0 d1 d2 d3 d4 d5 d6 d7 d8 EX3 O4 q3 q4 E3
    go_wp2_with fail
    refine (sameEntries_any l3 l4 (m + 1) c3 c4 (eL PL) _ E34 E4 (by omega) hzY).mono ?_
    rintro e w5 ⟨rfl, q5⟩
    have bw5 := bw4.trans (q5.mono bw4.size)
    have E5 := E34.keep q5
    have EX5 := EX4.keep q5
    have HGL : Hid (GoodL (eL PL) (m + 1)) := hGL
    clear q5 bw4 bw3 bw2 E34 E4 EX4 hGL HB g
    obtain ⟨_, d0, d1, d2, d3, d4, d5, d6, d7, d8⟩ := EX5.z
    go_wp2_with fail
    refine (entriesOf_impl l3 (m + 1) c3 (eL PL) x.key _ E5 (by omega) hzY).mono ?_
    rintro e w6 (⟨ng, _⟩ | ⟨_, v6, V6, rfl, O6, q6⟩)
    · exact absurd HGL.out ng
    obtain ⟨l6, c6, rfl⟩ := ownsRow_form O6.own
    have bw6 := bw5.trans (q6.mono bw5.size)
    have E6 := E5.keep q6
    generalize (fX (eL PL) x.key (m + 1)).length = fl at *
    clear O6 d0 d1 d2 d3 d4 d5 d6 d7 d8 EX5 E5 bw5
    have hgo := goodEntries_impl l3 (m + 1) c3 (eL PL) w6 E6 (by omega) hzY
    clear E6 q6
    go_wp2_with fail
    refine hgo.mono ?_
    rintro e w7 ⟨b7, rfl, h7, q7⟩
    obtain rfl : b7 = true := h7.2 HGL.out
    have bw7 := bw6.trans (q7.mono bw6.size)
    have hfl : ((fl : Int) == 0) = false := by simp; omega
    have hml : (((m + 1 : Nat) : Int) != (m : Int) + 1) = false := by simp
    clear hgo h7 HGL q7 bw6 hzY
    go_wp2_with fail
    refine (drawTowerPath_any mo mn mc mf _ (hm.keep bw7) (by omega)).mono ?_
    rintro e t1 ⟨K, tm, t, ka, ta, kc, tc, s, rfl, hT, hI, hK10, hm10, c1⟩
    have bt1 := bw7.trans (c1.mono bw7.size)
    obtain ⟨c, hcn, hc1, hc2⟩ := first_not (fun i => K.getD i ⟨#[]⟩) s K.length
    have HP : Hid (GoodT (fun i => K.getD i ⟨#[]⟩) t K.length tm → (pathF t K.length (fun i => K.getD i ⟨#[]⟩) s 6 (0, [])).1 = c ∧ (pathF t K.length (fun i => K.getD i ⟨#[]⟩) s 6 (0, [])).2.length ≤ c) := fun g => place_ok g hcn hc1 hc2
    have HC1 : Hid (∀ i, i < c → Op.bytesLess (K.getD i ⟨#[]⟩).toList s.toList = true) := hc1
    have HC2 : Hid (c < K.length → Op.bytesLess (K.getD c ⟨#[]⟩).toList s.toList = false) := hc2
    clear hc1 hc2 c1
    go_wp2_with fail
    refine (towerPath_impl ka ta K.length kc tm tc _ t s _ hT hI (by omega) (by omega)).mono ?_
    rintro e t2 ⟨⟨ng, rfl⟩ | ⟨g, v, rfl, O⟩, q2⟩
    · go_wp2_with fail
      refine (towerPath_spec ka ta K.length kc tm tc _ t s _ (hT.keep q2) (hI.keep q2) (by omega) (by omega)).mono ?_
      rintro e t3 ⟨⟨_, rfl⟩ | ⟨g, _⟩, q3⟩
      · clear HP HC1 HC2 hT hI
        go_wp2_with fail
        refine (sameInts_any none none 0 0 0 (fun _ => 0) (fun _ => 0) _ ⟨fun _ => by show -9223372036854775808 ≤ (0 : Int) ∧ (0 : Int) ≤ 9223372036854775807; omega, .inl rfl⟩ ⟨fun _ => by show -9223372036854775808 ≤ (0 : Int) ∧ (0 : Int) ≤ 9223372036854775807; omega, .inl rfl⟩ (fun i h => by omega) (by omega)).mono ?_
        rintro e t4 ⟨rfl, q4⟩
        have bt4 : Below w.heap.size w t4 := ((bt1.trans (q2.mono bt1.size)).trans (q3.mono (Nat.le_trans bt1.size q2.size))).trans (q4.mono (Nat.le_trans bt1.size (Nat.le_trans q2.size q3.size)))
        go_wp2
        go_ret
        exact ⟨rfl, bt4⟩
      · exact absurd g ng
    · obtain ⟨vo, vc, rfl, _, I2⟩ := O.form
      have hsp := towerPath_spec ka ta K.length kc tm tc _ t s _ (hT.keep q2) (hI.keep q2) (by omega) (by omega)
      obtain ⟨hp1, hp2⟩ := HP.out g
      clear HP O
      generalize pathF t K.length (fun i => K.getD i ⟨#[]⟩) s 6 (0, []) = R at *
      obtain ⟨r, L⟩ := R
      dsimp only at hp1 hp2 hsp I2 ⊢
      subst hp1
      go_wp2_with fail
      refine hsp.mono ?_
      rintro e t3 ⟨⟨ng, _⟩ | ⟨_, v', rfl, O'⟩, q3⟩
      · exact absurd g ng
      obtain ⟨vo', vc', rfl, _, I3⟩ := O'.form
      have HG : Hid (GoodT (fun i => K.getD i ⟨#[]⟩) t K.length tm) := g
      clear hsp O' g
      dsimp only at I3 ⊢
      go_wp2_with fail
      refine (sameInts_any vo vo' L.length vc vc' (fi L) (fi L) _ (I2.keep q3) I3 (fun _ _ => rfl) (by omega)).mono ?_
      rintro e t4 ⟨rfl, q4⟩
      have bt4 : Below w.heap.size w t4 := ((bt1.trans (q2.mono bt1.size)).trans (q3.mono (Nat.le_trans bt1.size q2.size))).trans (q4.mono (Nat.le_trans bt1.size (Nat.le_trans q2.size q3.size)))
      have hT4 := ((hT.keep q2).keep q3).keep q4
      clear hT hI I2 I3 q2 q3 q4 bt1
      generalize L.length = ll at *
      go_wp2
      go_loopw [22] (fun q wr => ∃ k : Nat, q = .int .i64 k ∧ k ≤ r ∧ wr = t4) (fun q _ => r - (intOf q).toNat)
      case atStart => exact ⟨0, rfl, Nat.zero_le _, rfl⟩
      case round =>
        obtain ⟨k, rfl, hk, hw⟩ := hrel
        have hw2 := hw.symm
        clear hw
        subst hw2
        by_cases hkr : k < r
        · have hkn : k < K.length := by omega
          have hkd : decide ((k : Int) < (K.length : Int)) = true := decide_eq_true (by omega)
          have hki : (k : Int) < (K.length : Int) := by omega
          obtain ⟨kb, ko, rfl, hkl, hcc⟩ := hT4.lies.resolve_left (by omega)
          have hck := hcc k hkn
          have hlk := HC1.out k hkr
          generalize K.getD k ⟨#[]⟩ = ks at hck hlk
          clear hcc hT4
          generalize K.length = kl at *
          go_wp2
          go_roundw
          case rel => exact ⟨k + 1, by go_num, by omega, by first | rfl | trivial⟩
          case measure => simp [intOf]; omega
        · obtain rfl : k = r := by omega
          have hle : decide ((ll : Int) ≤ (k : Int)) = true := decide_eq_true (by omega)
          have hlp : (ll : Int) ≤ (k : Int) := by omega
          by_cases hkn : k < K.length
          · have hkd : decide ((k : Int) < (K.length : Int)) = true := decide_eq_true (by omega)
            have hki : (k : Int) < (K.length : Int) := by omega
            obtain ⟨kb, ko, rfl, hkl, hcc⟩ := hT4.lies.resolve_left (by omega)
            have hck := hcc k hkn
            have hlk := HC2.out hkn
            generalize K.getD k ⟨#[]⟩ = ks at hck hlk
            clear hcc hT4 HG HC1 HC2
            generalize K.length = kl at *
            go_wp2
            go_ret
            exact ⟨rfl, bt4⟩
          · have hkd : decide ((k : Int) < (K.length : Int)) = false := decide_eq_false (by omega)
            have hki : ¬ (k : Int) < (K.length : Int) := by omega
            clear hT4 HG HC1 HC2
            generalize K.length = kl at *
            go_wp2
            go_ret
            exact ⟨rfl, bt4⟩

theorem fnEntries_law (co : Option Addr) (cn cc : Nat) (cf : Nat → Int) (mo : Option Addr) (mn mc : Nat) (mf : Nat → Int) (w : World) (hc : Row w co cn cf) (hm : Row w mo mn mf) (hcn : cn ≤ 140737488351232) (hmn : mn ≤ 140737488351232) :
    Calls Try.prog 3 #[.slice co cn cc, .slice mo mn mc] w fun e w' => e = .returned (.bool true) ∧ Below w.heap.size w w' := by
  by_cases hn : cn + mn ≤ 1048576
  · exact fnEntries_good co cn cc cf mo mn mc mf w hc hm hn
  · have hn1 : (1048576 : Int) < (cn : Int) + (mn : Int) := by omega
    have hw : IntKind.i64.wrap ((cn : Int) + (mn : Int)) = (cn : Int) + (mn : Int) := by rw [IntKind.wrap_i64]; omega
    go_enter Try.func3, Try.ntmps3
    go_wp2
    go_ret
    exact ⟨rfl, Below.refl _ _⟩
end Go.Proofs.Ytiigpmhaicfocaa
