/- The law of TowerPath, walked. -/
import Derived.Test.YtkoffcbjgpcnjaaTs
import Derived.Test.YtkoffcbjgpcnjaaSt
namespace Go.Proofs.Ytkoffcbjgpcnjaa
open Go.RowKit
set_option linter.unusedSimpArgs false
set_option linter.unusedVariables false

/-- An answer of TowerPath, its parts told. -/
def TpA (r : Int) (L : List Int) (c : Bool) (w : World) (e : Ending) (w' : World) : Prop :=
  ∃ lo lc, e = .returned (.tuple #[.slice lo L.length lc, .int .i64 r, .bool c]) ∧ OwnI w' w.heap.size (.slice lo L.length lc) L ∧ Below w.heap.size w w'
theorem tpa_of {good : Prop} {R : Nat × List Int} : ∃ (r : Int) (L : List Int) (c : Bool), (-1 ≤ r ∧ L.length ≤ max R.2.length 0) ∧ ∀ w e w', TpO good R w e w' → TpA r L c w e w' := by
  by_cases h : good
  · refine ⟨(R.1 : Int), R.2, true, ⟨by omega, by omega⟩, ?_⟩
    rintro w e w' ⟨⟨hn, _⟩ | ⟨_, v, rfl, ho⟩, hb⟩
    · exact absurd h hn
    · obtain ⟨lo, lc, rfl, _, _⟩ := ho.form
      exact ⟨lo, lc, rfl, ho, hb⟩
  · refine ⟨0, [], false, ⟨by omega, by simp⟩, ?_⟩
    rintro w e w' ⟨⟨_, rfl⟩ | ⟨hg, _⟩, hb⟩
    · exact ⟨none, 0, rfl, ownI_nil _ _, hb⟩
    · exact absurd hg h
theorem goW_len (t : Nat → Int) (n : Nat) (K : Nat → ByteArray) (key : ByteArray) (y : Int) : ∀ f (s : Nat × List Int), s.1 ≤ n → s.2.length ≤ s.1 → (goW t n K key y f s).1 ≤ n ∧ (goW t n K key y f s).2.length ≤ (goW t n K key y f s).1
  | 0, s, h1, h2 => ⟨h1, h2⟩
  | f + 1, s, h1, h2 => by
    unfold goW
    split
    · rename_i h
      have := nx_le (t := t) (y := y) h1
      exact goW_len t n K key y f _ (by simp; omega) (by simp; omega)
    · exact ⟨h1, h2⟩
theorem pathF_len (t : Nat → Int) (n : Nat) (K : Nat → ByteArray) (key : ByteArray) : ∀ y (s : Nat × List Int), s.1 ≤ n → s.2.length ≤ s.1 → (pathF t n K key y s).1 ≤ n ∧ (pathF t n K key y s).2.length ≤ (pathF t n K key y s).1
  | 0, s, h1, h2 => ⟨h1, h2⟩
  | y + 1, s, h1, h2 => by
    have := goW_len t n K key ((y + 1 : Nat) : Int) (n + 1) s h1 h2
    exact pathF_len t n K key y _ this.1 this.2

set_option maxHeartbeats 4000000 in
theorem towerPath_law (ko : Option Addr) (n kc : Nat) (K : Nat → ByteArray) (to : Option Addr) (m tc : Nat) (t : Nat → Int) (key : ByteArray) (w : World) (hk : TRow w ko n K) (ht : IRow w to m t) (hnx : n ≤ 9223372036854775807 ∧ ∀ i, i < n → (K i).size ≤ 9223372036854775807) (hmx : m ≤ 9223372036854775807) (hkx : key.size ≤ maxLen) :
    Calls Try.prog 8 #[.slice ko n kc, .slice to m tc, .string key] w fun e w' => e = .returned (.bool true) ∧ Below w.heap.size w w' := by
  by_cases hm : 1048576 < m
  · go_enter Try.func8, Try.ntmps8
    go_wp2
    go_ret
    exact ⟨rfl, Below.refl _ _⟩
  by_cases hks : 1048576 < key.size
  · go_enter Try.func8, Try.ntmps8
    go_wp2
    go_ret
    exact ⟨rfl, Below.refl _ _⟩
  have hm' : m ≤ 1048576 := by omega
  obtain ⟨r, L, c, ⟨_, hLl⟩, hA⟩ := tpa_of (good := GoodT K t n m) (R := pathF t n K key 6 (0, []))
  have hLn : L.length ≤ n := by
    have := pathF_len t n K key 6 (0, []) (by simp) (by simp)
    omega
  have hS : ∀ W ao bo ca cb, TRow W ao n K → IRow W bo m t → n ≤ 1048576 → Calls Try.prog 32 #[.slice ao n ca, .slice bo m cb, .string key] W fun e w' => TpA r L c W e w' := fun W ao bo ca cb h1 h2 h3 => (towerPath_spec ao bo n ca m cb K t key W h1 h2 h3 hm').mono (hA W)
  have hI : ∀ W ao bo ca cb, TRow W ao n K → IRow W bo m t → n ≤ 1048576 → Calls Try.prog 35 #[.slice ao n ca, .slice bo m cb, .string key] W fun e w' => TpA r L c W e w' := fun W ao bo ca cb h1 h2 h3 => (towerPath_impl ao bo n ca m cb K t key W h1 h2 h3 hm').mono (hA W)
  clear hA hLl hmx hkx
  go_enter Try.func8, Try.ntmps8
  go_wp2_with fail
  refine (szStringS_any ko n kc K 1048576 _ hk (by omega) hnx.1 hnx.2).mono ?_
  rintro e w1 ⟨v, rfl, hv1, hv2, hv3, bw1⟩
  by_cases hv : v < 0
  · clear hv3
    go_wp2
    go_ret
    exact ⟨rfl, bw1⟩
  have hn := hv3 (by omega)
  clear hv3 hnx
  go_wp2_with fail
  refine (toStringS_any ko n kc K _ (hk.keep bw1) hn).mono ?_
  rintro e w2 ⟨rfl, o2, hb2⟩
  have bw2 : Below w.heap.size w w2 := bw1.trans (hb2.mono bw1.size)
  go_wp2_with fail
  refine (toIntS_any to m tc t _ (ht.keep bw2) hm').mono ?_
  rintro e w3 ⟨rfl, o3, hb3⟩
  have bw3 : Below w.heap.size w w3 := bw2.trans (hb3.mono bw2.size)
  go_wp2_with fail
  refine (hS _ _ _ _ _ (o2.keep hb3).row o3.row hn).mono ?_
  rintro e w4 ⟨wo, wc, rfl, oW, hb4⟩
  have bw4 : Below w.heap.size w w4 := bw3.trans (hb4.mono bw3.size)
  clear hb2 hb3 hb4 o2 o3 hS
  have ltW := oW.own.lt
  go_wp2_with fail
  refine (toStringS_any ko n kc K _ (hk.keep bw4) hn).mono ?_
  rintro e w5 ⟨rfl, o5, hb5⟩
  have bw5 : Below w.heap.size w w5 := bw4.trans (hb5.mono bw4.size)
  have oW5 := oW.keep hb5
  go_wp2_with fail
  refine (toIntS_any to m tc t _ (ht.keep bw5) hm').mono ?_
  rintro e w6 ⟨rfl, o6, hb6⟩
  have bw6 : Below w.heap.size w w6 := bw5.trans (hb6.mono bw5.size)
  have oW6 := oW5.keep hb6
  have x6 := o5.keep hb6
  have s45 := hb5.size
  have s56 := hb6.size
  have l5 := o5.lt
  have l6 := o6.lt
  go_wp2_with fail
  refine (hI _ _ _ _ _ x6.row o6.row hn).mono ?_
  rintro e w7 ⟨go, gc, rfl, oG, hb7⟩
  have bw7 : Below w.heap.size w w7 := bw6.trans (hb7.mono bw6.size)
  have oW7 := oW6.keep hb7
  have x7 := x6.keep hb7
  have t7 := o6.keep hb7
  have s67 := hb7.size
  clear oW oW5 oW6 o5 o6 x6 hb5 hb6 hb7
  have gW : ∀ W, OwnI W w3.heap.size (.slice wo L.length wc) L → IRow W wo L.length (fi L) := fun W h => by
    obtain ⟨a, d, e, _, hr⟩ := h.form
    injection e with e1 _ e3
    subst e1
    exact hr
  have gG : ∀ W, OwnI W w6.heap.size (.slice go L.length gc) L → IRow W go L.length (fi L) := fun W h => by
    obtain ⟨a, d, e, _, hr⟩ := h.form
    injection e with e1 _ e3
    subst e1
    exact hr
  have ltG := oG.own.lt
  have hL : L.length ≤ 1048576 := by omega
  go_wp2_with fail
  refine (eqIntS_same go wo L.length gc wc (fi L) _ (gG _ oG) (gW _ oW7) hL).mono ?_
  rintro e w8 ⟨rfl, hb8⟩
  have bw8 : Below w.heap.size w w8 := bw7.trans (hb8.mono bw7.size)
  have oW8 := oW7.keep hb8
  have oG8 := oG.keep hb8
  have x8 := x7.keep hb8
  have t8 := t7.keep hb8
  have s78 := hb8.size
  clear oW7 oG x7 t7 hb8
  go_wp2_with fail
  refine (toStringS_any ko n kc K _ (hk.keep bw8) hn).mono ?_
  rintro e w9 ⟨rfl, o9, hb9⟩
  have bw9 : Below w.heap.size w w9 := bw8.trans (hb9.mono bw8.size)
  have oW9 := oW8.keep hb9
  have oG9 := oG8.keep hb9
  have x9 := x8.keep hb9
  have t9 := t8.keep hb9
  have s89 := hb9.size
  clear oW8 oG8 x8 t8 hb9
  go_wp2_with fail
  refine (eqStringS_same _ _ n n n K _ x9.row o9.row hn).mono ?_
  rintro e w10 ⟨rfl, hb10⟩
  have bw10 : Below w.heap.size w w10 := bw9.trans (hb10.mono bw9.size)
  have oW10 := oW9.keep hb10
  have oG10 := oG9.keep hb10
  have x10 := x9.keep hb10
  have t10 := t9.keep hb10
  have s910 := hb10.size
  clear oW9 oG9 x9 t9 hb10 o9
  go_wp2_with fail
  refine (toIntS_any to m tc t _ (ht.keep bw10) hm').mono ?_
  rintro e w11 ⟨rfl, o11, hb11⟩
  have bw11 : Below w.heap.size w w11 := bw10.trans (hb11.mono bw10.size)
  have oW11 := oW10.keep hb11
  have oG11 := oG10.keep hb11
  have x11 := x10.keep hb11
  have t11 := t10.keep hb11
  have s1011 := hb11.size
  clear oW10 oG10 x10 t10 hb11
  go_wp2_with fail
  refine (eqIntS_same _ _ m m m t _ t11.row o11.row hm').mono ?_
  rintro e w12 ⟨rfl, hb12⟩
  have bw12 : Below w.heap.size w w12 := bw11.trans (hb12.mono bw11.size)
  have oW12 := oW11.keep hb12
  have oG12 := oG11.keep hb12
  have x12 := x11.keep hb12
  have t12 := t11.keep hb12
  have s1112 := hb12.size
  clear oW11 oG11 x11 t11 hb12 o11
  go_wp2_with fail
  refine (markStringS_any _ n n K _ x12 hn).mono ?_
  rintro e w13 ⟨rfl, g13⟩
  have bw13 : Below w.heap.size w w13 := below_grown bw12 g13 bw4.size bw12.size
  have oW13 := oW12.kept g13 (fun k hk e => by injection hk with hk; have := (ltW k e).2; omega)
  have oG13 := oG12.kept g13 (fun k hk e => by injection hk with hk; have := (ltG k e).1; omega)
  have t13 := t12.grown g13 (by omega)
  have s1213 := g13.size
  clear oW12 oG12 x12 t12 g13
  have hmk := markI_any w5.heap.size 0 m m t (1 + n) _ t13 hm' (by omega)
  rw [show (((1 + n : Nat)) : Int) = 1 + (n : Int) from by omega] at hmk
  go_wp2_with fail
  refine hmk.mono ?_
  rintro e w14 ⟨rfl, _, h14⟩
  have g14 := h14.grown
  have bw14 : Below w.heap.size w w14 := below_grown bw13 g14 bw5.size bw13.size
  have oW14 := oW13.kept g14 (fun k hk e => by injection hk with hk; have := (ltW k e).2; omega)
  have oG14 := oG13.kept g14 (fun k hk e => by injection hk with hk; have := (ltG k e).1; omega)
  have s1314 := g14.size
  have hpos : ¬ (((1 + n + m : Nat)) : Int) < 0 := by omega
  have hposd : decide ((((1 + n + m : Nat)) : Int) < 0) = false := by simpa using hpos
  generalize (((1 + n + m : Nat)) : Int) = kk at hpos hposd ⊢
  clear oW13 oG13 t13 g14 h14 hmk
  go_wp2_with fail
  refine (eqIntS_same go wo L.length gc wc (fi L) _ (gG _ oG14) (gW _ oW14) hL).mono ?_
  rintro e w15 ⟨rfl, hb15⟩
  have bw15 : Below w.heap.size w w15 := bw14.trans (hb15.mono bw14.size)
  have oW15 := oW14.keep hb15
  have oG15 := oG14.keep hb15
  have s1415 := hb15.size
  clear oW14 oG14 hb15
  go_wp2_with fail
  refine (markOwn_any go gc _ L _ oG15 hL).mono ?_
  rintro e w16 ⟨rfl, ⟨fG, rG, hfG⟩, g16⟩
  have bw16 : Below w.heap.size w w16 := bw15.grown g16 bw15.size (fun k hk => by have := (ltG k hk).1; have := bw6.size; omega)
  have oW16 := oW15.kept g16 (fun k hk e => by have := (ltW k e).2; have := (ltG k hk).1; omega)
  have HfG : Hid (∀ i, i < L.length → fG i = ((1 + i : Nat) : Int)) := hfG
  clear oW15 oG15 g16 hfG gG
  have hq := fun W h => heldI_yes go L.length gc fG W h HfG.out hL
  have hqp : ¬ (((1 + L.length : Nat)) : Int) < 0 := by omega
  have hqd : decide ((((1 + L.length : Nat)) : Int) < 0) = false := by simpa using hqp
  generalize (((1 + L.length : Nat)) : Int) = qq at hq hqp hqd ⊢
  go_wp2_with fail
  refine (hq _ rG).mono ?_
  rintro e w17 ⟨rfl, hb17⟩
  have bw17 : Below w.heap.size w w17 := bw16.trans (hb17.mono bw16.size)
  have oW17 := oW16.keep hb17
  have rG17 := rG.keep hb17
  clear oW16 rG hb17
  go_wp2_with fail
  refine (toStringS_any ko n kc K _ (hk.keep bw17) hn).mono ?_
  rintro e w18 ⟨rfl, o18, hb18⟩
  have bw18 : Below w.heap.size w w18 := bw17.trans (hb18.mono bw17.size)
  have oW18 := oW17.keep hb18
  have rG18 := rG17.keep hb18
  clear oW17 rG17 hb18
  go_wp2_with fail
  refine (toIntS_any to m tc t _ (ht.keep bw18) hm').mono ?_
  rintro e w19 ⟨rfl, o19, hb19⟩
  have bw19 : Below w.heap.size w w19 := bw18.trans (hb19.mono bw18.size)
  have oW19 := oW18.keep hb19
  have rG19 := rG18.keep hb19
  have x19 := o18.keep hb19
  clear oW18 rG18 hb19 o18
  go_wp2_with fail
  refine (hI _ _ _ _ _ x19.row o19.row hn).mono ?_
  rintro e w20 ⟨po, pc, rfl, oH, hb20⟩
  have bw20 : Below w.heap.size w w20 := bw19.trans (hb20.mono bw19.size)
  have oW20 := oW19.keep hb20
  have rG20 := rG19.keep hb20
  have rH : IRow w20 po L.length (fi L) := by
    obtain ⟨a, d, e, _, hr⟩ := oH.form
    injection e with e1 _ e3
    subst e1
    exact hr
  clear oW19 rG19 hb20 x19 o19 oH
  go_wp2_with fail
  refine (eqIntS_same po wo L.length pc wc (fi L) _ rH (gW _ oW20) hL).mono ?_
  rintro e w21 ⟨rfl, hb21⟩
  have bw21 : Below w.heap.size w w21 := bw20.trans (hb21.mono bw20.size)
  have rG21 := rG20.keep hb21
  clear oW20 rG20 hb21 rH
  go_wp2_with fail
  refine (hq _ rG21).mono ?_
  rintro e w22 ⟨rfl, hb22⟩
  have bw22 : Below w.heap.size w w22 := bw21.trans (hb22.mono bw21.size)
  clear hb22
  go_wp2
  go_ret
  exact ⟨rfl, bw22⟩
end Go.Proofs.Ytkoffcbjgpcnjaa
