/- What TellDirty and AddEvent answer, told wholly (made by mkfa.py). / What the law holds against one another: ints, aggs, entries. -/
import Derived.Test.YtpggmgmdcccmeaaGj
import Derived.Test.YtpggmgmdcccmeaaAeA
import Derived.Test.YtpggmgmdcccmeaaTdA
import Derived.Test.YtpggmgmdcccmeaaWo2
import Derived.Test.YtpggmgmdcccmeaaTkS
import Derived.Test.YtpggmgmdcccmeaaOh
import Derived.BigQuiet
import Derived.Deep.RegionHeld3
import Derived.Deep.RegionWith
namespace Go.Proofs.Ytpggmgmdcccmeaa
open Go.RowKit
set_option linter.unusedSimpArgs false
set_option linter.unusedVariables false

theorem kc_self (x : Wn) : kc x x = 0 := by have := kc_swap x x; omega
/-- A window stands at its own place. -/
theorem posK_self {z : Int} {X : Nat → Wn} {n i : Nat} (h : GWs z X n) (hi : i < n) : PosK X n (X i) i := by
  refine ⟨by omega, fun j hj => ?_, fun _ => by rw [kc_self]; omega⟩
  have h1 := kb_rise h (i - j - 1) j (by omega)
  rw [show j + (i - j - 1 + 1) = i from by omega] at h1
  exact (kc_iff (h.each j (by omega)).key (h.each i hi).key).2 h1
/-- What TellDirty answers, told wholly. -/
theorem td_full (z h mk : Int) (n : Nat) (X : Nat → Wn) (W : WOk n X) :
    (∃ (z' h' mk' : Int) (n' : Nat) (T' : Nat → Wn), WOk n' X ∧
      (∀ (ao : Option Addr) (cap : Nat) (w : World), WiRow w ao n X → Calls Try.prog 6 #[.agg #[.int .i64 z, .int .i64 h, .int .i64 mk, .slice ao n cap]] w fun e w' => TAns z' h' mk' n' X 0 T' 1 w e w') ∧
      (∀ (ao : Option Addr) (cap : Nat) (w : World), WiRow w ao n X → Calls Try.prog 5 #[.agg #[.int .i64 z, .int .i64 h, .int .i64 mk, .slice ao n cap]] w fun e w' => TAns z' h' mk' n' X 0 T' 1 w e w')) ∨
    (GBd z h mk n X ∧ ¬ Worn (cln X) n (dS X n) ∧
      (∀ (ao : Option Addr) (cap : Nat) (w : World), WiRow w ao n X → Calls Try.prog 6 #[.agg #[.int .i64 z, .int .i64 h, .int .i64 mk, .slice ao n cap]] w fun e w' => TAns z h mk n (tdX X) (tN (fun i => (X i).di) n) (tL (cln X) (fun i => (X i).di) n) 0 w e w') ∧
      (∀ (ao : Option Addr) (cap : Nat) (w : World), WiRow w ao n X → Calls Try.prog 5 #[.agg #[.int .i64 z, .int .i64 h, .int .i64 mk, .slice ao n cap]] w fun e w' => TAns z h mk n (tdX X) (tN (fun i => (X i).di) n) (tL (cln X) (fun i => (X i).di) n) 0 w e w')) := by
  obtain ⟨hn, hb, hf, hz⟩ := W
  by_cases hG : GBd z h mk n X
  · by_cases hw : Worn (cln X) n (dS X n)
    · exact .inl ⟨z, h, mk, n, X, ⟨hn, hb, hf, hz⟩, fun ao cap w hr => (tellDirty_spec_good z h mk ao n cap X X w hr hn hz hG (fun i => (X i).di) rfl).mono (fun _ _ hh => hh.1 hw), fun ao cap w hr => tellDirty_impl_worn z h mk ao n cap X X w hr hn hz hG hw⟩
    · exact .inr ⟨hG, hw, fun ao cap w hr => (tellDirty_spec_good z h mk ao n cap X X w hr hn hz hG (fun i => (X i).di) rfl).mono (fun _ _ hh => hh.2 hw), fun ao cap w hr => tellDirty_impl_good z h mk ao n cap X w hr hn hz hG hw (fun i => (X i).di) rfl⟩
  · exact .inl ⟨0, 0, 0, 0, X, ⟨Nat.zero_le _, fun i hi => by omega, fun i hi => by omega, fun i hi => by omega⟩, fun ao cap w hr => tellDirty_spec_bad z h mk ao n cap X X w hr hn hz hG, fun ao cap w hr => tellDirty_impl_bad z h mk ao n cap X X w hr hn hz hG⟩
theorem tdX_di (X : Nat → Wn) (i : Nat) : (tdX X i).di = false := by
  unfold tdX
  split
  · rfl
  · rename_i h; simpa using h
/-- A board that was told is good, and nothing of it is dirty. -/
theorem td_good {z h mk : Int} {n : Nat} {X : Nat → Wn} (hG : GBd z h mk n X) (hw : ¬ Worn (cln X) n (dS X n)) : GBd z h mk n (tdX X) := by
  refine ⟨hG.size, hG.hor, hG.mark, hG.few, fun i hi => ?_, fun i hi => ?_⟩
  · have g := hG.wins.each i hi
    have hv : 0 ≤ (X i).ver ∧ (X i).ver ≤ 1000000 := by have := g.ver; simpa [btw] using this
    unfold tdX
    by_cases hd : (X i).di = true
    · rw [if_pos hd]
      have hne : (X i).ver ≠ 1000000 := fun e => hw ⟨i, hi, e, (dS_iff hG.wins hi).2 hd⟩
      refine ⟨g.key, g.mul, g.agg, g.cnt, ?_, fun e => ?_⟩
      · show btw 0 ((X i).ver + 1) 1000000 = true
        simp [btw]; omega
      · have e' : (X i).ver + 1 = 0 := e
        omega
    · rw [if_neg hd]; exact g
  · have hr := hG.wins.rise i hi
    have k1 : ∀ j, kc (tdX X j) = kc (X j) := fun j => by unfold tdX; split <;> rfl
    have k2 : ∀ y j, kc y (tdX X j) = kc y (X j) := fun y j => by unfold tdX; split <;> rfl
    rw [k1, k2]; exact hr
theorem td_none (X : Nat → Wn) : ∀ n, tN (fun i => (tdX X i).di) n = 0
  | 0 => rfl
  | n + 1 => by unfold tN; rw [tdX_di, td_none X n]; rfl
theorem td_unworn (X : Nat → Wn) (n : Nat) : ¬ Worn (cln (tdX X)) n (dS (tdX X) n) := by
  rintro ⟨i, hi, _, j, hj, hd, _⟩
  rw [tdX_di] at hd; cases hd
theorem td_wok {z h mk : Int} {n : Nat} {X : Nat → Wn} (hG : GBd z h mk n X) (W : WOk n X) : WOk n (tdX X) := by
  refine ⟨W.few, fun i hi => ?_, fun i hi => ?_, fun i hi => ?_⟩
  · have hv : 0 ≤ (X i).ver ∧ (X i).ver ≤ 1000000 := by have := (hG.wins.each i hi).ver; simpa [btw] using this
    have h9 := W.bd i hi
    unfold tdX
    split
    · exact ⟨h9.st, h9.c, h9.s, by show _ ≤ (X i).ver + 1 ∧ (X i).ver + 1 ≤ _; omega, h9.m, h9.tn, h9.ts, h9.n⟩
    · exact h9
  · unfold tdX
    split
    · exact W.fb i hi
    · exact W.fb i hi
  · have h9 := W.sz i hi
    unfold tdX
    split
    · exact ⟨h9.m, h9.tn, h9.ts, h9.n⟩
    · exact h9
/-- What an event leaves on a board. -/
structure AeGd (z h mk t v : Int) (n : Nat) (X : Nat → Wn) (x : Wn) (q n' : Nat) (X' : Nat → Wn) : Prop where
  good : GBd z h mk n' X'
  pos : PosK X' n' (evX x (t - t % z)) q
  lt : q < n'
  key : kc (X' q) (evX x (t - t % z)) = 0
  di : (X' q).di = true
  st : (X' q).st = t - t % z
  ag : (q < n ∧ kc (X q) (evX x (t - t % z)) = 0) ∨ (¬ (q < n ∧ kc (X q) (evX x (t - t % z)) = 0) ∧ (X' q).c = 1 ∧ (X' q).s = v)
theorem kc_st {x y : Wn} (h : kc x y = 0) : x.st = y.st := by
  have a2 := tc_zero 3 0 h 2 (by omega) (by omega)
  simp only [keyC, if_true, if_false, show ¬ (2 : Nat) = 0 from by omega, show ¬ (2 : Nat) = 1 from by omega] at a2
  unfold cmpI at a2; split at a2 <;> (try split at a2) <;> omega
theorem jn_cnt {a b : Ent} (ha : 0 ≤ a.c) (hb : 1 ≤ b.c) : (jn a b).c ≠ 0 := by
  unfold jn
  split
  · show b.c ≠ 0; omega
  · split
    · omega
    · show min (a.c + b.c) 1000000000 ≠ 0; omega
theorem gd_old {z h mk t v : Int} {n q : Nat} {X : Nat → Wn} {x : Wn} (hG : GBd z h mk n X) (hE : evK x t v) (hP : PosK X n (evX x (t - t % z)) q) (hy : q < n ∧ kc (X q) (evX x (t - t % z)) = 0) : AeGd z h mk t v n X x q n (upWi X q ((agY (X q) (jn (cA (agE (X q))) (oA v))).w_di true)) := by
  have g := hG.wins.each q hy.1
  have hA : GA (agE (X q)) := g.agg
  have hj : GA (jn (cA (agE (X q))) (oA v)) := ga_jn (ga_cA hA) (ga_oA hE.1)
  have k1 : ∀ j, kc (upWi X q ((agY (X q) (jn (cA (agE (X q))) (oA v))).w_di true) j) = kc (X j) := fun j => by
    by_cases e : j = q
    · subst e; rw [upWi_at]; rfl
    · rw [upWi_ne _ _ _ e]
  have k2 : ∀ y j, kc y (upWi X q ((agY (X q) (jn (cA (agE (X q))) (oA v))).w_di true) j) = kc y (X j) := fun y j => by
    by_cases e : j = q
    · subst e; rw [upWi_at]; rfl
    · rw [upWi_ne _ _ _ e]
  refine ⟨⟨hG.size, hG.hor, hG.mark, hG.few, fun i hi => ?_, fun i hi => ?_⟩, ⟨hP.le, fun i hi => by rw [k1]; exact hP.lt i hi, fun hq => by rw [k1]; exact hP.ge hq⟩, hy.1, by rw [k1]; exact hy.2, by rw [upWi_at]; rfl, ?_, .inl hy⟩
  · by_cases e : i = q
    · subst e
      rw [upWi_at]
      have h8 := hj.n
      unfold GA at hj
      rw [h8] at hj
      exact ⟨g.key, g.mul, hj, jn_cnt hA.c.1 (by show (1 : Int) ≤ 1; omega), g.ver, fun _ => rfl⟩
    · rw [upWi_ne _ _ _ e]; exact hG.wins.each i hi
  · rw [k1, k2]; exact hG.wins.rise i hi
  · rw [upWi_at]; exact kc_st hy.2
theorem gd_new {z h mk t v : Int} {n q : Nat} {X : Nat → Wn} {x : Wn} (hG : GBd z h mk n X) (hE : evK x t v) (hP : PosK X n (evX x (t - t % z)) q) (hy : ¬ (q < n ∧ kc (X q) (evX x (t - t % z)) = 0)) (h40 : n < 40) : AeGd z h mk t v n X x q (n + 1) (inX X q (nwS x (t - t % z) v)) := by
  have hgT : gK (evX x (t - t % z)) = true := evX_good hE.2.2.1 hE.2.1 hG.size
  have hzz : 1 ≤ z ∧ z ≤ 100000 := by have := hG.size; simpa [isSz, btw] using this
  have hqn := hP.le
  have inq : ∀ (y : Wn), inX X q y q = y := fun y => inX_at X q y
  have inl : ∀ (y : Wn) i, i < q → inX X q y i = X i := fun y i hi => by simp [inX, hi]
  have inr : ∀ (y : Wn) i, q < i → inX X q y i = X (i - 1) := fun y i hi => by simp [inX, show ¬ i < q by omega, show ¬ i = q by omega]
  have hgo := ga_oA hE.1
  have hgt : q < n → kc (evX x (t - t % z)) (X q) < 0 := fun hq => by
    have h1 := hP.ge hq
    have h2 : kc (X q) (evX x (t - t % z)) ≠ 0 := fun e => hy ⟨hq, e⟩
    rw [kc_swap]; omega
  refine ⟨⟨hG.size, hG.hor, hG.mark, by omega, fun i hi => ?_, fun i hi => ?_⟩, ⟨by omega, fun i hi => by rw [inl _ _ hi]; exact hP.lt i hi, fun _ => ?_⟩, by omega, ?_, by rw [inq]; rfl, by rw [inq]; rfl, .inr ⟨hy, by rw [inq]; rfl, by rw [inq]; rfl⟩⟩
  · rcases Nat.lt_trichotomy i q with e | e | e
    · rw [inl _ _ e]; exact hG.wins.each i (by omega)
    · subst e
      rw [inq]
      refine ⟨hgT, ?_, hgo, by show (1 : Int) ≠ 0; omega, by show btw 0 0 1000000 = true; rfl, fun _ => rfl⟩
      show (t - t % z) % z = 0
      rw [Int.sub_emod, Int.emod_emod_of_dvd _ (Int.dvd_refl z), Int.sub_self, Int.zero_emod]
    · rw [inr _ _ e]; exact hG.wins.each (i - 1) (by omega)
  · rcases Nat.lt_trichotomy (i + 1) q with e | e | e
    · rw [inl _ _ (by omega), inl _ _ e]; exact hG.wins.rise i (by omega)
    · rw [inl _ _ (by omega), e, inq]; exact hP.lt i (by omega)
    · by_cases e2 : i = q
      · subst e2
        rw [inq, inr _ _ (by omega), Nat.add_sub_cancel]
        exact hgt (by omega)
      · rw [inr _ _ (by omega), inr _ _ e, Nat.add_sub_cancel]
        have := hG.wins.rise (i - 1) (by omega)
        rw [show i - 1 + 1 = i by omega] at this
        exact this
  · rw [inq]; show 0 ≤ kc (evX x (t - t % z)) (evX x (t - t % z)); rw [kc_self]; omega
  · rw [inq]; exact kc_self (evX x (t - t % z))
set_option maxHeartbeats 4000000 in
/-- What AddEvent answers, told wholly. -/
theorem ae_full (z h mk t v : Int) (n : Nat) (X : Nat → Wn) (x : Wn) (hk : KSz x) (hn : n ≤ 1048576) (hbd : ∀ i, i < n → WiB (X i)) (hfb : FBw n X) (hz : WiSize n X) : (∃ (z' h' mk' : Int) (n' : Nat) (X' : Nat → Wn) (c : Int), c ≠ 0 ∧ WOk n' X' ∧ (∀ (ao a0 : Option Addr) (cap c0 : Nat) (w : World), WiRow w ao n X → TRow w a0 x.tn x.nm x.vl → Calls Try.prog 11 #[.agg #[.int .i64 z, .int .i64 h, .int .i64 mk, .slice ao n cap], .agg #[.string x.m, .slice a0 x.tn c0, .int .i64 x.st], .int .i64 t, .int .i64 v] w fun e w' => BAns z' h' mk' n' X' c w e w') ∧ (∀ (ao a0 : Option Addr) (cap c0 : Nat) (w : World), WiRow w ao n X → TRow w a0 x.tn x.nm x.vl → Calls Try.prog 10 #[.agg #[.int .i64 z, .int .i64 h, .int .i64 mk, .slice ao n cap], .agg #[.string x.m, .slice a0 x.tn c0, .int .i64 x.st], .int .i64 t, .int .i64 v] w fun e w' => BAns z' h' mk' n' X' c w e w')) ∨
    (GBd z h mk n X ∧ evK x t v ∧ ∃ (q n' : Nat) (X' : Nat → Wn), PosK X n (evX x (t - t % z)) q ∧ WOk n' X' ∧ AeGd z h mk t v n X x q n' X' ∧ (∀ (ao a0 : Option Addr) (cap c0 : Nat) (w : World), WiRow w ao n X → TRow w a0 x.tn x.nm x.vl → Calls Try.prog 11 #[.agg #[.int .i64 z, .int .i64 h, .int .i64 mk, .slice ao n cap], .agg #[.string x.m, .slice a0 x.tn c0, .int .i64 x.st], .int .i64 t, .int .i64 v] w fun e w' => BAns z h mk n' X' 0 w e w') ∧ (∀ (ao a0 : Option Addr) (cap c0 : Nat) (w : World), WiRow w ao n X → TRow w a0 x.tn x.nm x.vl → Calls Try.prog 10 #[.agg #[.int .i64 z, .int .i64 h, .int .i64 mk, .slice ao n cap], .agg #[.string x.m, .slice a0 x.tn c0, .int .i64 x.st], .int .i64 t, .int .i64 v] w fun e w' => BAns z h mk n' X' 0 w e w')) := by
  have W0 : WOk n X := ⟨hn, hbd, hfb, hz⟩
  by_cases hG : GBd z h mk n X
  rotate_left
  · refine .inl ⟨0, 0, 0, 0, X, 1, by decide, ⟨by omega, fun i hi => by omega, fun i hi => by omega, fun i hi => by omega⟩, fun ao a0 cap c0 w hr rt => addEvent_spec_bad z h mk t v ao n cap X x a0 c0 w hr hn hz hG, fun ao a0 cap c0 w hr rt => addEvent_impl_bad z h mk t v ao n cap X x a0 c0 w hr hn hz hG⟩
  by_cases hE : evK x t v
  rotate_left
  · exact .inl ⟨z, h, mk, n, X, 1, by decide, W0, fun ao a0 cap c0 w hr rt => addEvent_spec_no z h mk t v ao n cap X x a0 c0 w hr hn hz hG rt hk hE, fun ao a0 cap c0 w hr rt => addEvent_impl_same z h mk t v 1 ao n cap X x a0 c0 w hr hn hz hG rt (fun base p r sv V W _ hT => addEvent_bad p x a0 c0 t v W hT hk hE)⟩
  have hh : 0 ≤ h ∧ h ≤ 1000000 := by have := hG.hor; simpa [btw] using this
  have hmk : 0 ≤ mk ∧ mk ≤ 1000000000 := by have := hG.mark; simpa [isTm, btw] using this
  have hmh : -9223372036854775808 ≤ mk - h ∧ mk - h ≤ 9223372036854775807 := by omega
  by_cases hl : t < mk - h
  · exact .inl ⟨z, h, mk, n, X, 2, by decide, W0, fun ao a0 cap c0 w hr rt => addEvent_spec_late z h mk t v ao n cap X x a0 c0 w hr hn hz hG rt hk hE hmh hl, fun ao a0 cap c0 w hr rt => addEvent_impl_same z h mk t v 2 ao n cap X x a0 c0 w hr hn hz hG rt (fun base p r sv V W HW hT => addEvent_late p z h mk _ x a0 c0 t v W HW.box hmh hT hk hE hl)⟩
  have hgT : gK (evX x (t - t % z)) = true := evX_good hE.2.2.1 hE.2.1 hG.size
  obtain ⟨q, hP⟩ := posK_ex X (evX x (t - t % z)) n
  have hPc : PosK (cln X) n (evX x (t - t % z)) q := ⟨hP.le, hP.lt, hP.ge⟩
  have hm : ∀ i j, i ≤ j → j < n → kc (cln X j) (evX x (t - t % z)) < 0 → kc (cln X i) (evX x (t - t % z)) < 0 := fun i j hij hj hkk => at_mono hG.wins hgT hij hj hkk
  have hbc : ∀ i, i < n → WiB (cln X i) := fun i hi => (hbd i hi).cln
  have hfc : FBw n (cln X) := hfb
  have hgc : ∀ i, i < n → gK (cln X i) = true := fun i hi => (hG.wins.each i hi).key
  have ht : 0 ≤ t ∧ t ≤ 1000000000 := by have := hE.2.1; simpa [isTm, btw] using this
  have hzz : 1 ≤ z ∧ z ≤ 100000 := by have := hG.size; simpa [isSz, btw] using this
  by_cases hy : q < n ∧ kc (X q) (evX x (t - t % z)) = 0
  · -- the window is there
    have hA : GA (agE (X q)) := (hG.wins.each q hy.1).agg
    have hai := ai_jn (ai_of hA) (ga_oA hE.1)
    have hq := agY_ok (hbd q hy.1) (hz q hy.1) hai true
    have hkk : kS (X q) = kS (evX x (t - t % z)) := kS_eq hy.2
    have wok : WOk n (upWi X q ((agY (X q) (jn (cA (agE (X q))) (oA v))).w_di true)) := by
      refine ⟨hn, fun i hi => ?_, fun i hi => ?_, fun i hi => ?_⟩
      · by_cases e : i = q
        · subst e; rw [upWi_at]; exact hq.1
        · rw [upWi_ne _ _ _ e]; exact hbd i hi
      · by_cases e : i = q
        · subst e; rw [upWi_at]; exact hq.2.2
        · rw [upWi_ne _ _ _ e]; exact hfb i hi
      · by_cases e : i = q
        · subst e; rw [upWi_at]; exact hq.2.1
        · rw [upWi_ne _ _ _ e]; exact hz i hi
    have hgY : ∀ i, i < n → gK (upWi (cln X) q (agY (cln X q) (jn (cA (agE (cln X q))) (oA v))) i) = true := fun i hi => by
      by_cases e : i = q
      · subst e; rw [upWi_at]; exact hgc i hi
      · rw [upWi_ne _ _ _ e]; exact hgc i hi
    have hX : ∀ b : Nat → Bool, (∀ i, i < n → (b i = true ↔ dS X n (kS (upWi (cln X) q (agY (cln X q) (jn (cA (agE (cln X q))) (oA v))) i)) ∨ kS (upWi (cln X) q (agY (cln X q) (jn (cA (agE (cln X q))) (oA v))) i) = kS (evX x (t - t % z)))) → ∀ i, i < n → tldB (upWi (cln X) q (agY (cln X q) (jn (cA (agE (cln X q))) (oA v)))) b n i = upWi X q ((agY (X q) (jn (cA (agE (X q))) (oA v))).w_di true) i := fun b hb i hi => by
      rw [tldB_of _ _ hi]
      have h1 := hb i hi
      by_cases e : i = q
      · subst e
        rw [upWi_at] at h1 ⊢
        rw [upWi_at]
        have : b i = true := h1.2 (.inr hkk)
        rw [this]
        rfl
      · rw [upWi_ne _ _ _ e] at h1 ⊢
        rw [upWi_ne _ _ _ e]
        exact told_one hG.wins hi (fun hh => kS_ne hG.wins hi hy.1 e (hh.trans hkk.symm)) h1
    exact .inr ⟨hG, hE, q, n, upWi X q ((agY (X q) (jn (cA (agE (X q))) (oA v))).w_di true), hP, wok, gd_old hG hE hP hy, fun ao a0 cap c0 w hr rt => addEvent_spec_old z h mk t v ao n cap q X x a0 c0 w hr hn hz hG rt hk hE hmh hl hP hy, fun ao a0 cap c0 w hr rt => addEvent_impl_put z h mk t v ao n cap n X _ _ (fun s => dS X n s ∨ s = kS (evX x (t - t % z))) x a0 c0 w hr hn hz hG rt (fun base p r lo sv V W HW hT hlo => addEvent_old base p r q lo z h mk sv n (cln X) V (dS X n) x a0 c0 t v W HW hbc hfc hgc hn hmh hT hk hE hG.size hl hm hPc hy hA hlo) hgY hn hX⟩
  by_cases h40 : n < 40
  rotate_left
  · -- the board is full
    have e40 : n = 40 := by have := hG.few; omega
    exact .inl ⟨z, h, mk, n, X, 3, by decide, W0, fun ao a0 cap c0 w hr rt => addEvent_spec_full z h mk t v ao n cap q X x a0 c0 w hr hn hz hG rt hk hE hmh hl hP hy e40, fun ao a0 cap c0 w hr rt => addEvent_impl_same z h mk t v 3 ao n cap X x a0 c0 w hr hn hz hG rt (fun base p r sv V W HW hT => addEvent_full base p r q z h mk sv n (cln X) V (dS X n) x a0 c0 t v W HW hbc hfc hgc hn hmh hT hk hE hG.size hl hm hPc hy (by omega))⟩
  -- a new window
  have hvv : -1000000000 ≤ v ∧ v ≤ 1000000000 := by have := hE.1; simpa [isV, btw] using this
  have hm1 := Int.emod_lt_of_pos t (show 0 < z by omega)
  have hm2 := Int.emod_nonneg t (show z ≠ 0 by omega)
  have hxB : WiB (nwW x (t - t % z)) := ⟨by show -9223372036854775808 ≤ t - t % z ∧ t - t % z ≤ 9223372036854775807; omega, by simp [nwW], by simp [nwW], by simp [nwW], by show x.m.size ≤ _; have := hk.m; omega, by show x.tn ≤ _; have := hk.tn; omega, fun i hi => ⟨Nat.le_trans (hk.ts i hi).1 (by decide), Nat.le_trans (hk.ts i hi).2 (by decide)⟩, by simp [nwW]⟩
  have hxS : WiS (nwW x (t - t % z)) := ⟨hk.m, hk.tn, hk.ts, by simp [nwW]⟩
  have haio : AI (oA v) := by rw [← cA_oA]; exact ai_of (ga_oA hE.1)
  have hq := agY_ok hxB hxS haio true
  have hqn := hP.le
  have hno : ∀ j, j < n → kS (X j) ≠ kS (evX x (t - t % z)) := fun j hj => kS_of (hG.wins.each j hj).key hgT (kc_none hG.wins hgT hP hy hj)
  have hnk : ∀ T, gK (agY (nwW x T) (oA v)) = gK (evX x T) := fun T => rfl
  have hkS : ∀ T, kS (agY (nwW x T) (oA v)) = kS (evX x T) := fun T => rfl
  have cs : ∀ i, i < n + 1 → i ≠ q → ∃ j, j < n ∧ (∀ (Z : Nat → Wn) (y : Wn), inX Z q y i = Z j) := fun i hi hne => by
    by_cases h1 : i < q
    · exact ⟨i, by omega, fun Z y => by simp [inX, h1]⟩
    · exact ⟨i - 1, by omega, fun Z y => by simp [inX, h1, hne]⟩
  have inq : ∀ (Z : Nat → Wn) (y : Wn), inX Z q y q = y := fun Z y => inX_at Z q y
  have wok : WOk (n + 1) (inX X q (nwS x (t - t % z) v)) := by
    refine ⟨by omega, fun i hi => ?_, fun i hi => ?_, fun i hi => ?_⟩
    · by_cases e : i = q
      · subst e; rw [inq]; exact hq.1
      · obtain ⟨j, hj, ej⟩ := cs i hi e; rw [ej]; exact hbd j hj
    · by_cases e : i = q
      · subst e; rw [inq]; exact hq.2.2
      · obtain ⟨j, hj, ej⟩ := cs i hi e; rw [ej]; exact hfb j hj
    · by_cases e : i = q
      · subst e; rw [inq]; exact hq.2.1
      · obtain ⟨j, hj, ej⟩ := cs i hi e; rw [ej]; exact hz j hj
  have hgY : ∀ i, i < n + 1 → gK (upWi (inX (cln X) q (nwW x (t - t % z))) q (agY (nwW x (t - t % z)) (oA v)) i) = true := fun i hi => by
    by_cases e : i = q
    · subst e; rw [upWi_at, hnk]; exact hgT
    · obtain ⟨j, hj, ej⟩ := cs i hi e; rw [upWi_ne _ _ _ e, ej]; exact hgc j hj
  have hX : ∀ b : Nat → Bool, (∀ i, i < n + 1 → (b i = true ↔ dS X n (kS (upWi (inX (cln X) q (nwW x (t - t % z))) q (agY (nwW x (t - t % z)) (oA v)) i)) ∨ kS (upWi (inX (cln X) q (nwW x (t - t % z))) q (agY (nwW x (t - t % z)) (oA v)) i) = kS (evX x (t - t % z)))) → ∀ i, i < n + 1 → tldB (upWi (inX (cln X) q (nwW x (t - t % z))) q (agY (nwW x (t - t % z)) (oA v))) b (n + 1) i = inX X q (nwS x (t - t % z) v) i := fun b hb i hi => by
    rw [tldB_of _ _ hi]
    have h1 := hb i hi
    by_cases e : i = q
    · subst e
      rw [upWi_at] at h1 ⊢
      rw [inq]
      have : b i = true := h1.2 (.inr (hkS _))
      rw [this]
      rfl
    · obtain ⟨j, hj, ej⟩ := cs i hi e
      rw [upWi_ne _ _ _ e, ej] at h1 ⊢
      rw [ej]
      exact told_one hG.wins hj (hno j hj) h1
  exact .inr ⟨hG, hE, q, n + 1, inX X q (nwS x (t - t % z) v), hP, wok, gd_new hG hE hP hy h40, fun ao a0 cap c0 w hr rt => addEvent_spec_new z h mk t v ao n cap q X x a0 c0 w hr hn hz hG rt hk hE hmh hl hP hy h40, fun ao a0 cap c0 w hr rt => addEvent_impl_put z h mk t v ao n cap (n + 1) X _ _ (fun s => dS X n s ∨ s = kS (evX x (t - t % z))) x a0 c0 w hr hn hz hG rt (fun base p r lo sv V W HW hT hlo => addEvent_new base p r q lo z h mk sv n (cln X) V (dS X n) x a0 c0 t v W HW hbc hfc hgc hn hmh hT hk hE hG.size hl hm hPc hy (by omega) hlo) hgY (by omega) hX⟩
end Go.Proofs.Ytpggmgmdcccmeaa
namespace Go.Proofs.Ytpggmgmdcccmeaa
open Go.RowKit
set_option linter.unusedSimpArgs false
set_option linter.unusedVariables false

set_option maxHeartbeats 1000000 in
theorem sameInts_any (ao bo : Option Addr) (n ca cb : Nat) (f g : Nat → Int) (w : World) (ha : IRow w ao n f) (hb : IRow w bo n g) (he : ∀ i, i < n → f i = g i) (hn : n ≤ 1048576) :
    Calls Try.prog 26 #[.slice ao n ca, .slice bo n cb] w fun e w' => e = .returned (.bool true) ∧ Below w.heap.size w w' := by
  go_enter Try.func26, Try.ntmps26
  go_wp2
  go_loopw [13] (fun q wr => ∃ k : Nat, k ≤ n ∧ q = .int .i64 k ∧ Below w.heap.size w wr) (fun q _ => n - (intOf q).toNat)
  case atStart => exact ⟨0, Nat.zero_le _, rfl, Below.refl _ _⟩
  case round =>
    obtain ⟨k, hk, rfl, hbk⟩ := hrel
    by_cases hlt : k < n
    · obtain ⟨b1, o1, rfl, hl1, c1⟩ := ha.lies.resolve_left (by omega)
      obtain ⟨b2, o2, rfl, hl2, c2⟩ := hb.lies.resolve_left (by omega)
      have d1 := (hbk.cell (p := ⟨b1, o1 + k, none⟩) hl1).trans (c1 k hlt)
      have d2 := (hbk.cell (p := ⟨b2, o2 + k, none⟩) hl2).trans (c2 k hlt)
      rw [← he k hlt] at d2
      have hkd : decide ((k : Int) < (n : Int)) = true := decide_eq_true (by omega)
      clear c1 c2
      go_wp2
      go_quiet (fail)
      have hq : Below w.heap.size w (wr.drewN nq) := below_drewN hbk nq
      generalize wr.drewN nq = wz at hq ⊢
      go_wp2
      go_roundw
      case rel => exact ⟨k + 1, by omega, by go_num, hq⟩
      case measure => simp [intOf]; omega
    · obtain rfl : k = n := by omega
      have hkd : decide ((k : Int) < (k : Int)) = false := decide_eq_false (by omega)
      go_wp2
      go_ret
      exact ⟨rfl, hbk⟩

set_option maxHeartbeats 1000000 in
theorem sameAggs_any (x : Ent) (ao bo : Option Addr) (ca cb : Nat) (w : World) (ha : IRow w ao x.n x.f) (hb : IRow w bo x.n x.f) (hn : x.n ≤ 1048576) :
    Calls Try.prog 8 #[.agg #[.int .i64 x.c, .int .i64 x.s, .int .i64 x.lo, .int .i64 x.hi, .slice ao x.n ca, .bool x.fu], .agg #[.int .i64 x.c, .int .i64 x.s, .int .i64 x.lo, .int .i64 x.hi, .slice bo x.n cb, .bool x.fu]] w fun e w' => e = .returned (.bool true) ∧ Below w.heap.size w w' := by
  have hB : ∀ o p, Below w.heap.size w ((w.alloc o).alloc p) := fun o p => (below_new w o).alloc (by simp) _
  go_enter Try.func8, Try.ntmps8
  go_wp2_with fail
  refine (sameInts_any ao bo x.n ca cb x.f x.f _ (ha.keep (hB _ _)) (hb.keep (hB _ _)) (fun _ _ => rfl) hn).mono ?_
  rintro e w1 ⟨rfl, hb⟩
  have hbw : Below w.heap.size w w1 := (hB _ _).trans (hb.mono (by simp; omega))
  clear hb
  go_wp2
  go_ret
  exact ⟨rfl, hbw⟩
end Go.Proofs.Ytpggmgmdcccmeaa
