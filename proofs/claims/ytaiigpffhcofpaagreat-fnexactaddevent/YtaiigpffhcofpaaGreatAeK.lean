/- What AddEvent answers, in both texts. / What the law of AddEvent holds in memory: boards that were answered and lie in boxes. -/
import Derived.Test.YtaiigpffhcofpaaGreatAeI
import Derived.Test.YtaiigpffhcofpaaGreatWoA
import Derived.Test.YtaiigpffhcofpaaGreatAeT
import Derived.Test.YtaiigpffhcofpaaGreatAeU
import Derived.Test.YtaiigpffhcofpaaGreatAeV
namespace Go.Proofs.YtaiigpffhcofpaaGreat
set_option maxRecDepth 100000
open Go.RowKit
set_option linter.unusedSimpArgs false
set_option linter.unusedVariables false

theorem WiB.cln {X : Nat → Wn} {i : Nat} (h : WiB (X i)) : WiB (cln X i) := ⟨h.st, h.c, h.s, h.ver, h.m, h.tn, h.ts, h.n⟩
/-- What is told of a window whose key is not the event's. -/
theorem told_one {z : Int} {X : Nat → Wn} {n j : Nat} (hG : GWs z X n) (hj : j < n) {k : ByteArray} (hk : kS (X j) ≠ k) {b : Bool} (hb : b = true ↔ dS X n (kS (X j)) ∨ kS (X j) = k) : (cln X j).w_di b = X j := by
  have e : b = (X j).di := by
    cases hd : (X j).di with
    | true => exact hb.2 (.inl ⟨j, hj, hd, rfl⟩)
    | false =>
      cases hx : b with
      | false => rfl
      | true =>
        rcases hb.1 hx with ⟨i, hi, h2, h3⟩ | h3
        · by_cases ej : j = i
          · subst ej; rw [hd] at h2; cases h2
          · exact absurd h3 (kS_ne hG hj hi ej)
        · exact absurd h3 hk
  rw [e]
  rfl
/-- Two keys that are not the same have unlike texts. -/
theorem kS_of {x y : Wn} (hx : gK x = true) (hy : gK y = true) (h : kc x y ≠ 0) : kS x ≠ kS y := fun e => by
  have e1 := kS_inj e
  rcases kc_three x y with q | q | q
  · have := kb_lt hx hy (by omega); rw [e1] at this; exact ltL_irr _ this
  · exact h q
  · have := kb_lt hy hx (by rw [kc_swap]; omega); rw [e1] at this; exact ltL_irr _ this
theorem kS_eq {x y : Wn} (h : kc x y = 0) : kS x = kS y := by unfold kS; rw [kb_eq h]
/-- A key that is at no place is unlike all. -/
theorem kc_none {z : Int} {X : Nat → Wn} {n q : Nat} {t : Wn} (hG : GWs z X n) (ht : gK t = true) (hP : PosK X n t q) (hno : ¬ (q < n ∧ kc (X q) t = 0)) {j : Nat} (hj : j < n) : kc (X j) t ≠ 0 := fun e => by
  rcases Nat.lt_trichotomy j q with h | h | h
  · have := hP.lt j h; omega
  · subst h; exact hno ⟨hj, e⟩
  · have h1 := kb_rise hG (j - q - 1) q (by omega)
    rw [show q + (j - q - 1 + 1) = j from by omega, kb_eq e] at h1
    have := (kc_iff (hG.each q (by omega)).key ht).2 h1
    have := hP.ge (by omega)
    omega
/-- What is said of windows that are answered. -/
structure WOk (n : Nat) (X : Nat → Wn) : Prop where
  few : n ≤ 1048576
  bd : ∀ i, i < n → WiB (X i)
  fb : FBw n X
  sz : WiSize n X
theorem agY_ok {x : Wn} {y : Ent} (hb : WiB x) (hs : WiS x) (hy : AI y) (di : Bool) : WiB ((agY x y).w_di di) ∧ WiS ((agY x y).w_di di) ∧ ∀ j, -9223372036854775808 ≤ ((agY x y).w_di di).f j ∧ ((agY x y).w_di di).f j ≤ 9223372036854775807 := by
  refine ⟨⟨hb.st, ?_, hy.s, hb.ver, hb.m, hb.tn, hb.ts, ?_⟩, ⟨hs.m, hs.tn, hs.ts, ?_⟩, fun j => ?_⟩
  · have := hy.c; exact ⟨by show -9223372036854775808 ≤ y.c; omega, by show y.c ≤ 9223372036854775807; omega⟩
  · show 8 ≤ 9223372036854775807; omega
  · show 8 ≤ 1048576; omega
  · have := hy.f j; exact ⟨by show -9223372036854775808 ≤ y.f j; omega, by show y.f j ≤ 9223372036854775807; omega⟩
theorem tldB_of (Y : Nat → Wn) (b : Nat → Bool) {n i : Nat} (hi : i < n) : tldB Y b n i = (Y i).w_di (b i) := by simp [tldB, hi]

set_option maxHeartbeats 4000000 in
/-- What AddEvent answers, in both texts. -/
theorem ae_out (z h mk t v : Int) (n : Nat) (X : Nat → Wn) (x : Wn) (hk : KSz x) (hn : n ≤ 1048576) (hbd : ∀ i, i < n → WiB (X i)) (hfb : FBw n X) (hz : WiSize n X) : ∃ (z' h' mk' : Int) (n' : Nat) (X' : Nat → Wn) (c : Int), WOk n' X' ∧
    (∀ (ao a0 : Option Addr) (cap c0 : Nat) (w : World), WiRow w ao n X → TRow w a0 x.tn x.nm x.vl → Calls Tryz.prog 6 #[.agg #[.int .i64 z, .int .i64 h, .int .i64 mk, .slice ao n cap], .agg #[.string x.m, .slice a0 x.tn c0, .int .i64 x.st], .int .i64 t, .int .i64 v] w fun e w' => BAns z' h' mk' n' X' c w e w') ∧
    (∀ (ao a0 : Option Addr) (cap c0 : Nat) (w : World), WiRow w ao n X → TRow w a0 x.tn x.nm x.vl → Calls Tryz.prog 9 #[.agg #[.int .i64 z, .int .i64 h, .int .i64 mk, .slice ao n cap], .agg #[.string x.m, .slice a0 x.tn c0, .int .i64 x.st], .int .i64 t, .int .i64 v] w fun e w' => BAns z' h' mk' n' X' c w e w') := by
  have W0 : WOk n X := ⟨hn, hbd, hfb, hz⟩
  by_cases hG : GBd z h mk n X
  rotate_left
  · exact ⟨0, 0, 0, 0, X, 1, ⟨by omega, fun i hi => by omega, fun i hi => by omega, fun i hi => by omega⟩, fun ao a0 cap c0 w hr rt => addEvent_spec_bad z h mk t v ao n cap X x a0 c0 w hr hn hz hG, fun ao a0 cap c0 w hr rt => addEvent_impl_bad z h mk t v ao n cap X x a0 c0 w hr hn hz hG⟩
  by_cases hE : evK x t v
  rotate_left
  · exact ⟨z, h, mk, n, X, 1, W0, fun ao a0 cap c0 w hr rt => addEvent_spec_no z h mk t v ao n cap X x a0 c0 w hr hn hz hG rt hk hE, fun ao a0 cap c0 w hr rt => addEvent_impl_same z h mk t v 1 ao n cap X x a0 c0 w hr hn hz hG rt (fun base p r sv V W _ hT => addEvent_bad p x a0 c0 t v W hT hk hE)⟩
  have hh : 0 ≤ h ∧ h ≤ 1000000 := by have := hG.hor; simpa [btw] using this
  have hmk : 0 ≤ mk ∧ mk ≤ 1000000000 := by have := hG.mark; simpa [isTm, btw] using this
  have hmh : -9223372036854775808 ≤ mk - h ∧ mk - h ≤ 9223372036854775807 := by omega
  by_cases hl : t < mk - h
  · exact ⟨z, h, mk, n, X, 2, W0, fun ao a0 cap c0 w hr rt => addEvent_spec_late z h mk t v ao n cap X x a0 c0 w hr hn hz hG rt hk hE hmh hl, fun ao a0 cap c0 w hr rt => addEvent_impl_same z h mk t v 2 ao n cap X x a0 c0 w hr hn hz hG rt (fun base p r sv V W HW hT => addEvent_late p z h mk _ x a0 c0 t v W HW.box hmh hT hk hE hl)⟩
  have hgT : gK (evX x (t - t % z)) = true := evX_good hE.2.2.1 hE.2.1 hG.size
  obtain ⟨q, hP⟩ := posK_ex X (evX x (t - t % z)) n
  have hPc : PosK (cln X) n (evX x (t - t % z)) q := ⟨hP.le, hP.lt, hP.ge⟩
  have hm : ∀ i j, i ≤ j → j < n → kc (cln X j) (evX x (t - t % z)) < 0 → kc (cln X i) (evX x (t - t % z)) < 0 := fun i j hij hj hkk => at_mono hG.wins hgT hij hj hkk
  have hbc : ∀ i, i < n → WiB (cln X i) := fun i hi => (hbd i hi).cln
  have hfc : FBw n (cln X) := hfb
  have hgc : ∀ i, i < n → gK (cln X i) = true := fun i hi => (hG.wins.each i hi).key
  have ht : 0 ≤ t ∧ t ≤ 1000000000 := by have := hE.2.1; simpa [isTm, btw] using this
  have hzz : 1 ≤ z ∧ z ≤ 100000 := by have := hG.size; simpa [isSz, btw] using this
  by_cases hy : q < n ∧ kc (X q) (evX x (t - t % z)) = 0
  · -- the window is there
    have hA : GA (agE (X q)) := (hG.wins.each q hy.1).agg
    have hai := ai_jn (ai_of hA) (ga_oA hE.1)
    have hq := agY_ok (hbd q hy.1) (hz q hy.1) hai true
    have hkk : kS (X q) = kS (evX x (t - t % z)) := kS_eq hy.2
    have wok : WOk n (upWi X q ((agY (X q) (jn (cA (agE (X q))) (oA v))).w_di true)) := by
      refine ⟨hn, fun i hi => ?_, fun i hi => ?_, fun i hi => ?_⟩
      · by_cases e : i = q
        · subst e; rw [upWi_at]; exact hq.1
        · rw [upWi_ne _ _ _ e]; exact hbd i hi
      · by_cases e : i = q
        · subst e; rw [upWi_at]; exact hq.2.2
        · rw [upWi_ne _ _ _ e]; exact hfb i hi
      · by_cases e : i = q
        · subst e; rw [upWi_at]; exact hq.2.1
        · rw [upWi_ne _ _ _ e]; exact hz i hi
    have hgY : ∀ i, i < n → gK (upWi (cln X) q (agY (cln X q) (jn (cA (agE (cln X q))) (oA v))) i) = true := fun i hi => by
      by_cases e : i = q
      · subst e; rw [upWi_at]; exact hgc i hi
      · rw [upWi_ne _ _ _ e]; exact hgc i hi
    have hX : ∀ b : Nat → Bool, (∀ i, i < n → (b i = true ↔ dS X n (kS (upWi (cln X) q (agY (cln X q) (jn (cA (agE (cln X q))) (oA v))) i)) ∨ kS (upWi (cln X) q (agY (cln X q) (jn (cA (agE (cln X q))) (oA v))) i) = kS (evX x (t - t % z)))) → ∀ i, i < n → tldB (upWi (cln X) q (agY (cln X q) (jn (cA (agE (cln X q))) (oA v)))) b n i = upWi X q ((agY (X q) (jn (cA (agE (X q))) (oA v))).w_di true) i := fun b hb i hi => by
      rw [tldB_of _ _ hi]
      have h1 := hb i hi
      by_cases e : i = q
      · subst e
        rw [upWi_at] at h1 ⊢
        rw [upWi_at]
        have : b i = true := h1.2 (.inr hkk)
        rw [this]
        rfl
      · rw [upWi_ne _ _ _ e] at h1 ⊢
        rw [upWi_ne _ _ _ e]
        exact told_one hG.wins hi (fun hh => kS_ne hG.wins hi hy.1 e (hh.trans hkk.symm)) h1
    exact ⟨z, h, mk, n, upWi X q ((agY (X q) (jn (cA (agE (X q))) (oA v))).w_di true), 0, wok, fun ao a0 cap c0 w hr rt => addEvent_spec_old z h mk t v ao n cap q X x a0 c0 w hr hn hz hG rt hk hE hmh hl hP hy, fun ao a0 cap c0 w hr rt => addEvent_impl_put z h mk t v ao n cap n X _ _ (fun s => dS X n s ∨ s = kS (evX x (t - t % z))) x a0 c0 w hr hn hz hG rt (fun base p r lo sv V W HW hT hlo => addEvent_old base p r q lo z h mk sv n (cln X) V (dS X n) x a0 c0 t v W HW hbc hfc hgc hn hmh hT hk hE hG.size hl hm hPc hy hA hlo) hgY hn hX⟩
  by_cases h40 : n < 40
  rotate_left
  · -- the board is full
    have e40 : n = 40 := by have := hG.few; omega
    exact ⟨z, h, mk, n, X, 3, W0, fun ao a0 cap c0 w hr rt => addEvent_spec_full z h mk t v ao n cap q X x a0 c0 w hr hn hz hG rt hk hE hmh hl hP hy e40, fun ao a0 cap c0 w hr rt => addEvent_impl_same z h mk t v 3 ao n cap X x a0 c0 w hr hn hz hG rt (fun base p r sv V W HW hT => addEvent_full base p r q z h mk sv n (cln X) V (dS X n) x a0 c0 t v W HW hbc hfc hgc hn hmh hT hk hE hG.size hl hm hPc hy (by omega))⟩
  -- a new window
  have hvv : -1000000000 ≤ v ∧ v ≤ 1000000000 := by have := hE.1; simpa [isV, btw] using this
  have hm1 := Int.emod_lt_of_pos t (show 0 < z by omega)
  have hm2 := Int.emod_nonneg t (show z ≠ 0 by omega)
  have hxB : WiB (nwW x (t - t % z)) := ⟨by show -9223372036854775808 ≤ t - t % z ∧ t - t % z ≤ 9223372036854775807; omega, by simp [nwW], by simp [nwW], by simp [nwW], by show x.m.size ≤ _; have := hk.m; omega, by show x.tn ≤ _; have := hk.tn; omega, fun i hi => ⟨Nat.le_trans (hk.ts i hi).1 (by decide), Nat.le_trans (hk.ts i hi).2 (by decide)⟩, by simp [nwW]⟩
  have hxS : WiS (nwW x (t - t % z)) := ⟨hk.m, hk.tn, hk.ts, by simp [nwW]⟩
  have haio : AI (oA v) := by rw [← cA_oA]; exact ai_of (ga_oA hE.1)
  have hq := agY_ok hxB hxS haio true
  have hqn := hP.le
  have hno : ∀ j, j < n → kS (X j) ≠ kS (evX x (t - t % z)) := fun j hj => kS_of (hG.wins.each j hj).key hgT (kc_none hG.wins hgT hP hy hj)
  have hnk : ∀ T, gK (agY (nwW x T) (oA v)) = gK (evX x T) := fun T => rfl
  have hkS : ∀ T, kS (agY (nwW x T) (oA v)) = kS (evX x T) := fun T => rfl
  have cs : ∀ i, i < n + 1 → i ≠ q → ∃ j, j < n ∧ (∀ (Z : Nat → Wn) (y : Wn), inX Z q y i = Z j) := fun i hi hne => by
    by_cases h1 : i < q
    · exact ⟨i, by omega, fun Z y => by simp [inX, h1]⟩
    · exact ⟨i - 1, by omega, fun Z y => by simp [inX, h1, hne]⟩
  have inq : ∀ (Z : Nat → Wn) (y : Wn), inX Z q y q = y := fun Z y => inX_at Z q y
  have wok : WOk (n + 1) (inX X q (nwS x (t - t % z) v)) := by
    refine ⟨by omega, fun i hi => ?_, fun i hi => ?_, fun i hi => ?_⟩
    · by_cases e : i = q
      · subst e; rw [inq]; exact hq.1
      · obtain ⟨j, hj, ej⟩ := cs i hi e; rw [ej]; exact hbd j hj
    · by_cases e : i = q
      · subst e; rw [inq]; exact hq.2.2
      · obtain ⟨j, hj, ej⟩ := cs i hi e; rw [ej]; exact hfb j hj
    · by_cases e : i = q
      · subst e; rw [inq]; exact hq.2.1
      · obtain ⟨j, hj, ej⟩ := cs i hi e; rw [ej]; exact hz j hj
  have hgY : ∀ i, i < n + 1 → gK (upWi (inX (cln X) q (nwW x (t - t % z))) q (agY (nwW x (t - t % z)) (oA v)) i) = true := fun i hi => by
    by_cases e : i = q
    · subst e; rw [upWi_at, hnk]; exact hgT
    · obtain ⟨j, hj, ej⟩ := cs i hi e; rw [upWi_ne _ _ _ e, ej]; exact hgc j hj
  have hX : ∀ b : Nat → Bool, (∀ i, i < n + 1 → (b i = true ↔ dS X n (kS (upWi (inX (cln X) q (nwW x (t - t % z))) q (agY (nwW x (t - t % z)) (oA v)) i)) ∨ kS (upWi (inX (cln X) q (nwW x (t - t % z))) q (agY (nwW x (t - t % z)) (oA v)) i) = kS (evX x (t - t % z)))) → ∀ i, i < n + 1 → tldB (upWi (inX (cln X) q (nwW x (t - t % z))) q (agY (nwW x (t - t % z)) (oA v))) b (n + 1) i = inX X q (nwS x (t - t % z) v) i := fun b hb i hi => by
    rw [tldB_of _ _ hi]
    have h1 := hb i hi
    by_cases e : i = q
    · subst e
      rw [upWi_at] at h1 ⊢
      rw [inq]
      have : b i = true := h1.2 (.inr (hkS _))
      rw [this]
      rfl
    · obtain ⟨j, hj, ej⟩ := cs i hi e
      rw [upWi_ne _ _ _ e, ej] at h1 ⊢
      rw [ej]
      exact told_one hG.wins hj (hno j hj) h1
  exact ⟨z, h, mk, n + 1, inX X q (nwS x (t - t % z) v), 0, wok, fun ao a0 cap c0 w hr rt => addEvent_spec_new z h mk t v ao n cap q X x a0 c0 w hr hn hz hG rt hk hE hmh hl hP hy h40, fun ao a0 cap c0 w hr rt => addEvent_impl_put z h mk t v ao n cap (n + 1) X _ _ (fun s => dS X n s ∨ s = kS (evX x (t - t % z))) x a0 c0 w hr hn hz hG rt (fun base p r lo sv V W HW hT hlo => addEvent_new base p r q lo z h mk sv n (cln X) V (dS X n) x a0 c0 t v W HW hbc hfc hgc hn hmh hT hk hE hG.size hl hm hPc hy (by omega) hlo) hgY (by omega) hX⟩
end Go.Proofs.YtaiigpffhcofpaaGreat
namespace Go.Proofs.YtaiigpffhcofpaaGreat
set_option maxRecDepth 100000
open Go.RowKit
set_option linter.unusedSimpArgs false
set_option linter.unusedVariables false

/-- The cells of no board. -/
structure BZ (w : World) (B : Nat) : Prop where
  at' : BdAt w B 0 0 0 (.slice none 0 0)
  fz : ∀ j, w.frozen? ⟨B, j, none⟩ = false
theorem BZ.new (w : World) (T : Nat) : BZ (w.alloc (.cells #[.int .i64 0, .int .i64 0, .int .i64 0, .slice none 0 0] T)) w.heap.size :=
  ⟨BdAt.new w 0 0 0 (.slice none 0 0) T, fun j => by simp [go_sem]⟩
theorem BZ.keep {w w' : World} {B : Nat} (h : BZ w B) (hb : Below w.heap.size w w') : BZ w' B :=
  ⟨h.at'.keep hb, fun j => (hb.frozen (p := ⟨B, j, none⟩) h.at'.lt).trans (h.fz j)⟩
/-- A board that was answered and lies in a box. -/
structure BoxB (w2 w : World) (B : Nat) (z h mk : Int) (n : Nat) (X : Nat → Wn) (va : Option Addr) (vc : Nat) : Prop where
  at' : BdAt w B z h mk (.slice va n vc)
  ba : BA w w2.heap.size w.heap.size (.slice va n vc) n X
  bl : Below w2.heap.size w2 w
  ge : w2.heap.size ≤ B
theorem BoxB.early {w2 w : World} {B lo hi n vc : Nat} {z h mk : Int} {X : Nat → Wn} {va : Option Addr} (Z : BZ w B) (hW : BA w lo hi (.slice va n vc) n X) (hlo : w2.heap.size ≤ lo) (hB : B < lo ∨ hi ≤ B) (hB2 : w2.heap.size ≤ B) (hb : Below w2.heap.size w2 w) :
    BoxB w2 (setBd w B z h mk (.slice va n vc)) B z h mk n X va vc := by
  have ho := setBd_oth w B z h mk (.slice va n vc)
  refine ⟨setBd_at Z.at' _ _ _ _, ?_, hb.trans (ho.below hB2), hB2⟩
  have := hW.same (w' := setBd w B z h mk (.slice va n vc)) (by rw [ho.size]; exact Nat.le_refl _) (fun k h1 h2 => ho.block k (by omega))
  exact this.mono hlo (by rw [ho.size]; exact hW.1) (Nat.le_refl _)
section
variable {w : World} {ops : Array Oper} {o : Oper} {a : Act} {K : Act → World → Prop} {Q : Exit → Act → World → Prop} {E : Prop}
theorem step_c4 (hgd : o.guard = none) (k k2 k3 k4 f ty ty2 ty3 ty4 : Nat) (ho : o.op = .call { callee := .value (.func f), args := #[.tmp k, .tmp k2, .tmp k3, .tmp k4], argTypes := #[ty, ty2, ty3, ty4] }) (l l2 l3 l4 : Value) (hx : a.eval (.tmp k) = l) (hx2 : a.eval (.tmp k2) = l2) (hx3 : a.eval (.tmp k3) = l3) (hx4 : a.eval (.tmp k4) = l4) (hcf : ∀ (args : Array Value) (w : World), Sem.run Tryz.prog (callFunc f args) w = .ok (.enter f args) w) {post : Ending → World → Prop} (hc : Calls Tryz.prog f #[l, l2, l3, l4] w post)
    (h : ∀ e w', post e w' → ∃ v', e = .returned v' ∧ K (a.put o.dst v') w') :
    if Region.wanted o (yielded ops a.tmps) = true then Oper.wp Tryz.prog o a w K Q else E := by
  have hw : Region.wanted o (yielded ops a.tmps) = true := by simp [Region.wanted, hgd]
  rw [if_pos hw]
  have hx' : a.tmps.getD k undef = l := hx
  have hx2' : a.tmps.getD k2 undef = l2 := hx2
  have hx3' : a.tmps.getD k3 undef = l3 := hx3
  have hx4' : a.tmps.getD k4 undef = l4 := hx4
  unfold Oper.wp execOp
  simp only [ho, resolve, Act.eval, hx', hx2', hx3', hx4', List.map_toArray, List.map_cons, List.map_nil]
  go_simp
  refine hc.mono ?_
  intro e w' hp
  obtain ⟨v', rfl, hK⟩ := h e w' hp
  exact hK
theorem cf_sAdd (args : Array Value) (w : World) : Sem.run Tryz.prog (callFunc 6 args) w = .ok (.enter 6 args) w := by go_simp
theorem cf_iAdd (args : Array Value) (w : World) : Sem.run Tryz.prog (callFunc 9 args) w = .ok (.enter 9 args) w := by go_simp
theorem cf_tBd (args : Array Value) (w : World) : Sem.run Tryz.prog (callFunc 7 args) w = .ok (.enter 7 args) w := by go_simp
theorem cf_tKy (args : Array Value) (w : World) : Sem.run Tryz.prog (callFunc 8 args) w = .ok (.enter 8 args) w := by go_simp
/-- A number assigned in a region that draws. -/
theorem step_assignI (hgd : o.guard = none) (k : Nat) (ho : o.op = .assign (.tmp k)) (b : Int) (hx : a.eval (.tmp k) = .int .i64 b) (h : K (a.put o.dst (.int .i64 b)) w) :
    if Region.wanted o (yielded ops a.tmps) = true then Oper.wp Tryz.prog o a w K Q else E := by
  have hw : Region.wanted o (yielded ops a.tmps) = true := by simp [Region.wanted, hgd]
  rw [if_pos hw]
  have hx' : a.tmps.getD k undef = .int .i64 b := hx
  unfold Oper.wp execOp
  simp only [ho, Act.eval, hx']
  go_simp
  exact h
/-- A board's box made in a region that draws. -/
theorem step_allocB (hgd : o.guard = none) (ho : o.op = .alloc 32)
    (h : K (a.put o.dst (.pointer (some ⟨w.heap.size, 0, none⟩))) (w.alloc (.cells #[.int .i64 0, .int .i64 0, .int .i64 0, .slice none 0 0] 32))) :
    if Region.wanted o (yielded ops a.tmps) = true then Oper.wp Tryz.prog o a w K Q else E := by
  have hw : Region.wanted o (yielded ops a.tmps) = true := by simp [Region.wanted, hgd]
  rw [if_pos hw]
  unfold Oper.wp execOp
  simp only [ho]
  go_simp
  exact h
/-- A board stored in a region that draws. -/
theorem step_storeBd (hgd : o.guard = none) (k j : Nat) (ho : o.op = .store 32 (.tmp k) (.tmp j)) (B : Nat) (z h mk : Int) (va : Option Addr) (n vc : Nat) (hx : a.eval (.tmp k) = .pointer (some ⟨B, 0, none⟩)) (hv : a.eval (.tmp j) = .agg #[.int .i64 z, .int .i64 h, .int .i64 mk, .slice va n vc]) (Z : BZ w B)
    (hK : K (a.put o.dst undef) (setBd w B z h mk (.slice va n vc))) :
    if Region.wanted o (yielded ops a.tmps) = true then Oper.wp Tryz.prog o a w K Q else E := by
  have hw : Region.wanted o (yielded ops a.tmps) = true := by simp [Region.wanted, hgd]
  rw [if_pos hw]
  have hx' : a.tmps.getD k undef = .pointer (some ⟨B, 0, none⟩) := hx
  have hv' : a.tmps.getD j undef = .agg #[.int .i64 z, .int .i64 h, .int .i64 mk, .slice va n vc] := hv
  obtain ⟨⟨lt, h0, h1, h2, h3⟩, fz⟩ := Z
  unfold setBd at hK
  unfold Oper.wp execOp
  simp only [ho, Act.eval, hx', hv']
  go_simp
  exact hK
end
end Go.Proofs.YtaiigpffhcofpaaGreat
