/- PackRows, in both texts. -/
import Derived.Test.YtmeckcaekkangaaGreatJv
import Derived.Test.YtmeckcaekkangaaGreatJi
namespace Go.Proofs.YtmeckcaekkangaaGreat
set_option maxRecDepth 100000
open Go.RowKit
set_option linter.unusedSimpArgs false
set_option linter.unusedVariables false

/-- What is packed of entries. -/
def pkAll (E : List Ent) (bt : Bool) : List Ent := pkP (rn (eL E) E.length) bt (rn (eL E) E.length).length
/-- What PackRows leaves. -/
def PrO (N : Nat) (D : Nat → List Ent) (bt : Bool) (w : World) (e : Ending) (w' : World) : Prop :=
  (RowsOk N D → AnE (pkAll (mg N D) bt) true w e w') ∧ (¬ RowsOk N D → AnE [] false w e w')

set_option maxHeartbeats 1000000 in
theorem keyRuns_zero (ao : Option Addr) (cap : Nat) (w : World) : Calls Tryz.prog 14 #[.slice ao 0 cap] w fun e w' => e = .returned (.slice none 0 0) ∧ w' = w := by
  go_enter Tryz.func14, Tryz.ntmps14
  go_wp2
  go_loopw [3, 5] (fun u i wr => i = .int .i64 1 ∧ u = .slice none 0 0 ∧ wr = w) (fun _ _ _ => 0)
  case atStart => exact ⟨rfl, rfl, rfl⟩
  case round =>
    obtain ⟨rfl, rfl, rfl⟩ := hrel
    go_wp2
    go_ret
    exact ⟨rfl, rfl⟩
set_option maxHeartbeats 1000000 in
theorem l8Each_zero (ao : Option Addr) (cap : Nat) (w : World) : Calls Tryz.prog 35 #[.slice ao 0 cap] w fun e w' => e = .returned (.slice none 0 0) ∧ w' = w := by
  go_enter Tryz.func35, Tryz.ntmps35
  go_wp2
  go_loopw [3, 8] (fun u i wr => i = .int .i64 0 ∧ u = .slice none 0 0 ∧ wr = w) (fun _ _ _ => 0)
  case atStart => exact ⟨rfl, rfl, rfl⟩
  case round =>
    obtain ⟨rfl, rfl, rfl⟩ := hrel
    go_wp2
    go_ret
    exact ⟨rfl, rfl⟩
/-- The runs at hand, whatever world their entries lie in. -/
def RunsX (w' : World) (base : Nat) (Rs : List (List Ent)) (v : Value) : Prop := (Rs = [] ∧ v = .slice none 0 0) ∨ ∃ g c, v = .slice (some ⟨g, 0, none⟩) Rs.length c ∧ base ≤ g ∧ LR w' g 0 Rs.length (gR Rs)
theorem RunsO.x {w0 w' : World} {base : Nat} {Rs : List (List Ent)} {v : Value} (h : RunsO w0 w' base Rs v) (hb : Below w0.heap.size w0 w') : RunsX w' base Rs v := by
  rcases h with h | ⟨g, c, e, h1, h2⟩
  · exact .inl h
  · exact .inr ⟨g, c, e, h1, h2.lr hb⟩
theorem RunsX.form {w' : World} {base : Nat} {Rs : List (List Ent)} {v : Value} (h : RunsX w' base Rs v) : ∃ lo lc, v = .slice lo Rs.length lc := by
  rcases h with ⟨rfl, e⟩ | ⟨g, c, e, _⟩
  · exact ⟨none, 0, e⟩
  · exact ⟨_, _, e⟩
theorem keyRuns_of (lo : Option Addr) (lc : Nat) (E : List Ent) (w : World) (hr : ERow w lo E.length (eL E)) (hn : E.length ≤ 1048576) (hcap : E.length ≤ lc) :
    Calls Tryz.prog 14 #[.slice lo E.length lc] w fun e w' => ∃ v, e = .returned v ∧ RunsX w' w.heap.size (rn (eL E) E.length) v ∧ Below w.heap.size w w' := by
  by_cases h0 : E.length = 0
  · rw [h0]
    refine (keyRuns_zero lo lc w).mono ?_
    rintro e w' ⟨rfl, rfl⟩
    exact ⟨_, rfl, .inl ⟨rfl, rfl⟩, Below.refl _ _⟩
  · obtain ⟨b, off, rfl, _⟩ := hr.lies.resolve_left h0
    refine (keyRuns_any b off E.length lc (eL E) w hr hn hcap).mono ?_
    rintro e w' ⟨v, rfl, h1, h2⟩
    exact ⟨v, rfl, h1.x h2, h2⟩
theorem l8Each_of (lo : Option Addr) (lc : Nat) (E : List Ent) (w : World) (hr : ERow w lo E.length (eL E)) (hn : E.length ≤ 1048576) :
    Calls Tryz.prog 35 #[.slice lo E.length lc] w fun e w' => ∃ v, e = .returned v ∧ RunsX w' w.heap.size (rn (eL E) E.length) v ∧ Below w.heap.size w w' := by
  by_cases h0 : E.length = 0
  · rw [h0]
    refine (l8Each_zero lo lc w).mono ?_
    rintro e w' ⟨rfl, rfl⟩
    exact ⟨_, rfl, .inl ⟨rfl, rfl⟩, Below.refl _ _⟩
  · obtain ⟨b, off, rfl, _⟩ := hr.lies.resolve_left h0
    refine (l8Each_any b off E.length lc (eL E) w hr hn).mono ?_
    rintro e w' ⟨v, rfl, h1, h2⟩
    exact ⟨v, rfl, h1.x (Below.refl _ _), h2⟩
theorem CA.cap {w : World} {base top : Nat} {lo : Option Addr} {n lc : Nat} {E : List Ent} (h : CA w base top (.slice lo n lc) E) : E.length ≤ lc := by
  rcases h.2 with ⟨rfl, lo', lc', e⟩ | ⟨g, cap, L, C, e, hcp, _⟩
  · simp
  · injection e with _ _ e3
    omega
theorem GatE.cap {w0 w : World} {base : Nat} {lo : Option Addr} {n lc : Nat} {E : List Ent} (h : GatE w0 w base (.slice lo n lc) E) : E.length ≤ lc := by
  obtain ⟨V, h, _⟩ := h
  rcases h.2 with ⟨_, h0⟩ | ⟨g, c, cur, e, _, _, h5, _⟩
  · omega
  · injection e with _ _ e3
    omega

theorem run_size {E : List Ent} (h : ESize E.length (eL E)) {i : Nat} (hi : i < (rn (eL E) E.length).length) : ESize (gR (rn (eL E) E.length) i).length (eL (gR (rn (eL E) E.length) i)) := fun j hj => by
  have h2 := (rn_all (eL E) E.length _ (gR_mem hi)).2.1
  rw [sl_zero] at h2
  have h3 := h2.subset (eL_mem hj)
  obtain ⟨q, hq, e⟩ := List.getElem_of_mem h3
  rw [← e, ← eL_get hq]
  exact h q hq
/-- Each run can be packed, in the program and in the model. -/
theorem run_impl {E : List Ent} (hg : GoodLs E) (h3 : E.length ≤ 300) (hES : ESize E.length (eL E)) (bt : Bool) {W : World} {g i : Nat} (hi : i < (rn (eL E) E.length).length) (h : LR W g 0 (rn (eL E) E.length).length (gR (rn (eL E) E.length))) :
    ∃ p c, W.cell? ⟨g, i, none⟩ = some (.slice p (gR (rn (eL E) E.length) i).length c) ∧ (∀ W', Below W.heap.size W W' → Calls Tryz.prog 15 #[.slice p (gR (rn (eL E) E.length) i).length c, .bool bt] W' fun e w' => AnE (pkX (eL (gR (rn (eL E) E.length) i)) (gR (rn (eL E) E.length) i).length bt) true W' e w') := by
  obtain ⟨p, c, h1, h2, h4⟩ := h.row i hi
  obtain ⟨g1, g2, g3, g4⟩ := run_ok hg hi
  obtain ⟨b, off, rfl, _⟩ := h4.lies.resolve_left (by omega)
  refine ⟨_, c, by rw [Nat.zero_add] at h1; exact h1, fun W' hW => (packKey_impl b off _ c _ bt W' (h4.keep hW) (by omega) (run_size hES hi) h2).mono (fun e w' hp => hp.1 ⟨g3, g4, by omega⟩)⟩
theorem run_spec {E : List Ent} (hg : GoodLs E) (h3 : E.length ≤ 300) (hES : ESize E.length (eL E)) (bt : Bool) {W : World} {g i : Nat} (hi : i < (rn (eL E) E.length).length) (h : LR W g 0 (rn (eL E) E.length).length (gR (rn (eL E) E.length))) :
    ∃ p c, W.cell? ⟨g, i, none⟩ = some (.slice p (gR (rn (eL E) E.length) i).length c) ∧ (∀ W', Below W.heap.size W W' → Calls Tryz.prog 37 #[.slice p (gR (rn (eL E) E.length) i).length c, .bool bt] W' fun e w' => AnS (pkX (eL (gR (rn (eL E) E.length) i)) (gR (rn (eL E) E.length) i).length bt) W' e w') := by
  obtain ⟨p, c, h1, h2, h4⟩ := h.row i hi
  obtain ⟨g1, g2, g3, g4⟩ := run_ok hg hi
  obtain ⟨b, off, rfl, _⟩ := h4.lies.resolve_left (by omega)
  exact ⟨_, c, by rw [Nat.zero_add] at h1; exact h1, fun W' hW => l8Pack_any b off _ c _ bt W' (h4.keep hW) g3.1 (by omega) (run_size hES hi) h2⟩

set_option maxRecDepth 100000 in
set_option maxHeartbeats 4000000 in
theorem packRows_impl (b off N cap : Nat) (D : Nat → List Ent) (bt : Bool) (w : World) (hr : LR w b off N D) (hN : N ≤ 1048576) (hs : sm D N ≤ 1048576) (hz : ∀ i, i < N → ESize (D i).length (eL (D i))) (hSm : RowsOk N D → SmL (mg N D)) :
    Calls Tryz.prog 5 #[.slice (some ⟨b, off, none⟩) N cap, .bool bt] w fun e w' => PrO N D bt w e w' := by
  have hj := joinRows_impl b off N cap D w hr hN hs hz
  by_cases hok : RowsOk N D
  rotate_left
  · have hj2 : Calls Tryz.prog 13 #[.slice (some ⟨b, off, none⟩) N cap] w fun e w' => AnE [] false w e w' := hj.mono fun e w' h => h.2 hok
    have H : Hid (∀ W, Below w.heap.size w W → PrO N D bt w (.returned (.tuple #[.slice none 0 0, .bool false])) W) := fun W hb => ⟨fun h => absurd h hok, fun _ => ane_no hb⟩
    clear hj hok
    go_enter Tryz.func5, Tryz.ntmps5
    go_wp2_with fail
    refine hj2.mono ?_
    rintro e w1 ⟨v, rfl, hv, hb1⟩
    obtain ⟨lo, lc, rfl⟩ := hv.form
    go_wp2
    exact bodyPost_ret (v := .tuple #[.slice none 0 0, .bool false]) (by simp [results, Tryz.results5, go_sem]) rfl (H.out _ hb1)
  have hj2 : Calls Tryz.prog 13 #[.slice (some ⟨b, off, none⟩) N cap] w fun e w' => AnE (mg N D) true w e w' := hj.mono fun e w' h => h.1 hok
  have HY : Hid (∀ e W, AnE (pkAll (mg N D) bt) true w e W → PrO N D bt w e W) := fun e W he => ⟨fun _ => he, fun h => absurd hok h⟩
  have hG : Hid (GoodLs (mg N D)) := (rows_iff.1 hok).2
  have h3 : (mg N D).length ≤ 300 := by rw [mg_len]; exact hok.2.1
  have hsm := hSm hok
  have hES := hsm.sz
  have hEB := hsm.eb
  have hFB := hsm.fb
  clear hj hok hSm hz hs hr
  generalize mg N D = E at *
  have hrl := rn_len (eL E) E.length
  go_enter Tryz.func5, Tryz.ntmps5
  go_wp2_with fail
  refine hj2.mono ?_
  rintro e w1 ⟨v, rfl, hv, hb1⟩
  obtain ⟨lo, lc, rfl⟩ := hv.form
  obtain ⟨_, hE1⟩ := hv.erow hEB hFB
  have hcp := hv.cap
  clear hv hj2
  go_wp2_with fail
  refine (keyRuns_of lo lc E _ hE1 (by omega) hcp).mono ?_
  rintro e w2 ⟨v2, rfl, hR2, hb2⟩
  have bw2 := hb1.trans (hb2.mono hb1.size)
  obtain ⟨ro, rc, rfl⟩ := hR2.form
  have HA : Hid (pkAll E bt = pkP (rn (eL E) E.length) bt (rn (eL E) E.length).length) := rfl
  have hpl := pkP_len (rn (eL E) E.length) bt
  have hrun := fun W g i hi h => run_impl hG.out h3 hES bt (W := W) (g := g) (i := i) hi h
  have hpx := fun i => pkX_len (eL (gR (rn (eL E) E.length) i)) (gR (rn (eL E) E.length) i).length bt
  have hstep : ∀ i, pkP (rn (eL E) E.length) bt (i + 1) = pkP (rn (eL E) E.length) bt i ++ pkX (eL (gR (rn (eL E) E.length) i)) (gR (rn (eL E) E.length) i).length bt := fun _ => rfl
  have HP0 : Hid (pkP (rn (eL E) E.length) bt 0 = []) := rfl
  have HST : Hid _ := hstep
  have HPX : Hid _ := hpx
  have HRU : Hid _ := hrun
  have HPL : Hid _ := hpl
  clear hstep hpx hrun hpl hE1 hcp hEB hFB hES hsm hG
  generalize hPK : pkP (rn (eL E) E.length) bt = PK at *
  generalize rn (eL E) E.length = Rs at *
  clear hPK
  go_wp2
  go_loopw [8, 23] (fun u i wr => ∃ (k : Nat) (V : Nat → Value), k ≤ Rs.length ∧ i = .int .i64 k ∧ OutC wr w2.heap.size u (PK k) V ∧ Below w2.heap.size w2 wr) (fun _ i _ => Rs.length - (intOf i).toNat)
  case atStart => exact ⟨0, _, Nat.zero_le _, rfl, by rw [HP0.out]; exact outC_nil _ _, Below.refl _ _⟩
  case round =>
    obtain ⟨k, V, hk, rfl, hO, hbk⟩ := hrel
    obtain ⟨lo, lc, rfl, _⟩ := hO.form
    have bwk := bw2.trans (hbk.mono bw2.size)
    have hkl := HPL.out k
    by_cases hlt : k < Rs.length
    · rcases hR2 with ⟨h0, _⟩ | ⟨g, c, e, hg, hL⟩
      · rw [h0] at hlt; simp at hlt
      · injection e with e1 _ e3
        subst e1
        subst e3
        obtain ⟨p, pc, hc1, hcall⟩ := HRU.out wr g k hlt (hL.keep hbk)
        have hst := HST.out k
        have hpk := HPX.out k
        have HS : Hid (PK (k + 1) = PK k ++ pkX (eL (gR Rs k)) (gR Rs k).length bt) := hst
        have hsz := hbk.size
        clear hst HRU HST HPX HPL HP0 hL
        generalize pkX (eL (gR Rs k)) (gR Rs k).length bt = P at *
        generalize (gR Rs k).length = nk at *
        go_wp2_with fail
        refine (hcall _ (Below.refl _ _)).mono ?_
        rintro e w4 ⟨v4, rfl, hv4, hb4⟩
        obtain ⟨po, pc4, hpv⟩ := hv4.form
        obtain ⟨lo5, lc5, V5, w5, hrun, hO5, hb5⟩ := pack_run 26 hO hv4 hb4 hpk (by omega) hsz
        subst hpv
        have b5 := hbk.trans ((hb4.mono hsz).trans hb5)
        rw [← HS.out] at hO5 hrun
        have HO5 : Hid (OutC w5 w2.heap.size (.slice lo5 (PK (k + 1)).length lc5) (PK (k + 1)) V5) := hO5
        clear hO5 hO hv4 hb4 hcall hb5
        generalize (PK (k + 1)).length = n5 at *
        go_wp2_with (at_builtin; refine wpList_append_eq2 w4 rfl (.tmp 33) (.tmp 34) 26 26 26 rfl rfl (.slice lo (PK k).length lc) (.slice po P.length pc4) (.slice lo5 n5 lc5) rfl rfl w5 hrun ?_)
        go_roundw
        case rel => exact ⟨k + 1, V5, by omega, by go_num, HO5.out, b5⟩
        case measure => simp [intOf]; omega
    · obtain rfl : k = Rs.length := by omega
      have hC := (hO.ca).mono bw2.size (Nat.le_refl _) (Nat.le_refl _)
      have HC : Hid (AnE (PK Rs.length) true w (.returned (.tuple #[.slice lo (PK Rs.length).length lc, .bool true])) wr) := ⟨_, rfl, hC, bwk⟩
      clear hO hC HRU HST HPX HPL HP0 hR2
      generalize hnn : (PK Rs.length).length = nn at *
      go_wp2
      exact bodyPost_ret (v := .tuple #[.slice lo nn lc, .bool true]) (by simp [results, Tryz.results5, go_sem]) rfl (HY.out _ _ (by rw [HA.out]; exact HC.out))

set_option maxRecDepth 100000 in
set_option maxHeartbeats 4000000 in
theorem l8PackAll_any (b off N cap : Nat) (D : Nat → List Ent) (bt : Bool) (w : World) (hr : LR w b off N D) (hN : N ≤ 1048576) (hs : sm D N ≤ 1048576) (hok : RowsOk N D) (hsm : SmL (mg N D)) :
    Calls Tryz.prog 17 #[.slice (some ⟨b, off, none⟩) N cap, .bool bt] w fun e w' => AnS (pkAll (mg N D) bt) w e w' := by
  have hj := l8Join_any b off N cap D w hr hN hs
  have hG : Hid (GoodLs (mg N D)) := (rows_iff.1 hok).2
  have h3 : (mg N D).length ≤ 300 := by rw [mg_len]; exact hok.2.1
  have hES := hsm.sz
  have hEB := hsm.eb
  have hFB := hsm.fb
  clear hok hs hr
  generalize mg N D = E at *
  have hrl := rn_len (eL E) E.length
  go_enter Tryz.func17, Tryz.ntmps17
  go_wp2_with fail
  refine hj.mono ?_
  rintro e w1 ⟨v, rfl, hv, hb1⟩
  obtain ⟨lo, lc, rfl, hE1⟩ := hv.erow hb1 hEB
  clear hv hj
  go_wp2_with fail
  refine (l8Each_of lo lc E _ hE1 (by omega)).mono ?_
  rintro e w2 ⟨v2, rfl, hR2, hb2⟩
  have bw2 := hb1.trans (hb2.mono hb1.size)
  obtain ⟨ro, rc, rfl⟩ := hR2.form
  have HA : Hid (pkAll E bt = pkP (rn (eL E) E.length) bt (rn (eL E) E.length).length) := rfl
  have hpl := pkP_len (rn (eL E) E.length) bt
  have hrun := fun W g i hi h => run_spec hG.out h3 hES bt (W := W) (g := g) (i := i) hi h
  have hpx := fun i => pkX_len (eL (gR (rn (eL E) E.length) i)) (gR (rn (eL E) E.length) i).length bt
  have hstep : ∀ i, pkP (rn (eL E) E.length) bt (i + 1) = pkP (rn (eL E) E.length) bt i ++ pkX (eL (gR (rn (eL E) E.length) i)) (gR (rn (eL E) E.length) i).length bt := fun _ => rfl
  have HP0 : Hid (pkP (rn (eL E) E.length) bt 0 = []) := rfl
  have HST : Hid _ := hstep
  have HPX : Hid _ := hpx
  have HRU : Hid _ := hrun
  have HPL : Hid _ := hpl
  clear hstep hpx hrun hpl hE1 hEB hFB hES hsm hG
  generalize hPK : pkP (rn (eL E) E.length) bt = PK at *
  generalize rn (eL E) E.length = Rs at *
  clear hPK
  go_wp2
  go_loopw [5, 12] (fun u i wr => ∃ (k : Nat) (V : Nat → Value), k ≤ Rs.length ∧ i = .int .i64 k ∧ OutC wr w2.heap.size u (PK k) V ∧ Below w2.heap.size w2 wr) (fun _ i _ => Rs.length - (intOf i).toNat)
  case atStart => exact ⟨0, _, Nat.zero_le _, rfl, by rw [HP0.out]; exact outC_nil _ _, Below.refl _ _⟩
  case round =>
    obtain ⟨k, V, hk, rfl, hO, hbk⟩ := hrel
    obtain ⟨lo, lc, rfl, _⟩ := hO.form
    have bwk := bw2.trans (hbk.mono bw2.size)
    have hkl := HPL.out k
    by_cases hlt : k < Rs.length
    · rcases hR2 with ⟨h0, _⟩ | ⟨g, c, e, hg, hL⟩
      · rw [h0] at hlt; simp at hlt
      · injection e with e1 _ e3
        subst e1
        subst e3
        obtain ⟨p, pc, hc1, hcall⟩ := HRU.out wr g k hlt (hL.keep hbk)
        have hst := HST.out k
        have hpk := HPX.out k
        have HS : Hid (PK (k + 1) = PK k ++ pkX (eL (gR Rs k)) (gR Rs k).length bt) := hst
        have hsz := hbk.size
        clear hst HRU HST HPX HPL HP0 hL
        generalize pkX (eL (gR Rs k)) (gR Rs k).length bt = P at *
        generalize (gR Rs k).length = nk at *
        go_wp2_with fail
        refine (hcall _ (Below.refl _ _)).mono ?_
        rintro e w4 ⟨v4, rfl, hv4, hb4⟩
        obtain ⟨po, pc4, hpv⟩ := hv4.form
        obtain ⟨lo5, lc5, V5, w5, hrun, hO5, hb5⟩ := pack_run 26 hO hv4 hb4 hpk (by omega) hsz
        subst hpv
        have b5 := hbk.trans ((hb4.mono hsz).trans hb5)
        rw [← HS.out] at hO5 hrun
        have HO5 : Hid (OutC w5 w2.heap.size (.slice lo5 (PK (k + 1)).length lc5) (PK (k + 1)) V5) := hO5
        clear hO5 hO hv4 hb4 hcall hb5
        generalize (PK (k + 1)).length = n5 at *
        go_wp2_with (at_builtin; refine wpList_append_eq2 w4 rfl (.tmp 16) (.tmp 19) 26 26 26 rfl rfl (.slice lo (PK k).length lc) (.slice po P.length pc4) (.slice lo5 n5 lc5) rfl rfl w5 hrun ?_)
        go_roundw
        case rel => exact ⟨k + 1, V5, by omega, by go_num, HO5.out, b5⟩
        case measure => simp [intOf]; omega
    · obtain rfl : k = Rs.length := by omega
      have hC := (hO.ca).mono bw2.size (Nat.le_refl _) (Nat.le_refl _)
      have HC : Hid (AnS (PK Rs.length) w (.returned (.slice lo (PK Rs.length).length lc)) wr) := ⟨_, rfl, hC, bwk⟩
      clear hO hC HRU HST HPX HPL HP0 hR2
      generalize hnn : (PK Rs.length).length = nn at *
      go_wp2
      go_ret
      rw [HA.out]
      exact HC.out

set_option maxHeartbeats 4000000 in
theorem packRows_spec (b off N cap : Nat) (D : Nat → List Ent) (bt : Bool) (w : World) (hr : LR w b off N D) (hN : N ≤ 1048576) (hs : sm D N ≤ 1048576) (hz : ∀ i, i < N → ESize (D i).length (eL (D i))) (hSm : RowsOk N D → SmL (mg N D)) :
    Calls Tryz.prog 6 #[.slice (some ⟨b, off, none⟩) N cap, .bool bt] w fun e w' => PrO N D bt w e w' := by
  have hp := fun W hW hok => l8PackAll_any b off N cap D bt W hW hN hs hok (hSm hok)
  have HN : Hid (¬ RowsOk N D → ∀ W, Below w.heap.size w W → PrO N D bt w (.returned (.tuple #[.slice none 0 0, .bool false])) W) := fun h W hb => ⟨fun h2 => absurd h2 h, fun _ => ane_no hb⟩
  have HY : Hid (RowsOk N D → ∀ e W, AnE (pkAll (mg N D) bt) true w e W → PrO N D bt w e W) := fun h e W he => ⟨fun _ => he, fun h2 => absurd h h2⟩
  go_enter Tryz.func6, Tryz.ntmps6
  go_wp2_with fail
  refine (l8Rows_any b off N cap D w hr hN hs hz).mono ?_
  rintro e w1 ⟨b1, rfl, h1, hb1⟩
  cases b1
  · have H : Hid (¬ RowsOk N D) := fun h => by
      have := h1.2 h
      cases this
    clear h1
    go_wp2
    exact bodyPost_ret (v := .tuple #[.slice none 0 0, .bool false]) (by simp [results, Tryz.results6, go_sem]) rfl (HN.out H.out _ hb1)
  · have H : Hid (RowsOk N D) := h1.1 rfl
    clear h1
    go_wp2_with fail
    refine (hp _ (hr.keep hb1) H.out).mono ?_
    rintro e w2 ⟨v2, rfl, hv2, hb2⟩
    have bw2 := hb1.trans (hb2.mono hb1.size)
    obtain ⟨lo, lc, rfl⟩ := hv2.form
    have hC := hv2.mono hb1.size (Nat.le_refl _) (Nat.le_refl _)
    go_wp2
    exact bodyPost_ret (v := .tuple #[.slice lo (pkAll (mg N D) bt).length lc, .bool true]) (by simp [results, Tryz.results6, go_sem]) rfl (HY.out H.out _ _ ⟨_, rfl, hC, bw2⟩)
end Go.Proofs.YtmeckcaekkangaaGreat
