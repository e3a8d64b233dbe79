/- Rows and a word, drawn. / Drawn rows packed; what is packed, told. / What the law holds against one another: ints, aggs, entries. -/
import Derived.Test.YtmeckcaekkangaaGreatDr
import Derived.Test.YtmeckcaekkangaaGreatNn
import Derived.Test.YtmeckcaekkangaaGreatPt8
import Derived.Test.YtmeckcaekkangaaGreatAd
import Derived.Test.YtmeckcaekkangaaGreatOh
import Derived.BigQuiet
import Derived.Deep.RegionHeld3
import Derived.Deep.RegionWith
namespace Go.Proofs.YtmeckcaekkangaaGreat
set_option maxRecDepth 100000
open Go.RowKit
set_option linter.unusedSimpArgs false
set_option linter.unusedVariables false

/-- Drawn rows and whether they lie at the bottom. -/
def DpO (w : World) (e : Ending) (w' : World) : Prop :=
  ∃ rv N R bt, e = .returned (.tuple #[rv, .bool bt]) ∧ N ≤ 16 ∧ (∀ i, i < N → (R i).m ≤ 6) ∧ RL w' w.heap.size rv N R ∧ Below w.heap.size w w'
set_option maxHeartbeats 4000000 in
theorem drawPack_any (ao : Option Addr) (n cap : Nat) (f : Nat → Int) (w : World) (hr : Row w ao n f) (hn : n ≤ 1048576) :
    Calls Tryz.prog 4 #[.slice ao n cap] w fun e w' => DpO w e w' := by
  have b2 := below_new w (.cells #[.slice ao n cap, .int .i64 0, .int .u64 0] 37)
  have C2 : CS (w.alloc (.cells #[.slice ao n cap, .int .i64 0, .int .u64 0] 37)) (w.alloc (.cells #[.slice ao n cap, .int .i64 0, .int .u64 0] 37)) w.heap.size ao n cap f 0 := ⟨⟨0, 0, Nat.le_refl _, cu_new w _ 37⟩, cb_new hr _, grown_refl _ _, by simp, hn⟩
  have s2 : w.heap.size < (w.alloc (.cells #[.slice ao n cap, .int .i64 0, .int .u64 0] 37)).heap.size := by simp
  go_enter Tryz.func4, Tryz.ntmps4
  go_wp2_with fail
  generalize w.alloc (.cells #[.slice ao n cap, .int .i64 0, .int .u64 0] 37) = w2 at *
  obtain ⟨CB, hCB⟩ : ∃ CB, w.heap.size = CB := ⟨_, rfl⟩
  have HCB : Hid (w.heap.size = CB) := hCB
  rw [hCB] at C2 s2 b2 ⊢
  clear hCB
  refine (rows_any C2 (by omega)).mono ?_
  rintro e w3 ⟨rv, N, R, rfl, hN, hR6, hRL, K3⟩
  obtain ⟨ro, rc, rfl⟩ := hRL.form
  go_wp2_with fail
  refine (one_s 2 (by omega) K3.self (by omega)).mono ?_
  rintro e w4 ⟨bt, rfl, K4⟩
  have hRL4 := hRL.draw K4.gr s2
  have K := K3.trans K4
  have bw : Below w.heap.size w w4 := by
    rw [HCB.out]
    exact b2.grown K.gr (by omega) (fun k e => by injection e with e; omega)
  have z2 : w.heap.size ≤ w2.heap.size := by have := HCB.out; omega
  have hRL5 : RL w4 w.heap.size (.slice ro N rc) N R := ⟨ownsRow_mono hRL4.own z2, fun i hi => (hRL4.row i hi).mono z2, hRL4.off⟩
  clear hRL4 hRL K3 K4 K b2
  go_wp2
  go_ret2
  exact ⟨_, N, R, bt, rfl, hN, hR6, hRL5, bw⟩
end Go.Proofs.YtmeckcaekkangaaGreat
namespace Go.Proofs.YtmeckcaekkangaaGreat
set_option maxRecDepth 100000
open Go.RowKit
set_option linter.unusedSimpArgs false
set_option linter.unusedVariables false
section
variable {w : World} {base : Nat} {rv : Value} {N : Nat} {R : Nat → Rw1}
theorem RL.rrow {ro : Option Addr} {rc : Nat} (h : RL w base (.slice ro N rc) N R) (hR6 : ∀ i, i < N → (R i).m ≤ 6) : RRow w ro N (fun i => (R i).X) (fun i => (R i).m) := by
  refine ⟨fun i hi j hj => ((h.row i hi).bd j hj).1, fun i hi => by have := hR6 i hi; show (R i).m ≤ _; omega, ?_⟩
  rcases h.own.2 with ⟨e, h0⟩ | ⟨g, cap', cur, e, _⟩
  · exact .inl h0
  · injection e with e1 e2 e3
    subst e1
    have hl := h.lr
    refine .inr ⟨g, 0, rfl, hl.lt, fun i hi => ?_⟩
    obtain ⟨p, c, h1, h2, h3⟩ := hl.row i hi
    have e4 : (rD R i).length = (R i).m := lX_len _ _
    rw [e4] at h1 h3
    exact ⟨p, c, h1, h3.congr (fun j hj => lX_at hj)⟩
theorem sm_few {D : Nat → List Ent} : ∀ {k : Nat}, (∀ i, i < k → (D i).length ≤ 6) → sm D k ≤ 6 * k
  | 0, _ => by simp [sm]
  | k + 1, h => by
    have h1 := sm_few (D := D) (k := k) (fun i hi => h i (by omega))
    have h2 := h k (by omega)
    simp only [sm]
    omega
theorem rD_len (R : Nat → Rw1) (i : Nat) : (rD R i).length = (R i).m := lX_len _ _
theorem RL.sm (h : RL w base rv N R) (hR6 : ∀ i, i < N → (R i).m ≤ 6) (hok : RowsOk N (rD R)) : SmL (mg N (rD R)) := by
  obtain ⟨ro, rc, rfl⟩ := h.form
  exact mg_sm (h.rrow hR6) hok
theorem RL.few (hN : N ≤ 16) (hR6 : ∀ i, i < N → (R i).m ≤ 6) : Go.Proofs.YtmeckcaekkangaaGreat.sm (rD R) N ≤ 1048576 := by
  have := sm_few (D := rD R) (k := N) (fun i hi => by rw [rD_len]; exact hR6 i hi)
  omega
theorem rl_pack (h : RL w base rv N R) (hN : N ≤ 16) (hR6 : ∀ i, i < N → (R i).m ≤ 6) (bt : Bool) : Calls Tryz.prog 5 #[rv, .bool bt] w fun e w' => PrO N (rD R) bt w e w' := by
  have hfew := RL.few (R := R) hN hR6
  rcases h.own.2 with ⟨rfl, rfl⟩ | ⟨g, cap', cur, rfl, _⟩
  · exact packRows_impl_none _ _ _
  · exact packRows_impl g 0 N cap' (rD R) bt w h.lr (by omega) hfew h.size (h.sm hR6)
theorem rl_packS (h : RL w base rv N R) (hN : N ≤ 16) (hR6 : ∀ i, i < N → (R i).m ≤ 6) (bt : Bool) : Calls Tryz.prog 6 #[rv, .bool bt] w fun e w' => PrO N (rD R) bt w e w' := by
  have hfew := RL.few (R := R) hN hR6
  rcases h.own.2 with ⟨rfl, rfl⟩ | ⟨g, cap', cur, rfl, _⟩
  · exact packRows_spec_none _ _ _
  · exact packRows_spec g 0 N cap' (rD R) bt w h.lr (by omega) hfew h.size (h.sm hR6)
theorem rl_live (h : RL w base rv N R) (hN : N ≤ 16) (hR6 : ∀ i, i < N → (R i).m ≤ 6) : Calls Tryz.prog 8 #[rv] w fun e w' => PrO N (rD R) true w e w' := by
  have hfew := RL.few (R := R) hN hR6
  rcases h.own.2 with ⟨rfl, rfl⟩ | ⟨g, cap', cur, rfl, _⟩
  · exact liveIn_impl_none _ _
  · exact liveIn_impl g 0 N cap' (rD R) w h.lr (by omega) hfew h.size (h.sm hR6)
end
/-- An answer of entries that is read. -/
theorem CA.rd {w : World} {b t : Nat} {v : Value} {E : List Ent} (h : CA w b t v E) (hS : SmL E) : ∃ lo lc, v = .slice lo E.length lc ∧ ERow w lo E.length (eL E) ∧ E.length ≤ lc := by
  obtain ⟨lo, lc, rfl⟩ := h.form
  exact ⟨lo, lc, rfl, (h.erow hS.eb hS.fb).2, h.cap⟩
/-- What is told of what is packed. -/
structure PkT (E P T : List Ent) : Prop where
  good : GoodLs P
  sm : SmL P
  len : P.length ≤ 300
  smT : SmL T
  lenT : T.length ≤ 300
  twice : pkAll P true = T
theorem pkT_of {E : List Ent} (hE : GoodLs E) (hs : SmL E) (hl : E.length ≤ 300) (bt : Bool) : PkT E (pkAll E bt) (pkAll E true) := by
  have h4 := rn_len (eL E) E.length
  have h5 := pkP_len (rn (eL E) E.length) bt (rn (eL E) E.length).length
  have h6 := pkP_len (rn (eL E) E.length) true (rn (eL E) E.length).length
  have e : pkAll E bt = (rn (eL E) E.length).flatMap (pkL bt) := pkAll_flat E bt
  refine ⟨by rw [e]; exact pk_good hE bt, pkP_sm hE hs bt _ (Nat.le_refl _), by unfold pkAll; omega, pkP_sm hE hs true _ (Nat.le_refl _), by unfold pkAll; omega, ?_⟩
  show pkP (rn (eL (pkAll E bt)) (pkAll E bt).length) true (rn (eL (pkAll E bt)) (pkAll E bt).length).length = _
  rw [pkAll_flat, e, pk_runs hE bt, pk_twice hE bt]
  exact (pkAll_flat E true).symm
/-- Pieces, read. -/
def SpR (P : List Ent) (w : World) (e : Ending) (w' : World) : Prop := ∃ (plo : Option Addr) (plc : Nat) (Ps : List (List Ent)), e = .returned (.tuple #[.slice plo Ps.length plc, .bool true]) ∧ RRow w' plo Ps.length (fun i => eL (gR Ps i)) (fun i => (gR Ps i).length) ∧ Ps.flatten = P ∧ Ps.length ≤ 300 ∧ Below w.heap.size w w'
theorem split_any {lo : Option Addr} {lc : Nat} {P : List Ent} {w : World} (hg : GoodLs P) (hs : SmL P) (hl : P.length ≤ 300) (hr : ERow w lo P.length (eL P)) (hc : P.length ≤ lc) : Calls Tryz.prog 10 #[.slice lo P.length lc, .int .i64 3] w fun e w' => SpR P w e w' := by
  by_cases h0 : P = []
  · subst h0
    refine (splitRows_none lo lc w).mono ?_
    rintro e w' ⟨rfl, hb⟩
    exact ⟨none, 0, [], rfl, ⟨fun i hi => absurd hi (Nat.not_lt_zero _), fun i hi => absurd hi (Nat.not_lt_zero _), .inl rfl⟩, rfl, by simp, hb⟩
  · have hpos : 0 < P.length := List.length_pos_iff.2 h0
    obtain ⟨b, off, rfl, _⟩ := hr.lies.resolve_left (by omega)
    refine (splitRows_impl b off P.length lc (eL P) 3 w hr (by omega) hs.sz hc).mono ?_
    intro e w' h
    obtain ⟨v, rfl, hv, hb⟩ := h.1 ⟨hl, by omega, good_iff.2 hg⟩
    obtain ⟨plo, plc, rfl⟩ := hv.form
    have hsub : ∀ Q ∈ spP (rn (eL P) P.length) 3 (rn (eL P) P.length).length, Q.Sublist P := fun Q hQ => by
      have := sp_sub (Nat.le_refl _) hQ
      rwa [sl_zero] at this
    have hS : ∀ Q ∈ spP (rn (eL P) P.length) 3 (rn (eL P) P.length).length, SmL Q := fun Q hQ x hx => hs x ((hsub Q hQ).subset hx)
    have hL : ∀ Q ∈ spP (rn (eL P) P.length) 3 (rn (eL P) P.length).length, Q.length ≤ 300 := fun Q hQ => by have := (hsub Q hQ).length_le; omega
    have hflat : (spP (rn (eL P) P.length) 3 (rn (eL P) P.length).length).flatten = P := by
      rw [spP_flat _ _ _ (Nat.le_refl _), List.take_length, runs_flat]
    have hmany : ∀ k, k ≤ (rn (eL P) P.length).length → (spP (rn (eL P) P.length) 3 k).length ≤ k := by
      intro k
      induction k with
      | zero => intro _; simp [spP]
      | succ k ih =>
        intro hk
        have h1 := ih (by omega)
        show (sp1 3 (spP (rn (eL P) P.length) 3 k) (gR (rn (eL P) P.length) k)).length ≤ k + 1
        unfold sp1
        split
        · rename_i hh
          have hp : 0 < (spP (rn (eL P) P.length) 3 k).length := List.length_pos_iff.2 hh.1
          simp
          omega
        · simp
          omega
    have hm := hmany _ (Nat.le_refl _)
    have hrl := rn_len (eL P) P.length
    exact ⟨plo, plc, _, rfl, hv.rrow hS hL, hflat, by omega, hb⟩
theorem gat_next {w0 w : World} {base : Nat} {lo p : Option Addr} {lc pc n : Nat} {E L : List Ent} (ty : TypeId) (h : GatE w0 w base (.slice lo n lc) E) (hn0 : n = E.length) (hr : ERow w0 p L.length (eL L)) (hb : Below w0.heap.size w0 w) (hn : E.length + L.length ≤ 1048576) (hbase : base ≤ w.heap.size) (hB : w0.heap.size ≤ base) :
    ∃ v' w', (Builtin.append_ #[26, 26] ty #[.slice lo n lc, .slice p L.length pc]).run Tryz.prog w = .ok v' w' ∧ GatE w0 w' base v' (E ++ L) ∧ Below w0.heap.size w0 w' ∧ base ≤ w'.heap.size := by
  subst hn0
  by_cases h0 : L = []
  · subst h0
    exact ⟨_, w, app_none w lo p E.length lc pc ty h.cap, by simpa using h, hb, hbase⟩
  · obtain ⟨lo', lc', w', hrun, hG, hgr, _⟩ := gat_many (pc := pc) ty h hr hb (List.length_pos_iff.2 h0) hn hbase
    exact ⟨_, w', hrun, hG, hb.grown hgr hb.size (fun k e => by have := (h.lt k e).1; omega), Nat.le_trans hbase hgr.size⟩
end Go.Proofs.YtmeckcaekkangaaGreat
namespace Go.Proofs.YtmeckcaekkangaaGreat
set_option maxRecDepth 100000
open Go.RowKit
set_option linter.unusedSimpArgs false
set_option linter.unusedVariables false

set_option maxHeartbeats 1000000 in
theorem sameInts_any (ao bo : Option Addr) (n ca cb : Nat) (f g : Nat → Int) (w : World) (ha : IRow w ao n f) (hb : IRow w bo n g) (he : ∀ i, i < n → f i = g i) (hn : n ≤ 1048576) :
    Calls Tryz.prog 38 #[.slice ao n ca, .slice bo n cb] w fun e w' => e = .returned (.bool true) ∧ Below w.heap.size w w' := by
  go_enter Tryz.func38, Tryz.ntmps38
  go_wp2
  go_loopw [13] (fun q wr => ∃ k : Nat, k ≤ n ∧ q = .int .i64 k ∧ Below w.heap.size w wr) (fun q _ => n - (intOf q).toNat)
  case atStart => exact ⟨0, Nat.zero_le _, rfl, Below.refl _ _⟩
  case round =>
    obtain ⟨k, hk, rfl, hbk⟩ := hrel
    by_cases hlt : k < n
    · obtain ⟨b1, o1, rfl, hl1, c1⟩ := ha.lies.resolve_left (by omega)
      obtain ⟨b2, o2, rfl, hl2, c2⟩ := hb.lies.resolve_left (by omega)
      have d1 := (hbk.cell (p := ⟨b1, o1 + k, none⟩) hl1).trans (c1 k hlt)
      have d2 := (hbk.cell (p := ⟨b2, o2 + k, none⟩) hl2).trans (c2 k hlt)
      rw [← he k hlt] at d2
      have hkd : decide ((k : Int) < (n : Int)) = true := decide_eq_true (by omega)
      clear c1 c2
      go_wp2
      go_quiet (fail)
      have hq : Below w.heap.size w (wr.drewN nq) := below_drewN hbk nq
      generalize wr.drewN nq = wz at hq ⊢
      go_wp2
      go_roundw
      case rel => exact ⟨k + 1, by omega, by go_num, hq⟩
      case measure => simp [intOf]; omega
    · obtain rfl : k = n := by omega
      have hkd : decide ((k : Int) < (k : Int)) = false := decide_eq_false (by omega)
      go_wp2
      go_ret
      exact ⟨rfl, hbk⟩

set_option maxHeartbeats 1000000 in
theorem sameAggs_any (x : Ent) (ao bo : Option Addr) (ca cb : Nat) (w : World) (ha : IRow w ao x.n x.f) (hb : IRow w bo x.n x.f) (hn : x.n ≤ 1048576) :
    Calls Tryz.prog 18 #[.agg #[.int .i64 x.c, .int .i64 x.s, .int .i64 x.lo, .int .i64 x.hi, .slice ao x.n ca, .bool x.fu], .agg #[.int .i64 x.c, .int .i64 x.s, .int .i64 x.lo, .int .i64 x.hi, .slice bo x.n cb, .bool x.fu]] w fun e w' => e = .returned (.bool true) ∧ Below w.heap.size w w' := by
  have hB : ∀ o p, Below w.heap.size w ((w.alloc o).alloc p) := fun o p => (below_new w o).alloc (by simp) _
  go_enter Tryz.func18, Tryz.ntmps18
  go_wp2_with fail
  refine (sameInts_any ao bo x.n ca cb x.f x.f _ (ha.keep (hB _ _)) (hb.keep (hB _ _)) (fun _ _ => rfl) hn).mono ?_
  rintro e w1 ⟨rfl, hb⟩
  have hbw : Below w.heap.size w w1 := (hB _ _).trans (hb.mono (by simp; omega))
  clear hb
  go_wp2
  go_ret
  exact ⟨rfl, hbw⟩
end Go.Proofs.YtmeckcaekkangaaGreat
