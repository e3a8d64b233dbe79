/- put. -/
import Derived.Test.YtofdhgffnkhdfaaAb
import Derived.Test.YtofdhgffnkhdfaaAi
import Derived.Test.YtofdhgffnkhdfaaDp
import Derived.Deep.RegionWith
import Derived.Deep.CutRange
namespace Go.Proofs.Ytofdhgffnkhdfaa
open Go.RowKit
set_option linter.unusedSimpArgs false
set_option linter.unusedVariables false

/-- A level with one put into its place. -/
def plP (L : List Met) (k : Nat) (x : Met) : List Met := putAt L (if 0 < k then plc L x.least else L.length) x
theorem plP_len (L : List Met) (k : Nat) (x : Met) : (plP L k x).length = L.length + 1 := by
  unfold plP
  rw [putAt_len]
  split
  · exact plc_le L x.least
  · exact Nat.le_refl _
/-- One of the levels is replaced by what Insert gave. -/
theorem Lv.swap {w w' : World} {base g N k : Nat} {V : Nat → Value} {LL : Nat → List Met} {v : Value} {L : List Met} (h : Lv w base g N V LL) (hk : k < N) (hgr : w.grownBy w' (V k).ownBlock) (ho : OwnM w' base v L) (hv : v.ownBlock = (V k).ownBlock ∨ v.ownBlock = some w.heap.size) :
    Lv (w'.setCell ⟨g, k, none⟩ v) base g N (fun i => if i = k then v else V i) (fun i => if i = k then L else LL i) := by
  have hgb : w'.heap[g]? = w.heap[g]? := hgr.block g h.lt (fun e => h.apart k hk e.symm)
  have hoth : Others g w' (w'.setCell ⟨g, k, none⟩ v) := Others.setCell _ _ _ _
  have hck : w'.cell? ⟨g, k, none⟩ = some (V k) := (World.cell?_of_block (w := w) (w' := w') (a := ⟨g, k, none⟩) hgb).trans (h.cell k hk)
  have hsame : (w'.setCell ⟨g, k, none⟩ v).cell? ⟨g, k, none⟩ = some v := World.cell?_setCell_same _ _ _ hck
  have hother : ∀ j, j ≠ k → (w'.setCell ⟨g, k, none⟩ v).cell? ⟨g, j, none⟩ = w'.cell? ⟨g, j, none⟩ := fun j hj => World.cell?_setCell_other _ _ _ _ (by intro hh; injection hh with _ h2 _; omega)
  have hvg : v.ownBlock ≠ some g := by
    rcases hv with e | e
    · rw [e]; exact h.apart k hk
    · rw [e]; intro e; injection e with e; have := h.lt; omega
  refine ⟨by rw [hoth.size]; exact Nat.lt_of_lt_of_le h.lt hgr.size, h.bs, fun i hi => ?_, fun i hi => ?_, fun i hi => ?_, fun i j hi hj hij c hc => ?_, fun j hj => ?_⟩
  · by_cases e : i = k
    · subst e; simp only [if_true]; exact hsame
    · simp only [e, if_false]
      rw [hother i e]
      exact (World.cell?_of_block (w := w) (w' := w') (a := ⟨g, i, none⟩) hgb).trans (h.cell i hi)
  · by_cases e : i = k
    · subst e; simp only [if_true]
      exact ho.same fun c hc => hoth.block c (fun e => hvg (by rw [hc, e]))
    · simp only [e, if_false]
      refine (h.own i hi).same fun c hc => ?_
      have hcg : c ≠ g := fun e2 => h.apart i hi (by rw [hc, e2])
      have hcl := ((h.own i hi).own.lt c hc).2
      exact (hoth.block c hcg).trans (hgr.block c hcl (fun e2 => h.dis i k hi hk e c hc e2.symm))
  · by_cases e : i = k
    · subst e; simp only [if_true]; exact hvg
    · simp only [e, if_false]; exact h.apart i hi
  · have key : ∀ i, i < N → i ≠ k → ∀ c, (V i).ownBlock = some c → v.ownBlock ≠ some c := fun i hi e c hc e2 => by
      rcases hv with e3 | e3
      · exact h.dis i k hi hk e c hc (e3.symm.trans e2)
      · rw [e3] at e2
        injection e2 with e2
        have := ((h.own i hi).own.lt c hc).2
        omega
    by_cases e : i = k
    · have e2 : j ≠ k := fun e2 => hij (e.trans e2.symm)
      simp only [e, if_true] at hc
      simp only [e2, if_false]
      exact fun h2 => key j hj e2 c h2 hc
    · simp only [e, if_false] at hc
      by_cases e2 : j = k
      · simp only [e2, if_true]; exact key i hi e c hc
      · simp only [e2, if_false]; exact h.dis i j hi hj hij c hc
  · have := (World.frozen?_of_block (w := w) (w' := w') (a := ⟨g, j, none⟩) hgb).trans (h.free j hj)
    simpa using this

/-- The call of Insert, as one step of a statement whose order is open. -/
theorem step_ins {w : World} {ops : Array Oper} {o : Oper} {a : Act} {K : Act → World → Prop} {Q : Exit → Act → World → Prop} {E : Prop} (hgd : o.guard = none)
    (ho : o.op = .call { callee := .value (.func 55), args := #[.tmp 32, .tmp 33, .tmp 36], argTypes := #[70, 3, 70] }) (v1 v2 v3 : Value) (h1 : a.eval (.tmp 32) = v1) (h2 : a.eval (.tmp 33) = v2) (h3 : a.eval (.tmp 36) = v3) (base : Nat) (L : List Met) (i : Nat) (x : Met)
    (hc : Calls Try.prog 55 #[v1, v2, v3] w fun e w' => InsO w base v1 L i x e w')
    (h : ∀ (v' : Value) (w' : World), OwnM w' base v' (putAt L i x) → w.grownBy w' v1.ownBlock → (v'.ownBlock = v1.ownBlock ∨ v'.ownBlock = some w.heap.size) → K (a.put o.dst v') w') :
    if Region.wanted o (yielded ops a.tmps) = true then Oper.wp Try.prog o a w K Q else E := by
  have hw : Region.wanted o (yielded ops a.tmps) = true := by simp [Region.wanted, hgd]
  rw [if_pos hw]
  have g1 : a.tmps.getD 32 undef = v1 := h1
  have g2 : a.tmps.getD 33 undef = v2 := h2
  have g3 : a.tmps.getD 36 undef = v3 := h3
  unfold Oper.wp execOp
  simp only [ho, resolve, Act.eval, g1, g2, g3]
  go_simp
  refine hc.mono ?_
  rintro e w' ⟨v', rfl, k1, k2, k3⟩
  exact h v' w' k1 k2 k3

/-- What put does. -/
def PutO (w : World) (base db g N : Nat) (nx lg sq : Int) (fl : Bool) (LL : Nat → List Met) (k : Nat) (x : Met) (w' : World) : Prop :=
  ∃ V', Below base w w' ∧ (∀ i, i < N → (V' i).ownBlock ≠ some db) ∧ Lv w' base g N V' (fun j => if j = k then plP (LL k) k x else LL j) ∧ DX w' db nx lg sq (some ⟨g, 0, none⟩) N N fl

set_option maxRecDepth 100000 in
set_option maxHeartbeats 3200000 in
theorem put_any (base db g N : Nat) (nx lg sq : Int) (fl : Bool) (V : Nat → Value) (LL : Nat → List Met) (k : Nat) (x : Met) (w : World) (hL : Lv w base g N V LL) (hD : DX w db nx lg sq (some ⟨g, 0, none⟩) N N fl) (hdb : base ≤ db) (hgd : g ≠ db) (hvd : ∀ i, i < N → (V i).ownBlock ≠ some db) (hN : N ≤ 1048576) (hM : (LL k).length ≤ 1000000) (hk : k < N) (hx : MB x) :
    Calls Try.prog 34 #[.pointer (some ⟨db, 0, none⟩), .agg #[.int .i64 (k : Int), .int .i64 x.file, .string x.least, .string x.most, .int .i64 x.many]] w fun e w' => e = .returned (.tuple #[]) ∧ PutO w base db g N nx lg sq fl LL k x w' := by
  have HVD : Hid (∀ i, i < N → (V i).ownBlock ≠ some db) := hvd
  clear hvd
  have bn0 := below_new w (.cells #[.int .i64 (k : Int), .int .i64 x.file, .string x.least, .string x.most, .int .i64 x.many] 67)
  have A0 := DAt.new w ⟨(k : Int), x⟩ 67
  have L0 := hL.keep bn0
  have D0 := hD.keep bn0
  have hwb : base ≤ w.heap.size := by have := hL.bs; have := hL.lt; omega
  have s0 : w.heap.size < (w.alloc (.cells #[.int .i64 (k : Int), .int .i64 x.file, .string x.least, .string x.most, .int .i64 x.many] 67)).heap.size := by simp
  have HPV : Hid (∀ c, (V k).ownBlock = some c → c < w.heap.size) := fun c hc => ((hL.own k hk).own.lt c hc).2
  go_enter Try.func34, Try.ntmps34
  go_upto_region 1 with fail
  generalize w.alloc (.cells #[.int .i64 (k : Int), .int .i64 x.file, .string x.least, .string x.most, .int .i64 x.many] 67) = w0 at *
  obtain ⟨so, sc, eV, _⟩ := (L0.own k hk).form
  have d3 := D0.c3
  have gc := L0.cell k hk
  rw [eV] at gc
  obtain ⟨_, a0, a1, a2, a3, a4⟩ := id A0
  simp only [Nat.zero_add] at a0 a1 a2 a3 a4
  go_region
  have bd := (Below.refl w0.heap.size w0).drew
  have L1 := L0.keep bd
  have D1 := D0.keep bd
  have A1 := A0.keep bd
  have bw1 := bn0.trans (bd.mono bn0.size)
  clear bd L0 D0 A0 a0 a1 a2 a3 a4 d3 gc
  obtain ⟨w1, ew1⟩ : ∃ w1, w0.drew = w1 := ⟨_, rfl⟩
  rw [ew1] at L1 D1 A1 bw1 ⊢
  clear ew1
  obtain ⟨ix, hix⟩ : ∃ ix, (if 0 < k then plc (LL k) x.least else (LL k).length) = ix := ⟨_, rfl⟩
  have hixl : ix ≤ (LL k).length := by
    rw [← hix]
    split
    · exact plc_le _ _
    · exact Nat.le_refl _
  have HIX : Hid ((if 0 < k then plc (LL k) x.least else (LL k).length) = ix) := hix
  clear hix
  have hok1 := L1.own k hk
  rw [eV] at hok1
  have hrow1 := hok1.row
  obtain ⟨_, a0, a1, a2, a3, a4⟩ := id A1
  simp only [Nat.zero_add] at a0 a1 a2 a3 a4
  go_upto_if 19 with fail
  go_cut [5] from 19 (fun s5 wx => s5 = .int .i64 (ix : Int) ∧ Below w1.heap.size w1 wx)
  case first =>
    by_cases hk0 : 0 < k
    · have HI : Hid (plc (LL k) x.least = ix) := by have := HIX.out; rw [if_pos hk0] at this; exact this
      have hki : (0 : Int) < (k : Int) := by omega
      go_wp2_with fail
      refine (placeByLeast_any so sc (LL k) x.least w1 hrow1 (by omega)).mono ?_
      rintro e w2 ⟨rfl, hb2⟩
      go_wp2
      go_meet
      case rel => exact ⟨by rw [HI.out], hb2⟩
    · have HI : Hid ((LL k).length = ix) := by have := HIX.out; rw [if_neg hk0] at this; exact this
      have hki : ¬ (0 : Int) < (k : Int) := by omega
      go_wp2
      go_meet
      case rel => exact ⟨by rw [HI.out], Below.refl _ _⟩
  case rest =>
    obtain ⟨rfl, hb2⟩ := hcut
    generalize wc = w2 at *
    have L2 := L1.keep hb2
    have D2 := D1.keep hb2
    have A2 := A1.keep hb2
    have bw2 := bw1.trans (hb2.mono bw1.size)
    have sw2 := bw2.size
    have sP : w.heap.size < w2.heap.size := A2.lt
    clear L1 D1 A1 bw1 hb2 hok1 hrow1 a0 a1 a2 a3 a4 bn0
    have bd := (Below.refl w2.heap.size w2).drew
    have L3 := L2.keep bd
    have D3 := D2.keep bd
    have A3 := A2.keep bd
    have bw3 := bw2.trans (bd.mono bw2.size)
    have bn := below_new w2.drew (.cells #[.int .i64 x.file, .string x.least, .string x.most, .int .i64 x.many] 65)
    have L4 := L3.keep bn
    have D4 := D3.keep bn
    have A4 := A3.keep bn
    have bw4 := bw3.trans (bn.mono bw3.size)
    have O4 := L4.own k hk
    rw [eV] at O4
    have hvb : (w2.drew.alloc (.cells #[.int .i64 x.file, .string x.least, .string x.most, .int .i64 x.many] 65)).heap[w2.heap.size]? = some (.cells #[.int .i64 x.file, .string x.least, .string x.most, .int .i64 x.many] 65 (0, 0)) := heap_alloc_new w2.drew _
    have s4 : (w2.drew.alloc (.cells #[.int .i64 x.file, .string x.least, .string x.most, .int .i64 x.many] 65)).heap.size = w2.heap.size + 1 := by simp
    have hcall := insertM_any base w2.heap.size 1 so sc (LL k) ix x _ O4 hvb hx (fun c hc => by have := HPV.out c (by rw [eV]; exact hc); omega) hixl (by omega) (by omega)
    have hda : w2.drew.alloc (.cells #[.int .i64 x.file, .string x.least, .string x.most, .int .i64 x.many] 65) = (w2.alloc (.cells #[.int .i64 x.file, .string x.least, .string x.most, .int .i64 x.many] 65)).drew := rfl
    rw [hda] at hcall L4 D4 A4 O4 bw4 s4
    clear hda hvb
    obtain ⟨_, a0, a1, a2, a3, a4⟩ := id A3
    simp only [Nat.zero_add] at a0 a1 a2 a3 a4
    have d3 := D3.c3
    obtain ⟨_, e0, _, _, _, _⟩ := id A4
    have f3 := D4.c3
    have hkN : (k : Int) < (N : Int) := by omega
    have HT : Hid (plP (LL k) k x = putAt (LL k) ix x) := by unfold Hid plP; rw [HIX.out]
    have hlen : (putAt (LL k) ix x).length = (LL k).length + 1 := putAt_len hixl
    have Hlen : Hid ((putAt (LL k) ix x).length = (LL k).length + 1) := hlen
    clear hlen HIX A2 D2 L2 bw2 A3 D3 L3 bw3 bn bd
    have HK : Hid (∀ (v5 : Value) (w5 : World), OwnM w5 base v5 (putAt (LL k) ix x) → (w2.alloc (.cells #[.int .i64 x.file, .string x.least, .string x.most, .int .i64 x.many] 65)).drew.grownBy w5 (Value.slice so (LL k).length sc).ownBlock → (v5.ownBlock = (Value.slice so (LL k).length sc).ownBlock ∨ v5.ownBlock = some (w2.alloc (.cells #[.int .i64 x.file, .string x.least, .string x.most, .int .i64 x.many] 65)).drew.heap.size) →
        ∃ vo vc, v5 = .slice vo (putAt (LL k) ix x).length vc ∧ w5.cell? ⟨db, 3, none⟩ = some (.slice (some ⟨g, 0, none⟩) N N) ∧ w5.cell? ⟨w.heap.size, 0, none⟩ = some (.int .i64 (k : Int)) ∧ w5.cell? ⟨g, k, none⟩ = some (.slice so (LL k).length sc) ∧ w5.frozen? ⟨g, k, none⟩ = false ∧
          Hid (PutO w base db g N nx lg sq fl LL k x (w5.setCell ⟨g, k, none⟩ (.slice vo (putAt (LL k) ix x).length vc)))) := fun v5 w5 O5 G5 H5 => by
      obtain ⟨vo, vc, rfl, _⟩ := O5.form
      have D5 := D4.same G5.size (G5.block db D4.lt (fun e => HVD.out k hk (by rw [eV]; exact e.symm)))
      have A5 := A4.move (Nat.lt_of_lt_of_le A4.lt G5.size) (fun j => World.cell?_of_block (a := ⟨w.heap.size, j, none⟩) (G5.block w.heap.size A4.lt (fun e => by have := HPV.out w.heap.size (by rw [eV]; exact e.symm); omega)))
      have hgb := G5.block g L4.lt (fun e => L4.apart k hk (by rw [eV]; exact e.symm))
      have hG6 : (w2.alloc (.cells #[.int .i64 x.file, .string x.least, .string x.most, .int .i64 x.many] 65)).drew.grownBy w5 (V k).ownBlock := by rw [eV]; exact G5
      have hH6 : (Value.slice vo (putAt (LL k) ix x).length vc).ownBlock = (V k).ownBlock ∨ (Value.slice vo (putAt (LL k) ix x).length vc).ownBlock = some (w2.alloc (.cells #[.int .i64 x.file, .string x.least, .string x.most, .int .i64 x.many] 65)).drew.heap.size := by rw [eV]; exact H5
      have h6 := L4.swap hk hG6 O5 hH6
      have h7 := h6.congr (V' := V) (LL' := fun j => if j = k then plP (LL k) k x else LL j) (fun i hi => by
        by_cases e : i = k
        · simp only [e, if_true]; exact HT.out.symm
        · simp only [e, if_false])
      refine ⟨vo, vc, rfl, D5.c3, A5.c0, (World.cell?_of_block (a := ⟨g, k, none⟩) hgb).trans ((L4.cell k hk).trans (by rw [eV])), (World.frozen?_of_block (a := ⟨g, k, none⟩) hgb).trans (L4.free k hk), ⟨_, ((bw4.mono hwb).grown G5 (by omega) (fun c hc => (O4.own.lt c hc).1)).setCell (p := ⟨g, k, none⟩) L4.bs _, fun i hi => ?_, h7, D5.same (by simp) ((Others.setCell w5 g k _).block db (Ne.symm hgd))⟩⟩
      by_cases e : i = k
      · simp only [e, if_true]
        rcases hH6 with e2 | e2
        · rw [e2]; exact HVD.out k hk
        · rw [e2]
          intro e3
          injection e3 with e3
          have := hD.lt
          omega
      · simp only [e, if_false]
        exact HVD.out i hi
    clear A4 D4 L4 bw4 O4 HT hD hL HVD HPV
    go_upto_region 5 with fail
    go_region_law (first | (refine step_ins (by rfl) (by rfl) (.slice so (LL k).length sc) (.int .i64 (ix : Int)) (.slice (some ⟨w2.heap.size, 0, none⟩) 1 1) (by simp [Act.eval, Act.put]) (by simp [Act.eval, Act.put]) (by simp [Act.eval, Act.put]) base (LL k) ix x hcall ?_; intro v5 w5 O5 G5 H5; obtain ⟨vo, vc, rfl, g3, g0, gk, gf, HF⟩ := HK.out v5 w5 O5 G5 H5; clear O5 G5 H5) | fail)
    all_goals
      go_wp2
      refine bodyPost_end (v := .tuple #[]) (by simp [results, Try.results34]) rfl ⟨rfl, HF.out⟩
end Go.Proofs.Ytofdhgffnkhdfaa
