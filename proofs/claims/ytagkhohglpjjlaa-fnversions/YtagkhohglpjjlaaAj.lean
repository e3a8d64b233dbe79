/- slices.Insert over metas: one meta, anywhere. / put. -/
import Derived.Test.YtagkhohglpjjlaaAh
import Derived.Test.YtagkhohglpjjlaaAb
import Derived.Test.YtagkhohglpjjlaaDp
import Derived.Deep.RegionWith
import Derived.Deep.CutRange
namespace Go.Proofs.Ytagkhohglpjjlaa
open Go.RowKit
set_option linter.unusedSimpArgs false
set_option linter.unusedVariables false

/-- What Insert of one does. -/
def InsO (w : World) (base : Nat) (v : Value) (L : List Met) (i : Nat) (x : Met) (e : Ending) (w' : World) : Prop :=
  ∃ v', e = .returned v' ∧ OwnM w' base v' (putAt L i x) ∧ w.grownBy w' v.ownBlock ∧ (v'.ownBlock = v.ownBlock ∨ v'.ownBlock = some w.heap.size)

set_option maxHeartbeats 1600000 in
theorem insertM_any (base vb vc : Nat) (so : Option Addr) (sc : Nat) (L : List Met) (i : Nat) (x : Met) (w : World) (hO : OwnM w base (.slice so L.length sc) L) (hvb : w.heap[vb]? = some (.cells #[.int .i64 x.file, .string x.least, .string x.most, .int .i64 x.many] 52 (0, 0))) (hxb : MB x)
    (hne : ∀ c, (Value.slice so L.length sc).ownBlock = some c → vb ≠ c) (hi : i ≤ L.length) (hn : L.length ≤ 1048576) (hb : base ≤ w.heap.size) :
    Calls Try.prog 40 #[.slice so L.length sc, .int .i64 (i : Nat), .slice (some ⟨vb, 0, none⟩) 1 vc] w fun e w' => InsO w base (.slice so L.length sc) L i x e w' := by
  have hvlt : vb < w.heap.size := (Array.getElem?_eq_some_iff.1 hvb).1
  have hvs : ∀ j v, (mc x)[j]? = some v → w.cell? ⟨vb, j, none⟩ = some v := fun j v hj => by
    simp only [World.cell?, hvb, mc] at hj ⊢
    simpa using hj
  have hbd : ∀ z ∈ putAt L i x, MB z := fun z hz => by
    rcases List.mem_append.1 hz with h | h
    · exact hO.bd z (List.mem_of_mem_take h)
    · rcases List.mem_cons.1 h with rfl | h
      · exact hxb
      · exact hO.bd z (List.mem_of_mem_drop h)
  by_cases hend : i = L.length
  · subst hend
    have hx : MRow w (some ⟨vb, 0, none⟩) [x].length (mL [x]) := ⟨fun j hj => by
      have : j = 0 := by simpa using hj
      subst this; exact hxb, .inr ⟨vb, 0, rfl, hvlt, fun j hj => by
        have : j = 0 := by simpa using hj
        subst this
        exact mat_of hvlt fun q hq => by
          obtain ⟨u, hu⟩ : ∃ u, (mc x)[q]? = some u := ⟨_, List.getElem?_eq_getElem (by rw [mc_len]; exact hq)⟩
          have h3 := hvs q u hu
          simp only [Nat.zero_mul, Nat.zero_add, Nat.add_zero]
          rw [h3]; exact hu.symm⟩⟩
    refine (insertM_end base vb vc so sc L x w hO hx hn hb).mono ?_
    rintro e w' ⟨v', h1, h2, h3, h4⟩
    exact ⟨v', h1, by rw [putAt_end]; exact h2, h3, h4⟩
  · have hi2 : i < L.length := by omega
    have hcl := mf_len L
    have hown := hO.own
    rcases hO.own.2 with ⟨_, h0⟩ | ⟨g, cap, cur, hv, hbg, hg, hnc, hcm, hcs, htake⟩
    · omega
    · injection hv with e1 e2 e3
      subst e1 e3
      have hglt : g < w.heap.size := (Array.getElem?_eq_some_iff.1 hg).1
      have hvg : vb ≠ g := hne g rfl
      have hcc : ∀ j v, (L.flatMap mc)[j]? = some v → w.cell? ⟨g, j, none⟩ = some v := fun j v hj => by
        have hlt := (List.getElem?_eq_some_iff.1 hj).1
        rw [hcl] at hlt
        rw [hown.cellAt j hlt]; exact hj
      have hfz : ∀ j, w.frozen? ⟨g, j, none⟩ = false := fun j => hown.frozenAt j
      have hsm : ∀ j, j < cur.size → (w.cell? ⟨g, j, none⟩).isSome = true := fun j hj => by simp [World.cell?, hg, hj]
      have hdl : ((L.flatMap mc).drop (i * 4)).length = (L.length - i) * 4 := by rw [List.length_drop, hcl, Nat.sub_mul]
      by_cases hroom : L.length + 1 ≤ sc
      · refine (insertM_shift vb vc g L.length sc i (L.flatMap mc) (mc x) w hi2 hroom (by unfold maxLen at hcm; omega) hvg hcl rfl hcc (fun j hj => hsm j (by omega)) hfz hvs (mf_one L) (mc_one x) (fun o lb cb => overlapsM w vb g o lb cb vc hvg 52 52 4 cur.size (by simp [World.shape?, hvb]) (by simp [World.shape?, hg]) (by omega) (by simp [World.frozen?, hvb]) (by simp [World.frozen?, hvb]))).mono ?_
        rintro e w' ⟨rfl, rfl⟩
        obtain ⟨c1, k1, s1⟩ := setCells_heap g 52 ((L.flatMap mc).drop (i * 4)) ((i + 1) * 4) w.drew cur hg
        obtain ⟨c2, k2, s2⟩ := setCells_heap g 52 (mc x) (i * 4) _ c1 k1
        have o1 := setCells_others g ((L.flatMap mc).drop (i * 4)) ((i + 1) * 4) w.drew
        have o2 := setCells_others g (mc x) (i * 4) (w.drew.setCells g ((i + 1) * 4) ((L.flatMap mc).drop (i * 4)))
        have hsm1 : ∀ j, j < cur.size → ((w.drew.setCells g ((i + 1) * 4) ((L.flatMap mc).drop (i * 4))).cell? ⟨g, j, none⟩).isSome = true := fun j hj => by simp [World.cell?, k1, s1, hj]
        have hin := World.cell?_setCells_in g (mc x) (i * 4) (w.drew.setCells g ((i + 1) * 4) ((L.flatMap mc).drop (i * 4))) (fun j hj => hsm1 _ (by rw [mc_len] at hj; omega))
        have hin1 := World.cell?_setCells_in g ((L.flatMap mc).drop (i * 4)) ((i + 1) * 4) w.drew (fun j hj => hsm _ (by rw [hdl] at hj; omega))
        refine ⟨_, rfl, ?_, ⟨o2.os.trans o1.os, o2.tape.trans o1.tape, o2.output.trans o1.output, by rw [o2.size, o1.size]; exact Nat.le_refl _, fun k _ hk => (o2.block k (fun e => hk (by rw [e]; rfl))).trans (o1.block k (fun e => hk (by rw [e]; rfl)))⟩, .inl rfl⟩
        rw [← putAt_len (x := x) hi]
        refine own_of_cells hbg k2 (by rw [s2, s1]; exact hcs) (by rw [putAt_len hi]; exact hroom) hcm hbd ?_
        rw [mf_put L i x hi]
        refine lay3 (mc_len x) hcl hi (fun j v hj hv => ?_) (fun j v hj => ?_) (fun j v hj => ?_)
        · rw [World.cell?_setCells_out g _ _ _ ⟨g, j, none⟩ (fun _ _ => .inl hj), World.cell?_setCells_out g _ _ _ ⟨g, j, none⟩ (fun _ _ => .inl (by show j < (i + 1) * 4; omega))]
          exact hcc j v hv
        · obtain ⟨h1, h2⟩ := List.getElem?_eq_some_iff.1 hj
          rw [hin j h1, h2]
        · obtain ⟨h1, h2⟩ := List.getElem?_eq_some_iff.1 hj
          rw [World.cell?_setCells_out g _ _ _ ⟨g, (i + 1) * 4 + j, none⟩ (fun _ _ => .inr (by rw [mc_len]; show i * 4 + 4 ≤ (i + 1) * 4 + j; omega)), hin1 j h1, h2]
      · refine (insertM_grow vb vc g L.length sc i (L.flatMap mc) (mc x) w hi2 hnc (by omega) hn hcl rfl hglt hvlt hcc hvs (mf_one L) (mc_one x)).mono ?_
        rintro e w' ⟨G, ROW, hG1, hG2, hR1, hR2, rfl, rfl⟩
        have k0 : (w.drew.alloc (.cells ROW 52)).heap[w.heap.size]? = some (.cells ROW 52 (0, 0)) := heap_alloc_new w.drew _
        obtain ⟨c1, k1, s1⟩ := setCells_heap w.heap.size 52 (mc x) (i * 4) (w.drew.alloc (.cells ROW 52)) ROW k0
        obtain ⟨c2, k2, s2⟩ := setCells_heap w.heap.size 52 ((L.flatMap mc).drop (i * 4)) ((i + 1) * 4) ((w.drew.alloc (.cells ROW 52)).setCells w.heap.size (i * 4) (mc x)).drew c1 k1
        have o1 := setCells_others w.heap.size (mc x) (i * 4) (w.drew.alloc (.cells ROW 52))
        have o2 := setCells_others w.heap.size ((L.flatMap mc).drop (i * 4)) ((i + 1) * 4) ((w.drew.alloc (.cells ROW 52)).setCells w.heap.size (i * 4) (mc x)).drew
        have hB : Below w.heap.size w (w.drew.alloc (.cells ROW 52)) := (Below.refl _ w).drew.alloc (Nat.le_refl _) _
        have hsm0 : ∀ j, j < ROW.size → ((w.drew.alloc (.cells ROW 52)).cell? ⟨w.heap.size, j, none⟩) = ROW[j]? := fun j hj => by simp only [World.cell?, k0]; rfl
        have hsm1 : ∀ j, j < ROW.size → (((w.drew.alloc (.cells ROW 52)).setCells w.heap.size (i * 4) (mc x)).drew.cell? ⟨w.heap.size, j, none⟩).isSome = true := fun j hj => by
          show (((w.drew.alloc (.cells ROW 52)).setCells w.heap.size (i * 4) (mc x)).cell? ⟨w.heap.size, j, none⟩).isSome = true
          simp [World.cell?, k1, s1, hj]
        have hin := World.cell?_setCells_in w.heap.size (mc x) (i * 4) (w.drew.alloc (.cells ROW 52)) (fun j hj => by rw [mc_len] at hj; rw [hsm0 _ (by omega), Array.getElem?_eq_getElem (by omega)]; rfl)
        have hin1 := World.cell?_setCells_in w.heap.size ((L.flatMap mc).drop (i * 4)) ((i + 1) * 4) ((w.drew.alloc (.cells ROW 52)).setCells w.heap.size (i * 4) (mc x)).drew (fun j hj => hsm1 _ (by rw [hdl] at hj; omega))
        refine ⟨_, rfl, ?_, ⟨o2.os.trans (o1.os.trans hB.os), o2.tape.trans (o1.tape.trans hB.tape), o2.output.trans (o1.output.trans hB.output), by rw [o2.size]; show _ ≤ ((w.drew.alloc (.cells ROW 52)).setCells w.heap.size (i * 4) (mc x)).heap.size; rw [o1.size]; exact hB.size, fun k hk _ => (o2.block k (by omega)).trans ((o1.block k (by omega)).trans (hB.block k hk))⟩, .inr rfl⟩
        rw [← putAt_len (x := x) hi]
        refine own_of_cells hb k2 (by rw [s2, s1]; exact hR1) (by rw [putAt_len hi]; exact hG1) hG2 hbd ?_
        rw [mf_put L i x hi]
        refine lay3 (mc_len x) hcl hi (fun j v hj hv => ?_) (fun j v hj => ?_) (fun j v hj => ?_)
        · rw [World.cell?_setCells_out w.heap.size _ _ _ ⟨w.heap.size, j, none⟩ (fun _ _ => .inl (by show j < (i + 1) * 4; omega))]
          show ((w.drew.alloc (.cells ROW 52)).setCells w.heap.size (i * 4) (mc x)).cell? ⟨w.heap.size, j, none⟩ = some v
          rw [World.cell?_setCells_out w.heap.size _ _ _ ⟨w.heap.size, j, none⟩ (fun _ _ => .inl hj), hsm0 j (by omega), hR2 j hj]
          exact hv
        · obtain ⟨h1, h2⟩ := List.getElem?_eq_some_iff.1 hj
          rw [World.cell?_setCells_out w.heap.size _ _ _ ⟨w.heap.size, i * 4 + j, none⟩ (fun _ _ => .inl (by rw [mc_len] at h1; show i * 4 + j < (i + 1) * 4; omega))]
          show ((w.drew.alloc (.cells ROW 52)).setCells w.heap.size (i * 4) (mc x)).cell? ⟨w.heap.size, i * 4 + j, none⟩ = some v
          rw [hin j h1, h2]
        · obtain ⟨h1, h2⟩ := List.getElem?_eq_some_iff.1 hj
          rw [hin1 j h1, h2]
end Go.Proofs.Ytagkhohglpjjlaa
namespace Go.Proofs.Ytagkhohglpjjlaa
open Go.RowKit
set_option linter.unusedSimpArgs false
set_option linter.unusedVariables false

/-- A level with one put into its place. -/
def plP (L : List Met) (k : Nat) (x : Met) : List Met := putAt L (if 0 < k then plc L x.least else L.length) x
theorem plP_len (L : List Met) (k : Nat) (x : Met) : (plP L k x).length = L.length + 1 := by
  unfold plP
  rw [putAt_len]
  split
  · exact plc_le L x.least
  · exact Nat.le_refl _
/-- One of the levels is replaced by what Insert gave. -/
theorem Lv.swap {w w' : World} {base g N k : Nat} {V : Nat → Value} {LL : Nat → List Met} {v : Value} {L : List Met} (h : Lv w base g N V LL) (hk : k < N) (hgr : w.grownBy w' (V k).ownBlock) (ho : OwnM w' base v L) (hv : v.ownBlock = (V k).ownBlock ∨ v.ownBlock = some w.heap.size) :
    Lv (w'.setCell ⟨g, k, none⟩ v) base g N (fun i => if i = k then v else V i) (fun i => if i = k then L else LL i) := by
  have hgb : w'.heap[g]? = w.heap[g]? := hgr.block g h.lt (fun e => h.apart k hk e.symm)
  have hoth : Others g w' (w'.setCell ⟨g, k, none⟩ v) := Others.setCell _ _ _ _
  have hck : w'.cell? ⟨g, k, none⟩ = some (V k) := (World.cell?_of_block (w := w) (w' := w') (a := ⟨g, k, none⟩) hgb).trans (h.cell k hk)
  have hsame : (w'.setCell ⟨g, k, none⟩ v).cell? ⟨g, k, none⟩ = some v := World.cell?_setCell_same _ _ _ hck
  have hother : ∀ j, j ≠ k → (w'.setCell ⟨g, k, none⟩ v).cell? ⟨g, j, none⟩ = w'.cell? ⟨g, j, none⟩ := fun j hj => World.cell?_setCell_other _ _ _ _ (by intro hh; injection hh with _ h2 _; omega)
  have hvg : v.ownBlock ≠ some g := by
    rcases hv with e | e
    · rw [e]; exact h.apart k hk
    · rw [e]; intro e; injection e with e; have := h.lt; omega
  refine ⟨by rw [hoth.size]; exact Nat.lt_of_lt_of_le h.lt hgr.size, h.bs, fun i hi => ?_, fun i hi => ?_, fun i hi => ?_, fun i j hi hj hij c hc => ?_, fun j hj => ?_⟩
  · by_cases e : i = k
    · subst e; simp only [if_true]; exact hsame
    · simp only [e, if_false]
      rw [hother i e]
      exact (World.cell?_of_block (w := w) (w' := w') (a := ⟨g, i, none⟩) hgb).trans (h.cell i hi)
  · by_cases e : i = k
    · subst e; simp only [if_true]
      exact ho.same fun c hc => hoth.block c (fun e => hvg (by rw [hc, e]))
    · simp only [e, if_false]
      refine (h.own i hi).same fun c hc => ?_
      have hcg : c ≠ g := fun e2 => h.apart i hi (by rw [hc, e2])
      have hcl := ((h.own i hi).own.lt c hc).2
      exact (hoth.block c hcg).trans (hgr.block c hcl (fun e2 => h.dis i k hi hk e c hc e2.symm))
  · by_cases e : i = k
    · subst e; simp only [if_true]; exact hvg
    · simp only [e, if_false]; exact h.apart i hi
  · have key : ∀ i, i < N → i ≠ k → ∀ c, (V i).ownBlock = some c → v.ownBlock ≠ some c := fun i hi e c hc e2 => by
      rcases hv with e3 | e3
      · exact h.dis i k hi hk e c hc (e3.symm.trans e2)
      · rw [e3] at e2
        injection e2 with e2
        have := ((h.own i hi).own.lt c hc).2
        omega
    by_cases e : i = k
    · have e2 : j ≠ k := fun e2 => hij (e.trans e2.symm)
      simp only [e, if_true] at hc
      simp only [e2, if_false]
      exact fun h2 => key j hj e2 c h2 hc
    · simp only [e, if_false] at hc
      by_cases e2 : j = k
      · simp only [e2, if_true]; exact key i hi e c hc
      · simp only [e2, if_false]; exact h.dis i j hi hj hij c hc
  · have := (World.frozen?_of_block (w := w) (w' := w') (a := ⟨g, j, none⟩) hgb).trans (h.free j hj)
    simpa using this

/-- The call of Insert, as one step of a statement whose order is open. -/
theorem step_ins {w : World} {ops : Array Oper} {o : Oper} {a : Act} {K : Act → World → Prop} {Q : Exit → Act → World → Prop} {E : Prop} (hgd : o.guard = none)
    (ho : o.op = .call { callee := .value (.func 40), args := #[.tmp 32, .tmp 33, .tmp 36], argTypes := #[71, 3, 71] }) (v1 v2 v3 : Value) (h1 : a.eval (.tmp 32) = v1) (h2 : a.eval (.tmp 33) = v2) (h3 : a.eval (.tmp 36) = v3) (base : Nat) (L : List Met) (i : Nat) (x : Met)
    (hc : Calls Try.prog 40 #[v1, v2, v3] w fun e w' => InsO w base v1 L i x e w')
    (h : ∀ (v' : Value) (w' : World), OwnM w' base v' (putAt L i x) → w.grownBy w' v1.ownBlock → (v'.ownBlock = v1.ownBlock ∨ v'.ownBlock = some w.heap.size) → K (a.put o.dst v') w') :
    if Region.wanted o (yielded ops a.tmps) = true then Oper.wp Try.prog o a w K Q else E := by
  have hw : Region.wanted o (yielded ops a.tmps) = true := by simp [Region.wanted, hgd]
  rw [if_pos hw]
  have g1 : a.tmps.getD 32 undef = v1 := h1
  have g2 : a.tmps.getD 33 undef = v2 := h2
  have g3 : a.tmps.getD 36 undef = v3 := h3
  unfold Oper.wp execOp
  simp only [ho, resolve, Act.eval, g1, g2, g3]
  go_simp
  refine hc.mono ?_
  rintro e w' ⟨v', rfl, k1, k2, k3⟩
  exact h v' w' k1 k2 k3

/-- What put does. -/
def PutO (w : World) (base db g N : Nat) (nx lg sq : Int) (fl : Bool) (LL : Nat → List Met) (k : Nat) (x : Met) (w' : World) : Prop :=
  ∃ V', Below base w w' ∧ (∀ i, i < N → (V' i).ownBlock ≠ some db) ∧ Lv w' base g N V' (fun j => if j = k then plP (LL k) k x else LL j) ∧ DX w' db nx lg sq (some ⟨g, 0, none⟩) N N fl

set_option maxRecDepth 100000 in
set_option maxHeartbeats 3200000 in
theorem put_any (base db g N : Nat) (nx lg sq : Int) (fl : Bool) (V : Nat → Value) (LL : Nat → List Met) (k : Nat) (x : Met) (w : World) (hL : Lv w base g N V LL) (hD : DX w db nx lg sq (some ⟨g, 0, none⟩) N N fl) (hdb : base ≤ db) (hgd : g ≠ db) (hvd : ∀ i, i < N → (V i).ownBlock ≠ some db) (hN : N ≤ 1048576) (hM : (LL k).length ≤ 1000000) (hk : k < N) (hx : MB x) :
    Calls Try.prog 16 #[.pointer (some ⟨db, 0, none⟩), .agg #[.int .i64 (k : Int), .int .i64 x.file, .string x.least, .string x.most, .int .i64 x.many]] w fun e w' => e = .returned (.tuple #[]) ∧ PutO w base db g N nx lg sq fl LL k x w' := by
  have HVD : Hid (∀ i, i < N → (V i).ownBlock ≠ some db) := hvd
  clear hvd
  have bn0 := below_new w (.cells #[.int .i64 (k : Int), .int .i64 x.file, .string x.least, .string x.most, .int .i64 x.many] 54)
  have A0 := DAt.new w ⟨(k : Int), x⟩ 54
  have L0 := hL.keep bn0
  have D0 := hD.keep bn0
  have hwb : base ≤ w.heap.size := by have := hL.bs; have := hL.lt; omega
  have s0 : w.heap.size < (w.alloc (.cells #[.int .i64 (k : Int), .int .i64 x.file, .string x.least, .string x.most, .int .i64 x.many] 54)).heap.size := by simp
  have HPV : Hid (∀ c, (V k).ownBlock = some c → c < w.heap.size) := fun c hc => ((hL.own k hk).own.lt c hc).2
  go_enter Try.func16, Try.ntmps16
  go_upto_region 1 with fail
  generalize w.alloc (.cells #[.int .i64 (k : Int), .int .i64 x.file, .string x.least, .string x.most, .int .i64 x.many] 54) = w0 at *
  obtain ⟨so, sc, eV, _⟩ := (L0.own k hk).form
  have d3 := D0.c3
  have gc := L0.cell k hk
  rw [eV] at gc
  obtain ⟨_, a0, a1, a2, a3, a4⟩ := id A0
  simp only [Nat.zero_add] at a0 a1 a2 a3 a4
  go_region
  have bd := (Below.refl w0.heap.size w0).drew
  have L1 := L0.keep bd
  have D1 := D0.keep bd
  have A1 := A0.keep bd
  have bw1 := bn0.trans (bd.mono bn0.size)
  clear bd L0 D0 A0 a0 a1 a2 a3 a4 d3 gc
  obtain ⟨w1, ew1⟩ : ∃ w1, w0.drew = w1 := ⟨_, rfl⟩
  rw [ew1] at L1 D1 A1 bw1 ⊢
  clear ew1
  obtain ⟨ix, hix⟩ : ∃ ix, (if 0 < k then plc (LL k) x.least else (LL k).length) = ix := ⟨_, rfl⟩
  have hixl : ix ≤ (LL k).length := by
    rw [← hix]
    split
    · exact plc_le _ _
    · exact Nat.le_refl _
  have HIX : Hid ((if 0 < k then plc (LL k) x.least else (LL k).length) = ix) := hix
  clear hix
  have hok1 := L1.own k hk
  rw [eV] at hok1
  have hrow1 := hok1.row
  obtain ⟨_, a0, a1, a2, a3, a4⟩ := id A1
  simp only [Nat.zero_add] at a0 a1 a2 a3 a4
  go_upto_if 19 with fail
  go_cut [5] from 19 (fun s5 wx => s5 = .int .i64 (ix : Int) ∧ Below w1.heap.size w1 wx)
  case first =>
    by_cases hk0 : 0 < k
    · have HI : Hid (plc (LL k) x.least = ix) := by have := HIX.out; rw [if_pos hk0] at this; exact this
      have hki : (0 : Int) < (k : Int) := by omega
      go_wp2_with fail
      refine (placeByLeast_any so sc (LL k) x.least w1 hrow1 (by omega)).mono ?_
      rintro e w2 ⟨rfl, hb2⟩
      go_wp2
      go_meet
      case rel => exact ⟨by rw [HI.out], hb2⟩
    · have HI : Hid ((LL k).length = ix) := by have := HIX.out; rw [if_neg hk0] at this; exact this
      have hki : ¬ (0 : Int) < (k : Int) := by omega
      go_wp2
      go_meet
      case rel => exact ⟨by rw [HI.out], Below.refl _ _⟩
  case rest =>
    obtain ⟨rfl, hb2⟩ := hcut
    generalize wc = w2 at *
    have L2 := L1.keep hb2
    have D2 := D1.keep hb2
    have A2 := A1.keep hb2
    have bw2 := bw1.trans (hb2.mono bw1.size)
    have sw2 := bw2.size
    have sP : w.heap.size < w2.heap.size := A2.lt
    clear L1 D1 A1 bw1 hb2 hok1 hrow1 a0 a1 a2 a3 a4 bn0
    have bd := (Below.refl w2.heap.size w2).drew
    have L3 := L2.keep bd
    have D3 := D2.keep bd
    have A3 := A2.keep bd
    have bw3 := bw2.trans (bd.mono bw2.size)
    have bn := below_new w2.drew (.cells #[.int .i64 x.file, .string x.least, .string x.most, .int .i64 x.many] 52)
    have L4 := L3.keep bn
    have D4 := D3.keep bn
    have A4 := A3.keep bn
    have bw4 := bw3.trans (bn.mono bw3.size)
    have O4 := L4.own k hk
    rw [eV] at O4
    have hvb : (w2.drew.alloc (.cells #[.int .i64 x.file, .string x.least, .string x.most, .int .i64 x.many] 52)).heap[w2.heap.size]? = some (.cells #[.int .i64 x.file, .string x.least, .string x.most, .int .i64 x.many] 52 (0, 0)) := heap_alloc_new w2.drew _
    have s4 : (w2.drew.alloc (.cells #[.int .i64 x.file, .string x.least, .string x.most, .int .i64 x.many] 52)).heap.size = w2.heap.size + 1 := by simp
    have hcall := insertM_any base w2.heap.size 1 so sc (LL k) ix x _ O4 hvb hx (fun c hc => by have := HPV.out c (by rw [eV]; exact hc); omega) hixl (by omega) (by omega)
    have hda : w2.drew.alloc (.cells #[.int .i64 x.file, .string x.least, .string x.most, .int .i64 x.many] 52) = (w2.alloc (.cells #[.int .i64 x.file, .string x.least, .string x.most, .int .i64 x.many] 52)).drew := rfl
    rw [hda] at hcall L4 D4 A4 O4 bw4 s4
    clear hda hvb
    obtain ⟨_, a0, a1, a2, a3, a4⟩ := id A3
    simp only [Nat.zero_add] at a0 a1 a2 a3 a4
    have d3 := D3.c3
    obtain ⟨_, e0, _, _, _, _⟩ := id A4
    have f3 := D4.c3
    have hkN : (k : Int) < (N : Int) := by omega
    have HT : Hid (plP (LL k) k x = putAt (LL k) ix x) := by unfold Hid plP; rw [HIX.out]
    have hlen : (putAt (LL k) ix x).length = (LL k).length + 1 := putAt_len hixl
    have Hlen : Hid ((putAt (LL k) ix x).length = (LL k).length + 1) := hlen
    clear hlen HIX A2 D2 L2 bw2 A3 D3 L3 bw3 bn bd
    have HK : Hid (∀ (v5 : Value) (w5 : World), OwnM w5 base v5 (putAt (LL k) ix x) → (w2.alloc (.cells #[.int .i64 x.file, .string x.least, .string x.most, .int .i64 x.many] 52)).drew.grownBy w5 (Value.slice so (LL k).length sc).ownBlock → (v5.ownBlock = (Value.slice so (LL k).length sc).ownBlock ∨ v5.ownBlock = some (w2.alloc (.cells #[.int .i64 x.file, .string x.least, .string x.most, .int .i64 x.many] 52)).drew.heap.size) →
        ∃ vo vc, v5 = .slice vo (putAt (LL k) ix x).length vc ∧ w5.cell? ⟨db, 3, none⟩ = some (.slice (some ⟨g, 0, none⟩) N N) ∧ w5.cell? ⟨w.heap.size, 0, none⟩ = some (.int .i64 (k : Int)) ∧ w5.cell? ⟨g, k, none⟩ = some (.slice so (LL k).length sc) ∧ w5.frozen? ⟨g, k, none⟩ = false ∧
          Hid (PutO w base db g N nx lg sq fl LL k x (w5.setCell ⟨g, k, none⟩ (.slice vo (putAt (LL k) ix x).length vc)))) := fun v5 w5 O5 G5 H5 => by
      obtain ⟨vo, vc, rfl, _⟩ := O5.form
      have D5 := D4.same G5.size (G5.block db D4.lt (fun e => HVD.out k hk (by rw [eV]; exact e.symm)))
      have A5 := A4.move (Nat.lt_of_lt_of_le A4.lt G5.size) (fun j => World.cell?_of_block (a := ⟨w.heap.size, j, none⟩) (G5.block w.heap.size A4.lt (fun e => by have := HPV.out w.heap.size (by rw [eV]; exact e.symm); omega)))
      have hgb := G5.block g L4.lt (fun e => L4.apart k hk (by rw [eV]; exact e.symm))
      have hG6 : (w2.alloc (.cells #[.int .i64 x.file, .string x.least, .string x.most, .int .i64 x.many] 52)).drew.grownBy w5 (V k).ownBlock := by rw [eV]; exact G5
      have hH6 : (Value.slice vo (putAt (LL k) ix x).length vc).ownBlock = (V k).ownBlock ∨ (Value.slice vo (putAt (LL k) ix x).length vc).ownBlock = some (w2.alloc (.cells #[.int .i64 x.file, .string x.least, .string x.most, .int .i64 x.many] 52)).drew.heap.size := by rw [eV]; exact H5
      have h6 := L4.swap hk hG6 O5 hH6
      have h7 := h6.congr (V' := V) (LL' := fun j => if j = k then plP (LL k) k x else LL j) (fun i hi => by
        by_cases e : i = k
        · simp only [e, if_true]; exact HT.out.symm
        · simp only [e, if_false])
      refine ⟨vo, vc, rfl, D5.c3, A5.c0, (World.cell?_of_block (a := ⟨g, k, none⟩) hgb).trans ((L4.cell k hk).trans (by rw [eV])), (World.frozen?_of_block (a := ⟨g, k, none⟩) hgb).trans (L4.free k hk), ⟨_, ((bw4.mono hwb).grown G5 (by omega) (fun c hc => (O4.own.lt c hc).1)).setCell (p := ⟨g, k, none⟩) L4.bs _, fun i hi => ?_, h7, D5.same (by simp) ((Others.setCell w5 g k _).block db (Ne.symm hgd))⟩⟩
      by_cases e : i = k
      · simp only [e, if_true]
        rcases hH6 with e2 | e2
        · rw [e2]; exact HVD.out k hk
        · rw [e2]
          intro e3
          injection e3 with e3
          have := hD.lt
          omega
      · simp only [e, if_false]
        exact HVD.out i hi
    clear A4 D4 L4 bw4 O4 HT hD hL HVD HPV
    go_upto_region 5 with fail
    go_region_law (first | (refine step_ins (by rfl) (by rfl) (.slice so (LL k).length sc) (.int .i64 (ix : Int)) (.slice (some ⟨w2.heap.size, 0, none⟩) 1 1) (by simp [Act.eval, Act.put]) (by simp [Act.eval, Act.put]) (by simp [Act.eval, Act.put]) base (LL k) ix x hcall ?_; intro v5 w5 O5 G5 H5; obtain ⟨vo, vc, rfl, g3, g0, gk, gf, HF⟩ := HK.out v5 w5 O5 G5 H5; clear O5 G5 H5) | fail)
    all_goals
      go_wp2
      refine bodyPost_end (v := .tuple #[]) (by simp [results, Try.results16]) rfl ⟨rfl, HF.out⟩
end Go.Proofs.Ytagkhohglpjjlaa
