/- LastTold in the model: the walk. -/
import Derived.Test.YtjdijikmdlklkaaZk
import Derived.BigQuiet
namespace Go.Proofs.Ytjdijikmdlklkaa
open Go.RowKit
set_option linter.unusedSimpArgs false
set_option linter.unusedVariables false

/-- The answer of the model, by whether all keys are good. -/
def LmEnd (n : Nat) (X : Nat → Wn) (w : World) (e : Ending) (w' : World) : Prop :=
  ((∃ i, i < n ∧ gK (X i) = false) ∧ LtNo w e w') ∨ ((∀ i, i < n → gK (X i) = true) ∧ LmYes n X w e w')

/-- Whether the place is not reached yet. -/
def LtB (X : Nat → Wn) (z : Nat → Nat) (m k q : Nat) (b : Bool) : Prop := b = true ↔ (q < m ∧ ltL (kx X (z q)) (kx X k))
/-- Whether the key is there. -/
def EqB (X : Nat → Wn) (z : Nat → Nat) (m k q : Nat) (b : Bool) : Prop := b = true ↔ (q < m ∧ kx X (z q) = kx X k)
set_option maxRecDepth 100000 in
set_option maxHeartbeats 16000000 in
theorem lastTold_spec (b n : Nat) (X : Nat → Wn) (G0 G1 : Nat → Nat) (w : World) (h : ToOwn w b n n X G0 G1) (hn : n ≤ 200) (hz : ToSize n X) (hbd : Hid (∀ i, i < n → TlB (X i))) :
    Calls Try.prog 5 #[.slice (some ⟨b, 0, none⟩) n n] w fun e w' => LmEnd n X w e w' := by
  have hgt : ¬ (200 : Int) < (n : Int) := by omega
  go_enter Try.func5, Try.ntmps5
  go_wp2
  go_loopw [4, 14] (fun v i wr => ∃ (k m : Nat) (z : Nat → Nat) (A0 A1 : Nat → Option Addr) (K0 K1 : Nat → Nat), i = .int .i64 k ∧ k ≤ n ∧ m ≤ k ∧ Hid (∀ j, j < k → gK (X j) = true) ∧ Hid (Fin' X k z m) ∧ KeptA wr w.heap.size v m k X z A0 A1 K0 K1 ∧ Below w.heap.size w wr) (fun _ i _ => n - (intOf i).toNat)
  case atStart => exact ⟨0, 0, fun j => j, fun _ => none, fun _ => none, fun _ => 0, fun _ => 0, rfl, Nat.zero_le _, Nat.le_refl _, fun j hj => by omega, Fin'.start _ _, .inl ⟨rfl, rfl, rfl⟩, Below.refl _ _⟩
  case round =>
    obtain ⟨k, m, z, A0, A1, K0, K1, rfl, hk, hmk, HG, HF, hKp, hb⟩ := hrel
    obtain ⟨va, vc, rfl⟩ := hKp.form
    by_cases hlt : k < n
    · have hR := h.keep hb
      obtain ⟨hbl, d0, d1, d2, d3, d4, d5, d6, d7, d8, d9⟩ := hR.ent k hlt
      obtain ⟨_, o0, o1, _⟩ := hR.data k hlt
      have r0 := o0.row
      have r1 := o1.row
      have hS : WiS (X k) := hz k hlt
      have hki : (k : Int) < (n : Int) := by omega
      have hc := fun W h => goodKey_spec (X k).m (X k).st (some ⟨G0 k, 0, none⟩) (X k).tn (X k).tn (X k).nm (X k).vl W h hS.m hS.tn hS.ts
      have e0 : goodB (X k).m (X k).tn (X k).nm (X k).vl (X k).st = gK (X k) := rfl
      rw [e0] at hc
      generalize hg : gK (X k) = g at hc
      have HGK : Hid (gK (X k) = g) := hg
      have hbs := hb.size
      have hB1 := below_new wr (.cells #[.string (X k).m, .slice (some ⟨G0 k, 0, none⟩) (X k).tn (X k).tn, .int .i64 (X k).st, .int .i64 (X k).ver, .int .i64 (X k).c, .int .i64 (X k).s, .int .i64 (X k).lo, .int .i64 (X k).hi, .slice (some ⟨G1 k, 0, none⟩) (X k).n (X k).n, .bool (X k).fu] 45)
      have hN1 := ToAt.new wr (X k) (some ⟨G0 k, 0, none⟩) (some ⟨G1 k, 0, none⟩) (X k).tn (X k).n 45
      have k1 := hc _ (r0.keep hB1)
      clear hg e0 o0 o1 hR hc
      go_wp2_with fail
      refine k1.mono ?_
      rintro e w2 ⟨rfl, hb2⟩
      have hbw2 : Below wr.heap.size wr w2 := hB1.trans (hb2.mono (by simp))
      have hN2 := hN1.keep hb2
      have s2 : wr.heap.size + 1 ≤ w2.heap.size := by have := hb2.size; simpa using this
      have fz2 : ∀ j, w2.frozen? ⟨wr.heap.size, j, none⟩ = false := fun j => (hb2.frozen (p := ⟨wr.heap.size, j, none⟩) (by simp)).trans (by simp [go_sem])
      clear k1 hb2 d0 d1 d2 d3 d4 d5 d6 d7 d8 d9 hB1 hN1
      cases g
      · have HE : Hid (∃ i, i < n ∧ gK (X i) = false) := ⟨k, hlt, HGK.out⟩
        have bw2 : Below w.heap.size w w2 := hb.trans (hbw2.mono hbs)
        clear hKp HG HF r0 r1 hN2
        go_wp2
        exact bodyPost_ret (v := .tuple #[.slice none 0 0, .bool false]) (by simp [results, Try.results5, go_sem]) rfl (.inl ⟨HE.out, rfl, bw2⟩)
      · obtain ⟨_, d0, d1, d2, d3, d4, d5, d6, d7, d8, d9⟩ := id hN2
        simp only [Nat.zero_add] at d1 d2 d3 d4 d5 d6 d7 d8 d9
        have k2 := l11OwnKey_any (X k).m (X k).st (some ⟨G0 k, 0, none⟩) (X k).tn (X k).tn (X k).nm (X k).vl w2 (r0.keep hbw2) hS.tn
        go_wp2_with fail
        refine k2.mono ?_
        clear k2
        rintro e w3 ⟨hv0, rfl, T0, q3⟩
        obtain ⟨ha0, hc0, rfl⟩ := ownsRow_form T0
        have hN3 := hN2.keep q3
        have fz3 : ∀ j, w3.frozen? ⟨wr.heap.size, j, none⟩ = false := fun j => (q3.frozen (p := ⟨wr.heap.size, j, none⟩) (by show wr.heap.size < w2.heap.size; omega)).trans (fz2 j)
        have hbw3 : Below wr.heap.size wr w3 := hbw2.trans (q3.mono (by omega))
        have s3 := q3.size
        clear d0 d1 d2 d3 d4 d5 d6 d7 d8 d9
        obtain ⟨_, d0, d1, d2, d3, d4, d5, d6, d7, d8, d9⟩ := id hN3
        simp only [Nat.zero_add] at d1 d2 d3 d4 d5 d6 d7 d8 d9
        obtain ⟨W4, hW4⟩ : ∃ W4, W4 = ((w3.setCell ⟨wr.heap.size, 0, none⟩ (.string (X k).m)).setCell ⟨wr.heap.size, 1, none⟩ (.slice ha0 (X k).tn hc0)).setCell ⟨wr.heap.size, 2, none⟩ (.int .i64 (X k).st) := ⟨_, rfl⟩
        go_upto_region 10 with fail
        rw [← hW4]
        have ho4 : Others wr.heap.size w3 W4 := by rw [hW4]; exact ((Others.setCell _ _ _ _).trans (Others.setCell _ _ _ _)).trans (Others.setCell _ _ _ _)
        have hN4 : ToAt W4 wr.heap.size 0 (X k) ha0 (some ⟨G1 k, 0, none⟩) hc0 (X k).n := by
          refine ⟨by rw [ho4.size]; exact hN3.lt, ?_, ?_, ?_, ?_, ?_, ?_, ?_, ?_, ?_, ?_⟩ <;> rw [hW4] <;> simp [go_sem, d0, d1, d2, d3, d4, d5, d6, d7, d8, d9]
        have fz4 : ∀ j, W4.frozen? ⟨wr.heap.size, j, none⟩ = false := fun j => by rw [hW4]; simp only [World.frozen?_setCell]; exact fz3 j
        have hbw4 : Below wr.heap.size wr W4 := hbw3.trans ⟨ho4.os, ho4.tape, ho4.output, by rw [ho4.size]; exact Nat.le_refl _, fun i hi => ho4.block i (by omega)⟩
        have S4 : Hid (W4.heap.size = w3.heap.size) := ho4.size
        have T4 : TV W4 w2.heap.size (.slice ha0 (X k).tn hc0) (X k) := ownsRow_others T0 ho4 (fun hk => by have := (T0.lt _ hk).1; omega)
        clear hW4 d0 d1 d2 d3 d4 d5 d6 d7 d8 d9 hN3 hN2 fz2 fz3 T0 ho4
        obtain ⟨_, d0, d1, d2, d3, d4, d5, d6, d7, d8, d9⟩ := id hN4
        simp only [Nat.zero_add] at d1 d2 d3 d4 d5 d6 d7 d8 d9
        have hlt4 : wr.heap.size < W4.heap.size := hN4.lt
        have hne4 : ¬ wr.heap.size = W4.heap.size := by omega
        have hne5 : ¬ W4.heap.size = wr.heap.size := by omega
        have r4 := fun o => (r1.keep hbw4).keep (below_new W4 o)
        go_wp2_with (at_builtin; refine wpList_copyI rfl _ _ rfl W4.heap.size (.slice (some ⟨W4.heap.size, 0, none⟩) 0 0) rfl (empty_own2 _ _ _ _ (Nat.le_refl _) _ rfl) (some ⟨G1 k, 0, none⟩) (X k).n (X k).n (X k).f rfl (r4 _) hS.n (by simp) ?_; intro hv w5 hown hg; obtain ⟨ha1, hc1, rfl⟩ := ownsRow_form hown; have hb5 := (below_new W4 _).trans ((grown_old (B := W4.heap.size) hg (Nat.le_refl _) (by simp)).mono (Nat.le_refl _)); have f5 := fun j => (hb5.frozen (p := ⟨wr.heap.size, j, none⟩) hN4.lt).trans (fz4 j); have x8 := (hb5.cell (p := ⟨wr.heap.size, 8, none⟩) hN4.lt).trans d8)
        obtain ⟨wo, hwo⟩ : ∃ u, u = wr := ⟨_, rfl⟩
        subst hwo
        obtain ⟨bx, hbx⟩ : ∃ u, u = wo.heap.size := ⟨_, rfl⟩
        obtain ⟨W6, hW6⟩ : ∃ u, u = w5.setCell ⟨wo.heap.size, 8, none⟩ (.slice ha1 (X k).n hc1) := ⟨_, rfl⟩
        rw [← hW6]
        have hN5 := hN4.keep hb5
        have ho6 : Others wo.heap.size w5 W6 := by rw [hW6]; exact Others.setCell _ _ _ _
        have hN6 : ToAt W6 wo.heap.size 0 (X k) ha0 ha1 hc0 hc1 := by
          obtain ⟨l, e0, e1, e2, e3, e4, e5, e6, e7, e8, e9⟩ := hN5
          simp only [Nat.zero_add] at e1 e2 e3 e4 e5 e6 e7 e8 e9
          refine ⟨by rw [ho6.size]; exact l, ?_, ?_, ?_, ?_, ?_, ?_, ?_, ?_, ?_, ?_⟩ <;> rw [hW6] <;> simp [go_sem, e0, e1, e2, e3, e4, e5, e6, e7, e8, e9]
        have fz6 : ∀ j, W6.frozen? ⟨wo.heap.size, j, none⟩ = false := fun j => by rw [hW6]; simp only [World.frozen?_setCell]; exact f5 j
        have s5 := hb5.size
        have hbw6 : Below wo.heap.size wo W6 := (hbw4.trans (hb5.mono (by omega))).trans ⟨ho6.os, ho6.tape, ho6.output, by rw [ho6.size]; exact Nat.le_refl _, fun i hi => ho6.block i (by omega)⟩
        have T6 : TV W6 w2.heap.size (.slice ha0 (X k).tn hc0) (X k) := ownsRow_others (ownsRow_keep T4 hb5) ho6 (fun hk => by have := (T4.lt _ hk).1; omega)
        have H6 : HV W6 w2.heap.size (.slice ha1 (X k).n hc1) (X k) := ownsRow_others (ownsRow_mono hown (by have := S4.out; omega)) ho6 (fun hk => by have := (hown.lt _ hk).1; omega)
        have hFarN : ∀ g, g < wo.heap.size ∨ W6.heap.size ≤ g → Far W6 g (X k) ha0 ha1 := fun g hg => far_new (hg.imp (fun h => by omega) id) T6 H6 (r1.bd)
        have hFar6 : ∀ u, Below W6.heap.size W6 u → TRow u ha0 (X k).tn (X k).nm (X k).vl := fun u hu => (hFarN _ (.inr (Nat.le_refl _))).trow.keep hu
        have hKp6 := hKp.keep hbw6
        have hgl := hKp.lt
        have bw6 : Below w.heap.size w W6 := hb.trans (hbw6.mono hbs)
        have bw6s := bw6.size
        have hzk := HF.out.lt
        rw [← hbx] at hN6 fz6 hgl hFarN ⊢
        have HG2 : Hid (∀ j, j < k + 1 → gK (X j) = true) := fun j hj => by
          by_cases e : j = k
          · rw [e]; exact HGK.out
          · exact HG.out j (by omega)
        clear d0 d1 d2 d3 d4 d5 d6 d7 d8 d9 x8 f5 hb5 hown hg r4 hne4 hne5 hlt4 T4 S4 fz4 hN4 hN5 hbw4 hbw3 hbw2 q3 s2 s3 r0 r1 hW6 ho6 T6 H6 hKp s5 hbw6 hbx
        go_loopw [7] (fun i wx => ∃ q : Nat, i = .int .i64 q ∧ q ≤ m ∧ Hid (∀ j, j < q → ltL (kx X (z j)) (kx X k)) ∧ Below W6.heap.size W6 wx) (fun i _ => m - (intOf i).toNat)
        case atStart => exact ⟨0, rfl, Nat.zero_le _, fun j hj => by omega, Below.refl _ _⟩
        case round =>
          obtain ⟨q, rfl, hqm', HL, hbq⟩ := hrel
          obtain ⟨wi, hwi⟩ : ∃ u, u = wr := ⟨_, rfl⟩
          subst hwi
          go_upto_region 12 with fail
          go_cut [47] from 33 to 47 (fun s47 wx => ∃ bb : Bool, s47 = .bool bb ∧ Hid (LtB X z m k q bb) ∧ Below wi.heap.size wi wx)
          case first =>
            by_cases hqm : q < m
            ·
              have hki6 := hKp6.keep hbq
              obtain ⟨g, cap, ev, hm0, hmc, hbg, hAR, hFr⟩ := hki6.resolve_left (fun hh => by have := hh.2.1; omega)
              injection ev with ev1 ev2 ev3
              subst ev1 ev3
              have hqi : (q : Int) < (m : Int) := by omega
              have hq0 : (0 : Int) ≤ (q : Int) := by omega
              have hzq := HF.out.lt q hqm
              have hgz : gK (X (z q)) = true := HG.out (z q) hzq
              have hSz : WiS (X (z q)) := hz (z q) (by omega)
              have hFq := hFr (z q) hzq
              have hTq : ToAt wi.drew g (q * 10) (X (z q)) (A0 (z q)) (A1 (z q)) (K0 (z q)) (K1 (z q)) := toAt_of ((hAR.keep (Below.refl _ _).drew).at' q hqm) hAR.lt
              have hNb : ToAt wi.drew bx 0 (X k) ha0 ha1 hc0 hc1 := (hN6.keep hbq).keep (Below.refl _ _).drew
              have hFk := hFar6 wi hbq
              have hgl2 : g < wi.drew.heap.size := hTq.lt
              have hbl2 : bx < wi.drew.heap.size := hNb.lt
              have HSd := (⟨hTq.c0, hTq.c1, hTq.c2, hNb.c0, hNb.c1, hNb.c2⟩ : _ ∧ _ ∧ _ ∧ _ ∧ _ ∧ _)
              simp only [Nat.zero_add] at HSd
              obtain ⟨cc, hcc⟩ : ∃ cc, cc = kc (X (z q)) (X k) := ⟨_, rfl⟩
              have hcK := l1Compare_any (X (z q)).m (X k).m (X (z q)).st (X k).st (A0 (z q)) ha0 (X (z q)).tn (X k).tn (K0 (z q)) hc0 (X (z q)).nm (X (z q)).vl (X k).nm (X k).vl wi.drew (hFq.trow.keep (Below.refl _ _).drew) (hFk.keep (Below.refl _ _).drew) hSz.tn hS.tn (goodB_st hgz) (goodB_st HGK.out)
              have e0 : keyCmp (X (z q)).m (X k).m (X (z q)).st (X k).st (X (z q)).tn (X k).tn (X (z q)).nm (X (z q)).vl (X k).nm (X k).vl = cc := hcc.symm
              rw [e0] at hcK
              have HE : Hid (LtB X z m k q (decide (cc < 0))) := by
                unfold Hid LtB
                rw [decide_eq_true_eq, hcc, kc_iff hgz HGK.out]
                exact ⟨fun h => ⟨hqm, h⟩, fun h => h.2⟩
              clear hKp6 hki6 hFar6 hFarN hAR hFr hTq hNb hFq hFk hcc e0 HF HG HG2 hgl hN6 fz6 hz hS hSz hgz hbd h HL hzk
              refine wp_region_w (fun w' : World => w'.cell? ⟨g, q * 10, none⟩ = some (.string (X (z q)).m) ∧ w'.cell? ⟨g, q * 10 + 1, none⟩ = some (.slice (A0 (z q)) (X (z q)).tn (K0 (z q))) ∧ w'.cell? ⟨g, q * 10 + 2, none⟩ = some (.int .i64 (X (z q)).st) ∧ w'.cell? ⟨bx, 0, none⟩ = some (.string (X k).m) ∧ w'.cell? ⟨bx, 1, none⟩ = some (.slice ha0 (X k).tn hc0) ∧ w'.cell? ⟨bx, 2, none⟩ = some (.int .i64 (X k).st)) (fun _ => true) (by kernel_rfl) ?_
              change wpW _ _ _ _ _ _ 15 _ _ wi.drew
              have hS0 : (fun w' : World => w'.cell? ⟨g, q * 10, none⟩ = some (.string (X (z q)).m) ∧ w'.cell? ⟨g, q * 10 + 1, none⟩ = some (.slice (A0 (z q)) (X (z q)).tn (K0 (z q))) ∧ w'.cell? ⟨g, q * 10 + 2, none⟩ = some (.int .i64 (X (z q)).st) ∧ w'.cell? ⟨bx, 0, none⟩ = some (.string (X k).m) ∧ w'.cell? ⟨bx, 1, none⟩ = some (.slice ha0 (X k).tn hc0) ∧ w'.cell? ⟨bx, 2, none⟩ = some (.int .i64 (X k).st)) wi.drew := HSd
              refine wpW_take 0 _ (.int .i64 q) rfl (by kernel_rfl) (by kernel_rfl) (by kernel_rfl) (fun _ _ _ h => h) (by kernel_rfl) (.inl ⟨rfl, fun w' hS' => by go_simp⟩) hS0 ?_
              simp only [Act.put, List.getElem_toArray, List.getElem_cons_succ, List.getElem_cons_zero, List.setIfInBounds_toArray, List.set_cons_zero, List.set_cons_succ]
              refine wpW_take 1 _ (.slice (some ⟨g, 0, none⟩) m vc) rfl (by kernel_rfl) (by kernel_rfl) (by kernel_rfl) (fun _ _ _ h => h) (by kernel_rfl) (.inl ⟨rfl, fun w' hS' => by go_simp⟩) hS0 ?_
              simp only [Act.put, List.getElem_toArray, List.getElem_cons_succ, List.getElem_cons_zero, List.setIfInBounds_toArray, List.set_cons_zero, List.set_cons_succ]
              refine wpW_take 2 _ (.int .i64 m) rfl (by kernel_rfl) (by kernel_rfl) (by kernel_rfl) (fun _ _ _ h => h) (by kernel_rfl) (.inl ⟨rfl, fun w' hS' => by go_simp⟩) hS0 ?_
              simp only [Act.put, List.getElem_toArray, List.getElem_cons_succ, List.getElem_cons_zero, List.setIfInBounds_toArray, List.set_cons_zero, List.set_cons_succ]
              refine wpW_take 3 _ (.bool true) rfl (by kernel_rfl) (by kernel_rfl) (by kernel_rfl) (fun _ _ _ h => h) (by kernel_rfl) (.inl ⟨rfl, fun w' hS' => by go_simp⟩) hS0 ?_
              simp only [Act.put, List.getElem_toArray, List.getElem_cons_succ, List.getElem_cons_zero, List.setIfInBounds_toArray, List.set_cons_zero, List.set_cons_succ]
              refine wpW_take 4 _ (.bool true) rfl (by kernel_rfl) (by kernel_rfl) (by kernel_rfl) (fun _ _ _ h => h) (by kernel_rfl) (.inl ⟨rfl, fun w' hS' => by go_simp⟩) hS0 ?_
              simp only [Act.put, List.getElem_toArray, List.getElem_cons_succ, List.getElem_cons_zero, List.setIfInBounds_toArray, List.set_cons_zero, List.set_cons_succ]
              refine wpW_take 5 _ (.slice (some ⟨g, 0, none⟩) m vc) rfl (by kernel_rfl) (by kernel_rfl) (by kernel_rfl) (fun _ _ _ h => h) (by kernel_rfl) (.inl ⟨rfl, fun w' hS' => by go_simp⟩) hS0 ?_
              simp only [Act.put, List.getElem_toArray, List.getElem_cons_succ, List.getElem_cons_zero, List.setIfInBounds_toArray, List.set_cons_zero, List.set_cons_succ]
              refine wpW_take 6 _ (.int .i64 q) rfl (by kernel_rfl) (by kernel_rfl) (by kernel_rfl) (fun _ _ _ h => h) (by kernel_rfl) (.inl ⟨rfl, fun w' hS' => by go_simp⟩) hS0 ?_
              simp only [Act.put, List.getElem_toArray, List.getElem_cons_succ, List.getElem_cons_zero, List.setIfInBounds_toArray, List.set_cons_zero, List.set_cons_succ]
              refine wpW_take 7 _ (.pointer (some ⟨g, q * 10, none⟩)) rfl (by kernel_rfl) (by kernel_rfl) (by kernel_rfl) (fun _ _ _ h => h) (by kernel_rfl) (.inl ⟨rfl, fun w' hS' => by go_simp⟩) hS0 ?_
              simp only [Act.put, List.getElem_toArray, List.getElem_cons_succ, List.getElem_cons_zero, List.setIfInBounds_toArray, List.set_cons_zero, List.set_cons_succ]
              refine wpW_take 8 _ (.pointer (some ⟨g, q * 10, none⟩)) rfl (by kernel_rfl) (by kernel_rfl) (by kernel_rfl) (fun _ _ _ h => h) (by kernel_rfl) (.inl ⟨rfl, fun w' hS' => by go_simp⟩) hS0 ?_
              simp only [Act.put, List.getElem_toArray, List.getElem_cons_succ, List.getElem_cons_zero, List.setIfInBounds_toArray, List.set_cons_zero, List.set_cons_succ]
              refine wpW_take 9 _ (.agg #[.string (X (z q)).m, .slice (A0 (z q)) (X (z q)).tn (K0 (z q)), .int .i64 (X (z q)).st]) rfl (by kernel_rfl) (by kernel_rfl) (by kernel_rfl) (fun _ _ _ h => h) (by kernel_rfl) (.inl ⟨rfl, fun w' hS' => by (obtain ⟨s0, s1, s2, s3, s4, s5⟩ := hS'; go_simp)⟩) hS0 ?_
              simp only [Act.put, List.getElem_toArray, List.getElem_cons_succ, List.getElem_cons_zero, List.setIfInBounds_toArray, List.set_cons_zero, List.set_cons_succ]
              refine wpW_take 10 _ (.pointer (some ⟨bx, 0, none⟩)) rfl (by kernel_rfl) (by kernel_rfl) (by kernel_rfl) (fun _ _ _ h => h) (by kernel_rfl) (.inl ⟨rfl, fun w' hS' => by go_simp⟩) hS0 ?_
              simp only [Act.put, List.getElem_toArray, List.getElem_cons_succ, List.getElem_cons_zero, List.setIfInBounds_toArray, List.set_cons_zero, List.set_cons_succ]
              refine wpW_take 11 _ (.agg #[.string (X k).m, .slice ha0 (X k).tn hc0, .int .i64 (X k).st]) rfl (by kernel_rfl) (by kernel_rfl) (by kernel_rfl) (fun _ _ _ h => h) (by kernel_rfl) (.inl ⟨rfl, fun w' hS' => by (obtain ⟨s0, s1, s2, s3, s4, s5⟩ := hS'; go_simp)⟩) hS0 ?_
              simp only [Act.put, List.getElem_toArray, List.getElem_cons_succ, List.getElem_cons_zero, List.setIfInBounds_toArray, List.set_cons_zero, List.set_cons_succ]
              refine wpW_one 12 _ rfl (by kernel_rfl) (step_wanted rfl (op_call 14 #[.agg #[.string (X (z q)).m, .slice (A0 (z q)) (X (z q)).tn (K0 (z q)), .int .i64 (X (z q)).st], .agg #[.string (X k).m, .slice ha0 (X k).tn hc0, .int .i64 (X k).st]] _ (by go_simp) hcK ?_))
              rintro e w6 ⟨rfl, q6⟩
              have hS6 : (fun w' : World => w'.cell? ⟨g, q * 10, none⟩ = some (.string (X (z q)).m) ∧ w'.cell? ⟨g, q * 10 + 1, none⟩ = some (.slice (A0 (z q)) (X (z q)).tn (K0 (z q))) ∧ w'.cell? ⟨g, q * 10 + 2, none⟩ = some (.int .i64 (X (z q)).st) ∧ w'.cell? ⟨bx, 0, none⟩ = some (.string (X k).m) ∧ w'.cell? ⟨bx, 1, none⟩ = some (.slice ha0 (X k).tn hc0) ∧ w'.cell? ⟨bx, 2, none⟩ = some (.int .i64 (X k).st)) w6 := ⟨(q6.cell (p := ⟨g, q * 10, none⟩) hgl2).trans HSd.1, (q6.cell (p := ⟨g, q * 10 + 1, none⟩) hgl2).trans HSd.2.1, (q6.cell (p := ⟨g, q * 10 + 2, none⟩) hgl2).trans HSd.2.2.1, (q6.cell (p := ⟨bx, 0, none⟩) hbl2).trans HSd.2.2.2.1, (q6.cell (p := ⟨bx, 1, none⟩) hbl2).trans HSd.2.2.2.2.1, (q6.cell (p := ⟨bx, 2, none⟩) hbl2).trans HSd.2.2.2.2.2⟩
              refine ⟨_, rfl, fun _ => hS6, ?_⟩
              simp only [Act.put, List.getElem_toArray, List.getElem_cons_succ, List.getElem_cons_zero, List.setIfInBounds_toArray, List.set_cons_zero, List.set_cons_succ]
              refine wpW_take 13 _ (.bool (decide (cc < 0))) rfl (by kernel_rfl) (by kernel_rfl) (by kernel_rfl) (fun _ _ _ h => h) (by kernel_rfl) (.inl ⟨rfl, fun w' hS' => by go_simp⟩) hS6 ?_
              simp only [Act.put, List.getElem_toArray, List.getElem_cons_succ, List.getElem_cons_zero, List.setIfInBounds_toArray, List.set_cons_zero, List.set_cons_succ]
              refine wpW_take 14 _ (.bool (decide (cc < 0))) rfl (by kernel_rfl) (by kernel_rfl) (by kernel_rfl) (fun _ _ _ h => h) (by kernel_rfl) (.inl ⟨rfl, fun w' hS' => by go_simp⟩) hS6 ?_
              simp only [Act.put, List.getElem_toArray, List.getElem_cons_succ, List.getElem_cons_zero, List.setIfInBounds_toArray, List.set_cons_zero, List.set_cons_succ]
              refine wpW_done (by kernel_rfl) ?_
              try simp only [Act.put, List.getElem_toArray, List.getElem_cons_succ, List.getElem_cons_zero, List.setIfInBounds_toArray, List.set_cons_zero, List.set_cons_succ]
              go_wp2_with fail
              go_meet
              case rel => exact ⟨_, rfl, HE, (Below.refl wi.heap.size wi).drew.trans q6⟩
            ·
              have hqi : ¬ (q : Int) < (m : Int) := by omega
              have hqj : (m : Int) ≤ (q : Int) := by omega
              have HE : Hid (LtB X z m k q false) := ⟨fun h => (by cases h), fun h => absurd h.1 hqm⟩
              clear hKp6 hFar6 hFarN HF HG HG2 hgl hN6 fz6 hz hS hbd h HL hzk
              refine wp_region_w (fun _ : World => True) (fun _ => true) (by kernel_rfl) ?_
              change wpW _ _ _ _ _ _ 15 _ _ wi.drew
              have hS0 : (fun _ : World => True) wi.drew := trivial
              refine wpW_take 0 _ (.int .i64 q) rfl (by kernel_rfl) (by kernel_rfl) (by kernel_rfl) (fun _ _ _ h => h) (by kernel_rfl) (.inl ⟨rfl, fun w' hS' => by go_simp⟩) hS0 ?_
              simp only [Act.put, List.getElem_toArray, List.getElem_cons_succ, List.getElem_cons_zero, List.setIfInBounds_toArray, List.set_cons_zero, List.set_cons_succ]
              refine wpW_take 1 _ (.slice va m vc) rfl (by kernel_rfl) (by kernel_rfl) (by kernel_rfl) (fun _ _ _ h => h) (by kernel_rfl) (.inl ⟨rfl, fun w' hS' => by go_simp⟩) hS0 ?_
              simp only [Act.put, List.getElem_toArray, List.getElem_cons_succ, List.getElem_cons_zero, List.setIfInBounds_toArray, List.set_cons_zero, List.set_cons_succ]
              refine wpW_take 2 _ (.int .i64 m) rfl (by kernel_rfl) (by kernel_rfl) (by kernel_rfl) (fun _ _ _ h => h) (by kernel_rfl) (.inl ⟨rfl, fun w' hS' => by go_simp⟩) hS0 ?_
              simp only [Act.put, List.getElem_toArray, List.getElem_cons_succ, List.getElem_cons_zero, List.setIfInBounds_toArray, List.set_cons_zero, List.set_cons_succ]
              refine wpW_take 3 _ (.bool false) rfl (by kernel_rfl) (by kernel_rfl) (by kernel_rfl) (fun _ _ _ h => h) (by kernel_rfl) (.inl ⟨rfl, fun w' hS' => by go_simp⟩) hS0 ?_
              simp only [Act.put, List.getElem_toArray, List.getElem_cons_succ, List.getElem_cons_zero, List.setIfInBounds_toArray, List.set_cons_zero, List.set_cons_succ]
              refine wpW_take 4 _ (.bool false) rfl (by kernel_rfl) (by kernel_rfl) (by kernel_rfl) (fun _ _ _ h => h) (by kernel_rfl) (.inl ⟨rfl, fun w' hS' => by go_simp⟩) hS0 ?_
              simp only [Act.put, List.getElem_toArray, List.getElem_cons_succ, List.getElem_cons_zero, List.setIfInBounds_toArray, List.set_cons_zero, List.set_cons_succ]
              refine wpW_take 5 _ (undef) rfl (by kernel_rfl) (by kernel_rfl) (by kernel_rfl) (fun _ _ _ h => h) (by kernel_rfl) (.inr ⟨rfl, rfl⟩) hS0 ?_
              simp only [Act.put, List.getElem_toArray, List.getElem_cons_succ, List.getElem_cons_zero, List.setIfInBounds_toArray, List.set_cons_zero, List.set_cons_succ]
              refine wpW_take 6 _ (undef) rfl (by kernel_rfl) (by kernel_rfl) (by kernel_rfl) (fun _ _ _ h => h) (by kernel_rfl) (.inr ⟨rfl, rfl⟩) hS0 ?_
              simp only [Act.put, List.getElem_toArray, List.getElem_cons_succ, List.getElem_cons_zero, List.setIfInBounds_toArray, List.set_cons_zero, List.set_cons_succ]
              refine wpW_take 7 _ (undef) rfl (by kernel_rfl) (by kernel_rfl) (by kernel_rfl) (fun _ _ _ h => h) (by kernel_rfl) (.inr ⟨rfl, rfl⟩) hS0 ?_
              simp only [Act.put, List.getElem_toArray, List.getElem_cons_succ, List.getElem_cons_zero, List.setIfInBounds_toArray, List.set_cons_zero, List.set_cons_succ]
              refine wpW_take 8 _ (undef) rfl (by kernel_rfl) (by kernel_rfl) (by kernel_rfl) (fun _ _ _ h => h) (by kernel_rfl) (.inr ⟨rfl, rfl⟩) hS0 ?_
              simp only [Act.put, List.getElem_toArray, List.getElem_cons_succ, List.getElem_cons_zero, List.setIfInBounds_toArray, List.set_cons_zero, List.set_cons_succ]
              refine wpW_take 9 _ (undef) rfl (by kernel_rfl) (by kernel_rfl) (by kernel_rfl) (fun _ _ _ h => h) (by kernel_rfl) (.inr ⟨rfl, rfl⟩) hS0 ?_
              simp only [Act.put, List.getElem_toArray, List.getElem_cons_succ, List.getElem_cons_zero, List.setIfInBounds_toArray, List.set_cons_zero, List.set_cons_succ]
              refine wpW_take 10 _ (undef) rfl (by kernel_rfl) (by kernel_rfl) (by kernel_rfl) (fun _ _ _ h => h) (by kernel_rfl) (.inr ⟨rfl, rfl⟩) hS0 ?_
              simp only [Act.put, List.getElem_toArray, List.getElem_cons_succ, List.getElem_cons_zero, List.setIfInBounds_toArray, List.set_cons_zero, List.set_cons_succ]
              refine wpW_take 11 _ (undef) rfl (by kernel_rfl) (by kernel_rfl) (by kernel_rfl) (fun _ _ _ h => h) (by kernel_rfl) (.inr ⟨rfl, rfl⟩) hS0 ?_
              simp only [Act.put, List.getElem_toArray, List.getElem_cons_succ, List.getElem_cons_zero, List.setIfInBounds_toArray, List.set_cons_zero, List.set_cons_succ]
              refine wpW_take 12 _ (undef) rfl (by kernel_rfl) (by kernel_rfl) (by kernel_rfl) (fun _ _ _ h => h) (by kernel_rfl) (.inr ⟨rfl, rfl⟩) hS0 ?_
              simp only [Act.put, List.getElem_toArray, List.getElem_cons_succ, List.getElem_cons_zero, List.setIfInBounds_toArray, List.set_cons_zero, List.set_cons_succ]
              refine wpW_take 13 _ (undef) rfl (by kernel_rfl) (by kernel_rfl) (by kernel_rfl) (fun _ _ _ h => h) (by kernel_rfl) (.inr ⟨rfl, rfl⟩) hS0 ?_
              simp only [Act.put, List.getElem_toArray, List.getElem_cons_succ, List.getElem_cons_zero, List.setIfInBounds_toArray, List.set_cons_zero, List.set_cons_succ]
              refine wpW_take 14 _ (.bool false) rfl (by kernel_rfl) (by kernel_rfl) (by kernel_rfl) (fun _ _ _ h => h) (by kernel_rfl) (.inl ⟨rfl, fun w' hS' => by go_simp⟩) hS0 ?_
              simp only [Act.put, List.getElem_toArray, List.getElem_cons_succ, List.getElem_cons_zero, List.setIfInBounds_toArray, List.set_cons_zero, List.set_cons_succ]
              refine wpW_done (by kernel_rfl) ?_
              try simp only [Act.put, List.getElem_toArray, List.getElem_cons_succ, List.getElem_cons_zero, List.setIfInBounds_toArray, List.set_cons_zero, List.set_cons_succ]
              go_wp2_with fail
              go_meet
              case rel => exact ⟨_, rfl, HE, (Below.refl wi.heap.size wi).drew⟩
          case rest =>
            obtain ⟨bb, rfl, HE, hbx2⟩ := hcut
            obtain ⟨wd, hwd⟩ : ∃ u, u = wc := ⟨_, rfl⟩
            subst hwd
            have hbd2 : Below W6.heap.size W6 wd := hbq.trans (hbx2.mono hbq.size)
            clear hbx2
            cases bb
            ·
              have hPl : Hid (PlK X k z m q) := ⟨hqm', HL.out, fun h1 h2 => by have := HE.out.2 ⟨h1, h2⟩; cases this⟩
              clear HE HL hbq
              go_upto_region 14 with fail
              go_cut [64] from 50 to 64 (fun s64 wx => ∃ bb : Bool, s64 = .bool bb ∧ Hid (EqB X z m k q bb) ∧ Below wd.heap.size wd wx)
              case first =>
                by_cases hqm : q < m
                ·
                  have hki6 := hKp6.keep hbd2
                  obtain ⟨g, cap, ev, hm0, hmc, hbg, hAR, hFr⟩ := hki6.resolve_left (fun hh => by have := hh.2.1; omega)
                  injection ev with ev1 ev2 ev3
                  subst ev1 ev3
                  have hqi : (q : Int) < (m : Int) := by omega
                  have hq0 : (0 : Int) ≤ (q : Int) := by omega
                  have hzq := HF.out.lt q hqm
                  have hgz : gK (X (z q)) = true := HG.out (z q) hzq
                  have hSz : WiS (X (z q)) := hz (z q) (by omega)
                  have hFq := hFr (z q) hzq
                  have hTq : ToAt wd.drew g (q * 10) (X (z q)) (A0 (z q)) (A1 (z q)) (K0 (z q)) (K1 (z q)) := toAt_of ((hAR.keep (Below.refl _ _).drew).at' q hqm) hAR.lt
                  have hNb : ToAt wd.drew bx 0 (X k) ha0 ha1 hc0 hc1 := (hN6.keep hbd2).keep (Below.refl _ _).drew
                  have hFk := hFar6 wd hbd2
                  have hgl2 : g < wd.drew.heap.size := hTq.lt
                  have hbl2 : bx < wd.drew.heap.size := hNb.lt
                  have HSd := (⟨hTq.c0, hTq.c1, hTq.c2, hNb.c0, hNb.c1, hNb.c2⟩ : _ ∧ _ ∧ _ ∧ _ ∧ _ ∧ _)
                  simp only [Nat.zero_add] at HSd
                  obtain ⟨cc, hcc⟩ : ∃ cc, cc = kc (X (z q)) (X k) := ⟨_, rfl⟩
                  have hcK := l1Compare_any (X (z q)).m (X k).m (X (z q)).st (X k).st (A0 (z q)) ha0 (X (z q)).tn (X k).tn (K0 (z q)) hc0 (X (z q)).nm (X (z q)).vl (X k).nm (X k).vl wd.drew (hFq.trow.keep (Below.refl _ _).drew) (hFk.keep (Below.refl _ _).drew) hSz.tn hS.tn (goodB_st hgz) (goodB_st HGK.out)
                  have e0 : keyCmp (X (z q)).m (X k).m (X (z q)).st (X k).st (X (z q)).tn (X k).tn (X (z q)).nm (X (z q)).vl (X k).nm (X k).vl = cc := hcc.symm
                  rw [e0] at hcK
                  have HE : Hid (EqB X z m k q (cc == 0)) := by
                    unfold Hid EqB
                    rw [beq_iff_eq, hcc]
                    exact ⟨fun h => ⟨hqm, (kc_kb hgz HGK.out).1 h⟩, fun h => (kc_kb hgz HGK.out).2 h.2⟩
                  clear hKp6 hki6 hFar6 hFarN hAR hFr hTq hNb hFq hFk hcc e0 HF HG HG2 hgl hN6 fz6 hz hS hSz hgz hbd h hPl hzk
                  refine wp_region_w (fun w' : World => w'.cell? ⟨g, q * 10, none⟩ = some (.string (X (z q)).m) ∧ w'.cell? ⟨g, q * 10 + 1, none⟩ = some (.slice (A0 (z q)) (X (z q)).tn (K0 (z q))) ∧ w'.cell? ⟨g, q * 10 + 2, none⟩ = some (.int .i64 (X (z q)).st) ∧ w'.cell? ⟨bx, 0, none⟩ = some (.string (X k).m) ∧ w'.cell? ⟨bx, 1, none⟩ = some (.slice ha0 (X k).tn hc0) ∧ w'.cell? ⟨bx, 2, none⟩ = some (.int .i64 (X k).st)) (fun _ => true) (by kernel_rfl) ?_
                  change wpW _ _ _ _ _ _ 15 _ _ wd.drew
                  have hS0 : (fun w' : World => w'.cell? ⟨g, q * 10, none⟩ = some (.string (X (z q)).m) ∧ w'.cell? ⟨g, q * 10 + 1, none⟩ = some (.slice (A0 (z q)) (X (z q)).tn (K0 (z q))) ∧ w'.cell? ⟨g, q * 10 + 2, none⟩ = some (.int .i64 (X (z q)).st) ∧ w'.cell? ⟨bx, 0, none⟩ = some (.string (X k).m) ∧ w'.cell? ⟨bx, 1, none⟩ = some (.slice ha0 (X k).tn hc0) ∧ w'.cell? ⟨bx, 2, none⟩ = some (.int .i64 (X k).st)) wd.drew := HSd
                  refine wpW_take 0 _ (.int .i64 q) rfl (by kernel_rfl) (by kernel_rfl) (by kernel_rfl) (fun _ _ _ h => h) (by kernel_rfl) (.inl ⟨rfl, fun w' hS' => by go_simp⟩) hS0 ?_
                  simp only [Act.put, List.getElem_toArray, List.getElem_cons_succ, List.getElem_cons_zero, List.setIfInBounds_toArray, List.set_cons_zero, List.set_cons_succ]
                  refine wpW_take 1 _ (.slice (some ⟨g, 0, none⟩) m vc) rfl (by kernel_rfl) (by kernel_rfl) (by kernel_rfl) (fun _ _ _ h => h) (by kernel_rfl) (.inl ⟨rfl, fun w' hS' => by go_simp⟩) hS0 ?_
                  simp only [Act.put, List.getElem_toArray, List.getElem_cons_succ, List.getElem_cons_zero, List.setIfInBounds_toArray, List.set_cons_zero, List.set_cons_succ]
                  refine wpW_take 2 _ (.int .i64 m) rfl (by kernel_rfl) (by kernel_rfl) (by kernel_rfl) (fun _ _ _ h => h) (by kernel_rfl) (.inl ⟨rfl, fun w' hS' => by go_simp⟩) hS0 ?_
                  simp only [Act.put, List.getElem_toArray, List.getElem_cons_succ, List.getElem_cons_zero, List.setIfInBounds_toArray, List.set_cons_zero, List.set_cons_succ]
                  refine wpW_take 3 _ (.bool true) rfl (by kernel_rfl) (by kernel_rfl) (by kernel_rfl) (fun _ _ _ h => h) (by kernel_rfl) (.inl ⟨rfl, fun w' hS' => by go_simp⟩) hS0 ?_
                  simp only [Act.put, List.getElem_toArray, List.getElem_cons_succ, List.getElem_cons_zero, List.setIfInBounds_toArray, List.set_cons_zero, List.set_cons_succ]
                  refine wpW_take 4 _ (.bool true) rfl (by kernel_rfl) (by kernel_rfl) (by kernel_rfl) (fun _ _ _ h => h) (by kernel_rfl) (.inl ⟨rfl, fun w' hS' => by go_simp⟩) hS0 ?_
                  simp only [Act.put, List.getElem_toArray, List.getElem_cons_succ, List.getElem_cons_zero, List.setIfInBounds_toArray, List.set_cons_zero, List.set_cons_succ]
                  refine wpW_take 5 _ (.slice (some ⟨g, 0, none⟩) m vc) rfl (by kernel_rfl) (by kernel_rfl) (by kernel_rfl) (fun _ _ _ h => h) (by kernel_rfl) (.inl ⟨rfl, fun w' hS' => by go_simp⟩) hS0 ?_
                  simp only [Act.put, List.getElem_toArray, List.getElem_cons_succ, List.getElem_cons_zero, List.setIfInBounds_toArray, List.set_cons_zero, List.set_cons_succ]
                  refine wpW_take 6 _ (.int .i64 q) rfl (by kernel_rfl) (by kernel_rfl) (by kernel_rfl) (fun _ _ _ h => h) (by kernel_rfl) (.inl ⟨rfl, fun w' hS' => by go_simp⟩) hS0 ?_
                  simp only [Act.put, List.getElem_toArray, List.getElem_cons_succ, List.getElem_cons_zero, List.setIfInBounds_toArray, List.set_cons_zero, List.set_cons_succ]
                  refine wpW_take 7 _ (.pointer (some ⟨g, q * 10, none⟩)) rfl (by kernel_rfl) (by kernel_rfl) (by kernel_rfl) (fun _ _ _ h => h) (by kernel_rfl) (.inl ⟨rfl, fun w' hS' => by go_simp⟩) hS0 ?_
                  simp only [Act.put, List.getElem_toArray, List.getElem_cons_succ, List.getElem_cons_zero, List.setIfInBounds_toArray, List.set_cons_zero, List.set_cons_succ]
                  refine wpW_take 8 _ (.pointer (some ⟨g, q * 10, none⟩)) rfl (by kernel_rfl) (by kernel_rfl) (by kernel_rfl) (fun _ _ _ h => h) (by kernel_rfl) (.inl ⟨rfl, fun w' hS' => by go_simp⟩) hS0 ?_
                  simp only [Act.put, List.getElem_toArray, List.getElem_cons_succ, List.getElem_cons_zero, List.setIfInBounds_toArray, List.set_cons_zero, List.set_cons_succ]
                  refine wpW_take 9 _ (.agg #[.string (X (z q)).m, .slice (A0 (z q)) (X (z q)).tn (K0 (z q)), .int .i64 (X (z q)).st]) rfl (by kernel_rfl) (by kernel_rfl) (by kernel_rfl) (fun _ _ _ h => h) (by kernel_rfl) (.inl ⟨rfl, fun w' hS' => by (obtain ⟨s0, s1, s2, s3, s4, s5⟩ := hS'; go_simp)⟩) hS0 ?_
                  simp only [Act.put, List.getElem_toArray, List.getElem_cons_succ, List.getElem_cons_zero, List.setIfInBounds_toArray, List.set_cons_zero, List.set_cons_succ]
                  refine wpW_take 10 _ (.pointer (some ⟨bx, 0, none⟩)) rfl (by kernel_rfl) (by kernel_rfl) (by kernel_rfl) (fun _ _ _ h => h) (by kernel_rfl) (.inl ⟨rfl, fun w' hS' => by go_simp⟩) hS0 ?_
                  simp only [Act.put, List.getElem_toArray, List.getElem_cons_succ, List.getElem_cons_zero, List.setIfInBounds_toArray, List.set_cons_zero, List.set_cons_succ]
                  refine wpW_take 11 _ (.agg #[.string (X k).m, .slice ha0 (X k).tn hc0, .int .i64 (X k).st]) rfl (by kernel_rfl) (by kernel_rfl) (by kernel_rfl) (fun _ _ _ h => h) (by kernel_rfl) (.inl ⟨rfl, fun w' hS' => by (obtain ⟨s0, s1, s2, s3, s4, s5⟩ := hS'; go_simp)⟩) hS0 ?_
                  simp only [Act.put, List.getElem_toArray, List.getElem_cons_succ, List.getElem_cons_zero, List.setIfInBounds_toArray, List.set_cons_zero, List.set_cons_succ]
                  refine wpW_one 12 _ rfl (by kernel_rfl) (step_wanted rfl (op_call 14 #[.agg #[.string (X (z q)).m, .slice (A0 (z q)) (X (z q)).tn (K0 (z q)), .int .i64 (X (z q)).st], .agg #[.string (X k).m, .slice ha0 (X k).tn hc0, .int .i64 (X k).st]] _ (by go_simp) hcK ?_))
                  rintro e w6 ⟨rfl, q6⟩
                  have hS6 : (fun w' : World => w'.cell? ⟨g, q * 10, none⟩ = some (.string (X (z q)).m) ∧ w'.cell? ⟨g, q * 10 + 1, none⟩ = some (.slice (A0 (z q)) (X (z q)).tn (K0 (z q))) ∧ w'.cell? ⟨g, q * 10 + 2, none⟩ = some (.int .i64 (X (z q)).st) ∧ w'.cell? ⟨bx, 0, none⟩ = some (.string (X k).m) ∧ w'.cell? ⟨bx, 1, none⟩ = some (.slice ha0 (X k).tn hc0) ∧ w'.cell? ⟨bx, 2, none⟩ = some (.int .i64 (X k).st)) w6 := ⟨(q6.cell (p := ⟨g, q * 10, none⟩) hgl2).trans HSd.1, (q6.cell (p := ⟨g, q * 10 + 1, none⟩) hgl2).trans HSd.2.1, (q6.cell (p := ⟨g, q * 10 + 2, none⟩) hgl2).trans HSd.2.2.1, (q6.cell (p := ⟨bx, 0, none⟩) hbl2).trans HSd.2.2.2.1, (q6.cell (p := ⟨bx, 1, none⟩) hbl2).trans HSd.2.2.2.2.1, (q6.cell (p := ⟨bx, 2, none⟩) hbl2).trans HSd.2.2.2.2.2⟩
                  refine ⟨_, rfl, fun _ => hS6, ?_⟩
                  simp only [Act.put, List.getElem_toArray, List.getElem_cons_succ, List.getElem_cons_zero, List.setIfInBounds_toArray, List.set_cons_zero, List.set_cons_succ]
                  refine wpW_take 13 _ (.bool (cc == 0)) rfl (by kernel_rfl) (by kernel_rfl) (by kernel_rfl) (fun _ _ _ h => h) (by kernel_rfl) (.inl ⟨rfl, fun w' hS' => by go_simp⟩) hS6 ?_
                  simp only [Act.put, List.getElem_toArray, List.getElem_cons_succ, List.getElem_cons_zero, List.setIfInBounds_toArray, List.set_cons_zero, List.set_cons_succ]
                  refine wpW_take 14 _ (.bool (cc == 0)) rfl (by kernel_rfl) (by kernel_rfl) (by kernel_rfl) (fun _ _ _ h => h) (by kernel_rfl) (.inl ⟨rfl, fun w' hS' => by go_simp⟩) hS6 ?_
                  simp only [Act.put, List.getElem_toArray, List.getElem_cons_succ, List.getElem_cons_zero, List.setIfInBounds_toArray, List.set_cons_zero, List.set_cons_succ]
                  refine wpW_done (by kernel_rfl) ?_
                  try simp only [Act.put, List.getElem_toArray, List.getElem_cons_succ, List.getElem_cons_zero, List.setIfInBounds_toArray, List.set_cons_zero, List.set_cons_succ]
                  go_wp2_with fail
                  go_meet
                  case rel => exact ⟨_, rfl, HE, (Below.refl wd.heap.size wd).drew.trans q6⟩
                ·
                  have hqi : ¬ (q : Int) < (m : Int) := by omega
                  have hqj : (m : Int) ≤ (q : Int) := by omega
                  have HE : Hid (EqB X z m k q false) := ⟨fun h => (by cases h), fun h => absurd h.1 hqm⟩
                  clear hKp6 hFar6 hFarN HF HG HG2 hgl hN6 fz6 hz hS hbd h hPl hzk
                  refine wp_region_w (fun _ : World => True) (fun _ => true) (by kernel_rfl) ?_
                  change wpW _ _ _ _ _ _ 15 _ _ wd.drew
                  have hS0 : (fun _ : World => True) wd.drew := trivial
                  refine wpW_take 0 _ (.int .i64 q) rfl (by kernel_rfl) (by kernel_rfl) (by kernel_rfl) (fun _ _ _ h => h) (by kernel_rfl) (.inl ⟨rfl, fun w' hS' => by go_simp⟩) hS0 ?_
                  simp only [Act.put, List.getElem_toArray, List.getElem_cons_succ, List.getElem_cons_zero, List.setIfInBounds_toArray, List.set_cons_zero, List.set_cons_succ]
                  refine wpW_take 1 _ (.slice va m vc) rfl (by kernel_rfl) (by kernel_rfl) (by kernel_rfl) (fun _ _ _ h => h) (by kernel_rfl) (.inl ⟨rfl, fun w' hS' => by go_simp⟩) hS0 ?_
                  simp only [Act.put, List.getElem_toArray, List.getElem_cons_succ, List.getElem_cons_zero, List.setIfInBounds_toArray, List.set_cons_zero, List.set_cons_succ]
                  refine wpW_take 2 _ (.int .i64 m) rfl (by kernel_rfl) (by kernel_rfl) (by kernel_rfl) (fun _ _ _ h => h) (by kernel_rfl) (.inl ⟨rfl, fun w' hS' => by go_simp⟩) hS0 ?_
                  simp only [Act.put, List.getElem_toArray, List.getElem_cons_succ, List.getElem_cons_zero, List.setIfInBounds_toArray, List.set_cons_zero, List.set_cons_succ]
                  refine wpW_take 3 _ (.bool false) rfl (by kernel_rfl) (by kernel_rfl) (by kernel_rfl) (fun _ _ _ h => h) (by kernel_rfl) (.inl ⟨rfl, fun w' hS' => by go_simp⟩) hS0 ?_
                  simp only [Act.put, List.getElem_toArray, List.getElem_cons_succ, List.getElem_cons_zero, List.setIfInBounds_toArray, List.set_cons_zero, List.set_cons_succ]
                  refine wpW_take 4 _ (.bool false) rfl (by kernel_rfl) (by kernel_rfl) (by kernel_rfl) (fun _ _ _ h => h) (by kernel_rfl) (.inl ⟨rfl, fun w' hS' => by go_simp⟩) hS0 ?_
                  simp only [Act.put, List.getElem_toArray, List.getElem_cons_succ, List.getElem_cons_zero, List.setIfInBounds_toArray, List.set_cons_zero, List.set_cons_succ]
                  refine wpW_take 5 _ (undef) rfl (by kernel_rfl) (by kernel_rfl) (by kernel_rfl) (fun _ _ _ h => h) (by kernel_rfl) (.inr ⟨rfl, rfl⟩) hS0 ?_
                  simp only [Act.put, List.getElem_toArray, List.getElem_cons_succ, List.getElem_cons_zero, List.setIfInBounds_toArray, List.set_cons_zero, List.set_cons_succ]
                  refine wpW_take 6 _ (undef) rfl (by kernel_rfl) (by kernel_rfl) (by kernel_rfl) (fun _ _ _ h => h) (by kernel_rfl) (.inr ⟨rfl, rfl⟩) hS0 ?_
                  simp only [Act.put, List.getElem_toArray, List.getElem_cons_succ, List.getElem_cons_zero, List.setIfInBounds_toArray, List.set_cons_zero, List.set_cons_succ]
                  refine wpW_take 7 _ (undef) rfl (by kernel_rfl) (by kernel_rfl) (by kernel_rfl) (fun _ _ _ h => h) (by kernel_rfl) (.inr ⟨rfl, rfl⟩) hS0 ?_
                  simp only [Act.put, List.getElem_toArray, List.getElem_cons_succ, List.getElem_cons_zero, List.setIfInBounds_toArray, List.set_cons_zero, List.set_cons_succ]
                  refine wpW_take 8 _ (undef) rfl (by kernel_rfl) (by kernel_rfl) (by kernel_rfl) (fun _ _ _ h => h) (by kernel_rfl) (.inr ⟨rfl, rfl⟩) hS0 ?_
                  simp only [Act.put, List.getElem_toArray, List.getElem_cons_succ, List.getElem_cons_zero, List.setIfInBounds_toArray, List.set_cons_zero, List.set_cons_succ]
                  refine wpW_take 9 _ (undef) rfl (by kernel_rfl) (by kernel_rfl) (by kernel_rfl) (fun _ _ _ h => h) (by kernel_rfl) (.inr ⟨rfl, rfl⟩) hS0 ?_
                  simp only [Act.put, List.getElem_toArray, List.getElem_cons_succ, List.getElem_cons_zero, List.setIfInBounds_toArray, List.set_cons_zero, List.set_cons_succ]
                  refine wpW_take 10 _ (undef) rfl (by kernel_rfl) (by kernel_rfl) (by kernel_rfl) (fun _ _ _ h => h) (by kernel_rfl) (.inr ⟨rfl, rfl⟩) hS0 ?_
                  simp only [Act.put, List.getElem_toArray, List.getElem_cons_succ, List.getElem_cons_zero, List.setIfInBounds_toArray, List.set_cons_zero, List.set_cons_succ]
                  refine wpW_take 11 _ (undef) rfl (by kernel_rfl) (by kernel_rfl) (by kernel_rfl) (fun _ _ _ h => h) (by kernel_rfl) (.inr ⟨rfl, rfl⟩) hS0 ?_
                  simp only [Act.put, List.getElem_toArray, List.getElem_cons_succ, List.getElem_cons_zero, List.setIfInBounds_toArray, List.set_cons_zero, List.set_cons_succ]
                  refine wpW_take 12 _ (undef) rfl (by kernel_rfl) (by kernel_rfl) (by kernel_rfl) (fun _ _ _ h => h) (by kernel_rfl) (.inr ⟨rfl, rfl⟩) hS0 ?_
                  simp only [Act.put, List.getElem_toArray, List.getElem_cons_succ, List.getElem_cons_zero, List.setIfInBounds_toArray, List.set_cons_zero, List.set_cons_succ]
                  refine wpW_take 13 _ (undef) rfl (by kernel_rfl) (by kernel_rfl) (by kernel_rfl) (fun _ _ _ h => h) (by kernel_rfl) (.inr ⟨rfl, rfl⟩) hS0 ?_
                  simp only [Act.put, List.getElem_toArray, List.getElem_cons_succ, List.getElem_cons_zero, List.setIfInBounds_toArray, List.set_cons_zero, List.set_cons_succ]
                  refine wpW_take 14 _ (.bool false) rfl (by kernel_rfl) (by kernel_rfl) (by kernel_rfl) (fun _ _ _ h => h) (by kernel_rfl) (.inl ⟨rfl, fun w' hS' => by go_simp⟩) hS0 ?_
                  simp only [Act.put, List.getElem_toArray, List.getElem_cons_succ, List.getElem_cons_zero, List.setIfInBounds_toArray, List.set_cons_zero, List.set_cons_succ]
                  refine wpW_done (by kernel_rfl) ?_
                  try simp only [Act.put, List.getElem_toArray, List.getElem_cons_succ, List.getElem_cons_zero, List.setIfInBounds_toArray, List.set_cons_zero, List.set_cons_succ]
                  go_wp2_with fail
                  go_meet
                  case rel => exact ⟨_, rfl, HE, (Below.refl wd.heap.size wd).drew⟩
              case rest =>
                obtain ⟨bb, rfl, HE, hbx2⟩ := hcut
                obtain ⟨wf, hwf⟩ : ∃ u, u = wc := ⟨_, rfl⟩
                subst hwf
                have hb6 : Below W6.heap.size W6 wf := hbd2.trans (hbx2.mono hbd2.size)
                have hb6s := hb6.size
                clear hbx2 hbd2
                have hKf := hKp6.keep hb6
                have hNf := hN6.keep hb6
                have hff : ∀ j, wf.frozen? ⟨bx, j, none⟩ = false := fun j => (hb6.frozen (p := ⟨bx, j, none⟩) hN6.lt).trans (fz6 j)
                have hFf : ∀ g, g < bx ∨ wf.heap.size ≤ g → Far wf g (X k) ha0 ha1 := fun g hg => (hFarN g (hg.imp id (fun h => by omega))).kb hb6 (Nat.le_refl _)
                have bwf : Below w.heap.size w wf := bw6.trans (hb6.mono bw6s)
                have bwfs := bwf.size
                clear hKp6 hN6 fz6 hFarN hFar6 hb6 bw6 bw6s
                cases bb
                ·
                  have hne : q < m → kx X (z q) ≠ kx X k := fun h1 h2 => by have := HE.out.2 ⟨h1, h2⟩; cases this
                  have HF2 : Hid (Fin' X (k + 1) (zins z q k) (m + 1)) := HF.out.among hPl.out hne
                  clear hne HE HF hPl
                  have hkw : IntKind.i64.wrap ((k : Int) + 1) = ((k + 1 : Nat) : Int) := by rw [IntKind.wrap_i64] <;> omega
                  have hKo := hKf
                  obtain ⟨_, d0, d1, d2, d3, d4, d5, d6, d7, d8, d9⟩ := id hNf
                  simp only [Nat.zero_add] at d1 d2 d3 d4 d5 d6 d7 d8 d9
                  rcases hKf with ⟨hk0, hm0, ev⟩ | ⟨g, cap, ev, hm0, hmc, hbg, hAR, hFr⟩
                  ·
                    clear hk0
                    subst hm0
                    obtain rfl : q = 0 := by omega
                    injection ev with ev1 _ ev3
                    subst ev1 ev3
                    obtain ⟨p1, c1, w1, p2, c2, w2', p3, c3, w3', hrun1, hrun2, hrun3, own3, b1, b3⟩ := put10 wf (none) 0 0 0 (fun j => tC (X (z j)) (A0 (z j)) (K0 (z j)) (A1 (z j)) (K1 (z j))) (tC (X k) ha0 hc0 ha1 hc1) (by omega) none (.inl ⟨rfl, rfl, rfl, rfl⟩) (fun v => tC_one _ _ _ _ _) (tC_one _ _ _ _ _) (by omega)
                    have hKn := hKo.put (p := 0) hzk (hFf _ (.inr (Nat.le_refl _))) b3 bwfs (by omega) own3
                    have HB3 : Hid (Below w.heap.size w w3') := bwf.trans (b3.mono bwfs)
                    have bl1 : bx < wf.heap.size := hNf.lt
                    have y0 := (b1.cell (p := ⟨bx, 0, none⟩) bl1).trans d0
                    have y1 := (b1.cell (p := ⟨bx, 1, none⟩) bl1).trans d1
                    have y2 := (b1.cell (p := ⟨bx, 2, none⟩) bl1).trans d2
                    have y3 := (b1.cell (p := ⟨bx, 3, none⟩) bl1).trans d3
                    have y4 := (b1.cell (p := ⟨bx, 4, none⟩) bl1).trans d4
                    have y5 := (b1.cell (p := ⟨bx, 5, none⟩) bl1).trans d5
                    have y6 := (b1.cell (p := ⟨bx, 6, none⟩) bl1).trans d6
                    have y7 := (b1.cell (p := ⟨bx, 7, none⟩) bl1).trans d7
                    have y8 := (b1.cell (p := ⟨bx, 8, none⟩) bl1).trans d8
                    have y9 := (b1.cell (p := ⟨bx, 9, none⟩) bl1).trans d9
                    have hKn2 : Hid (KeptA w3' w.heap.size (.slice p3 (0 + 1) c3) (0 + 1) (k + 1) X (zins z 0 k) (upA A0 k ha0) (upA A1 k ha1) (upA K0 k hc0) (upA K1 k hc1)) := hKn
                    simp only [Nat.zero_add, Nat.sub_self] at hrun2 hrun3 hKn2 HF2
                    clear hKn hKo b1 b3 own3 hNf hff hFf bwf d0 d1 d2 d3 d4 d5 d6 d7 d8 d9
                    have t1 : True := trivial
                    have t2 : True := trivial
                    go_wp2_with (first
                      | (at_builtin; clear t1; refine wpList_append_eq _ rfl (.tmp 77) (.tmp 80) 24 24 rfl rfl (.slice none 0 0) (.slice (none) 0 0) (.slice p1 0 c1) rfl rfl w1 hrun1 ?_)
                      | (at_builtin; clear t2; refine wpList_append_eq _ rfl (.tmp 82) (.tmp 84) 24 24 rfl rfl (.slice p1 0 c1) (.slice (some ⟨w1.heap.size, 0, none⟩) 1 1) (.slice p2 (0 + 1) c2) rfl rfl w2' hrun2 ?_)
                      | (at_builtin; refine wpList_append_eq _ rfl (.tmp 86) (.tmp 89) 24 24 rfl rfl (.slice p2 (0 + 1) c2) (.slice none (0) (0)) (.slice p3 (0 + 1) c3) rfl rfl w3' hrun3 ?_))
                    go_roundw
                    case rel => exact ⟨k + 1, 0 + 1, zins z 0 k, _, _, _, _, by go_num, by omega, by omega, HG2, HF2, hKn2.out, HB3.out⟩
                    case measure => simp [intOf]; omega
                  ·
                    injection ev with ev1 _ ev3
                    subst ev1 ev3
                    have hql : (q : Int) ≤ (m : Int) := by omega
                    have hq0 : (0 : Int) ≤ (q : Int) := by omega
                    have hqc : (q : Int) ≤ (vc : Int) := by omega
                    have hmci : (m : Int) ≤ (vc : Int) := by omega
                    by_cases hqm : q < m
                    ·
                      have hqmi : (q : Int) < (m : Int) := by omega
                      have hqv : ¬ vc = q := by omega
                      obtain ⟨p1, c1, w1, p2, c2, w2', p3, c3, w3', hrun1, hrun2, hrun3, own3, b1, b3⟩ := put10 wf (some ⟨g, 0, none⟩) m vc q (fun j => tC (X (z j)) (A0 (z j)) (K0 (z j)) (A1 (z j)) (K1 (z j))) (tC (X k) ha0 hc0 ha1 hc1) (by omega) (some ⟨g, q * 10, none⟩) (.inr ⟨g, rfl, hmc, hAR.lt, fun j hj => hAR.at' j hj, .inr rfl⟩) (fun v => tC_one _ _ _ _ _) (tC_one _ _ _ _ _) (by omega)
                      have hKn := hKo.put (p := q) hzk (hFf _ (.inr (Nat.le_refl _))) b3 bwfs (by omega) own3
                      have HB3 : Hid (Below w.heap.size w w3') := bwf.trans (b3.mono bwfs)
                      have bl1 : bx < wf.heap.size := hNf.lt
                      have y0 := (b1.cell (p := ⟨bx, 0, none⟩) bl1).trans d0
                      have y1 := (b1.cell (p := ⟨bx, 1, none⟩) bl1).trans d1
                      have y2 := (b1.cell (p := ⟨bx, 2, none⟩) bl1).trans d2
                      have y3 := (b1.cell (p := ⟨bx, 3, none⟩) bl1).trans d3
                      have y4 := (b1.cell (p := ⟨bx, 4, none⟩) bl1).trans d4
                      have y5 := (b1.cell (p := ⟨bx, 5, none⟩) bl1).trans d5
                      have y6 := (b1.cell (p := ⟨bx, 6, none⟩) bl1).trans d6
                      have y7 := (b1.cell (p := ⟨bx, 7, none⟩) bl1).trans d7
                      have y8 := (b1.cell (p := ⟨bx, 8, none⟩) bl1).trans d8
                      have y9 := (b1.cell (p := ⟨bx, 9, none⟩) bl1).trans d9
                      have hKn2 : Hid (KeptA w3' w.heap.size (.slice p3 (m + 1) c3) (m + 1) (k + 1) X (zins z q k) (upA A0 k ha0) (upA A1 k ha1) (upA K0 k hc0) (upA K1 k hc1)) := hKn
                      clear hAR hFr
                      clear hKn hKo b1 b3 own3 hNf hff hFf bwf d0 d1 d2 d3 d4 d5 d6 d7 d8 d9
                      have t1 : True := trivial
                      have t2 : True := trivial
                      go_wp2_with (first
                        | (at_builtin; clear t1; refine wpList_append_eq _ rfl (.tmp 77) (.tmp 80) 24 24 rfl rfl (.slice none 0 0) (.slice (some ⟨g, 0, none⟩) q vc) (.slice p1 q c1) rfl rfl w1 hrun1 ?_)
                        | (at_builtin; clear t2; refine wpList_append_eq _ rfl (.tmp 82) (.tmp 84) 24 24 rfl rfl (.slice p1 q c1) (.slice (some ⟨w1.heap.size, 0, none⟩) 1 1) (.slice p2 (q + 1) c2) rfl rfl w2' hrun2 ?_)
                        | (at_builtin; refine wpList_append_eq _ rfl (.tmp 86) (.tmp 89) 24 24 rfl rfl (.slice p2 (q + 1) c2) (.slice (some ⟨g, q * 10, none⟩) (m - q) (vc - q)) (.slice p3 (m + 1) c3) rfl rfl w3' hrun3 ?_))
                      go_roundw
                      case rel => exact ⟨k + 1, m + 1, zins z q k, _, _, _, _, by go_num, by omega, by omega, HG2, HF2, hKn2.out, HB3.out⟩
                      case measure => simp [intOf]; omega
                    ·
                      have hqe : q = m := by omega
                      obtain ⟨p1, c1, w1, p2, c2, w2', p3, c3, w3', hrun1, hrun2, hrun3, own3, b1, b3⟩ := put10 wf (some ⟨g, 0, none⟩) m vc q (fun j => tC (X (z j)) (A0 (z j)) (K0 (z j)) (A1 (z j)) (K1 (z j))) (tC (X k) ha0 hc0 ha1 hc1) (by omega) (if vc = q then some ⟨g, 0, none⟩ else some ⟨g, q * 10, none⟩) (.inr ⟨g, rfl, hmc, hAR.lt, fun j hj => hAR.at' j hj, (Decidable.em (vc = q)).elim (fun h => .inl ⟨h, if_pos h⟩) (fun h => .inr (if_neg h))⟩) (fun v => tC_one _ _ _ _ _) (tC_one _ _ _ _ _) (by omega)
                      have hKn := hKo.put (p := q) hzk (hFf _ (.inr (Nat.le_refl _))) b3 bwfs (by omega) own3
                      have HB3 : Hid (Below w.heap.size w w3') := bwf.trans (b3.mono bwfs)
                      have bl1 : bx < wf.heap.size := hNf.lt
                      have y0 := (b1.cell (p := ⟨bx, 0, none⟩) bl1).trans d0
                      have y1 := (b1.cell (p := ⟨bx, 1, none⟩) bl1).trans d1
                      have y2 := (b1.cell (p := ⟨bx, 2, none⟩) bl1).trans d2
                      have y3 := (b1.cell (p := ⟨bx, 3, none⟩) bl1).trans d3
                      have y4 := (b1.cell (p := ⟨bx, 4, none⟩) bl1).trans d4
                      have y5 := (b1.cell (p := ⟨bx, 5, none⟩) bl1).trans d5
                      have y6 := (b1.cell (p := ⟨bx, 6, none⟩) bl1).trans d6
                      have y7 := (b1.cell (p := ⟨bx, 7, none⟩) bl1).trans d7
                      have y8 := (b1.cell (p := ⟨bx, 8, none⟩) bl1).trans d8
                      have y9 := (b1.cell (p := ⟨bx, 9, none⟩) bl1).trans d9
                      have hKn2 : Hid (KeptA w3' w.heap.size (.slice p3 (m + 1) c3) (m + 1) (k + 1) X (zins z q k) (upA A0 k ha0) (upA A1 k ha1) (upA K0 k hc0) (upA K1 k hc1)) := hKn
                      clear hAR hFr hqe
                      clear hKn hKo b1 b3 own3 hNf hff hFf bwf d0 d1 d2 d3 d4 d5 d6 d7 d8 d9
                      have t1 : True := trivial
                      have t2 : True := trivial
                      go_wp2_with (first
                        | (at_builtin; clear t1; refine wpList_append_eq _ rfl (.tmp 77) (.tmp 80) 24 24 rfl rfl (.slice none 0 0) (.slice (some ⟨g, 0, none⟩) q vc) (.slice p1 q c1) rfl rfl w1 hrun1 ?_)
                        | (at_builtin; clear t2; refine wpList_append_eq _ rfl (.tmp 82) (.tmp 84) 24 24 rfl rfl (.slice p1 q c1) (.slice (some ⟨w1.heap.size, 0, none⟩) 1 1) (.slice p2 (q + 1) c2) rfl rfl w2' hrun2 ?_)
                        | (at_builtin; refine wpList_append_eq _ rfl (.tmp 86) (.tmp 89) 24 24 rfl rfl (.slice p2 (q + 1) c2) (.slice (if vc = q then some ⟨g, 0, none⟩ else some ⟨g, q * 10, none⟩) (m - q) (vc - q)) (.slice p3 (m + 1) c3) rfl rfl w3' hrun3 ?_))
                      go_roundw
                      case rel => exact ⟨k + 1, m + 1, zins z q k, _, _, _, _, by go_num, by omega, by omega, HG2, HF2, hKn2.out, HB3.out⟩
                      case measure => simp [intOf]; omega
                ·
                  obtain ⟨hqm, hke⟩ := HE.out.1 rfl
                  clear HE hPl
                  have hkw : IntKind.i64.wrap ((k : Int) + 1) = ((k + 1 : Nat) : Int) := by rw [IntKind.wrap_i64] <;> omega
                  have hKo := hKf
                  obtain ⟨g, cap, ev, hm0, hmc, hbg, hAR, hFr⟩ := hKf.resolve_left (fun hh => by have := hh.2.1; omega)
                  injection ev with ev1 ev2 ev3
                  subst ev1 ev3
                  have hgb := hgl g vc rfl
                  have hqi : (q : Int) < (m : Int) := by omega
                  have hq0 : (0 : Int) ≤ (q : Int) := by omega
                  by_cases hv : (X (z q)).ver ≤ (X k).ver
                  ·
                    have HF2 : Hid (Fin' X (k + 1) (zput z q k) m) := HF.out.over hqm hke hv
                    have hTq : ToAt wf g (q * 10) (X (z q)) (A0 (z q)) (A1 (z q)) (K0 (z q)) (K1 (z q)) := toAt_of (hAR.at' q hqm) hAR.lt
                    have c3' := hTq.c3
                    have n3' := hNf.c3
                    simp only [Nat.zero_add] at n3'
                    clear HF hTq
                    go_wp2_with fail
                    go_quiet (fail)
                    have hbn : Below wf.heap.size wf (wf.drewN nq) := below_drewN (Below.refl _ _) nq
                    clear c3' n3'
                    generalize wf.drewN nq = u at hbn ⊢
                    have hbns := hbn.size
                    have hARu := hAR.keep hbn
                    have hTq : ToAt u g (q * 10) (X (z q)) (A0 (z q)) (A1 (z q)) (K0 (z q)) (K1 (z q)) := toAt_of (hARu.at' q hqm) hARu.lt
                    obtain ⟨_, x0, x1, x2, x3, x4, x5, x6, x7, x8, x9⟩ := hTq
                    obtain ⟨_, d0, d1, d2, d3, d4, d5, d6, d7, d8, d9⟩ := hNf.keep hbn
                    simp only [Nat.zero_add] at d1 d2 d3 d4 d5 d6 d7 d8 d9
                    have f0 := hARu.fz (q * 10) (by omega)
                    have f1 := hARu.fz (q * 10 + 1) (by omega)
                    have f2 := hARu.fz (q * 10 + 2) (by omega)
                    have f3 := hARu.fz (q * 10 + 3) (by omega)
                    have f4 := hARu.fz (q * 10 + 4) (by omega)
                    have f5 := hARu.fz (q * 10 + 5) (by omega)
                    have f6 := hARu.fz (q * 10 + 6) (by omega)
                    have f7 := hARu.fz (q * 10 + 7) (by omega)
                    have f8 := hARu.fz (q * 10 + 8) (by omega)
                    have f9 := hARu.fz (q * 10 + 9) (by omega)
                    have hKn := KeptA.over (ha0 := ha0) (ha1 := ha1) (hc0 := hc0) (hc1 := hc1) (p := q) hm0 hmc hbg hARu (fun i hi => (hFr i hi).kb hbn (Nat.le_refl _)) hzk ((hFf g (.inl hgb)).kb hbn (Nat.le_refl _)) hqm
                    have hbl : Below w.heap.size w (lay10 u g (q * 10) (tC (X k) ha0 hc0 ha1 hc1)) := (bwf.trans (hbn.mono bwfs)).trans ((WrB.of_others (lay10_others u g (q * 10) (tC (X k) ha0 hc0 ha1 hc1))).below hbg (by omega))
                    have HKn : Hid (KeptA (lay10 u g (q * 10) (tC (X k) ha0 hc0 ha1 hc1)) w.heap.size (.slice (some ⟨g, 0, none⟩) m vc) m (k + 1) X (zput z q k) (upA A0 k ha0) (upA A1 k ha1) (upA K0 k hc0) (upA K1 k hc1) ∧ Below w.heap.size w (lay10 u g (q * 10) (tC (X k) ha0 hc0 ha1 hc1))) := ⟨hKn, hbl⟩
                    clear hKn hbl hAR hARu hFr hFf hff hKo hNf bwf hgl hbn hbns
                    go_upto_region 21 with fail
                    obtain ⟨W8, hW8⟩ : ∃ W8, W8 = lay10 u g (q * 10) (tC (X k) ha0 hc0 ha1 hc1) := ⟨_, rfl⟩
                    rw [← hW8] at HKn
                    change Code.wp _ _ _ _ (lay10 u g (q * 10) (tC (X k) ha0 hc0 ha1 hc1))
                    rw [← hW8]
                    clear hW8 x0 x1 x2 x3 x4 x5 x6 x7 x8 x9 d0 d1 d2 d3 d4 d5 d6 d7 d8 d9 f0 f1 f2 f3 f4 f5 f6 f7 f8 f9
                    go_wp2
                    go_roundw
                    case rel => exact ⟨k + 1, m, zput z q k, _, _, _, _, by go_num, by omega, by omega, HG2, HF2, HKn.out.1, HKn.out.2⟩
                    case measure => simp [intOf]; omega
                  ·
                    have HF2 : Hid (Fin' X (k + 1) z m) := HF.out.stay hqm hke hv
                    have hTq : ToAt wf g (q * 10) (X (z q)) (A0 (z q)) (A1 (z q)) (K0 (z q)) (K1 (z q)) := toAt_of (hAR.at' q hqm) hAR.lt
                    have c3' := hTq.c3
                    have n3' := hNf.c3
                    simp only [Nat.zero_add] at n3'
                    have HKn : Hid (KeptA wf w.heap.size (.slice (some ⟨g, 0, none⟩) m vc) m (k + 1) X z (upA A0 k ha0) (upA A1 k ha1) (upA K0 k hc0) (upA K1 k hc1)) := hKo.stay hzk hm0 (fun g' c' e => hFf g' (.inl (hgl g' c' e)))
                    clear HF hTq hAR hFr hFf hff hKo hNf hgl
                    go_wp2_with fail
                    go_quiet (fail)
                    have hbn : Below wf.heap.size wf (wf.drewN nq) := below_drewN (Below.refl _ _) nq
                    clear c3' n3'
                    generalize wf.drewN nq = u at hbn ⊢
                    go_wp2
                    go_roundw
                    case rel => exact ⟨k + 1, m, z, _, _, _, _, by go_num, by omega, by omega, HG2, HF2, HKn.out.keep hbn, bwf.trans (hbn.mono bwfs)⟩
                    case measure => simp [intOf]; omega
            ·
              have hlt2 := HE.out.1 rfl
              have HL2 : Hid (∀ j, j < q + 1 → ltL (kx X (z j)) (kx X k)) := fun j hj => by
                by_cases e : j = q
                · rw [e]; exact hlt2.2
                · exact HL.out j (by omega)
              have hq1 : q + 1 ≤ m := hlt2.1
              have hqw : IntKind.i64.wrap ((q : Int) + 1) = ((q + 1 : Nat) : Int) := by rw [IntKind.wrap_i64] <;> omega
              clear hKp6 hFar6 hFarN HF HG HG2 hgl hN6 fz6 hz hS hbd h HE HL hlt2 hzk
              go_wp2
              go_roundw
              case rel => exact ⟨q + 1, by go_num, hq1, HL2, hbd2⟩
              case measure => simp [intOf]; omega
    · have hki : ¬ (k : Int) < (n : Int) := by omega
      obtain rfl : k = n := by omega
      have HY : Hid (∀ i, i < k → gK (X i) = true) := HG.out
      have HR := hKp.row HF.out.lt hbd.out
      have HL : Hid (Fin' X k z m) := HF.out
      clear hKp HG HF hmk hgt
      go_wp2
      exact bodyPost_ret (v := .tuple #[.slice va m vc, .bool true]) (by simp [results, Try.results5, go_sem]) rfl (.inr ⟨HY.out, m, z, HL.out, va, vc, rfl, HR, hb⟩)
end Go.Proofs.Ytjdijikmdlklkaa
