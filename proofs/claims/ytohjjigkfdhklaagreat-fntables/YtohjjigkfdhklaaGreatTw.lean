/- What is gathered of blocks, in whatever order. / A table's bytes, in the program. -/
import Derived.Test.YtohjjigkfdhklaaGreatPb
import Derived.Test.YtohjjigkfdhklaaGreatCh
namespace Go.Proofs.YtohjjigkfdhklaaGreat
set_option maxRecDepth 100000
open Go.RowKit Go.Shelf
set_option linter.unusedSimpArgs false
set_option linter.unusedVariables false

def gB (X : Nat → Ent) (n : Nat) (P : List Nat) : List Int := P.flatMap fun x => blk X (4 * x) (bsz n x)
def gK (X : Nat → Ent) (n : Nat) (P : List Nat) (i : Nat) : ByteArray := lastK X n (P.getD i 0)
def gA (X : Nat → Ent) (n : Nat) (P : List Nat) (i : Nat) : Int := ((gB X n (P.take i)).length : Nat)
def gD (X : Nat → Ent) (n : Nat) (P : List Nat) (i : Nat) : Int := ((blk X (4 * P.getD i 0) (bsz n (P.getD i 0))).length : Nat)
def gC (n : Nat) (P : List Nat) : Nat := (P.map (bsz n)).sum

theorem gB_snoc (X : Nat → Ent) (n : Nat) (P : List Nat) (x : Nat) : gB X n (P ++ [x]) = gB X n P ++ blk X (4 * x) (bsz n x) := by simp [gB]
theorem gC_snoc (n : Nat) (P : List Nat) (x : Nat) : gC n (P ++ [x]) = gC n P + bsz n x := by simp [gC]
theorem gC_le (n : Nat) (P : List Nat) : gC n P ≤ 4 * P.length := by
  induction P with
  | nil => simp [gC]
  | cons x P ih =>
    have := (bsz_le n x).1
    simp only [gC, List.map_cons, List.sum_cons, List.length_cons] at *
    omega
theorem getD_snoc {P : List Nat} {x i : Nat} (h : i < P.length) : (P ++ [x]).getD i 0 = P.getD i 0 := by
  simp [List.getD_eq_getElem?_getD, List.getElem?_append_left h]
theorem getD_last (P : List Nat) (x : Nat) : (P ++ [x]).getD P.length 0 = x := by
  simp [List.getD_eq_getElem?_getD]
theorem take_snoc {P : List Nat} {x i : Nat} (h : i ≤ P.length) : (P ++ [x]).take i = P.take i := List.take_append_of_le_length h
theorem g_agree (X : Nat → Ent) (n : Nat) (P : List Nat) (x i : Nat) (h : i < P.length) : gK X n (P ++ [x]) i = gK X n P i ∧ gA X n (P ++ [x]) i = gA X n P i ∧ gD X n (P ++ [x]) i = gD X n P i := by
  unfold gK gA gD
  rw [getD_snoc h, take_snoc (by omega)]
  exact ⟨rfl, rfl, rfl⟩
theorem g_last (X : Nat → Ent) (n : Nat) (P : List Nat) (x : Nat) : gK X n (P ++ [x]) P.length = lastK X n x ∧ gA X n (P ++ [x]) P.length = ((gB X n P).length : Nat) ∧ gD X n (P ++ [x]) P.length = ((blk X (4 * x) (bsz n x)).length : Nat) := by
  unfold gK gA gD
  rw [getD_last, take_snoc (Nat.le_refl _), List.take_length]
  exact ⟨rfl, rfl, rfl⟩
theorem xrows_congr {K K' : Nat → ByteArray} {A A' B B' : Nat → Int} (J : Nat) (h : ∀ i, i < J → K i = K' i ∧ A i = A' i ∧ B i = B' i) : xrows K A B J = xrows K' A' B' J := by
  induction J with
  | zero => rfl
  | succ J ih =>
    obtain ⟨h1, h2, h3⟩ := h J (by omega)
    rw [xrows, xrows, ih fun i hi => h i (by omega), xcells, xcells, h1, h2, h3]
theorem ixL_congr {K K' : Nat → ByteArray} {A A' B B' : Nat → Int} (J : Nat) (h : ∀ i, i < J → K i = K' i ∧ A i = A' i ∧ B i = B' i) : ixL K A B J = ixL K' A' B' J := by
  induction J with
  | zero => rfl
  | succ J ih =>
    obtain ⟨h1, h2, h3⟩ := h J (by omega)
    rw [ixL, ixL, ih fun i hi => h i (by omega), h1, h2, h3]
theorem gB_range (X : Nat → Ent) (n j : Nat) : gB X n (List.range j) = blks X n j := by
  induction j with
  | zero => rfl
  | succ j ih => rw [List.range_succ, gB_snoc, ih, blks]
theorem g_range (X : Nat → Ent) (n m i : Nat) (h : i < m) : gK X n (List.range m) i = lastK X n i ∧ gA X n (List.range m) i = ((blks X n i).length : Nat) ∧ gD X n (List.range m) i = ((blk X (4 * i) (bsz n i)).length : Nat) := by
  have e : (List.range m).getD i 0 = i := by simp [List.getD_eq_getElem?_getD, h]
  have e2 : (List.range m).take i = List.range i := by rw [List.take_range, Nat.min_eq_left (by omega)]
  unfold gK gA gD
  rw [e, e2, gB_range]
  exact ⟨rfl, rfl, rfl⟩
theorem ixL_range (X : Nat → Ent) (n m : Nat) : ixL (gK X n (List.range m)) (gA X n (List.range m)) (gD X n (List.range m)) m = idx X n m := by
  rw [ixL_congr m fun i hi => g_range X n m i hi]
  induction m with
  | zero => rfl
  | succ m ih => rw [ixL, ih, idx, idR]
theorem gC_range (n : Nat) : gC n (List.range (nbl n)) = n := by
  have h : ∀ j, gC n (List.range j) = min (4 * j) n := fun j => by
    induction j with
    | zero => simp [gC]
    | succ j ih => rw [List.range_succ, gC_snoc, ih]; unfold bsz; omega
  rw [h]
  unfold nbl
  omega
theorem gB_len (X : Nat → Ent) (n : Nat) (P : List Nat) (h : ∀ i, i < n → (X i).key.size ≤ 140) : (gB X n P).length ≤ 1208 * P.length := by
  induction P with
  | nil => simp [gB]
  | cons x P ih =>
    have h1 := blk_len X (4 * x) (bsz n x) fun i hi => h _ (by unfold bsz at hi; omega)
    have h2 := (bsz_le n x).1
    simp only [gB, List.flatMap_cons, List.length_append, List.length_cons] at *
    omega
/-- A block's bytes, whichever names its entries bear. -/
theorem blk_shift (X : Nat → Ent) (o k : Nat) : blk (fun i => X (o + i)) 0 k = blk X o k := by
  induction k with
  | zero => rfl
  | succ k ih =>
    rw [blk, blk, ih, Nat.zero_add]
    cases k with
    | zero => rfl
    | succ k => simp only [ahd, Nat.zero_add]

theorem obj_ne {w : World} {b o : Nat} {v : Value} (h : w.cell? ⟨b, o, none⟩ = some v) {r : Nat} (hr : ∃ x : Obj, w.heap[r]? = some x ∧ x.isCells = false) : r ≠ b := by
  rintro rfl
  obtain ⟨x, hx, hc⟩ := hr
  cases x <;> simp_all [World.cell?, Obj.isCells]
theorem own_ne {w : World} {base e size n : Nat} {v : Value} {xs : List Value} (h : w.ownsRow base e size v n xs) {r : Nat} (hr : ∃ x : Obj, w.heap[r]? = some x ∧ x.isCells = false) : v.ownBlock ≠ some r := by
  intro e'
  obtain ⟨x, hx, hc⟩ := hr
  rcases h.2 with ⟨rfl, _⟩ | ⟨g, cap, cur, rfl, _, hg, _⟩
  · simp [Value.ownBlock] at e'
  · obtain rfl : g = r := by simpa [Value.ownBlock] using e'
    rw [hg] at hx
    cases hx
    cases hc
theorem TS.obj {base : Nat} {w w' : World} {W : Nat} {v iv : Value} {L : List Int} {K : Nat → ByteArray} {A B : Nat → Int} {J : Nat} {fa ia en : Int} {row : Option Nat} (h : TS base w W v L iv K A B J fa ia en) (hg : w.grownBy w' row) (hr : ∀ r, row = some r → ∃ x : Obj, w.heap[r]? = some x ∧ x.isCells = false) : TS base w' W v L iv K A B J fa ia en :=
  ⟨h.at'.grown hg (fun e => obj_ne h.at'.c0 (hr W e) rfl), h.own.kept hg (fun k e => own_ne h.own.own (hr k e)), ownsRow_kept h.idx hg (fun k e => own_ne h.idx (hr k e)), h.hb, h.nv, h.ni, h.dis⟩
theorem TS.congr {base : Nat} {w : World} {W : Nat} {v iv : Value} {L : List Int} {K K' : Nat → ByteArray} {A A' B B' : Nat → Int} {J : Nat} {fa ia en : Int} (h : TS base w W v L iv K A B J fa ia en) (hc : ∀ i, i < J → K' i = K i ∧ A' i = A i ∧ B' i = B i) : TS base w W v L iv K' A' B' J fa ia en :=
  ⟨h.at', h.own, by rw [xrows_congr J hc]; exact h.idx, h.hb, h.nv, h.ni, h.dis⟩
theorem Md.others {W : Nat} {w w' : World} {v iv v' iv' : Value} {base : Nat} {L : List Int} {K : Nat → ByteArray} {A B : Nat → Int} {J : Nat} {fa ia en : Int} (h : Md W w v iv w' v' iv') (hT : TS base w W v L iv K A B J fa ia en) : KeepsOthers w w' :=
  ⟨h.size, fun k o hk ho => by
    have hk' := (Array.getElem?_eq_some_iff.1 hk).1
    rw [h.block k hk' (obj_ne hT.at'.c0 ⟨o, hk, ho⟩) (own_ne hT.own.own ⟨o, hk, ho⟩) (own_ne hT.idx ⟨o, hk, ho⟩)]
    exact hk⟩
theorem Md.belowB {W : Nat} {w w' : World} {v iv v' iv' : Value} {base : Nat} {L : List Int} {K : Nat → ByteArray} {A B : Nat → Int} {J : Nat} {fa ia en : Int} (h : Md W w v iv w' v' iv') (hT : TS base w W v L iv K A B J fa ia en) : Below base w w' :=
  ⟨h.os, h.tape, h.output, h.size, fun k hk => h.block k (by have := hT.at'.lt; have := hT.hb; omega) (by have := hT.hb; omega) (fun e => by have := hT.own.lt k e; omega) (fun e => by have := hT.idx.lt k e; omega)⟩
end Go.Proofs.YtohjjigkfdhklaaGreat

namespace Go.Proofs.YtohjjigkfdhklaaGreat
set_option maxRecDepth 100000
open Go.RowKit Go.Shelf
set_option linter.unusedSimpArgs false
set_option linter.unusedVariables false
attribute [local go_sem] Oper.semAt_some

/-- Behind the blocks P: what the writer holds. -/
def TI (X : Nat → Ent) (n : Nat) (w w4 : World) (P : List Nat) (W : World) : Prop :=
  ∃ v iv, TS w.heap.size W (w.heap.size + 1) v (gB X n P) iv (gK X n P) (gA X n P) (gD X n P) P.length 0 0 (gC n P : Nat) ∧ Below w.heap.size w W ∧ w4.heap.size ≤ W.heap.size ∧
    (∀ k, k < w4.heap.size → w.heap.size ≤ k → k ≠ w.heap.size + 1 → v.ownBlock ≠ some k ∧ iv.ownBlock ≠ some k ∧ W.heap[k]? = w4.heap[k]?)
theorem ti_own (X : Nat → Ent) (n : Nat) (w w4 : World) (hs : w.heap.size ≤ w4.heap.size) : OwnFrom w4.heap.size (TI X n w w4) := by
  rintro P A B row ⟨v, iv, h1, h2, h3, h4⟩ hg hr
  refine ⟨v, iv, h1.obj hg (fun r e => (hr r e).2), h2.grown hg (Nat.le_trans hs h3) (fun k hk => Nat.le_trans hs (hr k hk).1), Nat.le_trans h3 hg.size, fun k hk hw hne => ?_⟩
  obtain ⟨q1, q2, q3⟩ := h4 k hk hw hne
  exact ⟨q1, q2, (hg.block k (Nat.lt_of_lt_of_le hk h3) (fun e => by have := (hr k e.symm).1; omega)).trans q3⟩

set_option maxRecDepth 100000 in
set_option maxHeartbeats 4000000 in
theorem tableBytes_any (b off n bc : Nat) (X : Nat → Ent) (y : Int) (fo : Option Addr) (fm fc : Nat) (f : Nat → Int) (w : World) (hr : ERow w (some ⟨b, off, none⟩) n X) (hn : 1 ≤ n ∧ n ≤ 100) (hcap : n ≤ bc) (hG : ∀ i, i < n → GoodE (X i)) (hf : Row w fo fm f) (hgf : GoodF y fm) (hfm : fm ≤ 1000) :
    Calls Tryz.prog 26 #[.slice (some ⟨b, off, none⟩) n bc, .agg #[.int .i64 y, .slice fo fm fc]] w fun e w' => ∃ v, e = .returned v ∧ OwnL w' w.heap.size v (tbl X n y (ffl f fm)) ∧ Below w.heap.size w w' := by
  have c1 := chunk_any (some ⟨b, off, none⟩) n bc
  refine (callsIn_wide (n := 4)).1 ?_
  refine callsIn_of_wp_marks Tryz.func26 rfl trivial ?_ rfl
  simp only [Tryz.ntmps26, List.size_toArray, List.length_cons, List.length_nil, Nat.reduceAdd, Nat.reduceSub, Array.replicate_succ, Array.replicate_zero, List.push_toArray, List.append_toArray, List.nil_append, List.cons_append]
  gi_wp2_with (refine ⟨trivial, ?_⟩; gi_at_call 52; refine (callsIn_wide.2 (c1 _)).mono ?_; rintro e w4 ⟨rfl, hw4⟩)
  have hw4' := hw4.symm
  clear hw4
  rw [hw4']
  have hs4 : w4.heap.size = w.heap.size + 4 := by rw [← hw4']; simp
  have bw4 : Below w.heap.size w w4 := by
    rw [← hw4']
    exact (((below_new w _).alloc (by simp) _).alloc (by simp; omega) _).alloc (by simp; omega) _
  have F4 : FAt w4 w.heap.size y (.slice fo fm fc) := by
    rw [← hw4']
    refine ⟨by simp; omega, ?_, ?_⟩ <;> simp [go_sem]
  have W4 : WAt w4 (w.heap.size + 1) (.slice none 0 0) (.slice none 0 0) 0 0 0 := by
    rw [← hw4']
    refine ⟨by simp, ?_, ?_, ?_, ?_, ?_, fun j => ?_⟩ <;> simp [go_sem]
  have hBs : w4.cell? ⟨w.heap.size + 1 + 1, 0, none⟩ = some (.slice (some ⟨b, off, none⟩) n bc) := by rw [← hw4']; simp [go_sem]
  have hBn : w4.cell? ⟨w.heap.size + 1 + 1 + 1, 0, none⟩ = some (.int .i64 4) := by rw [← hw4']; simp [go_sem]
  have hK140 : ∀ i, i < n → (X i).key.size ≤ 140 := fun i hi => by have := (hG i hi).1; unfold KeyOk at this; omega
  have hnb : nbl n ≤ 25 := by unfold nbl; omega
  have hI0 : TI X n w w4 [] w4 := by
    refine ⟨.slice none 0 0, .slice none 0 0, ⟨W4, ownL_nil _ _, World.ownsRow_nil _ _ _ _, by omega, by simp [Value.ownBlock], by simp [Value.ownBlock], fun g e => by simp [Value.ownBlock] at e⟩, bw4, Nat.le_refl _, fun k _ _ _ => ⟨by simp [Value.ownBlock], by simp [Value.ownBlock], rfl⟩⟩
  have hst := chunk_stops 3 (by omega) (w.heap.size + 1 + 1) (w.heap.size + 1 + 1 + 1) n bc b off (by omega) hcap w4 (by omega) (by omega) hBs hBn
  clear c1 hw4' W4 hBs hBn
  refine wpIn_rangeFunc_ownG rfl (by omega) (gf := 82) (lb := #[.pointer (some ⟨w.heap.size + 1 + 1, 0, none⟩), .pointer (some ⟨w.heap.size + 1 + 1 + 1, 0, none⟩)]) rfl trivial (enters_of Tryz.func82 (by kernel_rfl) rfl)
    hst KpX.trans (kpX_b (by omega) (by omega)) (Below.refl _ _) (fun _ => rfl)
    (fun (pre : List (Fin (nbl n))) W => TI X n w w4 (pre.map Fin.val) W)
    (fun _ _ _ => False)
    (fun pre A B row hs hg hr => ti_own X n w w4 (by omega) _ A B row hs hg hr)
    (fun _ _ _ _ _ hs _ _ => hs)
    hI0
    (fun x => { tmps := #[.slice (some ⟨b, off, none⟩) n bc, .agg #[.int .i64 y, .slice fo fm fc], undef, .pointer (some ⟨w.heap.size, 0, none⟩), .slice none 0 0, .pointer (some ⟨w.heap.size + 1, 0, none⟩), .slice (some ⟨b, off + 4 * x.1 * 9, none⟩) (bsz n x.1) (bsz n x.1), .slice (some ⟨b, off, none⟩) n bc, .func (.func 82) #[] #[.pointer (some ⟨w.heap.size + 1 + 1, 0, none⟩), .pointer (some ⟨w.heap.size + 1 + 1 + 1, 0, none⟩)], .slice (some ⟨b, off + 4 * x.1 * 9, none⟩) (bsz n x.1) (bsz n x.1), undef, undef, undef, undef, undef, undef, undef, undef, undef, undef, undef, undef, undef, undef, undef, undef, undef], defers := [] }) ?assign ?body ?done ?stop
  case assign =>
    intro l x W K hK
    gi_wp2
    exact hK
  case body =>
    rintro l pre ⟨x, hx⟩ W ⟨v, iv, hT, hB, hs, hk⟩ hpl
    dsimp only
    have hx4 : 4 * x < n := by unfold nbl at hx; omega
    obtain ⟨hb1, hb2⟩ := (bsz_le n x).2 hx4
    have hb3 := (bsz_le n x).1
    obtain ⟨P, hP⟩ : ∃ P, pre.map Fin.val = P := ⟨_, rfl⟩
    have hPl : P.length = pre.length := by rw [← hP, List.length_map]
    rw [hP] at hT
    have hP2 : (pre ++ [(⟨x, hx⟩ : Fin (nbl n))]).map Fin.val = P ++ [x] := by rw [List.map_append, hP]; rfl
    have hrx : ERow w (some ⟨b, off + 4 * x * 9, none⟩) (bsz n x) (fun i => X (4 * x + i)) := by
      obtain ⟨b', off', e, hblt, hc⟩ := hr.lies.resolve_left (by omega)
      injection e with e
      injection e with e1 e2 _
      subst e1 e2
      refine ⟨fun i hi => hr.bd _ (by omega), .inr ⟨b, _, rfl, hblt, fun i hi => ?_⟩⟩
      obtain ⟨da, dc, h1, h2⟩ := hc (4 * x + i) (by omega)
      refine ⟨da, dc, ?_, h2⟩
      rw [show off + 4 * x * 9 + i * 9 = off + (4 * x + i) * 9 from by omega]
      exact h1
    have hGx : ∀ i, i < bsz n x → GoodE (X (4 * x + i)) := fun i hi => hG _ (by omega)
    have hT' := hT.congr (fun i hi => g_agree X n P x i hi)
    obtain ⟨gl1, gl2, gl3⟩ := g_last X n P x
    obtain ⟨va, vc, rfl⟩ := hT.own.form
    have hLb := gB_len X n P hK140
    have hcl := gC_le n P
    have hcall := putBlock_any w b (off + 4 * x * 9) (bsz n x) (bsz n x) (fun i => X (4 * x + i)) W (w.heap.size + 1) va vc (gB X n P) iv (gK X n (P ++ [x])) (gA X n (P ++ [x])) (gD X n (P ++ [x])) P.length 0 0 (gC n P : Nat) hrx hGx (by omega) hB hT' (by omega) (by omega)
      (by rw [gl1, lastK, show 4 * x + (bsz n x - 1) = 4 * x + bsz n x - 1 from by omega]) gl2 (by rw [gl3, blk_shift]) (by omega)
    rw [blk_shift] at hcall
    clear hst hI0 hrx hGx hT'
    gi_wp2_with (refine ⟨trivial, ?_⟩; gi_at_call 53; refine (CallsIn.inRound l (callsIn_wide.2 hcall)).mono ?_; rintro e W' ⟨v', iv', ⟨u, rfl⟩, T', D'⟩)
    have hBW := D'.belowB hT
    have kq : ∀ k, k < w4.heap.size → w.heap.size ≤ k → k ≠ w.heap.size + 1 → v'.ownBlock ≠ some k ∧ iv'.ownBlock ≠ some k ∧ W'.heap[k]? = W.heap[k]? := fun k h1 h2 h3 => by
      obtain ⟨q1, q2, q3⟩ := hk k h1 h2 h3
      exact ⟨D'.nv.ne q1 (by omega), D'.ni.ne q2 (by omega), D'.block k (by omega) h3 q1 q2⟩
    refine ⟨(D'.others hT).from _, ⟨D'.size, (kq _ (by omega) (by omega) (by omega)).2.2, (kq _ (by omega) (by omega) (by omega)).2.2⟩, ?_⟩
    show TI X n w w4 ((pre ++ [(⟨x, hx⟩ : Fin (nbl n))]).map Fin.val) W'
    rw [hP2]
    refine ⟨v', iv', ?_, hB.trans hBW, Nat.le_trans hs D'.size, fun k h1 h2 h3 => ⟨(kq k h1 h2 h3).1, (kq k h1 h2 h3).2.1, (kq k h1 h2 h3).2.2.trans (hk k h1 h2 h3).2.2⟩⟩
    rw [gB_snoc, gC_snoc, List.length_append, List.length_singleton]
    have e : ((gC n P + bsz n x : Nat) : Int) = (gC n P : Int) + (bsz n x : Int) := by omega
    rw [e]
    exact T'
  case done =>
    rintro D ys W hD rfl ⟨v, iv, hT, hB, hs, hk⟩ hK
    rw [rU_val _ _ (Nat.le_refl _), List.length_range, gB_range, gC_range] at hT
    obtain ⟨m, hm⟩ : ∃ m, nbl n = m := ⟨_, rfl⟩
    have hm1 : 1 ≤ m := by rw [← hm]; unfold nbl; omega
    rw [hm] at hT hnb
    have gr := g_range X n m
    have hix := ixL_range X n m
    have hLb := blks_len X n m hK140
    have hKr : ∀ i, i < m → (gK X n (List.range m) i).size ≤ 140 := fun i hi => by
      rw [(gr i hi).1]
      refine hK140 _ ?_
      have := bsz_le n i
      rw [← hm] at hi
      unfold nbl at hi
      omega
    have hAr : ∀ i, i < m → 0 ≤ gA X n (List.range m) i ∧ gA X n (List.range m) i ≤ 1000000 := fun i hi => by
      rw [(gr i hi).2.1]
      have := blks_len X n i hK140
      omega
    have hDr : ∀ i, i < m → 0 ≤ gD X n (List.range m) i ∧ gD X n (List.range m) i ≤ 1000000 := fun i hi => by
      rw [(gr i hi).2.2]
      have := blk_len X (4 * i) (bsz n i) fun j hj => hK140 _ (by unfold bsz at hj; omega)
      have := (bsz_le n i).1
      omega
    have HTB : Hid (tbl X n y (ffl f fm) = blks X n m ++ fbL y f fm ++ idx X n m ++ (fsL [((blks X n m).length : Int), ((blks X n m ++ fbL y f fm).length : Int), (n : Int)] ++ pfL (crcL (blks X n m ++ fbL y f fm ++ idx X n m ++ fsL [((blks X n m).length : Int), ((blks X n m ++ fbL y f fm).length : Int), (n : Int)])) 4 ++ [84, 66, 76, 49])) := by
      unfold Hid tbl bodyT fbL fsL
      rw [hm]
      simp only [List.flatMap_cons, List.flatMap_nil, List.append_nil, List.append_assoc, List.singleton_append, List.cons_append, List.nil_append]
    obtain ⟨g, gc, rfl⟩ : ∃ g gc, iv = .slice (some ⟨g, 0, none⟩) m gc := by
      rcases hT.idx.2 with ⟨_, h0⟩ | ⟨g, cap, cur, e, _⟩
      · omega
      · exact ⟨g, cap, e⟩
    obtain ⟨va, vc, rfl⟩ := hT.own.form
    have hFb := (hk w.heap.size (by omega) (by omega) (by omega)).2.2
    have F5 : FAt W w.heap.size y (.slice fo fm fc) := ⟨by omega, (World.cell?_of_block (w := w4) (a := ⟨w.heap.size, 0, none⟩) hFb).trans F4.c0, (World.cell?_of_block (w := w4) (a := ⟨w.heap.size, 1, none⟩) hFb).trans F4.c1⟩
    have hfl := fbL_len y f fm
    have hil := idx_len X n m hK140 (by omega)
    generalize gK X n (List.range m) = K at *
    generalize gA X n (List.range m) = A at *
    generalize gD X n (List.range m) = B at *
    generalize blks X n m = L0 at *
    have PF := putFilter_any w.heap.size y fo fm fc f W (w.heap.size + 1) va vc L0 (.slice (some ⟨g, 0, none⟩) m gc) K A B m 0 0 (n : Int) (hf.keep hB) hgf hfm hB.size hT (by omega)
    have hKD : ∀ {w1 w2 : World}, KeepsOthers w1 w2 → w1.heap[D]? = some (.deferred (some [])) → w2.heap[D]? = some (.deferred (some [])) := fun h hk => h.same D _ hk rfl
    obtain ⟨_, x0, x1⟩ := F5
    clear hst hI0 F4 hk hFb gr
    gi_wp2_with fail
    refine ⟨trivial, ?_⟩
    refine (callsIn_wide.2 PF).mono ?_
    rintro e w1 ⟨v1, ⟨u1, rfl⟩, T1, D1⟩
    obtain ⟨L1, HL1⟩ : ∃ L1, Hid (L0 ++ fbL y f fm = L1) := ⟨_, rfl⟩
    have hl1 : L1.length ≤ 140000 := (by rw [← HL1.out, List.length_append, hfl]; omega)
    rw [HL1.out] at T1
    obtain ⟨a1, c1, rfl⟩ := T1.own.form
    have B1 := D1.belowB hT
    have K1 := hKD (D1.others hT) hK
    have PI := putIndex_any w.heap.size w1 (w.heap.size + 1) a1 c1 L1 g gc K A B m (L0.length : Int) 0 (n : Int) (Nat.le_trans hB.size B1.size) hKr hAr hDr (by omega) T1 (by omega)
    rw [hix] at PI
    have at1 := T1.at'
    obtain ⟨_, d0, d1, d2, d3, d4, dz⟩ := at1
    gi_wp2_with fail
    refine ⟨trivial, ?_⟩
    refine (callsIn_wide.2 PI).mono ?_
    rintro e w2 ⟨v2, ⟨u2, rfl⟩, T2, D2⟩
    obtain ⟨L2, HL2⟩ : ∃ L2, Hid (L1 ++ idx X n m = L2) := ⟨_, rfl⟩
    have hl2 : L2.length ≤ 150000 := (by rw [← HL2.out, List.length_append]; omega)
    rw [HL2.out] at T2
    obtain ⟨a2, c2, rfl⟩ := T2.own.form
    have B2 := D2.belowB T1
    have K2 := hKD (D2.others T1) K1
    have PE := putEnd_any w.heap.size (L0.length : Int) (L1.length : Int) (n : Int) _ rfl w2 (w.heap.size + 1) a2 c2 L2 (.slice (some ⟨g, 0, none⟩) m gc) K A B m (L0.length : Int) (L1.length : Int) (n : Int) (Nat.le_trans (Nat.le_trans hB.size B1.size) B2.size) (by omega) (by omega) (by omega) T2 (by omega)
    have at2 := T2.at'
    obtain ⟨_, q0, q1, q2, q3, q4, qz⟩ := at2
    gi_wp2_with fail
    refine ⟨trivial, ?_⟩
    refine (callsIn_wide.2 PE).mono ?_
    rintro e w3 ⟨v3, ⟨u3, rfl⟩, T3, D3⟩
    have HE3 : Hid (L2 ++ (fsL [(L0.length : Int), (L1.length : Int), (n : Int)] ++ pfL (crcL (L2 ++ fsL [(L0.length : Int), (L1.length : Int), (n : Int)])) 4 ++ [84, 66, 76, 49]) = tbl X n y (ffl f fm)) := (by unfold Hid; rw [HTB.out, HL1.out, HL2.out])
    rw [HE3.out] at T3
    have B3 := D3.belowB T2
    have K3 := hKD (D3.others T2) K2
    obtain ⟨a3, c3, rfl⟩ := T3.own.form
    have at3 := T3.at'
    obtain ⟨_, p0, p1, p2, p3, p4, pz⟩ := at3
    gi_wp2_with fail
    refine ⟨by simp, .inl ⟨_, _, rfl, run_takeDeferred K3, ?_⟩⟩
    have hgp := grownBy_putObj' w3 D (.deferred none)
    have hDo : ∃ x : Obj, w3.heap[D]? = some x ∧ x.isCells = false := ⟨_, K3, rfl⟩
    have hlD := (Array.getElem?_eq_some_iff.1 K3).1
    refine ⟨.slice a3 (tbl X n y (ffl f fm)).length c3, ?_, _, rfl, T3.own.kept hgp (fun k e => by injection e with e; subst e; exact own_ne T3.own.own hDo), ?_⟩
    · simp [results, Tryz.results26, go_sem]
    · exact (((hB.trans B1).trans B2).trans B3).grown hgp (by omega) (fun k e => by injection e with e; omega)
  case stop =>
    rintro D c pre W _ _ h _
    exact h.elim
end Go.Proofs.YtohjjigkfdhklaaGreat
