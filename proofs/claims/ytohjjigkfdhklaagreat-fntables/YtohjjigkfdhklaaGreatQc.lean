/- What a table finds of a key, in the program. -/
import Derived.Test.YtohjjigkfdhklaaGreatQb
import Derived.BigQuiet
namespace Go.Proofs.YtohjjigkfdhklaaGreat
set_option maxRecDepth 100000
open Go.RowKit Go.Shelf
set_option linter.unusedSimpArgs false
set_option linter.unusedVariables false
attribute [local go_sem] Oper.semAt_some

theorem ko_below {A B : World} (h : Below A.heap.size A B) : KeepsOthers A B := ⟨h.size, fun k o hk _ => (h.block k (Array.getElem?_eq_some_iff.1 hk).1).trans hk⟩
theorem ko_grown {A B : World} {base e size n : Nat} {v : Value} {xs : List Value} (h : A.grownBy B v.ownBlock) (ho : A.ownsRow base e size v n xs) : KeepsOthers A B :=
  KeepsOthers.of_grownBy h fun j o ej hj => by
    rcases ho.2 with ⟨e0, _⟩ | ⟨g, cap, cur, e0, _, hgb, _⟩
    · rw [e0] at ej; simp [Value.ownBlock] at ej
    · rw [e0] at ej
      obtain rfl : g = j := by simpa [Value.ownBlock] using ej
      rw [hgb] at hj; cases hj; rfl
theorem othG {d : Nat} {w w' : World} (ho : Others d w w') : w.grownBy w' (some d) := ⟨ho.os, ho.tape, ho.output, by rw [ho.size]; exact Nat.le_refl _, fun i _ hn => ho.block i (fun e => hn (by rw [e]))⟩
theorem outE_grown {w w' : World} {base d : Nat} {v : Value} {n : Nat} {X : Nat → Ent} {V : Nat → Value} (h : OutE w base v n X V) (hg : w.grownBy w' (some d)) (hd : d < base) : OutE w' base v n X V :=
  ⟨ownsRow_kept h.own hg (fun k e hh => by injection e with e; have := (h.own.lt k hh).1; omega), fun i hi => ⟨(h.row i hi).bd, ownsRow_kept (h.row i hi).own hg (fun k e hh => by injection e with e; have := ((h.row i hi).own.lt k hh).1; omega)⟩, h.dis, h.apart⟩
theorem box_blk {W W' : World} {B : Nat} {t : TypeId} {v : Value} (h : Boxed W B t v) (e : W'.heap[B]? = W.heap[B]?) : Boxed W' B t v := e.trans h
theorem boxed_at {t : TypeId} {v : Value} (W : World) (B : Nat) (hB : B = W.heap.size) : Boxed (W.alloc (.cells #[v] t)) B t v := by
  subst hB
  exact Boxed.new W t v
/-- What find leaves. -/
def FdO (X : Nat → Ent) (m : Nat) (s : ByteArray) (w : World) (e : Ending) (w' : World) : Prop :=
  ∃ v V, e = .returned (.tuple #[v, .int .i64 ((fd X m s (nbl m)).1 : Nat)]) ∧ OutE w' w.heap.size v (fd X m s (nbl m)).2.2.length (eL (fd X m s (nbl m)).2.2) V ∧ Below w.heap.size w w'
/-- The end was met at the last of the blocks P. -/
def FEnd (X : Nat → Ent) (m : Nat) (s : ByteArray) (P : List Nat) : Prop := ∃ P0 x, P = P0 ++ [x] ∧ NoB X m s P0 ∧ Op.bytesLess (lastK X m x).toList s.toList = false ∧ (lastK X m x).toList ≠ s.toList
theorem fEnd_fd {X : Nat → Ent} {m : Nat} {s : ByteArray} {k : Nat} (h : FEnd X m s (List.range k)) (hk : k ≤ nbl m) : fd X m s (nbl m) = ((gF X m s (List.range k)).1, true, (gF X m s (List.range k)).2) := by
  obtain ⟨P0, x, e, h1, h2, h3⟩ := h
  obtain ⟨j, rfl⟩ : ∃ j, k = j + 1 := ⟨k - 1, by
    have := congrArg List.length e
    simp at this
    omega⟩
  rw [List.range_succ] at e ⊢
  obtain ⟨e1, e2⟩ := List.append_inj' e rfl
  injection e2 with e2
  subst e1 e2
  have := fd_stop h1 h2 h3 (nbl m - (j + 1))
  rw [show j + 1 + (nbl m - (j + 1)) = nbl m by omega] at this
  exact this

set_option maxRecDepth 100000 in
set_option maxHeartbeats 8000000 in
theorem find_any (b off m bc : Nat) (X : Nat → Ent) (y : Int) (fo : Option Addr) (fn fc : Nat) (s : ByteArray) (w : World) (hr : ERow w (some ⟨b, off, none⟩) m X) (hm : 1 ≤ m ∧ m ≤ 100) (hcap : m ≤ bc) (hG : GoodL X m) (hz : ESize m X) :
    Calls Tryz.prog 33 #[.agg #[.slice (some ⟨b, off, none⟩) m bc, .int .i64 y, .slice fo fn fc], .string s] w fun e w' => FdO X m s w e w' := by
  have c1 := chunk_any (some ⟨b, off, none⟩) m bc
  refine (callsIn_wide (n := 4)).1 ?_
  refine callsIn_of_wp_marks Tryz.func33 rfl trivial ?_ rfl
  simp only [Tryz.ntmps33, List.size_toArray, List.length_cons, List.length_nil, Nat.reduceAdd, Nat.reduceSub, Array.replicate_succ, Array.replicate_zero, List.push_toArray, List.append_toArray, List.nil_append, List.cons_append]
  gi_wp2_with (refine ⟨trivial, ?_⟩; gi_at_call 52; refine (callsIn_wide.2 (c1 _)).mono ?_; rintro e w4 ⟨rfl, hw4⟩)
  have hw4' := hw4.symm
  clear hw4
  rw [hw4']
  have hs4 : w4.heap.size = w.heap.size + 6 := by rw [← hw4']; simp
  have bw4 : Below w.heap.size w w4 := by
    rw [← hw4']
    exact (((((below_new w _).alloc (by simp) _).alloc (by simp; omega) _).alloc (by simp; omega) _).alloc (by simp; omega) _).alloc (by simp; omega) _
  have x1 : Boxed w4 (w.heap.size + 1) 9 (.string s) := by
    rw [← hw4']
    exact ((((boxed_at _ _ (by simp)).alloc _).alloc _).alloc _).alloc _
  have x2 : Boxed w4 (w.heap.size + 1 + 1) 23 (.slice none 0 0) := by
    rw [← hw4']
    exact (((boxed_at _ _ (by simp)).alloc _).alloc _).alloc _
  have x3 : Boxed w4 (w.heap.size + 1 + 1 + 1) 3 (.int .i64 0) := by
    rw [← hw4']
    exact ((boxed_at _ _ (by simp)).alloc _).alloc _
  have hBs : w4.cell? ⟨w.heap.size + 1 + 1 + 1 + 1, 0, none⟩ = some (.slice (some ⟨b, off, none⟩) m bc) := by rw [← hw4']; simp [go_sem]
  have hBn : w4.cell? ⟨w.heap.size + 1 + 1 + 1 + 1 + 1, 0, none⟩ = some (.int .i64 4) := by rw [← hw4']; simp [go_sem]
  have hnb : nbl m ≤ 25 := by unfold nbl; omega
  have hI0 : FSt X m s w w4 [] w4 := ⟨.slice none 0 0, fun _ => .slice none 0 0, x1, x2, x3, outE_nil _ _ _, bw4, Nat.le_refl _⟩
  have hst := chunk_stops 3 (by omega) (w.heap.size + 1 + 1 + 1 + 1) (w.heap.size + 1 + 1 + 1 + 1 + 1) m bc b off (by omega) hcap w4 (by omega) (by omega) hBs hBn
  clear c1 hw4' x1 x2 x3 hBs hBn
  refine wpIn_rangeFunc_ownG rfl (by omega) (gf := 82) (lb := #[.pointer (some ⟨w.heap.size + 1 + 1 + 1 + 1, 0, none⟩), .pointer (some ⟨w.heap.size + 1 + 1 + 1 + 1 + 1, 0, none⟩)]) rfl trivial (enters_of Tryz.func82 (by kernel_rfl) rfl)
    hst KpX.trans (kpX_b (by omega) (by omega)) (Below.refl _ _) (fun _ => rfl)
    (fun (pre : List (Fin (nbl m))) W => FSt X m s w w4 (pre.map Fin.val) W ∧ NoB X m s (pre.map Fin.val))
    (fun c (pre : List (Fin (nbl m))) W => FSt X m s w w4 (pre.map Fin.val) W ∧ c = .exit 0 ∧ FEnd X m s (pre.map Fin.val))
    (fun pre A B row hs hg hr => ⟨fst_own X m s w w4 (by omega) _ A B row hs.1 hg hr, hs.2⟩)
    (fun c pre A B row hs hg hr => ⟨fst_own X m s w w4 (by omega) _ A B row hs.1 hg hr, hs.2⟩)
    ⟨hI0, fun j hj => by cases hj⟩
    (fun x => { tmps := #[.agg #[.slice (some ⟨b, off, none⟩) m bc, .int .i64 y, .slice fo fn fc], .string s, .pointer (some ⟨w.heap.size, 0, none⟩), .pointer (some ⟨w.heap.size + 1, 0, none⟩), .slice none 0 0, .int .i64 0, .pointer (some ⟨w.heap.size + 1 + 1, 0, none⟩), .pointer (some ⟨w.heap.size + 1 + 1 + 1, 0, none⟩), .slice (some ⟨b, off + 4 * x.1 * 9, none⟩) (bsz m x.1) (bsz m x.1), undef, undef, undef, .pointer (some ⟨w.heap.size, 0, none⟩), .slice (some ⟨b, off, none⟩) m bc, .func (.func 82) #[] #[.pointer (some ⟨w.heap.size + 1 + 1 + 1 + 1, 0, none⟩), .pointer (some ⟨w.heap.size + 1 + 1 + 1 + 1 + 1, 0, none⟩)], .slice (some ⟨b, off + 4 * x.1 * 9, none⟩) (bsz m x.1) (bsz m x.1), undef, undef, undef, undef, undef, undef, undef, undef, undef, undef, undef, undef, undef, undef, undef, undef, undef, undef, undef, undef, undef], defers := [] }) ?assign ?body ?done ?stop
  case assign =>
    intro l x W K hK
    gi_wp2
    exact hK
  case body =>
    rintro l pre ⟨x, hx⟩ W ⟨⟨v, V, hk, ho, hl, hE, hB, hs⟩, hNB⟩ hpl
    dsimp only
    have hx4 : 4 * x < m := by unfold nbl at hx; omega
    obtain ⟨hb1, hb2⟩ := (bsz_le m x).2 hx4
    have hb3 := (bsz_le m x).1
    obtain ⟨P, hP⟩ : ∃ P, pre.map Fin.val = P := ⟨_, rfl⟩
    have hPl : P.length ≤ 25 := by rw [← hP, List.length_map]; omega
    rw [hP] at hl hE hNB
    have HP2 : Hid ((pre ++ [(⟨x, hx⟩ : Fin (nbl m))]).map Fin.val = P ++ [x]) := by unfold Hid; rw [List.map_append, hP]; rfl
    have hrx : ERow w (some ⟨b, off + 4 * x * 9, none⟩) (bsz m x) (fun i => X (4 * x + i)) := by
      obtain ⟨b', off', e, hblt, hc⟩ := hr.lies.resolve_left (by omega)
      injection e with e
      injection e with e1 e2 _
      subst e1 e2
      refine ⟨fun i hi => hr.bd _ (by omega), .inr ⟨b, _, rfl, hblt, fun i hi => ?_⟩⟩
      obtain ⟨da, dc, h1, h2⟩ := hc (4 * x + i) (by omega)
      refine ⟨da, dc, ?_, h2⟩
      rw [show off + 4 * x * 9 + i * 9 = off + (4 * x + i) * 9 from by omega]
      exact h1
    have hgl := gF_le X m s P
    have hcl := last_any b (off + 4 * x * 9) (bsz m x) (bsz m x) (fun i => X (4 * x + i)) W (hrx.keep hB) ⟨hb1, by omega⟩
    rw [show 4 * x + (bsz m x - 1) = 4 * x + bsz m x - 1 from by omega] at hcl
    have HLK : Hid ((X (4 * x + bsz m x - 1)).key = lastK X m x) := rfl
    rw [HLK.out] at hcl
    have HL : Hid (∀ B, Op.bytesLess (lastK X m x).toList s.toList = B → B = Op.bytesLess (lastK X m x).toList s.toList) := fun B h => h.symm
    have hkc := hk.cell
    have hlc := hl.cell
    have hlf := hl.frozen
    have hoc := ho.cell
    have hof := ho.frozen
    clear hst hI0 hr
    by_cases hless : Op.bytesLess (lastK X m x).toList s.toList = true
    · have HF : Hid (FSt X m s w w4 (P ++ [x]) W ∧ NoB X m s (P ++ [x])) := ⟨by
        unfold FSt
        rw [gF_lt hless]
        exact ⟨v, V, hk, ho, hl, hE, hB, hs⟩, hNB.push fun h => by rw [hless] at h; cases h⟩
      clear hE hk ho hl hNB HL HLK
      generalize lastK X m x = K at *
      gi_wp2_with (refine ⟨trivial, ?_⟩; gi_at_call 67; refine (CallsIn.inRound l (callsIn_wide.2 hcl)).mono ?_; rintro e W' ⟨rfl, rfl⟩)
      refine ⟨KeepsFrom.refl _ _, KpX.refl _ _ _, ?_⟩
      show FSt X m s w w4 ((pre ++ [(⟨x, hx⟩ : Fin (nbl m))]).map Fin.val) _ ∧ NoB X m s ((pre ++ [(⟨x, hx⟩ : Fin (nbl m))]).map Fin.val)
      rw [HP2.out]
      exact HF.out
    · have hless : Op.bytesLess (lastK X m x).toList s.toList = false := by simpa using hless
      have HG : Hid (gF X m s (P ++ [x]) = ((gF X m s P).1 + 1, (gF X m s P).2 ++ fX (fun i => X (4 * x + i)) s (bsz m x))) := gF_ge hless
      have hgx := fX_len (fun i => X (4 * x + i)) s (bsz m x)
      obtain ⟨c, hcq⟩ : ∃ c, (gF X m s P).1 = c := ⟨_, rfl⟩
      obtain ⟨E, hEq⟩ : ∃ E, (gF X m s P).2 = E := ⟨_, rfl⟩
      obtain ⟨D, hDq⟩ : ∃ D, fX (fun i => X (4 * x + i)) s (bsz m x) = D := ⟨_, rfl⟩
      have hOt1 := Others.setCell W (w.heap.size + 1 + 1 + 1) 0 (.int .i64 ((c : Int) + 1))
      have hcE := entriesOf_impl (some ⟨b, off + 4 * x * 9, none⟩) (bsz m x) (bsz m x) (fun i => X (4 * x + i)) s
      have hGx : GoodL (fun i => X (4 * x + i)) (bsz m x) := hG.part (by omega)
      have hZx : ESize (bsz m x) (fun i => X (4 * x + i)) := fun i hi => hz _ (by omega)
      rw [hDq] at hcE HG hgx
      rw [hcq, hEq] at HG hgl
      rw [hcq] at hl hlc
      rw [hEq] at hE
      clear hcq hEq hDq
      have hc25 : (c : Int) ≤ 25 := by omega
      have hwc : IntKind.i64.wrap ((c : Int) + 1) = (c : Int) + 1 := by rw [IntKind.wrap_i64] <;> omega
      have HNB : Hid (NoB X m s P) := hNB
      have HLS : Hid (Op.bytesLess (lastK X m x).toList s.toList = false) := hless
      have hE100 : E.length ≤ 100 := by omega
      clear HLK HL hNB hgl
      obtain ⟨K, hKq⟩ : ∃ K, lastK X m x = K := ⟨_, rfl⟩
      have HK : Hid (lastK X m x = K) := hKq
      rw [hKq] at hless hcl
      clear hKq
      have hl1 := hl.set (.int .i64 ((c : Int) + 1))
      have ho1 := box_blk ho (hOt1.block (w.heap.size + 1 + 1) (by omega))
      have hk1 := box_blk hk (hOt1.block (w.heap.size + 1) (by omega))
      have E1 := outE_grown hE (othG hOt1) (by omega)
      have B1 := hB.trans (hOt1.below (show w.heap.size ≤ w.heap.size + 1 + 1 + 1 by omega))
      have hs1 : w4.heap.size ≤ (W.setCell ⟨w.heap.size + 1 + 1 + 1, 0, none⟩ (.int .i64 ((c : Int) + 1))).heap.size := by rw [hOt1.size]; exact hs
      have KO1 : KeepsOthers W (W.setCell ⟨w.heap.size + 1 + 1 + 1, 0, none⟩ (.int .i64 ((c : Int) + 1))) := KeepsOthers.setCell _ _ _
      clear hk ho hE hl
      gi_wp2_with (refine ⟨trivial, ?_⟩; gi_at_call 67; refine (CallsIn.inRound l (callsIn_wide.2 hcl)).mono ?_; rintro e Wq ⟨rfl, rfl⟩)
      generalize Wq.setCell ⟨w.heap.size + 1 + 1 + 1, 0, none⟩ (.int .i64 ((c : Int) + 1)) = W1 at *
      refine ⟨trivial, ?_⟩
      refine (CallsIn.inRound l (callsIn_wide.2 (hcE W1 (hrx.keep B1) (by omega) hZx))).mono ?_
      rintro e W2 (⟨hn, _⟩ | ⟨_, v2, U, rfl, O2, q2⟩)
      · exact absurd hGx hn
      have hl2 := box_blk hl1 (q2.block _ hl1.lt)
      have ho2 := box_blk ho1 (q2.block _ ho1.lt)
      have hk2 := box_blk hk1 (q2.block _ hk1.lt)
      have hs2 := q2.size
      obtain ⟨v3, V3, W3, hrun, O3, hg3, hown⟩ := outE_app 23 E1 q2 O2 (by omega) hs1
      have hvb : ∀ k, v.ownBlock = some k → w4.heap.size ≤ k := fun k e => (E1.own.lt k e).1
      have hbk : ∀ k, k < w4.heap.size → W3.heap[k]? = W2.heap[k]? := fun k hk => hg3.block k (by omega) (fun e => by have := hvb k e.symm; omega)
      have hl3 := box_blk hl2 (hbk (w.heap.size + 1 + 1 + 1) (by omega))
      have ho3 := box_blk ho2 (hbk (w.heap.size + 1 + 1) (by omega))
      have hk3 := box_blk hk2 (hbk (w.heap.size + 1) (by omega))
      have hs3 := hg3.size
      have hOt4 := Others.setCell W3 (w.heap.size + 1 + 1) 0 v3
      have E4 := outE_grown O3 (othG hOt4) (by omega)
      have B4 := ((B1.trans (q2.mono (by omega))).grown hg3 (by omega) (fun k e => by have := hvb k e; omega)).trans (hOt4.below (show w.heap.size ≤ w.heap.size + 1 + 1 by omega))
      have HF : Hid (FSt X m s w w4 (P ++ [x]) (W3.setCell ⟨w.heap.size + 1 + 1, 0, none⟩ v3)) := by
        unfold Hid FSt
        rw [HG.out]
        refine ⟨v3, V3, box_blk hk3 (hOt4.block (w.heap.size + 1) (by omega)), ho3.set v3, ?_, E4, B4, by rw [hOt4.size]; omega⟩
        exact box_blk hl3 (hOt4.block (w.heap.size + 1 + 1 + 1) (by omega))
      have HKO : Hid (KeepsOthers Wq (W3.setCell ⟨w.heap.size + 1 + 1, 0, none⟩ v3)) := ((KO1.trans (ko_below q2)).trans (ko_grown hg3 hown)).trans (KeepsOthers.setCell _ _ _)
      have HKp : Hid (KpX (w.heap.size + 1 + 1 + 1 + 1) (w.heap.size + 1 + 1 + 1 + 1 + 1) Wq (W3.setCell ⟨w.heap.size + 1 + 1, 0, none⟩ v3)) := by
        have hk : ∀ k, w.heap.size + 1 + 1 + 1 < k → k < w4.heap.size → (W3.setCell ⟨w.heap.size + 1 + 1, 0, none⟩ v3).heap[k]? = Wq.heap[k]? := fun k h1 h2 => (hOt4.block k (by omega)).trans ((hbk k h2).trans ((q2.block k (by omega)).trans (hOt1.block k (by omega))))
        exact ⟨by rw [hOt4.size]; have := hOt1.size; omega, hk _ (by omega) (by omega), hk _ (by omega) (by omega)⟩
      obtain ⟨vo, vc, rfl⟩ := ownsRow_form hown
      obtain ⟨vo2, vc2, rfl⟩ := ownsRow_form O2.own
      obtain ⟨vo3, vc3, rfl⟩ := ownsRow_form O3.own
      have hoc2 := ho2.cell
      have hof2 := ho2.frozen
      have hkc2 := hk2.cell
      have hoc3 := ho3.cell
      have hof3 := ho3.frozen
      have hkc3 := hk3.cell
      clear E1 O2 q2 O3 hg3 hown hbk hvb E4 B4 hl1 ho1 hk1 hl2 ho2 hk2 hl3 ho3 hk3 hOt1 hOt4 KO1 hcE hcl hlc hlf hoc hof hkc B1 hrx hZx hGx hG hz hB HG
      generalize (E ++ D).length = el at *
      by_cases hne : K.toList = s.toList
      · have hn1 : (K.toList == s.toList) = true := by simp [hne]
        have hn2 : (K.toList != s.toList) = false := by simp [hne]
        have HN2 : Hid (NoB X m s (P ++ [x])) := HNB.out.push fun _ => by rw [HK.out]; exact hne
        clear hne
        gi_wp2_with (gi_at_builtin; refine wpListIn_append_eqE _ rfl (.tmp 29) (.tmp 30) 23 23 rfl rfl _ _ _ rfl rfl W3 hrun ?_)
        refine ⟨HKO.out.from _, HKp.out, ?_⟩
        show FSt X m s w w4 ((pre ++ [(⟨x, hx⟩ : Fin (nbl m))]).map Fin.val) _ ∧ NoB X m s ((pre ++ [(⟨x, hx⟩ : Fin (nbl m))]).map Fin.val)
        rw [HP2.out]
        exact ⟨HF.out, HN2.out⟩
      · have hn1 : (K.toList == s.toList) = false := by simp [hne]
        have hn2 : (K.toList != s.toList) = true := by simp [hne]
        have HN2 : Hid (FEnd X m s (P ++ [x])) := ⟨P, x, rfl, HNB.out, HLS.out, by rw [HK.out]; exact hne⟩
        clear hne
        gi_wp2_with (gi_at_builtin; refine wpListIn_append_eqE _ rfl (.tmp 29) (.tmp 30) 23 23 rfl rfl _ _ _ rfl rfl W3 hrun ?_)
        refine ⟨HKO.out.from _, ?_⟩
        show FSt X m s w w4 ((pre ++ [(⟨x, hx⟩ : Fin (nbl m))]).map Fin.val) _ ∧ _ ∧ FEnd X m s ((pre ++ [(⟨x, hx⟩ : Fin (nbl m))]).map Fin.val)
        rw [HP2.out]
        exact ⟨HF.out, rfl, HN2.out⟩
  case done =>
    rintro D ys W hD rfl ⟨⟨v, V, hk, ho, hl, hE, hB, hs⟩, hNB⟩ hK
    rw [rU_val _ _ (Nat.le_refl _)] at hE hl hNB
    have hfd := fd_gF (nbl m) hNB
    generalize (gF X m s (List.range (nbl m))).1 = c at *
    generalize (gF X m s (List.range (nbl m))).2 = E at *
    have hoc := ho.cell
    have hlc := hl.cell
    have hKd : W.drew.heap[D]? = some (.deferred (some [])) := hK
    have hbs := belowK_b (w := w) (Nat.le_refl _) W.drew D _ (.deferred none) (by omega) hKd rfl rfl
    have hgp := grownBy_putObj' W.drew D (.deferred none)
    have hE := hE.keep ((Below.refl _ W).drew)
    have hr2 : ∀ r, some D = some r → ∃ x : Obj, W.drew.heap[r]? = some x ∧ x.isCells = false := fun r e => by injection e with e; subst e; exact ⟨_, hKd, rfl⟩
    have O5 : OutE (W.drew.putObj D (.deferred none)) w4.heap.size v E.length (eL E) V := ⟨ownsRow_kept hE.own hgp (fun k e => own_ne hE.own (hr2 k e)), fun i hi => ⟨(hE.row i hi).bd, ownsRow_kept (hE.row i hi).own hgp (fun k e => own_ne (hE.row i hi).own (hr2 k e))⟩, hE.dis, hE.apart⟩
    have HQ : Hid (FdO X m s w (.returned (.tuple #[v, .int .i64 (c : Nat)])) (W.drew.putObj D (.deferred none))) := by
      unfold Hid FdO
      rw [hfd]
      exact ⟨v, V, rfl, outE_low O5 (by omega), hB.drew.trans hbs⟩
    obtain ⟨vo, vc, rfl⟩ := ownsRow_form hE.own
    clear hE O5 hfd hgp hr2 hbs hst hI0 hk ho hl
    gi_wp2
    gi_region
    gi_wp2
    refine ⟨by simp, .inl ⟨_, _, rfl, run_takeDeferred hKd, ?_⟩⟩
    refine ⟨.tuple #[.slice vo E.length vc, .int .i64 (c : Nat)], ?_, HQ.out⟩
    simp [results, Tryz.results33, go_sem]
  case stop =>
    rintro D c pre W hD ⟨k, hk', rfl⟩ ⟨⟨v, V, hk, ho, hl, hE, hB, hs⟩, rfl, hEnd⟩ hK
    rw [rU_val _ _ hk'] at hE hl hEnd
    have hfd := fEnd_fd hEnd hk'
    clear hEnd
    generalize (gF X m s (List.range k)).1 = c at *
    generalize (gF X m s (List.range k)).2 = E at *
    have hoc := ho.cell
    have hlc := hl.cell
    have hKd : W.drew.heap[D]? = some (.deferred (some [])) := hK
    have hbs := belowK_b (w := w) (Nat.le_refl _) W.drew D _ (.deferred none) (by omega) hKd rfl rfl
    have hgp := grownBy_putObj' W.drew D (.deferred none)
    have hE := hE.keep ((Below.refl _ W).drew)
    have hr2 : ∀ r, some D = some r → ∃ x : Obj, W.drew.heap[r]? = some x ∧ x.isCells = false := fun r e => by injection e with e; subst e; exact ⟨_, hKd, rfl⟩
    have O5 : OutE (W.drew.putObj D (.deferred none)) w4.heap.size v E.length (eL E) V := ⟨ownsRow_kept hE.own hgp (fun k e => own_ne hE.own (hr2 k e)), fun i hi => ⟨(hE.row i hi).bd, ownsRow_kept (hE.row i hi).own hgp (fun k e => own_ne (hE.row i hi).own (hr2 k e))⟩, hE.dis, hE.apart⟩
    have HQ : Hid (FdO X m s w (.returned (.tuple #[v, .int .i64 (c : Nat)])) (W.drew.putObj D (.deferred none))) := by
      unfold Hid FdO
      rw [hfd]
      exact ⟨v, V, rfl, outE_low O5 (by omega), hB.drew.trans hbs⟩
    obtain ⟨vo, vc, rfl⟩ := ownsRow_form hE.own
    clear hE O5 hfd hgp hr2 hbs hst hI0 hk ho hl
    gi_wp2
    gi_region
    gi_wp2
    refine ⟨by simp, .inl ⟨_, _, rfl, run_takeDeferred hKd, ?_⟩⟩
    refine ⟨.tuple #[.slice vo E.length vc, .int .i64 (c : Nat)], ?_, HQ.out⟩
    simp [results, Tryz.results33, go_sem]
end Go.Proofs.YtohjjigkfdhklaaGreat
