/- A version, drawn. -/
import Derived.Test.YtagkhohglpjjlaaVc
namespace Go.Proofs.Ytagkhohglpjjlaa
open Go.RowKit
set_option linter.unusedSimpArgs false
set_option linter.unusedVariables false

/-- A drawn version: only read. -/
def VsO (CB : Nat) (ao : Option Addr) (n cap : Nat) (f : Nat → Int) (A : Nat) (w : World) (e : Ending) (w' : World) : Prop :=
  ∃ (vx vl vs : Int) (lo : Option Addr) (N lc : Nat) (LL : Nat → List Met), e = .returned (.agg #[.int .i64 vx, .int .i64 vl, .int .i64 vs, .slice lo N lc]) ∧ N ≤ 3 ∧ VL w' w.heap.size lo N LL ∧ (∀ i, i < N → (LL i).length ≤ 20) ∧ ((-2000000000 ≤ vx ∧ vx ≤ 2000000000) ∧ (-2000000000 ≤ vl ∧ vl ≤ 2000000000) ∧ (-2000000000 ≤ vs ∧ vs ≤ 2000000000)) ∧ CS w w' CB ao n cap f (A + 30000)

theorem step_storeM {w : World} {ops : Array Oper} {o : Oper} {a : Act} {K : Act → World → Prop} {Q : Exit → Act → World → Prop} {E : Prop} (hgd : o.guard = none) (k j : Nat)
    (ho : o.op = .store 71 (.tmp k) (.tmp j)) (b q : Nat) (va : Option Addr) (n c : Nat) (u : Value) (hx : a.eval (.tmp k) = .pointer (some ⟨b, q, none⟩)) (hv : a.eval (.tmp j) = .slice va n c) (hc : w.cell? ⟨b, q, none⟩ = some u) (hf : w.frozen? ⟨b, q, none⟩ = false) (h : K (a.put o.dst undef) (w.setCell ⟨b, q, none⟩ (.slice va n c))) :
    if Region.wanted o (yielded ops a.tmps) = true then Oper.wp Try.prog o a w K Q else E := by
  have hw : Region.wanted o (yielded ops a.tmps) = true := by simp [Region.wanted, hgd]
  rw [if_pos hw]
  have hx' : a.tmps.getD k undef = .pointer (some ⟨b, q, none⟩) := hx
  have hv' : a.tmps.getD j undef = .slice va n c := hv
  unfold Oper.wp execOp
  simp only [ho, Act.eval, hx', hv']
  go_simp
  exact h
/-- A meta put behind the second level. -/
theorem ver_push {w w' w9 : World} {R D CB : Nat} {ao : Option Addr} {n cap : Nat} {f : Nat → Int} {A : Nat} {vx vl vs : Int} {g c : Nat} {V : Nat → Value} {LL : Nat → List Met} {so ro : Option Addr} {sc rc : Nat} {m : Met} (h : VW w w' R D CB ao n cap f A vx vl vs g c V LL) (e : V 1 = .slice so (LL 1).length sc) (h13 : (LL 1).length ≤ 13) (hg : w'.grownBy w9 (Value.slice so (LL 1).length sc).ownBlock) (hO : OwnM w9 w.heap.size (.slice ro (LL 1 ++ [m]).length rc) (LL 1 ++ [m])) (hb : (Value.slice ro (LL 1 ++ [m]).length rc).ownBlock = (Value.slice so (LL 1).length sc).ownBlock ∨ (Value.slice ro (LL 1 ++ [m]).length rc).ownBlock = some w'.heap.size) :
    w9.cell? ⟨D, 3, none⟩ = some (.slice (some ⟨g, 0, none⟩) 3 c) ∧ w9.cell? ⟨g, 1, none⟩ = some (.slice so (LL 1).length sc) ∧ w9.frozen? ⟨g, 1, none⟩ = false ∧ VW w (w9.setCell ⟨g, 1, none⟩ (.slice ro (LL 1 ++ [m]).length rc)) R D CB ao n cap f A vx vl vs g c (fun i => if i = 1 then .slice ro (LL 1 ++ [m]).length rc else V i) (fun i => if i = 1 then LL 1 ++ [m] else LL i) := by
  have hgV : w'.grownBy w9 (V 1).ownBlock := by rw [e]; exact hg
  have hbl : ∀ q, (V 1).ownBlock = some q → w.heap.size ≤ q ∧ q ≠ D ∧ q ≠ R ∧ q ≠ g := fun q hq => ⟨((h.L.lv.own 1 (by omega)).own.lt q hq).1, fun e => (h.L.far.2 1 (by omega)).1 (by rw [hq, e]), fun e => (h.L.far.2 1 (by omega)).2 (by rw [hq, e]), fun e => h.L.lv.apart 1 (by omega) (by rw [hq, e])⟩
  have hD9 : w9.heap[D]? = w'.heap[D]? := hgV.block D h.DA.lt (fun e => (hbl D e.symm).2.1 rfl)
  have hR9 : w9.heap[R]? = w'.heap[R]? := hgV.block R h.RA.lt (fun e => (hbl R e.symm).2.2.1 rfl)
  have hG9 : w9.heap[g]? = w'.heap[g]? := hgV.block g h.L.lv.lt (fun e => (hbl g e.symm).2.2.2 rfl)
  have hL := Lv.swap (v := .slice ro (LL 1 ++ [m]).length rc) (L := LL 1 ++ [m]) h.L.lv (show 1 < 3 by omega) hgV hO (by rw [e]; exact hb)
  have ot : Others g w9 (w9.setCell ⟨g, 1, none⟩ (.slice ro (LL 1 ++ [m]).length rc)) := Others.setCell _ _ _ _
  have hDA := h.DA.same hgV.size hD9
  have hnw : ∀ q, q < w'.heap.size → (V 1).ownBlock ≠ some q → (Value.slice ro (LL 1 ++ [m]).length rc).ownBlock ≠ some q := fun q hq hv he => by
    rcases hb with hb | hb
    · rw [hb, ← e] at he; exact hv he
    · rw [hb] at he; injection he with he; omega
  have hn := h.ne
  refine ⟨hDA.c3, (World.cell?_of_block (w := w') (a := ⟨g, 1, none⟩) hG9).trans (by rw [h.L.lv.cell 1 (by omega), e]), (World.frozen?_of_block (w := w') (a := ⟨g, 1, none⟩) hG9).trans (h.L.lv.free 1 (by omega)), ?_⟩
  have hgs : w.heap.size ≤ g := h.L.lv.bs
  refine ⟨(h.C.far hgV (fun q hq => (hbl q hq).1)).others ot hgs, vx_others (h.RA.same hgV.size hR9) ot (Ne.symm h.L.far.1.2), froz_others (fun j => (World.frozen?_of_block (w := w') (a := ⟨R, j, none⟩) hR9).trans (h.RF j)) ot (Ne.symm h.L.far.1.2), vx_others hDA ot (Ne.symm h.L.far.1.1), froz_others (fun j => (World.frozen?_of_block (w := w') (a := ⟨D, j, none⟩) hD9).trans (h.DF j)) ot (Ne.symm h.L.far.1.1), ⟨hL, fun i hi => ?_, h.L.far.1, fun i hi => ?_⟩, hn, h.bd⟩
  · by_cases h1 : i = 1
    · simp only [h1, if_true]
      simp only [List.length_append, List.length_cons, List.length_nil]; omega
    · simp only [h1, if_false]
      exact h.L.few i hi
  · by_cases h1 : i = 1
    · simp only [h1, if_true]
      exact ⟨hnw D h.DA.lt (h.L.far.2 1 (by omega)).1, hnw R h.RA.lt (h.L.far.2 1 (by omega)).2⟩
    · simp only [h1, if_false]
      exact h.L.far.2 i hi
theorem VW.blk {w w' : World} {R D CB : Nat} {ao : Option Addr} {n cap : Nat} {f : Nat → Int} {A : Nat} {vx vl vs : Int} {g c : Nat} {V : Nat → Value} {LL : Nat → List Met} (h : VW w w' R D CB ao n cap f A vx vl vs g c V LL) (hR : w.heap.size = R) : w.heap.size + 1 ≤ g ∧ ∀ i, i < 3 → ∀ q, (V i).ownBlock = some q → w.heap.size + 1 ≤ q := by
  have h1 := h.L.lv.bs
  have h2 := h.L.far
  refine ⟨by omega, fun i hi q e => ?_⟩
  have h3 := ((h.L.lv.own i hi).own.lt q e).1
  have h4 : q ≠ R := fun e2 => (h2.2 i hi).2 (by rw [e, e2])
  omega
theorem VW.vlR {w w' : World} {R D CB : Nat} {ao : Option Addr} {n cap : Nat} {f : Nat → Int} {A : Nat} {vx vl vs : Int} {g c : Nat} {V : Nat → Value} {LL : Nat → List Met} (h : VW w w' R D CB ao n cap f A vx vl vs g c V LL) (hR : w.heap.size = R) : VL w' (w.heap.size + 1) (some ⟨g, 0, none⟩) 3 LL := by
  obtain ⟨hg, hq⟩ := h.blk hR
  refine ⟨fun i hi => (h.L.lv.own i hi).bd, fun i hi => by have := h.L.few i hi; omega, .inr ⟨g, 0, rfl, hg, h.L.lv.lt, fun i hi => ?_⟩⟩
  obtain ⟨so, sc, e, _⟩ := (h.L.lv.own i hi).form
  refine ⟨so, sc, by rw [Nat.zero_add, h.L.lv.cell i hi, e], ?_⟩
  by_cases h0 : (LL i).length = 0
  · exact .inl h0
  · obtain ⟨g', cap', e', h1, _, h3⟩ := (h.L.lv.own i hi).at (by omega)
    have h5 : (V i).ownBlock = some g' := by rw [e']; rfl
    rw [e] at e'
    injection e' with e1 _ _
    exact .inr ⟨g', 0, e1, hq i hi g' h5, h3.lt, fun j hj => by rw [Nat.zero_add]; exact h3.ent j hj⟩
theorem VL.tail {w : World} {base : Nat} {g : Nat} {LL : Nat → List Met} (h : VL w base (some ⟨g, 0, none⟩) 3 LL) : VL w base (some ⟨g, 1, none⟩) 2 (fun i => LL (i + 1)) := by
  refine ⟨fun i hi => h.bd (i + 1) (by omega), fun i hi => h.few (i + 1) (by omega), .inr ?_⟩
  obtain ⟨b, off, e, h1, h2, h3⟩ := h.lies.resolve_left (by omega)
  injection e with e
  injection e with e1 e2 _
  subst e1 e2
  refine ⟨g, 1, rfl, h1, h2, fun i hi => ?_⟩
  have := h3 (i + 1) (by omega)
  rw [show 1 + i = 0 + (i + 1) by omega]
  exact this
theorem VW.tail {w w' : World} {R D CB : Nat} {ao : Option Addr} {n cap : Nat} {f : Nat → Int} {A : Nat} {vx vl vs : Int} {g c : Nat} {V : Nat → Value} {LL : Nat → List Met} (h : VW w w' R D CB ao n cap f A vx vl vs g c V LL) (hR : w.heap.size = R) (c' : Nat) :
    VX (w'.setCell ⟨D, 3, none⟩ (.slice (some ⟨g, 1, none⟩) 2 c')) D vx vl vs (some ⟨g, 1, none⟩) 2 c' ∧ VL (w'.setCell ⟨D, 3, none⟩ (.slice (some ⟨g, 1, none⟩) 2 c')) (w.heap.size + 1) (some ⟨g, 1, none⟩) 2 (fun i => LL (i + 1)) ∧ (∀ i, i < 2 → (LL (i + 1)).length ≤ 20) ∧ ((-2000000000 ≤ vx ∧ vx ≤ 2000000000) ∧ (-2000000000 ≤ vl ∧ vl ≤ 2000000000) ∧ (-2000000000 ≤ vs ∧ vs ≤ 2000000000)) ∧ CS w (w'.setCell ⟨D, 3, none⟩ (.slice (some ⟨g, 1, none⟩) 2 c')) CB ao n cap f A ∧ VX (w'.setCell ⟨D, 3, none⟩ (.slice (some ⟨g, 1, none⟩) 2 c')) R 0 0 0 none 0 0 ∧ (∀ j, (w'.setCell ⟨D, 3, none⟩ (.slice (some ⟨g, 1, none⟩) 2 c')).frozen? ⟨R, j, none⟩ = false) := by
  have ot : Others D w' (w'.setCell ⟨D, 3, none⟩ (.slice (some ⟨g, 1, none⟩) 2 c')) := Others.setCell _ _ _ _
  have hn := h.ne
  have hL : LF (w'.setCell ⟨D, 3, none⟩ (.slice (some ⟨g, 1, none⟩) 2 c')) w.heap.size D R g V LL := h.L.others ot h.L.far.1.1 (fun i hi => (h.L.far.2 i hi).1)
  obtain ⟨l, q0, q1, q2, q3⟩ := id h.DA
  have hX : VX (w'.setCell ⟨D, 3, none⟩ (.slice (some ⟨g, 1, none⟩) 2 c')) D vx vl vs (some ⟨g, 1, none⟩) 2 c' := by
    refine ⟨by simpa using l, ?_, ?_, ?_, ?_⟩ <;> simp [go_sem, q0, q1, q2, q3]
  have C9 := h.C.others ot (by omega)
  have R9 := vx_others h.RA ot (by omega)
  have F9 := froz_others h.RF ot (by omega)
  refine ⟨hX, ?_, fun i hi => by have := h.L.few (i + 1) (by omega); omega, h.bd.2, C9, R9, F9⟩
  have hvl := (h.vlR hR)
  have hvb := h.blk hR
  have h2 : VL (w'.setCell ⟨D, 3, none⟩ (.slice (some ⟨g, 1, none⟩) 2 c')) (w.heap.size + 1) (some ⟨g, 0, none⟩) 3 LL := by
    refine ⟨fun i hi => (hL.lv.own i hi).bd, fun i hi => by have := hL.few i hi; omega, .inr ⟨g, 0, rfl, hvb.1, hL.lv.lt, fun i hi => ?_⟩⟩
    obtain ⟨so, sc, e, _⟩ := (hL.lv.own i hi).form
    refine ⟨so, sc, by rw [Nat.zero_add, hL.lv.cell i hi, e], ?_⟩
    by_cases h0 : (LL i).length = 0
    · exact .inl h0
    · obtain ⟨g', cap', e', h1, _, h3⟩ := (hL.lv.own i hi).at (by omega)
      have h5 : (V i).ownBlock = some g' := by rw [e']; rfl
      rw [e] at e'
      injection e' with e1 _ _
      exact .inr ⟨g', 0, e1, hvb.2 i hi g' h5, h3.lt, fun j hj => by rw [Nat.zero_add]; exact h3.ent j hj⟩
  exact h2.tail
theorem VL.lower {w : World} {base base' : Nat} {lo : Option Addr} {N : Nat} {LL : Nat → List Met} (h : VL w base lo N LL) (hb : base' ≤ base) : VL w base' lo N LL :=
  ⟨h.bd, h.few, h.lies.elim .inl fun ⟨b, off, e, h1, h2, h3⟩ => .inr ⟨b, off, e, Nat.le_trans hb h1, h2, fun i hi => by
    obtain ⟨da, dc, h4, h5⟩ := h3 i hi
    exact ⟨da, dc, h4, h5.elim .inl fun ⟨g, o, e, h6, h7⟩ => .inr ⟨g, o, e, Nat.le_trans hb h6, h7⟩⟩⟩⟩

set_option maxRecDepth 100000 in
set_option maxHeartbeats 16000000 in
theorem version_any {w : World} {CB : Nat} {ao : Option Addr} {n cap : Nat} {f : Nat → Int} {A : Nat} (h : CS w w CB ao n cap f A) (hA : A ≤ 10000) :
    Calls Try.prog 11 #[.pointer (some ⟨CB, 0, none⟩)] w fun e w' => VsO CB ao n cap f A w e w' := by
  have hB := below_new w (.cells #[.int .i64 0, .int .i64 0, .int .i64 0, .slice none 0 0] 25)
  have RA0 := VX.new w 0 0 0 none 0 0 25
  have RF0 : ∀ j, (w.alloc (.cells #[.int .i64 0, .int .i64 0, .int .i64 0, .slice none 0 0] 25)).frozen? ⟨w.heap.size, j, none⟩ = false := fun j => by simp [go_sem]
  have sz0 : (w.alloc (.cells #[.int .i64 0, .int .i64 0, .int .i64 0, .slice none 0 0] 25)).heap.size = w.heap.size + 1 := by simp
  have C0 := h.keep hB
  go_enter Try.func11, Try.ntmps11
  go_wp2_with fail
  generalize w.alloc (.cells #[.int .i64 0, .int .i64 0, .int .i64 0, .slice none 0 0] 25) = w0 at hB RA0 RF0 sz0 C0 ⊢
  refine (l9First_lv w0).mono ?_
  rintro e w1 ⟨g, rfl, L1, b1⟩
  have hgl := L1.lt
  have hgb := L1.bs
  have s1 := b1.size
  have b2 := below_new w1 (.cells #[.int .i64 2, .int .i64 1, .int .i64 0, .slice (some ⟨g, 0, none⟩) 3 3] 25)
  have DF2 : ∀ j, (w1.alloc (.cells #[.int .i64 2, .int .i64 1, .int .i64 0, .slice (some ⟨g, 0, none⟩) 3 3] 25)).frozen? ⟨w1.heap.size, j, none⟩ = false := fun j => by simp [go_sem]
  have G2 : VW w (w1.alloc (.cells #[.int .i64 2, .int .i64 1, .int .i64 0, .slice (some ⟨g, 0, none⟩) 3 3] 25)) w.heap.size w1.heap.size CB ao n cap f A 2 1 0 g 3 (fun _ => .slice none 0 0) (fun _ => []) :=
    ⟨(C0.keep b1).keep b2, (RA0.keep b1).keep b2, froz_keep (froz_keep RF0 RA0.lt b1) (RA0.keep b1).lt b2, VX.new w1 2 1 0 (some ⟨g, 0, none⟩) 3 3 25, DF2, ⟨(L1.mono2 (by omega)).keep b2, fun i hi => by simp, ⟨by omega, by omega⟩, fun i hi => ⟨(fun e => by cases e), (fun e => by cases e)⟩⟩, by omega, by omega⟩
  clear b2 DF2 C0 RA0 RF0 L1
  go_wp2_with fail
  generalize w1.alloc (.cells #[.int .i64 2, .int .i64 1, .int .i64 0, .slice (some ⟨g, 0, none⟩) 3 3] 25) = w2 at G2 ⊢
  refine (pick_s 6 (by omega) G2.C.self (by omega)).mono ?_
  rintro e w3 ⟨x3, rfl, x30, x31, K3⟩
  have G3 := G2.draw K3
  obtain ⟨k0, rfl⟩ := Int.eq_ofNat_of_zero_le x30
  clear G2 K3
  generalize w1.heap.size = D at *
  generalize hR : w.heap.size = R at *
  go_wp2
  go_loopw [4] (fun q wr => ∃ (k B : Nat) (vx vl vs : Int) (g c : Nat) (V : Nat → Value) (LL : Nat → List Met), q = .int .i64 k ∧ k ≤ 5 ∧ B + 4000 * k ≤ A + 20001 ∧ VW w wr R D CB ao n cap f B vx vl vs g c V LL ∧ Hid (∀ i, i < 3 → (LL i).length ≤ 12)) (fun q _ => (intOf q).toNat)
  case atStart => exact ⟨k0, A + 1, 2, 1, 0, g, 3, _, _, by go_num, by omega, by omega, G3, fun i hi => by simp⟩
  case round =>
    clear G3
    obtain ⟨k, B, vx, vl, vs, g, c, V, LL, rfl, hk, hBk, G, HF⟩ := hrel
    by_cases hk0 : k = 0
    · subst hk0
      go_wp2_with fail
      refine (pick_s 40 (by omega) G.C.self (by omega)).mono ?_
      rintro e w5 ⟨x5, rfl, x50, x51, K5⟩
      have G5 := G.draw K5
      clear G K5
      have hne := G5.ne
      go_upto_block 2 with fail
      go_cut [3] from 26 to 52 (fun s3 wx => s3 = .pointer (some ⟨D, 0, none⟩) ∧ ∃ (vx vl vs : Int) (lo : Option Addr) (N lc : Nat) (LL : Nat → List Met), N ≤ 3 ∧ VX wx D vx vl vs lo N lc ∧ VL wx (w.heap.size + 1) lo N LL ∧ (∀ i, i < N → (LL i).length ≤ 20) ∧ ((-2000000000 ≤ vx ∧ vx ≤ 2000000000) ∧ (-2000000000 ≤ vl ∧ vl ≤ 2000000000) ∧ (-2000000000 ≤ vs ∧ vs ≤ 2000000000)) ∧ CS w wx CB ao n cap f (A + 21000) ∧ VX wx R 0 0 0 none 0 0 ∧ (∀ j, wx.frozen? ⟨R, j, none⟩ = false))
      case first =>
        by_cases c0 : x5 = 0
        · subst c0
          have b8 := below_new w5 (.cells #[.int .i64 0, .int .i64 vx] 3)
          have L8 : LiAt (w5.alloc (.cells #[.int .i64 0, .int .i64 vx] 3)) w5.heap.size [0, vx] := LiAt.new w5 [0, vx] 3
          have hlc := G5.C.ltw
          have G8 := G5.keep b8
          obtain ⟨_, u0, u1, u2, u3⟩ := id G5.DA
          clear G5 b8
          go_wp2_with fail
          refine (among_s [0, vx] (by simp) w5.heap.size L8 (by omega) G8.C.self (by omega)).mono ?_
          rintro e w9 ⟨v9, hv9, rfl, K9⟩
          have G9 := G8.draw K9
          have hvb : -2000000000 ≤ v9 ∧ v9 ≤ 2000000000 := by
            have := G9.bd
            simp only [List.mem_cons, List.not_mem_nil, or_false] at hv9
            rcases hv9 with rfl | rfl <;> omega
          have GX := G9.set (Others.setCell w9 D 1 (.int .i64 v9)) (fun j => by simp only [World.frozen?_setCell]; exact G9.DF j) (vx' := vx) (vl' := v9) (vs' := vs) (g' := g) (c' := c) (V' := V) (LL' := LL) (by
            obtain ⟨l, q0, q1, q2, q3⟩ := G9.DA
            refine ⟨by simpa using l, ?_, ?_, ?_, ?_⟩ <;> simp [go_sem, q0, q1, q2, q3]) G9.L ⟨G9.bd.1, G9.bd.2.1, hvb, G9.bd.2.2.2⟩
          obtain ⟨_, q0, q1, q2, q3⟩ := id G9.DA
          have qf := G9.DF 1
          clear G8 G9 K9 L8 hv9 u0 u1 u2 u3
          go_wp2
          go_meet
          exact ⟨rfl, vx, v9, vs, some ⟨g, 0, none⟩, 3, c, LL, by omega, GX.DA, GX.vlR hR, fun i hi => by have := GX.L.few i hi; omega, GX.bd.2, GX.C.mono (by omega), GX.RA, GX.RF⟩
        have e0 : (x5 == 0) = false := by simp [c0]
        by_cases c1 : x5 = 1
        · subst c1
          obtain ⟨_, q0, q1, q2, q3⟩ := id G5.DA
          have qf := G5.DF 3
          have hc3 := G5.bd.1
          have hcc : (1 : Nat) ≤ c := by omega
          have ot : Others D w5 (w5.setCell ⟨D, 3, none⟩ (.slice (some ⟨g, 1, none⟩) 2 (c - 1))) := Others.setCell _ _ _ _
          have GX := G5.tail hR (c - 1)
          clear G5
          go_wp2
          go_meet
          exact ⟨rfl, vx, vl, vs, some ⟨g, 1, none⟩, 2, c - 1, fun i => LL (i + 1), by omega, GX.1, GX.2.1, GX.2.2.1, GX.2.2.2.1, GX.2.2.2.2.1.mono (by omega), GX.2.2.2.2.2.1, GX.2.2.2.2.2.2⟩
        have e1 : (x5 == 1) = false := by simp [c1]
        by_cases c2 : x5 = 2
        · subst c2
          go_wp2
          have Gd := G5.keep (Below.refl _ w5).drew
          clear G5
          generalize hW0 : w5.drew = W0 at Gd ⊢
          obtain ⟨so, sc, eV1, _⟩ := (Gd.L.lv.own 1 (by omega)).form
          have a1 := Gd.L.lv.cell 1 (by omega)
          rw [eV1] at a1
          have a0 := Gd.DA.c3
          refine wp_region_w (fun W : World => W.cell? ⟨D, 3, none⟩ = some (.slice (some ⟨g, 0, none⟩) 3 c) ∧ W.cell? ⟨g, 1, none⟩ = some (.slice so (LL 1).length sc)) (fun j => j != 11) (by kernel_rfl) ?_
          change wpW _ _ _ _ _ _ 12 _ _ w5.drew
          rw [hW0]
          refine wpW_take 0 _ (.pointer (some ⟨D, 3, none⟩)) rfl (by kernel_rfl) (by kernel_rfl) (by kernel_rfl) (fun _ _ _ h => h) (by kernel_rfl) (.inl ⟨rfl, fun w' hS' => by go_simp⟩) ⟨a0, a1⟩ ?_
          simp only [Act.put, List.getElem_toArray, List.getElem_cons_succ, List.getElem_cons_zero, List.setIfInBounds_toArray, List.set_cons_zero, List.set_cons_succ]
          refine wpW_take 1 _ (.slice (some ⟨g, 0, none⟩) 3 c) rfl (by kernel_rfl) (by kernel_rfl) (by kernel_rfl) (fun _ _ _ h => h) (by kernel_rfl) (.inl ⟨rfl, fun w' hS' => by obtain ⟨s0, s1⟩ := hS'; go_simp⟩) ⟨a0, a1⟩ ?_
          simp only [Act.put, List.getElem_toArray, List.getElem_cons_succ, List.getElem_cons_zero, List.setIfInBounds_toArray, List.set_cons_zero, List.set_cons_succ]
          refine wpW_take 2 _ (.pointer (some ⟨D, 3, none⟩)) rfl (by kernel_rfl) (by kernel_rfl) (by kernel_rfl) (fun _ _ _ h => h) (by kernel_rfl) (.inl ⟨rfl, fun w' hS' => by go_simp⟩) ⟨a0, a1⟩ ?_
          simp only [Act.put, List.getElem_toArray, List.getElem_cons_succ, List.getElem_cons_zero, List.setIfInBounds_toArray, List.set_cons_zero, List.set_cons_succ]
          refine wpW_take 3 _ (.slice (some ⟨g, 0, none⟩) 3 c) rfl (by kernel_rfl) (by kernel_rfl) (by kernel_rfl) (fun _ _ _ h => h) (by kernel_rfl) (.inl ⟨rfl, fun w' hS' => by obtain ⟨s0, s1⟩ := hS'; go_simp⟩) ⟨a0, a1⟩ ?_
          simp only [Act.put, List.getElem_toArray, List.getElem_cons_succ, List.getElem_cons_zero, List.setIfInBounds_toArray, List.set_cons_zero, List.set_cons_succ]
          refine wpW_take 4 _ (.pointer (some ⟨g, 1, none⟩)) rfl (by kernel_rfl) (by kernel_rfl) (by kernel_rfl) (fun _ _ _ h => h) (by kernel_rfl) (.inl ⟨rfl, fun w' hS' => by go_simp⟩) ⟨a0, a1⟩ ?_
          simp only [Act.put, List.getElem_toArray, List.getElem_cons_succ, List.getElem_cons_zero, List.setIfInBounds_toArray, List.set_cons_zero, List.set_cons_succ]
          refine wpW_take 5 _ (.slice so (LL 1).length sc) rfl (by kernel_rfl) (by kernel_rfl) (by kernel_rfl) (fun _ _ _ h => h) (by kernel_rfl) (.inl ⟨rfl, fun w' hS' => by obtain ⟨s0, s1⟩ := hS'; go_simp⟩) ⟨a0, a1⟩ ?_
          simp only [Act.put, List.getElem_toArray, List.getElem_cons_succ, List.getElem_cons_zero, List.setIfInBounds_toArray, List.set_cons_zero, List.set_cons_succ]
          refine wpW_take 6 _ (.pointer (some ⟨CB, 0, none⟩)) rfl (by kernel_rfl) (by kernel_rfl) (by kernel_rfl) (fun _ _ _ h => h) (by kernel_rfl) (.inl ⟨rfl, fun w' hS' => by go_simp⟩) ⟨a0, a1⟩ ?_
          simp only [Act.put, List.getElem_toArray, List.getElem_cons_succ, List.getElem_cons_zero, List.setIfInBounds_toArray, List.set_cons_zero, List.set_cons_succ]
          refine wpW_one 7 _ rfl (by kernel_rfl) (step_call rfl 33 #[.pointer (some ⟨CB, 0, none⟩), .int .i64 1] _ (by go_simp) (meta_any 1 (by omega) Gd.C.self (by omega)) ?_)
          rintro e w8 ⟨m8, rfl, hm8, K8⟩
          have G8 := Gd.draw K8
          clear a0 a1 Gd K8
          have a1 := G8.L.lv.cell 1 (by omega)
          rw [eV1] at a1
          have a0 := G8.DA.c3
          refine ⟨_, rfl, fun _ => ⟨a0, a1⟩, ?_⟩
          simp only [Act.put, List.getElem_toArray, List.getElem_cons_succ, List.getElem_cons_zero, List.setIfInBounds_toArray, List.set_cons_zero, List.set_cons_succ]
          have hO1 := G8.L.lv.own 1 (by omega)
          rw [eV1] at hO1
          have hf1 := G8.L.few 1 (by omega)
          have hCs := G8.C.gr.size
          obtain ⟨ro, rc, w9, hrun, hO9, hg9, hb9⟩ := pushM_run w8 w.heap.size so sc (LL 1) m8 hO1 hm8.mb (by omega) (by omega)
          have bn := below_new w8 (.cells #[.int .i64 m8.file, .string m8.least, .string m8.most, .int .i64 m8.many] 52)
          have Gn := G8.keep bn
          have n1 := Gn.L.lv.cell 1 (by omega)
          rw [eV1] at n1
          have n0 := Gn.DA.c3
          refine wpW_one 8 _ rfl (by kernel_rfl) (step_val rfl (.slice (some ⟨w8.heap.size, 0, none⟩) 1 1) (w' := w8.alloc (.cells #[.int .i64 m8.file, .string m8.least, .string m8.most, .int .i64 m8.many] 52)) (by go_simp) ?_)
          refine ⟨fun _ => ⟨n0, n1⟩, ?_⟩
          simp only [Act.put, List.getElem_toArray, List.getElem_cons_succ, List.getElem_cons_zero, List.setIfInBounds_toArray, List.set_cons_zero, List.set_cons_succ]
          have GV := ver_push Gn eV1 (by have := HF.out 1 (by omega); omega) hg9 hO9 hb9
          obtain ⟨k0', k1', kf, GW⟩ := GV
          refine wpW_one 9 _ rfl (by kernel_rfl) (step_append_run rfl (.tmp 47) (.tmp 50) 71 rfl (.slice so (LL 1).length sc) (.slice (some ⟨w8.heap.size, 0, none⟩) 1 1) (.slice ro (LL 1 ++ [m8]).length rc) rfl rfl w9 hrun ?_)
          refine ⟨fun _ => ⟨k0', k1'⟩, ?_⟩
          simp only [Act.put, List.getElem_toArray, List.getElem_cons_succ, List.getElem_cons_zero, List.setIfInBounds_toArray, List.set_cons_zero, List.set_cons_succ]
          refine wpW_one 10 _ rfl (by kernel_rfl) (step_val rfl (.pointer (some ⟨g, 1, none⟩)) (w' := w9) (by go_simp) ?_)
          refine ⟨fun _ => ⟨k0', k1'⟩, ?_⟩
          simp only [Act.put, List.getElem_toArray, List.getElem_cons_succ, List.getElem_cons_zero, List.setIfInBounds_toArray, List.set_cons_zero, List.set_cons_succ]
          refine wpW_one 11 _ rfl (by kernel_rfl) (step_storeM rfl 52 51 rfl g 1 ro (LL 1 ++ [m8]).length rc _ rfl rfl k1' kf ?_)
          refine ⟨fun h => absurd h (by decide), ?_⟩
          refine wpW_done (by kernel_rfl) ?_
          simp only [Act.put, List.getElem_toArray, List.getElem_cons_succ, List.getElem_cons_zero, List.setIfInBounds_toArray, List.set_cons_zero, List.set_cons_succ]
          clear G8 Gn hrun hO9 hg9 hO1
          go_wp2
          go_meet
          exact ⟨rfl, vx, vl, vs, some ⟨g, 0, none⟩, 3, c, _, by omega, GW.DA, GW.vlR hR, fun i hi => by have := GW.L.few i hi; omega, GW.bd.2, GW.C.mono (by omega), GW.RA, GW.RF⟩
        have e2 : (x5 == 2) = false := by simp [c2]
        go_wp2
        go_meet
        exact ⟨rfl, vx, vl, vs, some ⟨g, 0, none⟩, 3, c, LL, by omega, G5.DA, G5.vlR hR, fun i hi => by have := G5.L.few i hi; omega, G5.bd.2, G5.C.mono (by omega), G5.RA, G5.RF⟩
      case rest =>
        obtain ⟨rfl, vx, vl, vs, lo, N, lc, LL, hN, DA8, VL8, hf8, hb8, C8, RA8, RF8⟩ := hcut
        clear G5
        obtain ⟨_, r0, r1, r2, r3⟩ := id RA8
        obtain ⟨_, d0, d1, d2, d3⟩ := id DA8
        go_wp2
        have og : ∀ (W : World) (i : Nat) (v : Value), (VL W (w.heap.size + 1) lo N LL ∧ CS w W CB ao n cap f (A + 21000)) → (VL (W.setCell ⟨R, i, none⟩ v) (w.heap.size + 1) lo N LL ∧ CS w (W.setCell ⟨R, i, none⟩ v) CB ao n cap f (A + 21000)) := fun W i v hh =>
          ⟨hh.1.grown (grown_set W R i v) (fun k e => by injection e with e; omega), hh.2.others (Others.setCell _ _ _ _) (by omega)⟩
        have fin := og _ 3 (.slice lo N lc) (og _ 2 (.int .i64 vs) (og _ 1 (.int .i64 vl) (og _ 0 (.int .i64 vx) ⟨VL8, C8⟩)))
        refine bodyPost_ret (v := .agg #[.int .i64 vx, .int .i64 vl, .int .i64 vs, .slice lo N lc]) (by simp [results, Try.results11, go_sem, r0, r1, r2, r3]) rfl ⟨vx, vl, vs, lo, N, lc, LL, rfl, hN, fin.1.lower (by omega), hf8, hb8, fin.2.mono (by omega)⟩
    · have hkp : (0 : Int) < (k : Int) := by omega
      have hkd : decide ((0 : Int) < (k : Int)) = true := decide_eq_true hkp
      have hne := G.ne
      have hcl := G.C.lt
      go_upto_region 5 with fail
      go_cut [5, 6] from 10 to 21 (fun s5 s6 wx => ∃ (Bx : Nat) (ok : Bool), s5 = .pointer (some ⟨Bx, 0, none⟩) ∧ s6 = .bool ok ∧ (Bx ≠ D ∧ Bx ≠ R) ∧ VW w wx R D CB ao n cap f (B + 4000) vx vl vs g c V LL ∧ (ok = true → ∃ nx lg sq g8 gc V8 LL8, VX wx Bx nx lg sq (some ⟨g8, 0, none⟩) 3 gc ∧ LF wx w.heap.size D R g8 V8 LL8 ∧ 3 ≤ gc ∧ (-2000000000 ≤ nx ∧ nx ≤ 2000000000) ∧ (-2000000000 ≤ lg ∧ lg ≤ 2000000000) ∧ (-2000000000 ≤ sq ∧ sq ≤ 2000000000) ∧ ∀ i, i < 3 → (LL8 i).length ≤ 12))
      case first =>
        refine wp_region_w (fun W : World => W.cell? ⟨D, 0, none⟩ = some (.int .i64 vx) ∧ W.cell? ⟨D, 1, none⟩ = some (.int .i64 vl) ∧ W.cell? ⟨D, 2, none⟩ = some (.int .i64 vs) ∧ W.cell? ⟨D, 3, none⟩ = some (.slice (some ⟨g, 0, none⟩) 3 c)) (fun _ => true) (by kernel_rfl) ?_
        change wpW _ _ _ _ _ _ 11 _ _ wr.drew
        have Gd := G.keep (Below.refl _ wr).drew
        clear G
        generalize wr.drew = W0 at Gd ⊢
        obtain ⟨_, u0, u1, u2, u3⟩ := id Gd.DA
        refine wpW_take 0 _ (.agg #[.int .i64 vx, .int .i64 vl, .int .i64 vs, .slice (some ⟨g, 0, none⟩) 3 c]) rfl (by kernel_rfl) (by kernel_rfl) (by kernel_rfl) (fun _ _ _ h => h) (by kernel_rfl) (.inl ⟨rfl, fun w' hS' => by obtain ⟨s0, s1, s2, s3⟩ := hS'; go_simp⟩) ⟨u0, u1, u2, u3⟩ ?_
        simp only [Act.put, List.getElem_toArray, List.getElem_cons_succ, List.getElem_cons_zero, List.setIfInBounds_toArray, List.set_cons_zero, List.set_cons_succ]
        refine wpW_take 1 _ (.pointer (some ⟨CB, 0, none⟩)) rfl (by kernel_rfl) (by kernel_rfl) (by kernel_rfl) (fun _ _ _ h => h) (by kernel_rfl) (.inl ⟨rfl, fun w' hS' => by go_simp⟩) ⟨u0, u1, u2, u3⟩ ?_
        simp only [Act.put, List.getElem_toArray, List.getElem_cons_succ, List.getElem_cons_zero, List.setIfInBounds_toArray, List.set_cons_zero, List.set_cons_succ]
        refine wpW_take 2 _ (.agg #[.int .i64 vx, .int .i64 vl, .int .i64 vs, .slice (some ⟨g, 0, none⟩) 3 c]) rfl (by kernel_rfl) (by kernel_rfl) (by kernel_rfl) (fun _ _ _ h => h) (by kernel_rfl) (.inl ⟨rfl, fun w' hS' => by obtain ⟨s0, s1, s2, s3⟩ := hS'; go_simp⟩) ⟨u0, u1, u2, u3⟩ ?_
        simp only [Act.put, List.getElem_toArray, List.getElem_cons_succ, List.getElem_cons_zero, List.setIfInBounds_toArray, List.set_cons_zero, List.set_cons_succ]
        refine wpW_two 3 8 _ _ rfl rfl (by kernel_rfl) (step_call rfl 12 #[.pointer (some ⟨CB, 0, none⟩), .agg #[.int .i64 vx, .int .i64 vl, .int .i64 vs, .slice (some ⟨g, 0, none⟩) 3 c]] _ (by go_simp) (edit_any vx vl vs (some ⟨g, 0, none⟩) 3 c w.heap.size LL Gd.L.vl (by omega) Gd.C.lt Gd.bd.2.1 Gd.bd.2.2.1 Gd.bd.2.2.2 Gd.C.self (by omega)) ?_) (step_val rfl (.pointer (some ⟨W0.heap.size, 0, none⟩)) (w' := W0.alloc (.cells #[.int .i64 0, .int .i64 0, .int .i64 0, .slice none 0 0] 25)) (by go_simp) ?_)
        · rintro e w7 ⟨nx, lg, sq, da, aa, dc, ac, Dl, Al, rfl, hDl, hAl, hOI, hOD, K7⟩
          have hCl := Gd.C.lt
          have hs7 := K7.gr.size
          have hWs := Gd.C.gr.size
          have hD7 := Gd.DA.lt
          have hR7 := Gd.RA.lt
          have G7 := Gd.draw K7
          clear u0 u1 u2 u3
          obtain ⟨_, u0, u1, u2, u3⟩ := id G7.DA
          obtain ⟨_, _, eI, hcI, hI⟩ := hOI.form
          injection eI with eI1 _ eI3
          subst eI1 eI3
          have hDr := hOD.row
          refine ⟨_, rfl, fun _ => ⟨u0, u1, u2, u3⟩, ?_⟩
          simp only [Act.put, List.getElem_toArray, List.getElem_cons_succ, List.getElem_cons_zero, List.setIfInBounds_toArray, List.set_cons_zero, List.set_cons_succ]
          refine wpW_two 4 8 _ _ rfl rfl (by kernel_rfl) (step_call rfl 6 #[.agg #[.int .i64 vx, .int .i64 vl, .int .i64 vs, .slice (some ⟨g, 0, none⟩) 3 c], .agg #[.int .i64 nx, .int .i64 lg, .int .i64 sq, .slice da Dl.length dc, .slice aa Al.length ac]] _ (by go_simp) (applyEdit_spec vx vl vs (some ⟨g, 0, none⟩) 3 c LL nx lg sq da dc Dl aa ac Al w7 G7.L.vl.vrow hI hDr (by omega) G7.L.sum (by omega) (by omega) (by have := G7.bd.2.1; omega) hcI) ?_) (step_val rfl (.pointer (some ⟨w7.heap.size, 0, none⟩)) (w' := w7.alloc (.cells #[.int .i64 0, .int .i64 0, .int .i64 0, .slice none 0 0] 25)) (by go_simp) ?_)
          · rintro e w8 (⟨hg8, go, gc, rfl, _, hgc, hL8, q8⟩ | ⟨hg8, rfl, q8⟩)
            · have hs8 := q8.size
              obtain ⟨g8, V8, rfl, L8, hg8b, hq8⟩ := lf_new (base := w.heap.size) (D := D) (R := R) hL8 (by omega) (by omega) (by omega) (fun i hi => hg8.2.2.2.2.2.few.2 i hi)
              have G8 := G7.keep q8
              clear u0 u1 u2 u3
              obtain ⟨_, u0, u1, u2, u3⟩ := id G8.DA
              refine ⟨_, rfl, fun _ => ⟨u0, u1, u2, u3⟩, ?_⟩
              simp only [Act.put, List.getElem_toArray, List.getElem_cons_succ, List.getElem_cons_zero, List.setIfInBounds_toArray, List.set_cons_zero, List.set_cons_succ]
              refine wpW_take 5 _ (.tuple #[.agg #[.int .i64 nx, .int .i64 lg, .int .i64 sq, .slice (some ⟨g8, 0, none⟩) 3 gc], .bool true]) rfl (by kernel_rfl) (by kernel_rfl) (by kernel_rfl) (fun _ _ _ h => h) (by kernel_rfl) (.inl ⟨rfl, fun w' hS' => by go_simp⟩) ⟨u0, u1, u2, u3⟩ ?_
              simp only [Act.put, List.getElem_toArray, List.getElem_cons_succ, List.getElem_cons_zero, List.setIfInBounds_toArray, List.set_cons_zero, List.set_cons_succ]
              refine wpW_take 6 _ (.agg #[.int .i64 nx, .int .i64 lg, .int .i64 sq, .slice (some ⟨g8, 0, none⟩) 3 gc]) rfl (by kernel_rfl) (by kernel_rfl) (by kernel_rfl) (fun _ _ _ h => h) (by kernel_rfl) (.inl ⟨rfl, fun w' hS' => by go_simp⟩) ⟨u0, u1, u2, u3⟩ ?_
              simp only [Act.put, List.getElem_toArray, List.getElem_cons_succ, List.getElem_cons_zero, List.setIfInBounds_toArray, List.set_cons_zero, List.set_cons_succ]
              refine wpW_take 7 _ (.bool true) rfl (by kernel_rfl) (by kernel_rfl) (by kernel_rfl) (fun _ _ _ h => h) (by kernel_rfl) (.inl ⟨rfl, fun w' hS' => by go_simp⟩) ⟨u0, u1, u2, u3⟩ ?_
              simp only [Act.put, List.getElem_toArray, List.getElem_cons_succ, List.getElem_cons_zero, List.setIfInBounds_toArray, List.set_cons_zero, List.set_cons_succ]
              refine wpW_one 8 _ rfl (by kernel_rfl) (step_val rfl (.pointer (some ⟨w8.heap.size, 0, none⟩)) (w' := w8.alloc (.cells #[.int .i64 0, .int .i64 0, .int .i64 0, .slice none 0 0] 25)) (by go_simp) ?_)
              have bz := below_new w8 (.cells #[.int .i64 0, .int .i64 0, .int .i64 0, .slice none 0 0] 25)
              have Zb := VX.new w8 0 0 0 none 0 0 25
              have Fb : ∀ j, (w8.alloc (.cells #[.int .i64 0, .int .i64 0, .int .i64 0, .slice none 0 0] 25)).frozen? ⟨w8.heap.size, j, none⟩ = false := fun j => by simp [go_sem]
              have sB : (w8.alloc (.cells #[.int .i64 0, .int .i64 0, .int .i64 0, .slice none 0 0] 25)).heap.size = w8.heap.size + 1 := by simp
              have hB1 := G8.DA.lt
              have hB2 := G8.RA.lt
              have hB3 := G8.L.lv.lt
              have hB4 := G8.L.lt
              have hB5 := G8.C.gr.size
              have G9 := G8.keep bz
              clear u0 u1 u2 u3
              obtain ⟨_, u0, u1, u2, u3⟩ := id G9.DA
              refine ⟨fun _ => ⟨u0, u1, u2, u3⟩, ?_⟩
              simp only [Act.put, List.getElem_toArray, List.getElem_cons_succ, List.getElem_cons_zero, List.setIfInBounds_toArray, List.set_cons_zero, List.set_cons_succ]
              generalize hBx : w8.heap.size = Bx at Zb Fb sB hB1 hB2 hB3 hB4 hB5 ⊢
              have hg8l := L8.lv.lt
              have hg8o := L8.lt
              have L9 := L8.keep bz
              rw [hBx] at hg8l hg8o
              generalize w8.alloc (.cells #[.int .i64 0, .int .i64 0, .int .i64 0, .slice none 0 0] 25) = w9 at Zb Fb sB G9 u0 u1 u2 u3 L9 ⊢
              have GY := G9.others (oth4 w9 Bx (.int .i64 nx) (.int .i64 lg) (.int .i64 sq) (.slice (some ⟨g8, 0, none⟩) 3 gc)) (by omega) (by omega) (by omega) (by omega) hB4
              have ZY := vx_put Zb nx lg sq (some ⟨g8, 0, none⟩) 3 gc
              refine wpW_one 9 _ rfl (by kernel_rfl) (step_storeV rfl 5 20 rfl Bx nx lg sq (some ⟨g8, 0, none⟩) 3 gc rfl rfl Zb Fb ?_)
              have LY := L9.others (oth4 w9 Bx (.int .i64 nx) (.int .i64 lg) (.int .i64 sq) (.slice (some ⟨g8, 0, none⟩) 3 gc)) (by omega) (fun i hi => hg8o i hi)
              obtain ⟨_, y0, y1, y2, y3⟩ := id GY.DA
              refine ⟨fun _ => ⟨y0, y1, y2, y3⟩, ?_⟩
              simp only [Act.put, List.getElem_toArray, List.getElem_cons_succ, List.getElem_cons_zero, List.setIfInBounds_toArray, List.set_cons_zero, List.set_cons_succ]
              refine wpW_one 10 _ rfl (by kernel_rfl) (step_val rfl (.bool true) (w' := ((((w9.setCell ⟨Bx, 0, none⟩ (.int .i64 nx)).setCell ⟨Bx, 1, none⟩ (.int .i64 lg)).setCell ⟨Bx, 2, none⟩ (.int .i64 sq)).setCell ⟨Bx, 3, none⟩ (.slice (some ⟨g8, 0, none⟩) 3 gc))) (by go_simp) ?_)
              refine ⟨fun _ => ⟨y0, y1, y2, y3⟩, ?_⟩
              simp only [Act.put, List.getElem_toArray, List.getElem_cons_succ, List.getElem_cons_zero, List.setIfInBounds_toArray, List.set_cons_zero, List.set_cons_succ]
              refine wpW_done (by kernel_rfl) ?_
              go_wp2
              go_meet
              exact ⟨Bx, true, rfl, rfl, (by omega), GY, fun _ => ⟨nx, lg, sq, g8, gc, V8, _, ZY, LY, hgc, (goodVP_bd hg8.2.2.2.2.2).1, (goodVP_bd hg8.2.2.2.2.2).2.1, (goodVP_bd hg8.2.2.2.2.2).2.2, fun i hi => hg8.2.2.2.2.2.few.2 i hi⟩⟩
            · have hs8 := q8.size
              have G8 := G7.keep q8
              clear u0 u1 u2 u3
              obtain ⟨_, u0, u1, u2, u3⟩ := id G8.DA
              refine ⟨_, rfl, fun _ => ⟨u0, u1, u2, u3⟩, ?_⟩
              simp only [Act.put, List.getElem_toArray, List.getElem_cons_succ, List.getElem_cons_zero, List.setIfInBounds_toArray, List.set_cons_zero, List.set_cons_succ]
              refine wpW_take 5 _ (.tuple #[.agg #[.int .i64 0, .int .i64 0, .int .i64 0, .slice none 0 0], .bool false]) rfl (by kernel_rfl) (by kernel_rfl) (by kernel_rfl) (fun _ _ _ h => h) (by kernel_rfl) (.inl ⟨rfl, fun w' hS' => by go_simp⟩) ⟨u0, u1, u2, u3⟩ ?_
              simp only [Act.put, List.getElem_toArray, List.getElem_cons_succ, List.getElem_cons_zero, List.setIfInBounds_toArray, List.set_cons_zero, List.set_cons_succ]
              refine wpW_take 6 _ (.agg #[.int .i64 0, .int .i64 0, .int .i64 0, .slice none 0 0]) rfl (by kernel_rfl) (by kernel_rfl) (by kernel_rfl) (fun _ _ _ h => h) (by kernel_rfl) (.inl ⟨rfl, fun w' hS' => by go_simp⟩) ⟨u0, u1, u2, u3⟩ ?_
              simp only [Act.put, List.getElem_toArray, List.getElem_cons_succ, List.getElem_cons_zero, List.setIfInBounds_toArray, List.set_cons_zero, List.set_cons_succ]
              refine wpW_take 7 _ (.bool false) rfl (by kernel_rfl) (by kernel_rfl) (by kernel_rfl) (fun _ _ _ h => h) (by kernel_rfl) (.inl ⟨rfl, fun w' hS' => by go_simp⟩) ⟨u0, u1, u2, u3⟩ ?_
              simp only [Act.put, List.getElem_toArray, List.getElem_cons_succ, List.getElem_cons_zero, List.setIfInBounds_toArray, List.set_cons_zero, List.set_cons_succ]
              refine wpW_one 8 _ rfl (by kernel_rfl) (step_val rfl (.pointer (some ⟨w8.heap.size, 0, none⟩)) (w' := w8.alloc (.cells #[.int .i64 0, .int .i64 0, .int .i64 0, .slice none 0 0] 25)) (by go_simp) ?_)
              have bz := below_new w8 (.cells #[.int .i64 0, .int .i64 0, .int .i64 0, .slice none 0 0] 25)
              have Zb := VX.new w8 0 0 0 none 0 0 25
              have Fb : ∀ j, (w8.alloc (.cells #[.int .i64 0, .int .i64 0, .int .i64 0, .slice none 0 0] 25)).frozen? ⟨w8.heap.size, j, none⟩ = false := fun j => by simp [go_sem]
              have sB : (w8.alloc (.cells #[.int .i64 0, .int .i64 0, .int .i64 0, .slice none 0 0] 25)).heap.size = w8.heap.size + 1 := by simp
              have hB1 := G8.DA.lt
              have hB2 := G8.RA.lt
              have hB3 := G8.L.lv.lt
              have hB4 := G8.L.lt
              have hB5 := G8.C.gr.size
              have G9 := G8.keep bz
              clear u0 u1 u2 u3
              obtain ⟨_, u0, u1, u2, u3⟩ := id G9.DA
              refine ⟨fun _ => ⟨u0, u1, u2, u3⟩, ?_⟩
              simp only [Act.put, List.getElem_toArray, List.getElem_cons_succ, List.getElem_cons_zero, List.setIfInBounds_toArray, List.set_cons_zero, List.set_cons_succ]
              generalize hBx : w8.heap.size = Bx at Zb Fb sB hB1 hB2 hB3 hB4 hB5 ⊢
              generalize w8.alloc (.cells #[.int .i64 0, .int .i64 0, .int .i64 0, .slice none 0 0] 25) = w9 at Zb Fb sB G9 u0 u1 u2 u3 ⊢
              have GY := G9.others (oth4 w9 Bx (.int .i64 0) (.int .i64 0) (.int .i64 0) (.slice none 0 0)) (by omega) (by omega) (by omega) (by omega) hB4
              have ZY := vx_put Zb 0 0 0 none 0 0
              refine wpW_one 9 _ rfl (by kernel_rfl) (step_storeV rfl 5 20 rfl Bx 0 0 0 none 0 0 rfl rfl Zb Fb ?_)
              obtain ⟨_, y0, y1, y2, y3⟩ := id GY.DA
              refine ⟨fun _ => ⟨y0, y1, y2, y3⟩, ?_⟩
              simp only [Act.put, List.getElem_toArray, List.getElem_cons_succ, List.getElem_cons_zero, List.setIfInBounds_toArray, List.set_cons_zero, List.set_cons_succ]
              refine wpW_one 10 _ rfl (by kernel_rfl) (step_val rfl (.bool false) (w' := ((((w9.setCell ⟨Bx, 0, none⟩ (.int .i64 0)).setCell ⟨Bx, 1, none⟩ (.int .i64 0)).setCell ⟨Bx, 2, none⟩ (.int .i64 0)).setCell ⟨Bx, 3, none⟩ (.slice none 0 0))) (by go_simp) ?_)
              refine ⟨fun _ => ⟨y0, y1, y2, y3⟩, ?_⟩
              simp only [Act.put, List.getElem_toArray, List.getElem_cons_succ, List.getElem_cons_zero, List.setIfInBounds_toArray, List.set_cons_zero, List.set_cons_succ]
              refine wpW_done (by kernel_rfl) ?_
              go_wp2
              go_meet
              exact ⟨Bx, false, rfl, rfl, (by omega), GY, fun h => by cases h⟩
          · have bz := below_new w7 (.cells #[.int .i64 0, .int .i64 0, .int .i64 0, .slice none 0 0] 25)
            have Zb := VX.new w7 0 0 0 none 0 0 25
            have Fb : ∀ j, (w7.alloc (.cells #[.int .i64 0, .int .i64 0, .int .i64 0, .slice none 0 0] 25)).frozen? ⟨w7.heap.size, j, none⟩ = false := fun j => by simp [go_sem]
            have sB : (w7.alloc (.cells #[.int .i64 0, .int .i64 0, .int .i64 0, .slice none 0 0] 25)).heap.size = w7.heap.size + 1 := by simp
            have hB1 := G7.DA.lt
            have hB2 := G7.RA.lt
            have hB3 := G7.L.lv.lt
            have hB4 := G7.L.lt
            have hB5 := G7.C.gr.size
            have G1 := G7.keep bz
            clear u0 u1 u2 u3
            obtain ⟨_, u0, u1, u2, u3⟩ := id G1.DA
            refine ⟨fun _ => ⟨u0, u1, u2, u3⟩, ?_⟩
            simp only [Act.put, List.getElem_toArray, List.getElem_cons_succ, List.getElem_cons_zero, List.setIfInBounds_toArray, List.set_cons_zero, List.set_cons_succ]
            have hI1 := hI.keep bz
            have hDr1 := hDr.keep bz
            generalize hBx : w7.heap.size = Bx at Zb Fb sB hB1 hB2 hB3 hB4 hB5 ⊢
            generalize w7.alloc (.cells #[.int .i64 0, .int .i64 0, .int .i64 0, .slice none 0 0] 25) = W1 at Zb Fb sB G1 u0 u1 u2 u3 hI1 hDr1 ⊢
            have Zc := Zb
            have Fc := Fb
            refine wpW_one 4 _ rfl (by kernel_rfl) (step_call rfl 6 #[.agg #[.int .i64 vx, .int .i64 vl, .int .i64 vs, .slice (some ⟨g, 0, none⟩) 3 c], .agg #[.int .i64 nx, .int .i64 lg, .int .i64 sq, .slice da Dl.length dc, .slice aa Al.length ac]] _ (by go_simp) (applyEdit_spec vx vl vs (some ⟨g, 0, none⟩) 3 c LL nx lg sq da dc Dl aa ac Al W1 G1.L.vl.vrow hI1 hDr1 (by omega) G1.L.sum (by omega) (by omega) (by have := G1.bd.2.1; omega) hcI) ?_)
            rintro e w8 (⟨hg8, go, gc, rfl, _, hgc, hL8, q8⟩ | ⟨hg8, rfl, q8⟩)
            · have hs8 := q8.size
              obtain ⟨g8, V8, rfl, L8, hg8b, hq8⟩ := lf_new (base := w.heap.size) (D := D) (R := R) hL8 (by omega) (by omega) (by omega) (fun i hi => hg8.2.2.2.2.2.few.2 i hi)
              have G8 := G1.keep q8
              clear u0 u1 u2 u3
              obtain ⟨_, u0, u1, u2, u3⟩ := id G8.DA
              refine ⟨_, rfl, fun _ => ⟨u0, u1, u2, u3⟩, ?_⟩
              simp only [Act.put, List.getElem_toArray, List.getElem_cons_succ, List.getElem_cons_zero, List.setIfInBounds_toArray, List.set_cons_zero, List.set_cons_succ]
              refine wpW_take 5 _ (.tuple #[.agg #[.int .i64 nx, .int .i64 lg, .int .i64 sq, .slice (some ⟨g8, 0, none⟩) 3 gc], .bool true]) rfl (by kernel_rfl) (by kernel_rfl) (by kernel_rfl) (fun _ _ _ h => h) (by kernel_rfl) (.inl ⟨rfl, fun w' hS' => by go_simp⟩) ⟨u0, u1, u2, u3⟩ ?_
              simp only [Act.put, List.getElem_toArray, List.getElem_cons_succ, List.getElem_cons_zero, List.setIfInBounds_toArray, List.set_cons_zero, List.set_cons_succ]
              refine wpW_take 6 _ (.agg #[.int .i64 nx, .int .i64 lg, .int .i64 sq, .slice (some ⟨g8, 0, none⟩) 3 gc]) rfl (by kernel_rfl) (by kernel_rfl) (by kernel_rfl) (fun _ _ _ h => h) (by kernel_rfl) (.inl ⟨rfl, fun w' hS' => by go_simp⟩) ⟨u0, u1, u2, u3⟩ ?_
              simp only [Act.put, List.getElem_toArray, List.getElem_cons_succ, List.getElem_cons_zero, List.setIfInBounds_toArray, List.set_cons_zero, List.set_cons_succ]
              refine wpW_take 7 _ (.bool true) rfl (by kernel_rfl) (by kernel_rfl) (by kernel_rfl) (fun _ _ _ h => h) (by kernel_rfl) (.inl ⟨rfl, fun w' hS' => by go_simp⟩) ⟨u0, u1, u2, u3⟩ ?_
              simp only [Act.put, List.getElem_toArray, List.getElem_cons_succ, List.getElem_cons_zero, List.setIfInBounds_toArray, List.set_cons_zero, List.set_cons_succ]
              have Z8 := Zc.keep q8
              have F8 := froz_keep Fc Zc.lt q8
              have GY := G8.others (oth4 w8 Bx (.int .i64 nx) (.int .i64 lg) (.int .i64 sq) (.slice (some ⟨g8, 0, none⟩) 3 gc)) (by omega) (by omega) (by omega) (by omega) hB4
              have ZY := vx_put Z8 nx lg sq (some ⟨g8, 0, none⟩) 3 gc
              refine wpW_one 9 _ rfl (by kernel_rfl) (step_storeV rfl 5 20 rfl Bx nx lg sq (some ⟨g8, 0, none⟩) 3 gc rfl rfl Z8 F8 ?_)
              have LY := L8.others (oth4 w8 Bx (.int .i64 nx) (.int .i64 lg) (.int .i64 sq) (.slice (some ⟨g8, 0, none⟩) 3 gc)) (by omega) (fun i hi e => by have := hq8 i hi _ e; omega)
              obtain ⟨_, y0, y1, y2, y3⟩ := id GY.DA
              refine ⟨fun _ => ⟨y0, y1, y2, y3⟩, ?_⟩
              simp only [Act.put, List.getElem_toArray, List.getElem_cons_succ, List.getElem_cons_zero, List.setIfInBounds_toArray, List.set_cons_zero, List.set_cons_succ]
              refine wpW_one 10 _ rfl (by kernel_rfl) (step_val rfl (.bool true) (w' := ((((w8.setCell ⟨Bx, 0, none⟩ (.int .i64 nx)).setCell ⟨Bx, 1, none⟩ (.int .i64 lg)).setCell ⟨Bx, 2, none⟩ (.int .i64 sq)).setCell ⟨Bx, 3, none⟩ (.slice (some ⟨g8, 0, none⟩) 3 gc))) (by go_simp) ?_)
              refine ⟨fun _ => ⟨y0, y1, y2, y3⟩, ?_⟩
              simp only [Act.put, List.getElem_toArray, List.getElem_cons_succ, List.getElem_cons_zero, List.setIfInBounds_toArray, List.set_cons_zero, List.set_cons_succ]
              refine wpW_done (by kernel_rfl) ?_
              go_wp2
              go_meet
              exact ⟨Bx, true, rfl, rfl, (by omega), GY, fun _ => ⟨nx, lg, sq, g8, gc, V8, _, ZY, LY, hgc, (goodVP_bd hg8.2.2.2.2.2).1, (goodVP_bd hg8.2.2.2.2.2).2.1, (goodVP_bd hg8.2.2.2.2.2).2.2, fun i hi => hg8.2.2.2.2.2.few.2 i hi⟩⟩
            · have hs8 := q8.size
              have G8 := G1.keep q8
              clear u0 u1 u2 u3
              obtain ⟨_, u0, u1, u2, u3⟩ := id G8.DA
              refine ⟨_, rfl, fun _ => ⟨u0, u1, u2, u3⟩, ?_⟩
              simp only [Act.put, List.getElem_toArray, List.getElem_cons_succ, List.getElem_cons_zero, List.setIfInBounds_toArray, List.set_cons_zero, List.set_cons_succ]
              refine wpW_take 5 _ (.tuple #[.agg #[.int .i64 0, .int .i64 0, .int .i64 0, .slice none 0 0], .bool false]) rfl (by kernel_rfl) (by kernel_rfl) (by kernel_rfl) (fun _ _ _ h => h) (by kernel_rfl) (.inl ⟨rfl, fun w' hS' => by go_simp⟩) ⟨u0, u1, u2, u3⟩ ?_
              simp only [Act.put, List.getElem_toArray, List.getElem_cons_succ, List.getElem_cons_zero, List.setIfInBounds_toArray, List.set_cons_zero, List.set_cons_succ]
              refine wpW_take 6 _ (.agg #[.int .i64 0, .int .i64 0, .int .i64 0, .slice none 0 0]) rfl (by kernel_rfl) (by kernel_rfl) (by kernel_rfl) (fun _ _ _ h => h) (by kernel_rfl) (.inl ⟨rfl, fun w' hS' => by go_simp⟩) ⟨u0, u1, u2, u3⟩ ?_
              simp only [Act.put, List.getElem_toArray, List.getElem_cons_succ, List.getElem_cons_zero, List.setIfInBounds_toArray, List.set_cons_zero, List.set_cons_succ]
              refine wpW_take 7 _ (.bool false) rfl (by kernel_rfl) (by kernel_rfl) (by kernel_rfl) (fun _ _ _ h => h) (by kernel_rfl) (.inl ⟨rfl, fun w' hS' => by go_simp⟩) ⟨u0, u1, u2, u3⟩ ?_
              simp only [Act.put, List.getElem_toArray, List.getElem_cons_succ, List.getElem_cons_zero, List.setIfInBounds_toArray, List.set_cons_zero, List.set_cons_succ]
              have Z8 := Zc.keep q8
              have F8 := froz_keep Fc Zc.lt q8
              have GY := G8.others (oth4 w8 Bx (.int .i64 0) (.int .i64 0) (.int .i64 0) (.slice none 0 0)) (by omega) (by omega) (by omega) (by omega) hB4
              have ZY := vx_put Z8 0 0 0 none 0 0
              refine wpW_one 9 _ rfl (by kernel_rfl) (step_storeV rfl 5 20 rfl Bx 0 0 0 none 0 0 rfl rfl Z8 F8 ?_)
              obtain ⟨_, y0, y1, y2, y3⟩ := id GY.DA
              refine ⟨fun _ => ⟨y0, y1, y2, y3⟩, ?_⟩
              simp only [Act.put, List.getElem_toArray, List.getElem_cons_succ, List.getElem_cons_zero, List.setIfInBounds_toArray, List.set_cons_zero, List.set_cons_succ]
              refine wpW_one 10 _ rfl (by kernel_rfl) (step_val rfl (.bool false) (w' := ((((w8.setCell ⟨Bx, 0, none⟩ (.int .i64 0)).setCell ⟨Bx, 1, none⟩ (.int .i64 0)).setCell ⟨Bx, 2, none⟩ (.int .i64 0)).setCell ⟨Bx, 3, none⟩ (.slice none 0 0))) (by go_simp) ?_)
              refine ⟨fun _ => ⟨y0, y1, y2, y3⟩, ?_⟩
              simp only [Act.put, List.getElem_toArray, List.getElem_cons_succ, List.getElem_cons_zero, List.setIfInBounds_toArray, List.set_cons_zero, List.set_cons_succ]
              refine wpW_done (by kernel_rfl) ?_
              go_wp2
              go_meet
              exact ⟨Bx, false, rfl, rfl, (by omega), GY, fun h => by cases h⟩
        · have bz := below_new W0 (.cells #[.int .i64 0, .int .i64 0, .int .i64 0, .slice none 0 0] 25)
          have Zb := VX.new W0 0 0 0 none 0 0 25
          have Fb : ∀ j, (W0.alloc (.cells #[.int .i64 0, .int .i64 0, .int .i64 0, .slice none 0 0] 25)).frozen? ⟨W0.heap.size, j, none⟩ = false := fun j => by simp [go_sem]
          have sB : (W0.alloc (.cells #[.int .i64 0, .int .i64 0, .int .i64 0, .slice none 0 0] 25)).heap.size = W0.heap.size + 1 := by simp
          have hB1 := Gd.DA.lt
          have hB2 := Gd.RA.lt
          have hB3 := Gd.L.lv.lt
          have hB4 := Gd.L.lt
          have hB5 := Gd.C.gr.size
          have G1 := Gd.keep bz
          clear u0 u1 u2 u3
          obtain ⟨_, u0, u1, u2, u3⟩ := id G1.DA
          refine ⟨fun _ => ⟨u0, u1, u2, u3⟩, ?_⟩
          simp only [Act.put, List.getElem_toArray, List.getElem_cons_succ, List.getElem_cons_zero, List.setIfInBounds_toArray, List.set_cons_zero, List.set_cons_succ]
          generalize hBx : W0.heap.size = Bx at Zb Fb sB hB1 hB2 hB3 hB4 hB5 ⊢
          generalize W0.alloc (.cells #[.int .i64 0, .int .i64 0, .int .i64 0, .slice none 0 0] 25) = W1 at Zb Fb sB G1 u0 u1 u2 u3 ⊢
          refine wpW_one 3 _ rfl (by kernel_rfl) (step_call rfl 12 #[.pointer (some ⟨CB, 0, none⟩), .agg #[.int .i64 vx, .int .i64 vl, .int .i64 vs, .slice (some ⟨g, 0, none⟩) 3 c]] _ (by go_simp) (edit_any vx vl vs (some ⟨g, 0, none⟩) 3 c w.heap.size LL G1.L.vl (by omega) G1.C.lt G1.bd.2.1 G1.bd.2.2.1 G1.bd.2.2.2 G1.C.self (by omega)) ?_)
          rintro e w7 ⟨nx, lg, sq, da, aa, dc, ac, Dl, Al, rfl, hDl, hAl, hOI, hOD, K7⟩
          have hCl := G1.C.lt
          have hs7 := K7.gr.size
          have hWs := G1.C.gr.size
          have hD7 := G1.DA.lt
          have hR7 := G1.RA.lt
          have G7 := G1.draw K7
          clear u0 u1 u2 u3
          obtain ⟨_, u0, u1, u2, u3⟩ := id G7.DA
          obtain ⟨_, _, eI, hcI, hI⟩ := hOI.form
          injection eI with eI1 _ eI3
          subst eI1 eI3
          have hDr := hOD.row
          have Z7 := vx_grown Zb K7.gr (by omega)
          have F7 := froz_grown Fb Zb.lt K7.gr (by omega)
          refine ⟨_, rfl, fun _ => ⟨u0, u1, u2, u3⟩, ?_⟩
          simp only [Act.put, List.getElem_toArray, List.getElem_cons_succ, List.getElem_cons_zero, List.setIfInBounds_toArray, List.set_cons_zero, List.set_cons_succ]
          have Zc := Z7
          have Fc := F7
          refine wpW_one 4 _ rfl (by kernel_rfl) (step_call rfl 6 #[.agg #[.int .i64 vx, .int .i64 vl, .int .i64 vs, .slice (some ⟨g, 0, none⟩) 3 c], .agg #[.int .i64 nx, .int .i64 lg, .int .i64 sq, .slice da Dl.length dc, .slice aa Al.length ac]] _ (by go_simp) (applyEdit_spec vx vl vs (some ⟨g, 0, none⟩) 3 c LL nx lg sq da dc Dl aa ac Al w7 G7.L.vl.vrow hI hDr (by omega) G7.L.sum (by omega) (by omega) (by have := G7.bd.2.1; omega) hcI) ?_)
          rintro e w8 (⟨hg8, go, gc, rfl, _, hgc, hL8, q8⟩ | ⟨hg8, rfl, q8⟩)
          · have hs8 := q8.size
            obtain ⟨g8, V8, rfl, L8, hg8b, hq8⟩ := lf_new (base := w.heap.size) (D := D) (R := R) hL8 (by omega) (by omega) (by omega) (fun i hi => hg8.2.2.2.2.2.few.2 i hi)
            have G8 := G7.keep q8
            clear u0 u1 u2 u3
            obtain ⟨_, u0, u1, u2, u3⟩ := id G8.DA
            refine ⟨_, rfl, fun _ => ⟨u0, u1, u2, u3⟩, ?_⟩
            simp only [Act.put, List.getElem_toArray, List.getElem_cons_succ, List.getElem_cons_zero, List.setIfInBounds_toArray, List.set_cons_zero, List.set_cons_succ]
            refine wpW_take 5 _ (.tuple #[.agg #[.int .i64 nx, .int .i64 lg, .int .i64 sq, .slice (some ⟨g8, 0, none⟩) 3 gc], .bool true]) rfl (by kernel_rfl) (by kernel_rfl) (by kernel_rfl) (fun _ _ _ h => h) (by kernel_rfl) (.inl ⟨rfl, fun w' hS' => by go_simp⟩) ⟨u0, u1, u2, u3⟩ ?_
            simp only [Act.put, List.getElem_toArray, List.getElem_cons_succ, List.getElem_cons_zero, List.setIfInBounds_toArray, List.set_cons_zero, List.set_cons_succ]
            refine wpW_take 6 _ (.agg #[.int .i64 nx, .int .i64 lg, .int .i64 sq, .slice (some ⟨g8, 0, none⟩) 3 gc]) rfl (by kernel_rfl) (by kernel_rfl) (by kernel_rfl) (fun _ _ _ h => h) (by kernel_rfl) (.inl ⟨rfl, fun w' hS' => by go_simp⟩) ⟨u0, u1, u2, u3⟩ ?_
            simp only [Act.put, List.getElem_toArray, List.getElem_cons_succ, List.getElem_cons_zero, List.setIfInBounds_toArray, List.set_cons_zero, List.set_cons_succ]
            refine wpW_take 7 _ (.bool true) rfl (by kernel_rfl) (by kernel_rfl) (by kernel_rfl) (fun _ _ _ h => h) (by kernel_rfl) (.inl ⟨rfl, fun w' hS' => by go_simp⟩) ⟨u0, u1, u2, u3⟩ ?_
            simp only [Act.put, List.getElem_toArray, List.getElem_cons_succ, List.getElem_cons_zero, List.setIfInBounds_toArray, List.set_cons_zero, List.set_cons_succ]
            have Z8 := Zc.keep q8
            have F8 := froz_keep Fc Zc.lt q8
            have GY := G8.others (oth4 w8 Bx (.int .i64 nx) (.int .i64 lg) (.int .i64 sq) (.slice (some ⟨g8, 0, none⟩) 3 gc)) (by omega) (by omega) (by omega) (by omega) hB4
            have ZY := vx_put Z8 nx lg sq (some ⟨g8, 0, none⟩) 3 gc
            refine wpW_one 9 _ rfl (by kernel_rfl) (step_storeV rfl 5 20 rfl Bx nx lg sq (some ⟨g8, 0, none⟩) 3 gc rfl rfl Z8 F8 ?_)
            have LY := L8.others (oth4 w8 Bx (.int .i64 nx) (.int .i64 lg) (.int .i64 sq) (.slice (some ⟨g8, 0, none⟩) 3 gc)) (by omega) (fun i hi e => by have := hq8 i hi _ e; omega)
            obtain ⟨_, y0, y1, y2, y3⟩ := id GY.DA
            refine ⟨fun _ => ⟨y0, y1, y2, y3⟩, ?_⟩
            simp only [Act.put, List.getElem_toArray, List.getElem_cons_succ, List.getElem_cons_zero, List.setIfInBounds_toArray, List.set_cons_zero, List.set_cons_succ]
            refine wpW_one 10 _ rfl (by kernel_rfl) (step_val rfl (.bool true) (w' := ((((w8.setCell ⟨Bx, 0, none⟩ (.int .i64 nx)).setCell ⟨Bx, 1, none⟩ (.int .i64 lg)).setCell ⟨Bx, 2, none⟩ (.int .i64 sq)).setCell ⟨Bx, 3, none⟩ (.slice (some ⟨g8, 0, none⟩) 3 gc))) (by go_simp) ?_)
            refine ⟨fun _ => ⟨y0, y1, y2, y3⟩, ?_⟩
            simp only [Act.put, List.getElem_toArray, List.getElem_cons_succ, List.getElem_cons_zero, List.setIfInBounds_toArray, List.set_cons_zero, List.set_cons_succ]
            refine wpW_done (by kernel_rfl) ?_
            go_wp2
            go_meet
            exact ⟨Bx, true, rfl, rfl, (by omega), GY, fun _ => ⟨nx, lg, sq, g8, gc, V8, _, ZY, LY, hgc, (goodVP_bd hg8.2.2.2.2.2).1, (goodVP_bd hg8.2.2.2.2.2).2.1, (goodVP_bd hg8.2.2.2.2.2).2.2, fun i hi => hg8.2.2.2.2.2.few.2 i hi⟩⟩
          · have hs8 := q8.size
            have G8 := G7.keep q8
            clear u0 u1 u2 u3
            obtain ⟨_, u0, u1, u2, u3⟩ := id G8.DA
            refine ⟨_, rfl, fun _ => ⟨u0, u1, u2, u3⟩, ?_⟩
            simp only [Act.put, List.getElem_toArray, List.getElem_cons_succ, List.getElem_cons_zero, List.setIfInBounds_toArray, List.set_cons_zero, List.set_cons_succ]
            refine wpW_take 5 _ (.tuple #[.agg #[.int .i64 0, .int .i64 0, .int .i64 0, .slice none 0 0], .bool false]) rfl (by kernel_rfl) (by kernel_rfl) (by kernel_rfl) (fun _ _ _ h => h) (by kernel_rfl) (.inl ⟨rfl, fun w' hS' => by go_simp⟩) ⟨u0, u1, u2, u3⟩ ?_
            simp only [Act.put, List.getElem_toArray, List.getElem_cons_succ, List.getElem_cons_zero, List.setIfInBounds_toArray, List.set_cons_zero, List.set_cons_succ]
            refine wpW_take 6 _ (.agg #[.int .i64 0, .int .i64 0, .int .i64 0, .slice none 0 0]) rfl (by kernel_rfl) (by kernel_rfl) (by kernel_rfl) (fun _ _ _ h => h) (by kernel_rfl) (.inl ⟨rfl, fun w' hS' => by go_simp⟩) ⟨u0, u1, u2, u3⟩ ?_
            simp only [Act.put, List.getElem_toArray, List.getElem_cons_succ, List.getElem_cons_zero, List.setIfInBounds_toArray, List.set_cons_zero, List.set_cons_succ]
            refine wpW_take 7 _ (.bool false) rfl (by kernel_rfl) (by kernel_rfl) (by kernel_rfl) (fun _ _ _ h => h) (by kernel_rfl) (.inl ⟨rfl, fun w' hS' => by go_simp⟩) ⟨u0, u1, u2, u3⟩ ?_
            simp only [Act.put, List.getElem_toArray, List.getElem_cons_succ, List.getElem_cons_zero, List.setIfInBounds_toArray, List.set_cons_zero, List.set_cons_succ]
            have Z8 := Zc.keep q8
            have F8 := froz_keep Fc Zc.lt q8
            have GY := G8.others (oth4 w8 Bx (.int .i64 0) (.int .i64 0) (.int .i64 0) (.slice none 0 0)) (by omega) (by omega) (by omega) (by omega) hB4
            have ZY := vx_put Z8 0 0 0 none 0 0
            refine wpW_one 9 _ rfl (by kernel_rfl) (step_storeV rfl 5 20 rfl Bx 0 0 0 none 0 0 rfl rfl Z8 F8 ?_)
            obtain ⟨_, y0, y1, y2, y3⟩ := id GY.DA
            refine ⟨fun _ => ⟨y0, y1, y2, y3⟩, ?_⟩
            simp only [Act.put, List.getElem_toArray, List.getElem_cons_succ, List.getElem_cons_zero, List.setIfInBounds_toArray, List.set_cons_zero, List.set_cons_succ]
            refine wpW_one 10 _ rfl (by kernel_rfl) (step_val rfl (.bool false) (w' := ((((w8.setCell ⟨Bx, 0, none⟩ (.int .i64 0)).setCell ⟨Bx, 1, none⟩ (.int .i64 0)).setCell ⟨Bx, 2, none⟩ (.int .i64 0)).setCell ⟨Bx, 3, none⟩ (.slice none 0 0))) (by go_simp) ?_)
            refine ⟨fun _ => ⟨y0, y1, y2, y3⟩, ?_⟩
            simp only [Act.put, List.getElem_toArray, List.getElem_cons_succ, List.getElem_cons_zero, List.setIfInBounds_toArray, List.set_cons_zero, List.set_cons_succ]
            refine wpW_done (by kernel_rfl) ?_
            go_wp2
            go_meet
            exact ⟨Bx, false, rfl, rfl, (by omega), GY, fun h => by cases h⟩
      case rest =>
        obtain ⟨Bx, ok, rfl, rfl, hBx, G5, hok⟩ := hcut
        clear G
        cases ok
        · clear hok
          go_wp2
          go_roundw
          case rel => exact ⟨k - 1, B + 4000, vx, vl, vs, g, c, V, LL, by go_num, by omega, by omega, G5, HF⟩
          case measure => simp [intOf]; omega
        · obtain ⟨nx, lg, sq, g8, gc, V8, LL8, Z8, L8, hgc, hb1, hb2, hb3, hf8⟩ := hok rfl
          have GX := G5.set (oth4 wc D (.int .i64 nx) (.int .i64 lg) (.int .i64 sq) (.slice (some ⟨g8, 0, none⟩) 3 gc)) (fun j => by simp only [World.frozen?_setCell]; exact G5.DF j) (vx_put G5.DA nx lg sq (some ⟨g8, 0, none⟩) 3 gc) L8 ⟨hgc, hb1, hb2, hb3⟩
          obtain ⟨_, z0, z1, z2, z3⟩ := id Z8
          obtain ⟨_, u0, u1, u2, u3⟩ := id G5.DA
          have uf := G5.DF
          have HF8 : Hid (∀ i, i < 3 → (LL8 i).length ≤ 12) := hf8
          clear hok G5 L8 Z8 hf8
          go_wp2
          go_roundw
          case rel => exact ⟨k - 1, B + 4000, nx, lg, sq, g8, gc, V8, LL8, by go_num, by omega, by omega, GX, HF8⟩
          case measure => simp [intOf]; omega
end Go.Proofs.Ytagkhohglpjjlaa
