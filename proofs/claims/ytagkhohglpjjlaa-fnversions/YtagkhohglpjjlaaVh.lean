/- ReadEdit in the program. / An edit comes back from its bytes. -/
import Derived.Test.YtagkhohglpjjlaaRx
import Derived.Test.YtagkhohglpjjlaaRt
import Derived.Test.YtagkhohglpjjlaaCl
namespace Go.Proofs.Ytagkhohglpjjlaa
open Go.RowKit
set_option linter.unusedSimpArgs false
set_option linter.unusedVariables false

/-- An edit that was read. -/
structure RE where
  nx : Int
  lg : Int
  sq : Int
  D : List Int
  A : List Adm
/-- The edit that these bytes begin with, and the place behind it. -/
def pEd (f : Nat → Int) (n : Nat) : Option (RE × Nat) :=
  match rdNum f n 0 with
  | none => none
  | some (a, q1) => match rdNum f n q1 with
    | none => none
    | some (b, q2) => match rdNum f n q2 with
      | none => none
      | some (c, q3) => match pDr f n q3 with
        | none => none
        | some (D, q4) => match pAd f n q4 with
          | none => none
          | some (A, q5) => some (⟨a, b, c, D, A⟩, q5)
/-- A good edit. -/
def GoodRE (r : RE) : Prop := GoodEd r.nx r.lg r.sq r.D.length (fi r.D) r.A.length (dL r.A)
/-- These bytes are the bytes of r. -/
def Rok (f : Nat → Int) (n : Nat) (r : RE) : Prop := pEd f n = some (r, n) ∧ GoodRE r
/-- What ReadEdit leaves. -/
def RdO (f : Nat → Int) (n : Nat) (w : World) (e : Ending) (w' : World) : Prop :=
  (∃ r, Rok f n r ∧ ∃ da cd aa ca, e = .returned (.tuple #[.agg #[.int .i64 r.nx, .int .i64 r.lg, .int .i64 r.sq, .slice da r.D.length cd, .slice aa r.A.length ca], .bool true]) ∧ EA w' w.heap.size w'.heap.size da r.D.length (fi r.D) aa r.A.length (dL r.A) ∧ (∀ i, i < r.A.length → DB (dL r.A i)) ∧ Below w.heap.size w w') ∨
  ((∀ r, ¬ Rok f n r) ∧ e = .returned (.tuple #[.agg #[.int .i64 0, .int .i64 0, .int .i64 0, .slice none 0 0, .slice none 0 0], .bool false]) ∧ Below w.heap.size w w')

theorem ea_of {w w1 : World} {lo b1 : Nat} {vd va : Value} {D : List Int} {A : List Adm} {da aa : Option Addr} {cd ca : Nat} (hd : OwnI w lo (.slice da D.length cd) D) (ha : OwnD w b1 (.slice aa A.length ca) A) (hlo : lo ≤ b1) (hb : ∀ g, (Value.slice da D.length cd).ownBlock = some g → g < b1) : EA w lo w.heap.size da D.length (fi D) aa A.length (dL A) := by
  refine ⟨Nat.le_refl _, hd.bd.fi, ?_, ?_, fun h1 h2 e => ?_⟩
  · by_cases h0 : D.length = 0
    · exact .inl h0
    · obtain ⟨g, cap, e, h1, _, h2⟩ := hd.own' (by omega)
      injection e with e1 e2 e3
      exact .inr ⟨g, e1, h1, h2.lt, h2⟩
  · by_cases h0 : A.length = 0
    · exact .inl h0
    · obtain ⟨g, cap, e, h1, _, h2⟩ := ha.at (by omega)
      injection e with e1 e2 e3
      exact .inr ⟨g, e1, by omega, h2.lt, h2⟩
  · obtain ⟨g, cap, e1, _, _, _⟩ := hd.own' h1
    obtain ⟨g2, cap2, e2, h3, _, _⟩ := ha.at h2
    injection e1 with e1 _ _
    injection e2 with e2 _ _
    rw [e1, e2] at e
    injection e with e
    injection e with e _ _
    have := hb g (by rw [e1]; rfl)
    omega

set_option maxRecDepth 10000 in
set_option maxHeartbeats 6400000 in
theorem readEdit_impl (f : Nat → Int) (bb bo n cap : Nat) (w : World) (hr : Row w (some ⟨bb, bo, none⟩) n f) (hbb : bb < w.heap.size) (hn : n ≤ 1048576) (hcap : n ≤ cap) :
    Calls Try.prog 10 #[.slice (some ⟨bb, bo, none⟩) n cap] w fun e w' => RdO f n w e w' := by
  have bn0 := below_new w (.cells #[.int .i64 0, .int .i64 0, .int .i64 0, .slice none 0 0, .slice none 0 0] 29)
  have X0 := EX.new w 0 0 0 (.slice none 0 0) (.slice none 0 0) 29
  have F0 : ∀ j, (w.alloc (.cells #[.int .i64 0, .int .i64 0, .int .i64 0, .slice none 0 0, .slice none 0 0] 29)).frozen? ⟨w.heap.size, j, none⟩ = false := fun j => by simp [go_sem]
  have hs0 : (w.alloc (.cells #[.int .i64 0, .int .i64 0, .int .i64 0, .slice none 0 0, .slice none 0 0] 29)).heap.size = w.heap.size + 1 := by simp
  go_enter Try.func10, Try.ntmps10
  go_wp2_with fail
  generalize w.alloc (.cells #[.int .i64 0, .int .i64 0, .int .i64 0, .slice none 0 0, .slice none 0 0] 29) = wa at *
  have bna := below_new wa (.cells #[.slice (some ⟨bb, bo, none⟩) n cap, .int .i64 0, .bool false] 65)
  have hB0 : BR (wa.alloc (.cells #[.slice (some ⟨bb, bo, none⟩) n cap, .int .i64 0, .bool false] 65)) (w.heap.size + 1) (some ⟨bb, bo, none⟩) n cap 0 false := by
    rw [← hs0]
    refine ⟨by simp, ?_, ?_, ?_, fun j => ?_⟩ <;> simp [go_sem]
  have hs1 : w.heap.size + 1 < (wa.alloc (.cells #[.slice (some ⟨bb, bo, none⟩) n cap, .int .i64 0, .bool false] 65)).heap.size := by simp; omega
  have X1 := X0.keep bna
  have F1 : ∀ j, (wa.alloc (.cells #[.slice (some ⟨bb, bo, none⟩) n cap, .int .i64 0, .bool false] 65)).frozen? ⟨w.heap.size, j, none⟩ = false := fun j => (bna.frozen (p := ⟨w.heap.size, j, none⟩) X0.lt).trans (F0 j)
  have bw0 := bn0.trans (bna.mono bn0.size)
  clear X0 F0 bna bn0 hs0
  generalize wa.alloc (.cells #[.slice (some ⟨bb, bo, none⟩) n cap, .int .i64 0, .bool false] 65) = w0 at *
  have K0 : KC (w.heap.size + 1) (w.heap.size + 1) w0 w0 := KC.refl _ _ _
  have hbn : ∀ b off, some (⟨bb, bo, none⟩ : Addr) = some ⟨b, off, none⟩ → b < w.heap.size + 1 ∧ b ≠ w.heap.size + 1 := fun b off e => by injection e with e; injection e with e1 _ _; omega
  have r0 := hr.keep bw0
  have hrw : ∀ W, KC (w.heap.size + 1) (w.heap.size + 1) w0 W → Row W (some ⟨bb, bo, none⟩) n f := fun W h => h.row r0 hbn
  have HRW : Hid (∀ W, KC (w.heap.size + 1) (w.heap.size + 1) w0 W → Row W (some ⟨bb, bo, none⟩) n f) := hrw
  clear hrw hbn
  refine (number_u f (w.heap.size + 1) bb bo n cap 0 false w0 hB0 r0 hn hcap (by omega)).mono ?_
  rintro e w1 ⟨u1, q1, t1, rfl, hu1, hq1, B1, M1, D1⟩
  have K1 := K0.trans (KC.of_mid M1 (by omega))
  have s1 := M1.size
  clear M1 K0 hB0
  go_wp2_with fail
  refine (number_u f (w.heap.size + 1) bb bo n cap q1 t1 w1 B1 (HRW.out w1 K1) hn hcap hq1).mono ?_
  rintro e w2 ⟨u2, q2, t2, rfl, hu2, hq2, B2, M2, D2⟩
  have K2 := K1.trans (KC.of_mid M2 (by omega))
  have s2 := M2.size
  clear M2 K1 B1
  go_wp2_with fail
  refine (number_u f (w.heap.size + 1) bb bo n cap q2 t2 w2 B2 (HRW.out w2 K2) hn hcap hq2).mono ?_
  rintro e w3 ⟨u3, q3, t3, rfl, hu3, hq3, B3, M3, D3⟩
  have K3 := K2.trans (KC.of_mid M3 (by omega))
  have s3 := M3.size
  clear M3 K2 B2
  go_wp2_with fail
  refine (drops_u f (w.heap.size + 1) bb bo n cap q3 t3 w3 B3 (HRW.out w3 K3) (by omega) (by omega) hn hcap hq3).mono ?_
  rintro e w4 ⟨vd, D, q4, t4, rfl, OD, hlD, hq4, B4, k4, D4⟩
  have K4 : KC (w.heap.size + 1) (w.heap.size + 1) w0 w4 := K3.trans ⟨k4.os, k4.tape, k4.output, k4.size, fun c hc hne => k4.block c (by omega) hne⟩
  have s4 := k4.size
  clear k4 K3 B3
  go_wp2_with fail
  refine (adds_u f (w.heap.size + 1) bb bo n cap q4 t4 w4 B4 (HRW.out w4 K4) (by omega) (by omega) hn hcap hq4).mono ?_
  rintro e w5 ⟨va, A, q5, t5, rfl, OA, hlA, hq5, B5, k5, D5⟩
  have K5 : KC (w.heap.size + 1) (w.heap.size + 1) w0 w5 := K4.trans ⟨k5.os, k5.tape, k5.output, k5.size, fun c hc hne => k5.block c (by omega) hne⟩
  have OD5 : OwnI w5 w3.heap.size vd D := by
    refine ⟨OD.bd, OD.own.1, ?_⟩
    rcases OD.own.2 with h0 | ⟨g, cp, cur, e, h1, h2, h3⟩
    · exact .inl h0
    · have hg := (Array.getElem?_eq_some_iff.1 h2).1
      exact .inr ⟨g, cp, cur, e, h1, (k5.block g hg (by omega)).trans h2, h3⟩
  have hdb : ∀ g, vd.ownBlock = some g → g < w4.heap.size := fun g hg => (OD.own.lt g hg).2
  have s5 := k5.size
  obtain ⟨da, cd, rfl, hcd, _⟩ := OD.form
  obtain ⟨aa, ca, rfl, hca⟩ := OA.form
  have X5 : EX w5 w.heap.size 0 0 0 (.slice none 0 0) (.slice none 0 0) := X1.same K5.size (K5.block _ (by omega) (by omega))
  have F5 : ∀ j, w5.frozen? ⟨w.heap.size, j, none⟩ = false := fun j => (World.frozen?_of_block (w := w0) (w' := w5) (a := ⟨w.heap.size, j, none⟩) (K5.block w.heap.size (by omega) (by omega))).trans (F1 j)
  have bw5 : Below w.heap.size w w5 := bw0.trans ⟨K5.os, K5.tape, K5.output, K5.size, fun c hc => K5.block c (by omega) (by omega)⟩
  have H : Hid ((t5 = false ∧ pEd f n = some (⟨(u1 : Int), (u2 : Int), (u3 : Int), D, A⟩, q5)) ∨ (t5 = true ∧ pEd f n = none)) := by
    rcases D5 with ⟨a1, a2, a3⟩ | ⟨a1, a2⟩
    · rcases D4 with ⟨b1, b2, b3⟩ | ⟨b1, _⟩
      · rcases D3 with ⟨c1, c2, c3⟩ | ⟨c1, _⟩
        · rcases D2 with ⟨d1, d2, d3⟩ | ⟨d1, _⟩
          · rcases D1 with ⟨e1, e2, e3⟩ | ⟨e1, _⟩
            · left; refine ⟨a1, ?_⟩; unfold pEd; rw [e3]; simp only; rw [d3]; simp only; rw [c3]; simp only; rw [b3]; simp only; rw [a3]
            · rw [e1] at d2; cases d2
          · rw [d1] at c2; cases c2
        · rw [c1] at b2; cases b2
      · rw [b1] at a2; cases a2
    · refine .inr ⟨a1, ?_⟩
      rcases D1 with ⟨e1, e2, e3⟩ | ⟨e1, e2 | e2⟩
      · rcases D2 with ⟨d1, d2, d3⟩ | ⟨d1, d2 | d2⟩
        · rcases D3 with ⟨c1, c2, c3⟩ | ⟨c1, c2 | c2⟩
          · rcases D4 with ⟨b1, b2, b3⟩ | ⟨b1, b2 | b2⟩
            · rcases a2 with a2 | a2
              · rw [b1] at a2; cases a2
              · unfold pEd; rw [e3]; simp only; rw [d3]; simp only; rw [c3]; simp only; rw [b3]; simp only; rw [a2]
            · rw [c1] at b2; cases b2
            · unfold pEd; rw [e3]; simp only; rw [d3]; simp only; rw [c3]; simp only; rw [b2]
          · rw [d1] at c2; cases c2
          · unfold pEd; rw [e3]; simp only; rw [d3]; simp only; rw [c2]
        · rw [e1] at d2; cases d2
        · unfold pEd; rw [e3]; simp only; rw [d2]
      · cases e2
      · unfold pEd; rw [e2]
  clear D1 D2 D3 D4 D5 OD k5 K4 B4
  have bne := below_new w5 (.cells #[.int .i64 (u1 : Int), .int .i64 (u2 : Int), .int .i64 (u3 : Int), .slice da D.length cd, .slice aa A.length ca] 29)
  have E6 := EX.new w5 (u1 : Int) (u2 : Int) (u3 : Int) (.slice da D.length cd) (.slice aa A.length ca) 29
  have X6 := X5.keep bne
  have F6 : ∀ j, (w5.alloc (.cells #[.int .i64 (u1 : Int), .int .i64 (u2 : Int), .int .i64 (u3 : Int), .slice da D.length cd, .slice aa A.length ca] 29)).frozen? ⟨w.heap.size, j, none⟩ = false := fun j => (bne.frozen (p := ⟨w.heap.size, j, none⟩) X5.lt).trans (F5 j)
  have B6 := B5.keep bne
  have OD6 := OD5.keep bne
  have OA6 := OA.keep bne
  have bw6 := bw5.trans (bne.mono bw5.size)
  clear X5 F5 B5 OD5 OA bne
  have irow6 : IRow (w5.alloc (.cells #[.int .i64 (u1 : Int), .int .i64 (u2 : Int), .int .i64 (u3 : Int), .slice da D.length cd, .slice aa A.length ca] 29)) da D.length (fi D) := by
    obtain ⟨da', cd', e, _, h⟩ := OD6.form
    injection e with e1 _ _
    have hh : da' = da := e1.symm
    subst hh
    exact h
  have drow6 := OA6.row
  have hea := fun (W : World) (h1 : OwnI W w3.heap.size (.slice da D.length cd) D) (h2 : OwnD W w4.heap.size (.slice aa A.length ca) A) => ea_of (w1 := w) (vd := .bool true) (va := .bool true) h1 h2 s4 hdb
  have hAb : Hid (∀ i, i < A.length → DB (dL A i)) := fun i hi => OA6.bd _ (dL_mem hi)
  obtain ⟨lb, b0, b1, b2, fz⟩ := id B6
  obtain ⟨lx, x0, x1, x2, x3, x4⟩ := id X6
  have f0 := F6 0
  have f1 := F6 1
  have f2 := F6 2
  have f3 := F6 3
  have f4 := F6 4
  cases t5
  rotate_left
  · have HN : Hid (∀ r, ¬ Rok f n r) := fun r h => by
      rcases H.out with ⟨h1, _⟩ | ⟨_, h1⟩
      · cases h1
      · rw [h.1] at h1; cases h1
    clear H hea drow6 irow6 OD6 OA6 hAb
    go_wp2
    refine bodyPost_ret (v := .tuple #[.agg #[.int .i64 0, .int .i64 0, .int .i64 0, .slice none 0 0, .slice none 0 0], .bool false]) (by simp [results, Try.results10, go_sem, x0, x1, x2, x3, x4]) rfl (.inr ⟨HN.out, rfl, ?_⟩)
    repeat' refine Below.setCell ?_ (by first | (simp; done) | (simp; omega)) _
    exact bw6
  have HP : Hid (pEd f n = some (⟨(u1 : Int), (u2 : Int), (u3 : Int), D, A⟩, q5)) := by
    rcases H.out with ⟨_, h1⟩ | ⟨h1, _⟩
    · exact h1
    · cases h1
  clear H
  by_cases hqn : q5 = n
  rotate_left
  · have HN : Hid (∀ r, ¬ Rok f n r) := fun r h => by
      have := HP.out
      rw [h.1] at this
      injection this with this
      injection this with _ e2
      exact hqn e2.symm
    have hqb : ((q5 : Int) == (n : Int)) = false := beq_eq_false_iff_ne.2 (by omega)
    have hqc : ((q5 : Int) != (n : Int)) = true := by rw [bne, hqb]; rfl
    clear HP hea drow6 irow6 OD6 OA6 hAb hqn
    go_wp2
    refine bodyPost_ret (v := .tuple #[.agg #[.int .i64 0, .int .i64 0, .int .i64 0, .slice none 0 0, .slice none 0 0], .bool false]) (by simp [results, Try.results10, go_sem, x0, x1, x2, x3, x4]) rfl (.inr ⟨HN.out, rfl, ?_⟩)
    repeat' refine Below.setCell ?_ (by first | (simp; done) | (simp; omega)) _
    exact bw6
  have hqb : ((q5 : Int) == (n : Int)) = true := beq_iff_eq.2 (by omega)
  have hqc : ((q5 : Int) != (n : Int)) = false := by rw [bne, hqb]; rfl
  have HP2 : Hid (pEd f n = some (⟨(u1 : Int), (u2 : Int), (u3 : Int), D, A⟩, n)) := by unfold Hid; rw [HP.out, hqn]
  clear HP hqn
  have hgood := goodEdit_any (u1 : Int) (u2 : Int) (u3 : Int) da D.length cd (fi D) aa A.length ca (dL A) _ irow6 drow6 (by omega) (by omega)
  obtain ⟨le, y0, y1, y2, y3, y4⟩ := id E6
  go_wp2_with fail
  generalize w5.alloc (.cells #[.int .i64 (u1 : Int), .int .i64 (u2 : Int), .int .i64 (u3 : Int), .slice da D.length cd, .slice aa A.length ca] 29) = w6 at *
  refine hgood.mono ?_
  rintro e w7 ⟨b7, rfl, g7, hb7⟩
  have X7 := X6.keep hb7
  have F7 : ∀ j, w7.frozen? ⟨w.heap.size, j, none⟩ = false := fun j => (hb7.frozen (p := ⟨w.heap.size, j, none⟩) X6.lt).trans (F6 j)
  have E7 := E6.keep hb7
  have bw7 := bw6.trans (hb7.mono bw6.size)
  have OD7 := OD6.keep hb7
  have OA7 := OA6.keep hb7
  clear hgood irow6 drow6 OD6 OA6 x0 x1 x2 x3 x4 y0 y1 y2 y3 y4 b0 b1 b2 fz f0 f1 f2 f3 f4 F6 B6 X6 E6 hb7
  obtain ⟨lx, x0, x1, x2, x3, x4⟩ := id X7
  obtain ⟨le, y0, y1, y2, y3, y4⟩ := id E7
  have f0 := F7 0
  have f1 := F7 1
  have f2 := F7 2
  have f3 := F7 3
  have f4 := F7 4
  cases b7
  · have HN : Hid (∀ r, ¬ Rok f n r) := fun r h => by
      have := HP2.out
      rw [h.1] at this
      injection this with this
      injection this with e1 _
      have h2 := h.2
      rw [e1] at h2
      have := g7.2 h2
      cases this
    clear HP2 hea g7 hAb OD7 OA7
    go_wp2
    refine bodyPost_ret (v := .tuple #[.agg #[.int .i64 0, .int .i64 0, .int .i64 0, .slice none 0 0, .slice none 0 0], .bool false]) (by simp [results, Try.results10, go_sem, x0, x1, x2, x3, x4]) rfl (.inr ⟨HN.out, rfl, ?_⟩)
    repeat' refine Below.setCell ?_ (by first | (simp; done) | (simp; omega)) _
    exact bw7
  · have HR : Hid (Rok f n ⟨(u1 : Int), (u2 : Int), (u3 : Int), D, A⟩) := ⟨HP2.out, g7.1 rfl⟩
    clear HP2 g7
    go_wp2
    refine bodyPost_ret (v := .tuple #[.agg #[.int .i64 (u1 : Int), .int .i64 (u2 : Int), .int .i64 (u3 : Int), .slice da D.length cd, .slice aa A.length ca], .bool true]) (by simp [results, Try.results10, go_sem, x0, x1, x2, x3, x4]) rfl (.inl ⟨⟨(u1 : Int), (u2 : Int), (u3 : Int), D, A⟩, HR.out, da, cd, aa, ca, rfl, ?_, hAb.out, ?_⟩)
    · have hV2 : ∀ W, w7.heap.size = W.heap.size → (∀ c, w.heap.size + 1 ≤ c → W.heap[c]? = w7.heap[c]?) → EA W w.heap.size W.heap.size da D.length (fi D) aa A.length (dL A) := fun W hs hc => by
        have e1 := hea w7 OD7 OA7
        have e2 := e1.same (w' := W) (by omega) (fun c h1 _ => hc c (by omega))
        exact e2.mono (by omega) (by omega) (Nat.le_refl _)
      refine hV2 _ (by simp) fun c hc => ?_
      repeat' refine (Below.heap_setCell _ _ _ _ (by first | omega | (dsimp only; omega))).trans ?_
      rfl
    · repeat' refine Below.setCell ?_ (by first | (simp; done) | (simp; omega)) _
      exact bw7
end Go.Proofs.Ytagkhohglpjjlaa
namespace Go.Proofs.Ytagkhohglpjjlaa
open Go.RowKit
set_option linter.unusedSimpArgs false
set_option linter.unusedVariables false

theorem nsL_one (x : Int) : nsL [x] = pvL x := by simp [nsL]
theorem nsL_cons (x : Int) (L : List Int) : nsL (x :: L) = pvL x ++ nsL L := rfl
theorem str_back (s : ByteArray) : strOfNums (bytesOf s) = s := by
  unfold strOfNums bytesOf
  rw [List.map_map]
  have e : (fun n : Int => UInt8.ofNat n.toNat) ∘ (fun b : UInt8 => (b.toNat : Int)) = id := by
    funext b
    simp
  rw [e]
  simp
theorem seg_list {f : Nat → Int} {q : Nat} {L : List Int} (h : Seg f q L) : segL f q L.length = L := by
  unfold segL
  apply List.ext_getElem
  · simp
  · intro i h1 h2
    have := h i h2
    simp [fl, h2] at this ⊢
    exact this
theorem ga_bd {y : Adm} (h : ga y = true) : (0 ≤ y.lv ∧ y.lv ≤ 9223372036854775807) ∧ (0 ≤ y.m.file ∧ y.m.file ≤ 9223372036854775807) ∧ (0 ≤ y.m.many ∧ y.m.many ≤ 9223372036854775807) ∧ y.m.least.size ≤ 1048576 ∧ y.m.most.size ≤ 1048576 := by
  simp only [ga, gm, Bool.and_eq_true, kT, fN, btw, decide_eq_true_eq] at h
  omega
section
variable {f : Nat → Int} {n q : Nat}
theorem num_back {x : Int} (hx : 0 ≤ x ∧ x ≤ 9223372036854775807) {M : List Int} (hs : Seg f q (pvL x ++ M)) (hq : q + (pvL x ++ M).length ≤ n) : rdNum f n q = some (x, q + (pvL x).length) ∧ Seg f (q + (pvL x).length) M ∧ q + (pvL x).length + M.length ≤ n := by
  rw [List.length_append] at hq
  exact ⟨rdNum_pvL hx hs.left (by omega), hs.right, by omega⟩
theorem tx_back {s : ByteArray} (h1 : s.size ≤ 1048576) {M : List Int} (hs : Seg f q (txL s ++ M)) (hq : q + (txL s ++ M).length ≤ n) : pTx f n q = some (s, q + (txL s).length) ∧ Seg f (q + (txL s).length) M ∧ q + (txL s).length + M.length ≤ n := by
  have hq0 := hq
  rw [List.length_append] at hq
  have e : txL s = pvL (s.size : Int) ++ bytesOf s := by unfold txL; rw [nsL_one]
  have hs2 := hs.left
  rw [e] at hs2
  have hl : (txL s).length = (pvL (s.size : Int)).length + s.size := by rw [e, List.length_append, bytesOf_len]
  have hb := num_back (n := n) ⟨by omega, by omega⟩ hs2 (by rw [List.length_append, bytesOf_len]; omega)
  refine ⟨?_, hs.right, by omega⟩
  unfold pTx
  rw [hb.1]
  simp only [Int.toNat_natCast]
  rw [if_pos (by omega)]
  have h3 := seg_list hb.2.1
  rw [bytesOf_len] at h3
  rw [h3, str_back, hl]
  congr 2
  omega
theorem me_back {m : Met} (hf : 0 ≤ m.file ∧ m.file ≤ 9223372036854775807) (hm : 0 ≤ m.many ∧ m.many ≤ 9223372036854775807) (h1 : m.least.size ≤ 1048576) (h2 : m.most.size ≤ 1048576) {M : List Int} (hs : Seg f q (pvL m.file ++ (pvL m.many ++ (txL m.least ++ (txL m.most ++ M))))) (hq : q + (pvL m.file ++ (pvL m.many ++ (txL m.least ++ (txL m.most ++ M)))).length ≤ n) :
    ∃ q', pMe f n q = some (m, q') ∧ Seg f q' M ∧ q' + M.length ≤ n ∧ q' = q + (pvL m.file).length + (pvL m.many).length + (txL m.least).length + (txL m.most).length := by
  obtain ⟨a1, a2, a3⟩ := num_back (n := n) hf hs hq
  obtain ⟨b1, b2, b3⟩ := num_back (n := n) hm a2 a3
  obtain ⟨c1, c2, c3⟩ := tx_back (n := n) h1 b2 b3
  obtain ⟨d1, d2, d3⟩ := tx_back (n := n) h2 c2 c3
  refine ⟨_, ?_, d2, d3, rfl⟩
  unfold pMe
  rw [a1]
  simp only [b1, c1, d1]
theorem ns_back {D : List Int} (hD : ∀ x ∈ D, 0 ≤ x ∧ x ≤ 9223372036854775807) : ∀ {k : Nat}, k ≤ D.length → ∀ {M : List Int}, Seg f q (nsL (D.take k) ++ M) → q + (nsL (D.take k) ++ M).length ≤ n → pNs f n k q = some (D.take k, q + (nsL (D.take k)).length) ∧ Seg f (q + (nsL (D.take k)).length) M ∧ q + (nsL (D.take k)).length + M.length ≤ n
  | 0, _, M, hs, hq => by
    simp only [List.take_zero] at *
    simp only [nsL, List.flatMap_nil, List.nil_append, List.length_nil, Nat.add_zero] at *
    exact ⟨rfl, hs, hq⟩
  | k + 1, hk, M, hs, hq => by
    have e : D.take (k + 1) = D.take k ++ [D[k]] := by rw [List.take_add_one]; simp [List.getElem?_eq_getElem (show k < D.length by omega)]
    have en : nsL (D.take (k + 1)) = nsL (D.take k) ++ pvL D[k] := by
      rw [e]
      unfold nsL
      rw [List.flatMap_append]
      simp only [List.flatMap_cons, List.flatMap_nil, List.append_nil]
    rw [en, List.append_assoc] at hs hq
    obtain ⟨h1, h2, h3⟩ := ns_back hD (k := k) (by omega) hs hq
    obtain ⟨g1, g2, g3⟩ := num_back (n := n) (hD D[k] (List.getElem_mem _)) h2 h3
    rw [en, List.length_append]
    refine ⟨?_, by rw [← Nat.add_assoc]; exact g2, by omega⟩
    unfold pNs
    rw [h1]
    simp only [g1]
    rw [e]
    congr 2
    omega
theorem as_back {A : List Adm} (hA : ∀ i, i < A.length → ga (dL A i) = true) : ∀ {k : Nat}, k ≤ A.length → ∀ {M : List Int}, Seg f q (adsB (dL A) k ++ M) → q + (adsB (dL A) k ++ M).length ≤ n → pAs f n k q = some (A.take k, q + (adsB (dL A) k).length) ∧ Seg f (q + (adsB (dL A) k).length) M ∧ q + (adsB (dL A) k).length + M.length ≤ n
  | 0, _, M, hs, hq => by
    simp only [adsB, List.nil_append, List.length_nil, Nat.add_zero] at *
    exact ⟨rfl, hs, hq⟩
  | k + 1, hk, M, hs, hq => by
    have hkl : k < A.length := by omega
    have e : A.take (k + 1) = A.take k ++ [A[k]] := by rw [List.take_add_one]; simp [List.getElem?_eq_getElem hkl]
    have ed : dL A k = A[k] := by simp [dL, hkl]
    have hg := hA k hkl
    rw [ed] at hg
    have eb : adB A[k] = pvL A[k].lv ++ (pvL A[k].m.file ++ (pvL A[k].m.many ++ (txL A[k].m.least ++ txL A[k].m.most))) := by
      unfold adB
      simp [nsL]
    have ea : adsB (dL A) (k + 1) = adsB (dL A) k ++ (pvL A[k].lv ++ (pvL A[k].m.file ++ (pvL A[k].m.many ++ (txL A[k].m.least ++ txL A[k].m.most)))) := by
      show adsB (dL A) k ++ adB (dL A k) = _
      rw [ed, eb]
    rw [ea] at hs hq ⊢
    simp only [List.append_assoc] at hs hq
    obtain ⟨h1, h2, h3⟩ := as_back hA (k := k) (by omega) hs hq
    obtain ⟨b1, b2, b3, b4, b5⟩ := ga_bd hg
    obtain ⟨g1, g2, g3⟩ := num_back (n := n) b1 h2 h3
    obtain ⟨q', m1, m2, m3, m4⟩ := me_back (n := n) b2 b3 b4 b5 g2 g3
    have eq' : q' = q + (adsB (dL A) k ++ (pvL A[k].lv ++ (pvL A[k].m.file ++ (pvL A[k].m.many ++ (txL A[k].m.least ++ txL A[k].m.most))))).length := by
      rw [m4]; simp only [List.length_append]; omega
    rw [← eq']
    refine ⟨?_, m2, m3⟩
    unfold pAs
    rw [h1]
    simp only [g1, m1]
    rw [e]
theorem mn_back {k : Nat} (hk : k ≤ 24) {M : List Int} (hs : Seg f q (pvL (k : Int) ++ M)) (hq : q + (pvL (k : Int) ++ M).length ≤ n) : pMn f n q = some (k, q + (pvL (k : Int)).length) ∧ Seg f (q + (pvL (k : Int)).length) M ∧ q + (pvL (k : Int)).length + M.length ≤ n := by
  obtain ⟨a1, a2, a3⟩ := num_back (n := n) (x := (k : Int)) ⟨by omega, by omega⟩ hs hq
  refine ⟨?_, a2, a3⟩
  unfold pMn
  rw [a1]
  simp only [Int.toNat_natCast]
  rw [if_pos (by omega)]
end
/-- An edit's bytes are read as that edit. -/
theorem rok_edB {nx lg sq : Int} {D : List Int} {A : List Adm} (hG : GoodEd nx lg sq D.length (fi D) A.length (dL A)) {f : Nat → Int} {n : Nat} (hs : Seg f 0 (edB nx lg sq D.length (fi D) A.length (dL A))) (hn : (edB nx lg sq D.length (fi D) A.length (dL A)).length = n) : Rok f n ⟨nx, lg, sq, D, A⟩ := by
  refine ⟨?_, hG⟩
  obtain ⟨g1, g2, g3, ⟨g4, g5⟩, g6, g7⟩ := hG
  have h1 : 1 ≤ nx ∧ nx ≤ 100000 := by simpa [fN, btw] using g1
  have h2 : 1 ≤ lg ∧ lg ≤ 100000 := by simpa [fN, btw] using g2
  have h3 : 0 ≤ sq ∧ sq ≤ 1000000000 := by simpa [isC, btw] using g3
  have hD : ∀ x ∈ D, 0 ≤ x ∧ x ≤ 9223372036854775807 := fun x hx => by
    obtain ⟨i, hi, e⟩ := List.getElem_of_mem hx
    have := g5 i hi
    have e2 : fi D i = x := by simp [fi, hi, e]
    rw [e2] at this
    have : 1 ≤ x ∧ x ≤ 100000 := by simpa [fN, btw] using this
    omega
  have eE : edB nx lg sq D.length (fi D) A.length (dL A) = pvL nx ++ (pvL lg ++ (pvL sq ++ (pvL (D.length : Int) ++ (nsL (D.take D.length) ++ (pvL (A.length : Int) ++ (adsB (dL A) A.length ++ [])))))) := by
    unfold edB
    rw [iL_fi, List.take_length]
    simp [nsL]
  rw [eE] at hs hn
  have hq : 0 + (pvL nx ++ (pvL lg ++ (pvL sq ++ (pvL (D.length : Int) ++ (nsL (D.take D.length) ++ (pvL (A.length : Int) ++ (adsB (dL A) A.length ++ []))))))).length ≤ n := by omega
  obtain ⟨a1, a2, a3⟩ := num_back (n := n) ⟨by omega, by omega⟩ hs hq
  obtain ⟨b1, b2, b3⟩ := num_back (n := n) ⟨by omega, by omega⟩ a2 a3
  obtain ⟨c1, c2, c3⟩ := num_back (n := n) ⟨by omega, by omega⟩ b2 b3
  obtain ⟨d1, d2, d3⟩ := mn_back (n := n) g4 c2 c3
  obtain ⟨e1, e2, e3⟩ := ns_back (n := n) hD (Nat.le_refl _) d2 d3
  obtain ⟨i1, i2, i3⟩ := mn_back (n := n) g6 e2 e3
  obtain ⟨j1, j2, j3⟩ := as_back (n := n) g7 (Nat.le_refl _) i2 i3
  unfold pEd
  rw [a1]
  simp only [b1, c1]
  have p1 : pDr f n (0 + (pvL nx).length + (pvL lg).length + (pvL sq).length) = some (D, 0 + (pvL nx).length + (pvL lg).length + (pvL sq).length + (pvL (D.length : Int)).length + (nsL (D.take D.length)).length) := by
    unfold pDr
    rw [d1]
    show pNs f n D.length _ = _
    rw [e1]
    simp only [List.take_length]
  simp only [p1]
  have p2 : pAd f n (0 + (pvL nx).length + (pvL lg).length + (pvL sq).length + (pvL (D.length : Int)).length + (nsL (D.take D.length)).length) = some (A, n) := by
    unfold pAd
    rw [i1]
    show pAs f n A.length _ = _
    rw [j1, List.take_length]
    simp only [List.length_append, List.length_nil, Nat.add_zero] at hn
    congr 2
    omega
  simp only [p2]
end Go.Proofs.Ytagkhohglpjjlaa
