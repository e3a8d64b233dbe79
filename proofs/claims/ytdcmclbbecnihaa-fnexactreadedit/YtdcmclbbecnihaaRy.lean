/- ReadEdit in the program. -/
import Derived.Test.YtdcmclbbecnihaaRx
namespace Go.Proofs.Ytdcmclbbecnihaa
open Go.RowKit
set_option linter.unusedSimpArgs false
set_option linter.unusedVariables false

/-- An edit that was read. -/
structure RE where
  nx : Int
  lg : Int
  sq : Int
  D : List Int
  A : List Adm
/-- The edit that these bytes begin with, and the place behind it. -/
def pEd (f : Nat → Int) (n : Nat) : Option (RE × Nat) :=
  match rdNum f n 0 with
  | none => none
  | some (a, q1) => match rdNum f n q1 with
    | none => none
    | some (b, q2) => match rdNum f n q2 with
      | none => none
      | some (c, q3) => match pDr f n q3 with
        | none => none
        | some (D, q4) => match pAd f n q4 with
          | none => none
          | some (A, q5) => some (⟨a, b, c, D, A⟩, q5)
/-- A good edit. -/
def GoodRE (r : RE) : Prop := GoodEd r.nx r.lg r.sq r.D.length (fi r.D) r.A.length (dL r.A)
/-- These bytes are the bytes of r. -/
def Rok (f : Nat → Int) (n : Nat) (r : RE) : Prop := pEd f n = some (r, n) ∧ GoodRE r
/-- What ReadEdit leaves. -/
def RdO (f : Nat → Int) (n : Nat) (w : World) (e : Ending) (w' : World) : Prop :=
  (∃ r, Rok f n r ∧ ∃ da cd aa ca, e = .returned (.tuple #[.agg #[.int .i64 r.nx, .int .i64 r.lg, .int .i64 r.sq, .slice da r.D.length cd, .slice aa r.A.length ca], .bool true]) ∧ EA w' w.heap.size w'.heap.size da r.D.length (fi r.D) aa r.A.length (dL r.A) ∧ (∀ i, i < r.A.length → DB (dL r.A i)) ∧ Below w.heap.size w w') ∨
  ((∀ r, ¬ Rok f n r) ∧ e = .returned (.tuple #[.agg #[.int .i64 0, .int .i64 0, .int .i64 0, .slice none 0 0, .slice none 0 0], .bool false]) ∧ Below w.heap.size w w')

theorem ea_of {w w1 : World} {lo b1 : Nat} {vd va : Value} {D : List Int} {A : List Adm} {da aa : Option Addr} {cd ca : Nat} (hd : OwnI w lo (.slice da D.length cd) D) (ha : OwnD w b1 (.slice aa A.length ca) A) (hlo : lo ≤ b1) (hb : ∀ g, (Value.slice da D.length cd).ownBlock = some g → g < b1) : EA w lo w.heap.size da D.length (fi D) aa A.length (dL A) := by
  refine ⟨Nat.le_refl _, hd.bd.fi, ?_, ?_, fun h1 h2 e => ?_⟩
  · by_cases h0 : D.length = 0
    · exact .inl h0
    · obtain ⟨g, cap, e, h1, _, h2⟩ := hd.own' (by omega)
      injection e with e1 e2 e3
      exact .inr ⟨g, e1, h1, h2.lt, h2⟩
  · by_cases h0 : A.length = 0
    · exact .inl h0
    · obtain ⟨g, cap, e, h1, _, h2⟩ := ha.at (by omega)
      injection e with e1 e2 e3
      exact .inr ⟨g, e1, by omega, h2.lt, h2⟩
  · obtain ⟨g, cap, e1, _, _, _⟩ := hd.own' h1
    obtain ⟨g2, cap2, e2, h3, _, _⟩ := ha.at h2
    injection e1 with e1 _ _
    injection e2 with e2 _ _
    rw [e1, e2] at e
    injection e with e
    injection e with e _ _
    have := hb g (by rw [e1]; rfl)
    omega

set_option maxRecDepth 10000 in
set_option maxHeartbeats 6400000 in
theorem readEdit_impl (f : Nat → Int) (bb bo n cap : Nat) (w : World) (hr : Row w (some ⟨bb, bo, none⟩) n f) (hbb : bb < w.heap.size) (hn : n ≤ 1048576) (hcap : n ≤ cap) :
    Calls Try.prog 32 #[.slice (some ⟨bb, bo, none⟩) n cap] w fun e w' => RdO f n w e w' := by
  have bn0 := below_new w (.cells #[.int .i64 0, .int .i64 0, .int .i64 0, .slice none 0 0, .slice none 0 0] 45)
  have X0 := EX.new w 0 0 0 (.slice none 0 0) (.slice none 0 0) 45
  have F0 : ∀ j, (w.alloc (.cells #[.int .i64 0, .int .i64 0, .int .i64 0, .slice none 0 0, .slice none 0 0] 45)).frozen? ⟨w.heap.size, j, none⟩ = false := fun j => by simp [go_sem]
  have hs0 : (w.alloc (.cells #[.int .i64 0, .int .i64 0, .int .i64 0, .slice none 0 0, .slice none 0 0] 45)).heap.size = w.heap.size + 1 := by simp
  go_enter Try.func32, Try.ntmps32
  go_wp2_with fail
  generalize w.alloc (.cells #[.int .i64 0, .int .i64 0, .int .i64 0, .slice none 0 0, .slice none 0 0] 45) = wa at *
  have bna := below_new wa (.cells #[.slice (some ⟨bb, bo, none⟩) n cap, .int .i64 0, .bool false] 108)
  have hB0 : BR (wa.alloc (.cells #[.slice (some ⟨bb, bo, none⟩) n cap, .int .i64 0, .bool false] 108)) (w.heap.size + 1) (some ⟨bb, bo, none⟩) n cap 0 false := by
    rw [← hs0]
    refine ⟨by simp, ?_, ?_, ?_, fun j => ?_⟩ <;> simp [go_sem]
  have hs1 : w.heap.size + 1 < (wa.alloc (.cells #[.slice (some ⟨bb, bo, none⟩) n cap, .int .i64 0, .bool false] 108)).heap.size := by simp; omega
  have X1 := X0.keep bna
  have F1 : ∀ j, (wa.alloc (.cells #[.slice (some ⟨bb, bo, none⟩) n cap, .int .i64 0, .bool false] 108)).frozen? ⟨w.heap.size, j, none⟩ = false := fun j => (bna.frozen (p := ⟨w.heap.size, j, none⟩) X0.lt).trans (F0 j)
  have bw0 := bn0.trans (bna.mono bn0.size)
  clear X0 F0 bna bn0 hs0
  generalize wa.alloc (.cells #[.slice (some ⟨bb, bo, none⟩) n cap, .int .i64 0, .bool false] 108) = w0 at *
  have K0 : KB (w.heap.size + 1) (w.heap.size + 1) w0 w0 := KB.refl _ _ _
  have hbn : ∀ b off, some (⟨bb, bo, none⟩ : Addr) = some ⟨b, off, none⟩ → b < w.heap.size + 1 ∧ b ≠ w.heap.size + 1 := fun b off e => by injection e with e; injection e with e1 _ _; omega
  have r0 := hr.keep bw0
  have hrw : ∀ W, KB (w.heap.size + 1) (w.heap.size + 1) w0 W → Row W (some ⟨bb, bo, none⟩) n f := fun W h => h.row r0 hbn
  have HRW : Hid (∀ W, KB (w.heap.size + 1) (w.heap.size + 1) w0 W → Row W (some ⟨bb, bo, none⟩) n f) := hrw
  clear hrw hbn
  refine (number_u f (w.heap.size + 1) bb bo n cap 0 false w0 hB0 r0 hn hcap (by omega)).mono ?_
  rintro e w1 ⟨u1, q1, t1, rfl, hu1, hq1, B1, M1, D1⟩
  have K1 := K0.trans (KB.of_mid M1 (by omega))
  have s1 := M1.size
  clear M1 K0 hB0
  go_wp2_with fail
  refine (number_u f (w.heap.size + 1) bb bo n cap q1 t1 w1 B1 (HRW.out w1 K1) hn hcap hq1).mono ?_
  rintro e w2 ⟨u2, q2, t2, rfl, hu2, hq2, B2, M2, D2⟩
  have K2 := K1.trans (KB.of_mid M2 (by omega))
  have s2 := M2.size
  clear M2 K1 B1
  go_wp2_with fail
  refine (number_u f (w.heap.size + 1) bb bo n cap q2 t2 w2 B2 (HRW.out w2 K2) hn hcap hq2).mono ?_
  rintro e w3 ⟨u3, q3, t3, rfl, hu3, hq3, B3, M3, D3⟩
  have K3 := K2.trans (KB.of_mid M3 (by omega))
  have s3 := M3.size
  clear M3 K2 B2
  go_wp2_with fail
  refine (drops_u f (w.heap.size + 1) bb bo n cap q3 t3 w3 B3 (HRW.out w3 K3) (by omega) (by omega) hn hcap hq3).mono ?_
  rintro e w4 ⟨vd, D, q4, t4, rfl, OD, hlD, hq4, B4, k4, D4⟩
  have K4 : KB (w.heap.size + 1) (w.heap.size + 1) w0 w4 := K3.trans ⟨k4.os, k4.tape, k4.output, k4.size, fun c hc hne => k4.block c (by omega) hne⟩
  have s4 := k4.size
  clear k4 K3 B3
  go_wp2_with fail
  refine (adds_u f (w.heap.size + 1) bb bo n cap q4 t4 w4 B4 (HRW.out w4 K4) (by omega) (by omega) hn hcap hq4).mono ?_
  rintro e w5 ⟨va, A, q5, t5, rfl, OA, hlA, hq5, B5, k5, D5⟩
  have K5 : KB (w.heap.size + 1) (w.heap.size + 1) w0 w5 := K4.trans ⟨k5.os, k5.tape, k5.output, k5.size, fun c hc hne => k5.block c (by omega) hne⟩
  have OD5 : OwnI w5 w3.heap.size vd D := by
    refine ⟨OD.bd, OD.own.1, ?_⟩
    rcases OD.own.2 with h0 | ⟨g, cp, cur, e, h1, h2, h3⟩
    · exact .inl h0
    · have hg := (Array.getElem?_eq_some_iff.1 h2).1
      exact .inr ⟨g, cp, cur, e, h1, (k5.block g hg (by omega)).trans h2, h3⟩
  have hdb : ∀ g, vd.ownBlock = some g → g < w4.heap.size := fun g hg => (OD.own.lt g hg).2
  have s5 := k5.size
  obtain ⟨da, cd, rfl, hcd, _⟩ := OD.form
  obtain ⟨aa, ca, rfl, hca⟩ := OA.form
  have X5 : EX w5 w.heap.size 0 0 0 (.slice none 0 0) (.slice none 0 0) := X1.same K5.size (K5.block _ (by omega) (by omega))
  have F5 : ∀ j, w5.frozen? ⟨w.heap.size, j, none⟩ = false := fun j => (World.frozen?_of_block (w := w0) (w' := w5) (a := ⟨w.heap.size, j, none⟩) (K5.block w.heap.size (by omega) (by omega))).trans (F1 j)
  have bw5 : Below w.heap.size w w5 := bw0.trans ⟨K5.os, K5.tape, K5.output, K5.size, fun c hc => K5.block c (by omega) (by omega)⟩
  have H : Hid ((t5 = false ∧ pEd f n = some (⟨(u1 : Int), (u2 : Int), (u3 : Int), D, A⟩, q5)) ∨ (t5 = true ∧ pEd f n = none)) := by
    rcases D5 with ⟨a1, a2, a3⟩ | ⟨a1, a2⟩
    · rcases D4 with ⟨b1, b2, b3⟩ | ⟨b1, _⟩
      · rcases D3 with ⟨c1, c2, c3⟩ | ⟨c1, _⟩
        · rcases D2 with ⟨d1, d2, d3⟩ | ⟨d1, _⟩
          · rcases D1 with ⟨e1, e2, e3⟩ | ⟨e1, _⟩
            · left; refine ⟨a1, ?_⟩; unfold pEd; rw [e3]; simp only; rw [d3]; simp only; rw [c3]; simp only; rw [b3]; simp only; rw [a3]
            · rw [e1] at d2; cases d2
          · rw [d1] at c2; cases c2
        · rw [c1] at b2; cases b2
      · rw [b1] at a2; cases a2
    · refine .inr ⟨a1, ?_⟩
      rcases D1 with ⟨e1, e2, e3⟩ | ⟨e1, e2 | e2⟩
      · rcases D2 with ⟨d1, d2, d3⟩ | ⟨d1, d2 | d2⟩
        · rcases D3 with ⟨c1, c2, c3⟩ | ⟨c1, c2 | c2⟩
          · rcases D4 with ⟨b1, b2, b3⟩ | ⟨b1, b2 | b2⟩
            · rcases a2 with a2 | a2
              · rw [b1] at a2; cases a2
              · unfold pEd; rw [e3]; simp only; rw [d3]; simp only; rw [c3]; simp only; rw [b3]; simp only; rw [a2]
            · rw [c1] at b2; cases b2
            · unfold pEd; rw [e3]; simp only; rw [d3]; simp only; rw [c3]; simp only; rw [b2]
          · rw [d1] at c2; cases c2
          · unfold pEd; rw [e3]; simp only; rw [d3]; simp only; rw [c2]
        · rw [e1] at d2; cases d2
        · unfold pEd; rw [e3]; simp only; rw [d2]
      · cases e2
      · unfold pEd; rw [e2]
  clear D1 D2 D3 D4 D5 OD k5 K4 B4
  have bne := below_new w5 (.cells #[.int .i64 (u1 : Int), .int .i64 (u2 : Int), .int .i64 (u3 : Int), .slice da D.length cd, .slice aa A.length ca] 45)
  have E6 := EX.new w5 (u1 : Int) (u2 : Int) (u3 : Int) (.slice da D.length cd) (.slice aa A.length ca) 45
  have X6 := X5.keep bne
  have F6 : ∀ j, (w5.alloc (.cells #[.int .i64 (u1 : Int), .int .i64 (u2 : Int), .int .i64 (u3 : Int), .slice da D.length cd, .slice aa A.length ca] 45)).frozen? ⟨w.heap.size, j, none⟩ = false := fun j => (bne.frozen (p := ⟨w.heap.size, j, none⟩) X5.lt).trans (F5 j)
  have B6 := B5.keep bne
  have OD6 := OD5.keep bne
  have OA6 := OA.keep bne
  have bw6 := bw5.trans (bne.mono bw5.size)
  clear X5 F5 B5 OD5 OA bne
  have irow6 : IRow (w5.alloc (.cells #[.int .i64 (u1 : Int), .int .i64 (u2 : Int), .int .i64 (u3 : Int), .slice da D.length cd, .slice aa A.length ca] 45)) da D.length (fi D) := by
    obtain ⟨da', cd', e, _, h⟩ := OD6.form
    injection e with e1 _ _
    have hh : da' = da := e1.symm
    subst hh
    exact h
  have drow6 := OA6.row
  have hea := fun (W : World) (h1 : OwnI W w3.heap.size (.slice da D.length cd) D) (h2 : OwnD W w4.heap.size (.slice aa A.length ca) A) => ea_of (w1 := w) (vd := .bool true) (va := .bool true) h1 h2 s4 hdb
  have hAb : Hid (∀ i, i < A.length → DB (dL A i)) := fun i hi => OA6.bd _ (dL_mem hi)
  obtain ⟨lb, b0, b1, b2, fz⟩ := id B6
  obtain ⟨lx, x0, x1, x2, x3, x4⟩ := id X6
  have f0 := F6 0
  have f1 := F6 1
  have f2 := F6 2
  have f3 := F6 3
  have f4 := F6 4
  cases t5
  rotate_left
  · have HN : Hid (∀ r, ¬ Rok f n r) := fun r h => by
      rcases H.out with ⟨h1, _⟩ | ⟨_, h1⟩
      · cases h1
      · rw [h.1] at h1; cases h1
    clear H hea drow6 irow6 OD6 OA6 hAb
    go_wp2
    refine bodyPost_ret (v := .tuple #[.agg #[.int .i64 0, .int .i64 0, .int .i64 0, .slice none 0 0, .slice none 0 0], .bool false]) (by simp [results, Try.results32, go_sem, x0, x1, x2, x3, x4]) rfl (.inr ⟨HN.out, rfl, ?_⟩)
    repeat' refine Below.setCell ?_ (by first | (simp; done) | (simp; omega)) _
    exact bw6
  have HP : Hid (pEd f n = some (⟨(u1 : Int), (u2 : Int), (u3 : Int), D, A⟩, q5)) := by
    rcases H.out with ⟨_, h1⟩ | ⟨h1, _⟩
    · exact h1
    · cases h1
  clear H
  by_cases hqn : q5 = n
  rotate_left
  · have HN : Hid (∀ r, ¬ Rok f n r) := fun r h => by
      have := HP.out
      rw [h.1] at this
      injection this with this
      injection this with _ e2
      exact hqn e2.symm
    have hqb : ((q5 : Int) == (n : Int)) = false := beq_eq_false_iff_ne.2 (by omega)
    have hqc : ((q5 : Int) != (n : Int)) = true := by rw [bne, hqb]; rfl
    clear HP hea drow6 irow6 OD6 OA6 hAb hqn
    go_wp2
    refine bodyPost_ret (v := .tuple #[.agg #[.int .i64 0, .int .i64 0, .int .i64 0, .slice none 0 0, .slice none 0 0], .bool false]) (by simp [results, Try.results32, go_sem, x0, x1, x2, x3, x4]) rfl (.inr ⟨HN.out, rfl, ?_⟩)
    repeat' refine Below.setCell ?_ (by first | (simp; done) | (simp; omega)) _
    exact bw6
  have hqb : ((q5 : Int) == (n : Int)) = true := beq_iff_eq.2 (by omega)
  have hqc : ((q5 : Int) != (n : Int)) = false := by rw [bne, hqb]; rfl
  have HP2 : Hid (pEd f n = some (⟨(u1 : Int), (u2 : Int), (u3 : Int), D, A⟩, n)) := by unfold Hid; rw [HP.out, hqn]
  clear HP hqn
  have hgood := goodEdit_any (u1 : Int) (u2 : Int) (u3 : Int) da D.length cd (fi D) aa A.length ca (dL A) _ irow6 drow6 (by omega) (by omega)
  obtain ⟨le, y0, y1, y2, y3, y4⟩ := id E6
  go_wp2_with fail
  generalize w5.alloc (.cells #[.int .i64 (u1 : Int), .int .i64 (u2 : Int), .int .i64 (u3 : Int), .slice da D.length cd, .slice aa A.length ca] 45) = w6 at *
  refine hgood.mono ?_
  rintro e w7 ⟨b7, rfl, g7, hb7⟩
  have X7 := X6.keep hb7
  have F7 : ∀ j, w7.frozen? ⟨w.heap.size, j, none⟩ = false := fun j => (hb7.frozen (p := ⟨w.heap.size, j, none⟩) X6.lt).trans (F6 j)
  have E7 := E6.keep hb7
  have bw7 := bw6.trans (hb7.mono bw6.size)
  have OD7 := OD6.keep hb7
  have OA7 := OA6.keep hb7
  clear hgood irow6 drow6 OD6 OA6 x0 x1 x2 x3 x4 y0 y1 y2 y3 y4 b0 b1 b2 fz f0 f1 f2 f3 f4 F6 B6 X6 E6 hb7
  obtain ⟨lx, x0, x1, x2, x3, x4⟩ := id X7
  obtain ⟨le, y0, y1, y2, y3, y4⟩ := id E7
  have f0 := F7 0
  have f1 := F7 1
  have f2 := F7 2
  have f3 := F7 3
  have f4 := F7 4
  cases b7
  · have HN : Hid (∀ r, ¬ Rok f n r) := fun r h => by
      have := HP2.out
      rw [h.1] at this
      injection this with this
      injection this with e1 _
      have h2 := h.2
      rw [e1] at h2
      have := g7.2 h2
      cases this
    clear HP2 hea g7 hAb OD7 OA7
    go_wp2
    refine bodyPost_ret (v := .tuple #[.agg #[.int .i64 0, .int .i64 0, .int .i64 0, .slice none 0 0, .slice none 0 0], .bool false]) (by simp [results, Try.results32, go_sem, x0, x1, x2, x3, x4]) rfl (.inr ⟨HN.out, rfl, ?_⟩)
    repeat' refine Below.setCell ?_ (by first | (simp; done) | (simp; omega)) _
    exact bw7
  · have HR : Hid (Rok f n ⟨(u1 : Int), (u2 : Int), (u3 : Int), D, A⟩) := ⟨HP2.out, g7.1 rfl⟩
    clear HP2 g7
    go_wp2
    refine bodyPost_ret (v := .tuple #[.agg #[.int .i64 (u1 : Int), .int .i64 (u2 : Int), .int .i64 (u3 : Int), .slice da D.length cd, .slice aa A.length ca], .bool true]) (by simp [results, Try.results32, go_sem, x0, x1, x2, x3, x4]) rfl (.inl ⟨⟨(u1 : Int), (u2 : Int), (u3 : Int), D, A⟩, HR.out, da, cd, aa, ca, rfl, ?_, hAb.out, ?_⟩)
    · have hV2 : ∀ W, w7.heap.size = W.heap.size → (∀ c, w.heap.size + 1 ≤ c → W.heap[c]? = w7.heap[c]?) → EA W w.heap.size W.heap.size da D.length (fi D) aa A.length (dL A) := fun W hs hc => by
        have e1 := hea w7 OD7 OA7
        have e2 := e1.same (w' := W) (by omega) (fun c h1 _ => hc c (by omega))
        exact e2.mono (by omega) (by omega) (Nat.le_refl _)
      refine hV2 _ (by simp) fun c hc => ?_
      repeat' refine (Below.heap_setCell _ _ _ _ (by first | omega | (dsimp only; omega))).trans ?_
      rfl
    · repeat' refine Below.setCell ?_ (by first | (simp; done) | (simp; omega)) _
      exact bw7
end Go.Proofs.Ytdcmclbbecnihaa
