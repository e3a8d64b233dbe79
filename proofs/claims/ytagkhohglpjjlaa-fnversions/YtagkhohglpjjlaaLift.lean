/- The law of FnVersions, walked. / From what a row's form says of a slice of bytes that came in to what the walks are told of it. -/
import Derived.Test.YtagkhohglpjjlaaVe
import Derived.Test.YtagkhohglpjjlaaRvD
import Derived.Test.YtagkhohglpjjlaaVh
import Derived.Test.YtagkhohglpjjlaaCm
import Derived.Laws.BytesArg
import Derived.Test.YtagkhohglpjjlaaBase
import Derived.OpenShut
namespace Go.Proofs.Ytagkhohglpjjlaa
open Go.RowKit
set_option linter.unusedSimpArgs false
set_option linter.unusedVariables false

theorem conv_bv {w : World} {lo hi : Nat} {ao : Option Addr} {L : List Int} (h : BV w lo hi ao L) (c : Nat) : (convert 22 9 (.slice ao L.length c)).run Try.prog w = .ok (.string (strOfNums L)) w := by
  rcases h.is with ⟨rfl, rfl⟩ | ⟨g, off, rfl, _, _, ho⟩
  · exact run_convert_bytes_nil (P := Try.prog) w 22 5 Try.underlying22 Try.underlying5 0 c 9 Try.underlying9
  · exact run_convert_bytes_arg (P := Try.prog) w 22 5 Try.underlying22 Try.underlying5 g off L.length c L rfl (fun i hi => by rw [ho.cell i hi]; rfl) 9 Try.underlying9
theorem nilOr_own {w : World} {base : Nat} {da : Option Addr} {dc : Nat} {D : List Int} (h : OwnI w base (.slice da D.length dc) D) : ∃ gd, NilOr da D.length gd ∧ (D.length ≠ 0 → da = some ⟨gd, 0, none⟩ → gd < w.heap.size) := by
  rcases h.own.2 with ⟨e, h0⟩ | ⟨g, cap, cur, e, _, hg, _⟩
  · injection e with e1 e2 e3
    exact ⟨0, .inl e2, fun h => absurd e2 h⟩
  · injection e with e1 _ _
    exact ⟨g, .inr e1, fun _ _ => (Array.getElem?_eq_some_iff.1 hg).1⟩
theorem nilOr_ea {w : World} {lo hi : Nat} {da : Option Addr} {nd : Nat} {f : Nat → Int} {aa : Option Addr} {na : Nat} {Y : Nat → Adm} (h : EA w lo hi da nd f aa na Y) : ∃ gd, NilOr da nd gd ∧ (nd ≠ 0 → da = some ⟨gd, 0, none⟩ → gd < w.heap.size) := by
  rcases h.dr with h0 | ⟨g, e, _, hl, ho⟩
  · exact ⟨0, .inl h0, fun h => absurd h0 h⟩
  · exact ⟨g, .inr e, fun _ _ => ho.lt⟩
theorem sum_few {N : Nat} {LL : Nat → List Met} (hN : N ≤ 3) (h : ∀ i, i < N → (LL i).length ≤ 20) : sumM (fun i => (LL i).length) N ≤ 1048576 := by
  have : ∀ k, k ≤ N → sumM (fun i => (LL i).length) k ≤ 20 * k := by
    intro k
    induction k with
    | zero => intro _; simp [sumM]
    | succ k ih =>
      intro hk
      have h1 := ih (by omega)
      have h2 := h k (by omega)
      simp only [sumM]
      omega
  have := this N (Nat.le_refl _)
  omega
theorem sum_ap {vx vl vs : Int} {N : Nat} {LL : Nat → List Met} {nx lg sq : Int} {D : List Int} {A : List Adm} (h : GoodAp vx vl vs N LL nx lg sq D A) : sumM (fun i => (apL LL D A i).length) N ≤ 1048576 := sum3 h.2.2.2.2.2.few.1 (fun i hi => by have := h.2.2.2.2.2.few.2 i hi; show (apL LL D A i).length ≤ 1000; omega)
theorem gm_mbV {x : Met} (h : gm x = true) : MB x := by
  simp only [gm, fN, kT, btw, Bool.and_eq_true, decide_eq_true_eq] at h
  obtain ⟨⟨⟨⟨⟨h1, h2⟩, h3, h4⟩, h5, h6⟩, _⟩, h7, h8⟩ := h
  exact ⟨⟨by omega, by omega⟩, ⟨by omega, by omega⟩, by omega, by omega⟩
theorem ap_row {vx vl vs : Int} {N : Nat} {LL : Nat → List Met} {nx lg sq : Int} {D : List Int} {A : List Adm} (h : GoodAp vx vl vs N LL nx lg sq D A) {w : World} {lo hi : Nat} {ao : Option Addr} (hV : VA w lo hi ao N (fun i => mL (apL LL D A i)) (fun i => (apL LL D A i).length)) : VRow w ao N (fun i => mL (apL LL D A i)) (fun i => (apL LL D A i).length) :=
  hV.row (fun i hi j hj => gm_mbV ((h.2.2.2.2.2.2.2.2.2.1.2 i hi).1.2 j hj)) (fun i hi => by have := h.2.2.2.2.2.few.2 i hi; show (apL LL D A i).length ≤ _; omega)
theorem edB_pos (nx lg sq : Int) (nd : Nat) (f : Nat → Int) (na : Nat) (Y : Nat → Adm) : 0 < (edB nx lg sq nd f na Y).length := by
  have h : 0 < (nsL [nx, lg, sq, (nd : Int)]).length := by rw [nsL_cons, List.length_append, pvL_length]; omega
  unfold edB
  simp only [List.length_append]
  omega
theorem ownL_cap {w : World} {base : Nat} {a : Option Addr} {m c : Nat} {L : List Int} (h : OwnL w base (.slice a m c) L) : m ≤ c := by
  rcases h.own.2 with ⟨e, h0⟩ | ⟨g, cap, cur, e, _, _, hnc, _⟩
  · injection e with _ e2 e3; omega
  · injection e with _ e2 e3; omega

set_option maxRecDepth 100000 in
set_option maxHeartbeats 8000000 in
theorem fnVersions_good (co : Option Addr) (cn cc : Nat) (cf : Nat → Int) (w : World) (hc : Row w co cn cf) (hn : cn ≤ 1048576) :
    Calls Try.prog 3 #[.slice co cn cc] w fun e w' => e = .returned (.bool true) ∧ Below w.heap.size w w' := by
  have hn1 : ¬ (1048576 : Int) < (cn : Int) := by omega
  go_enter Try.func3, Try.ntmps3
  go_wp2_with fail
  refine (drawApplyEdit_any co cn cc cf _ hc hn).mono ?_
  rintro e w1 ⟨vx, vl, vs, lo, N, lc, LL, nx, lg, sq, da, aa, dc, ac, Dl, Al, b7, rfl, hN, hV, hf, hvx, hDl, hAl, hOI, hOD, bw1⟩
  obtain ⟨_, _, eI, hcI, hI⟩ := hOI.form
  injection eI with eI1 _ eI3
  subst eI1 eI3
  have hD := hOD.row
  obtain ⟨gd, hNil, hgd0⟩ := nilOr_own hOI
  have hsum := sum_few hN hf
  have bn2 := below_new w1 (.cells #[.int .i64 vx, .int .i64 vl, .int .i64 vs, .slice lo N lc] 25)
  have V2 := VX.new w1 vx vl vs lo N lc 25
  have s2 : (w1.alloc (.cells #[.int .i64 vx, .int .i64 vl, .int .i64 vs, .slice lo N lc] 25)).heap.size = w1.heap.size + 1 := by simp
  have bn3 := below_new (w1.alloc (.cells #[.int .i64 vx, .int .i64 vl, .int .i64 vs, .slice lo N lc] 25)) (.cells #[.int .i64 nx, .int .i64 lg, .int .i64 sq, .slice da Dl.length dc, .slice aa Al.length ac] 29)
  have E3 := EX.new (w1.alloc (.cells #[.int .i64 vx, .int .i64 vl, .int .i64 vs, .slice lo N lc] 25)) nx lg sq (.slice da Dl.length dc) (.slice aa Al.length ac) 29
  rw [s2] at E3
  have V3 := V2.keep bn3
  have bw : Below w.heap.size w ((w1.alloc (.cells #[.int .i64 vx, .int .i64 vl, .int .i64 vs, .slice lo N lc] 25)).alloc (.cells #[.int .i64 nx, .int .i64 lg, .int .i64 sq, .slice da Dl.length dc, .slice aa Al.length ac] 29)) := (bw1.trans (bn2.mono bw1.size)).trans (bn3.mono (Nat.le_trans bw1.size bn2.size))
  have hV3 := (hV.keep bn2).keep bn3
  have hI3 := (hI.keep bn2).keep bn3
  have hD3 := (hD.keep bn2).keep bn3
  have hgd : Dl.length ≠ 0 → da = some ⟨gd, 0, none⟩ → gd < ((w1.alloc (.cells #[.int .i64 vx, .int .i64 vl, .int .i64 vs, .slice lo N lc] 25)).alloc (.cells #[.int .i64 nx, .int .i64 lg, .int .i64 sq, .slice da Dl.length dc, .slice aa Al.length ac] 29)).heap.size := fun h1 h2 => Nat.lt_of_lt_of_le (hgd0 h1 h2) (Nat.le_trans bn2.size bn3.size)
  obtain ⟨_, v0, v1, v2, v3⟩ := id V3
  obtain ⟨_, x0, x1, x2, x3, x4⟩ := id E3
  clear bn2 bn3 V2 s2 hV hI hD hgd0 hOI hOD bw1
  go_wp2_with fail
  generalize (w1.alloc (.cells #[.int .i64 vx, .int .i64 vl, .int .i64 vs, .slice lo N lc] 25)).alloc (.cells #[.int .i64 nx, .int .i64 lg, .int .i64 sq, .slice da Dl.length dc, .slice aa Al.length ac] 29) = w2 at *
  refine (applyEdit_impl vx vl vs lo N lc LL nx lg sq da dc Dl aa ac Al w2 hV3 hI3 hD3 (by omega) hsum (by omega) (by omega)).mono ?_
  rintro e w3 (⟨hg, go, gc, rfl, hVA, q3⟩ | ⟨hg, rfl, q3⟩)
  · have bn4 := below_new w3 (.cells #[.int .i64 nx, .int .i64 lg, .int .i64 sq, .slice go N gc] 25)
    have X4 := VX.new w3 nx lg sq go N gc 25
    have E4 := (E3.keep q3).keep bn4
    have V4 := (V3.keep q3).keep bn4
    have hV4 := (hV3.keep q3).keep bn4
    have hI4 := (hI3.keep q3).keep bn4
    have hD4 := (hD3.keep q3).keep bn4
    have q4 := q3.trans (bn4.mono q3.size)
    have hA4 := (hVA.keep bn4)
    clear v0 v1 v2 v3 x0 x1 x2 x3 x4 bn4 q3 hVA
    obtain ⟨_, v0, v1, v2, v3⟩ := id V4
    obtain ⟨_, x0, x1, x2, x3, x4⟩ := id E4
    go_wp2_with fail
    generalize hw4 : w3.alloc (.cells #[.int .i64 nx, .int .i64 lg, .int .i64 sq, .slice go N gc] 25) = w4 at *
    refine (applyEdit_spec vx vl vs lo N lc LL nx lg sq da dc Dl aa ac Al w4 hV4 hI4 hD4 (by omega) hsum (by omega) (by omega) (by omega) hcI).mono ?_
    rintro e w5 (⟨-, go5, gc5, rfl, -, -, -, q5⟩ | ⟨hno, _⟩)
    rotate_left
    · exact absurd hg hno
    have bn6 := below_new w5 (.cells #[.int .i64 nx, .int .i64 lg, .int .i64 sq, .slice go5 N gc5] 25)
    have E6 := (E4.keep q5).keep bn6
    have X6 := (X4.keep q5).keep bn6
    have hI6 := (hI4.keep q5).keep bn6
    have hD6 := (hD4.keep q5).keep bn6
    have q6 := q4.trans ((q5.trans (bn6.mono q5.size)).mono q4.size)
    have hA6 := (hA4.keep q5).keep bn6
    clear v0 v1 v2 v3 x0 x1 x2 x3 x4 q4 V4 E4 X4 hV4 hI4 hD4
    have hgv := goodVersion_impl nx lg sq go N gc _ _ _ (ap_row hg hA6) (by omega) (sum_ap hg)
    obtain ⟨_, y0, y1, y2, y3⟩ := id X6
    go_wp2_with fail
    generalize w5.alloc (.cells #[.int .i64 nx, .int .i64 lg, .int .i64 sq, .slice go5 N gc5] 25) = w6 at *
    refine hgv.mono ?_
    rintro e w7 ⟨b7', rfl, h7, q7⟩
    obtain rfl : b7' = true := h7.2 hg.2.2.2.2.2
    have E7 := E6.keep q7
    have hI7 := hI6.keep q7
    have hD7 := hD6.keep q7
    have q72 := q6.trans (q7.mono q6.size)
    have q7t := bw.trans (q72.mono bw.size)
    have q7t2 := q72
    clear y0 y1 y2 y3 hgv h7 E6 X6 hI6 hD6 hA6 q6 q7 hA4
    by_cases hG : GoodEd nx lg sq Dl.length (fi Dl) Al.length (dL Al)
    · have hlen := edB_len hG
      have hpos := edB_pos nx lg sq Dl.length (fi Dl) Al.length (dL Al)
      have HR : Hid (∀ f n, Seg f 0 (edB nx lg sq Dl.length (fi Dl) Al.length (dL Al)) → (edB nx lg sq Dl.length (fi Dl) Al.length (dL Al)).length = n → Rok f n ⟨nx, lg, sq, Dl, Al⟩) := fun f n h1 h2 => rok_edB hG h1 h2
      have hy := fun W (h1 : IRow W da Dl.length (fi Dl)) (h2 : Dl.length ≠ 0 → da = some ⟨gd, 0, none⟩ → gd < W.heap.size) (h3 : DRow W aa Al.length (dL Al)) => editBytes_yes nx lg sq da gd Dl.length dc hNil (fi Dl) aa Al.length ac (dL Al) W h1 h2 h3 hG
      have hz := fun W (h1 : IRow W da Dl.length (fi Dl)) (h2 : Dl.length ≠ 0 → da = some ⟨gd, 0, none⟩ → gd < W.heap.size) (h3 : DRow W aa Al.length (dL Al)) => editBytes_specYes nx lg sq da gd Dl.length dc hNil (fi Dl) aa Al.length ac (dL Al) W h1 h2 h3 hG
      have hx := fun W (d2 a2 : Option Addr) (c2 e2 : Nat) (g2 : Nat) (h0 : NilOr d2 Dl.length g2) (h1 : IRow W d2 Dl.length (fi Dl)) (h2 : Dl.length ≠ 0 → d2 = some ⟨g2, 0, none⟩ → g2 < W.heap.size) (h3 : DRow W a2 Al.length (dL Al)) => editBytes_implYes nx lg sq d2 g2 Dl.length c2 h0 (fi Dl) a2 Al.length e2 (dL Al) W h1 h2 h3 hG
      clear hG
      generalize edB nx lg sq Dl.length (fi Dl) Al.length (dL Al) = ED at *
      obtain ⟨_, x0, x1, x2, x3, x4⟩ := id E7
      go_wp2_with fail
      refine (hy w7 hI7 (fun h1 h2 => Nat.lt_of_lt_of_le (hgd h1 h2) q7t2.size) hD7).mono ?_
      rintro e t1 ⟨a1, k1, rfl, o1, c1⟩
      have hk1 := ownL_cap o1
      obtain ⟨a1', k1', e1', bv1⟩ := bv_of o1
      injection e1' with e11 _ e13
      subst e11 e13
      have E1 := E7.keep c1
      have I1 := hI7.keep c1
      have D1 := hD7.keep c1
      have z1 := c1.size
      have b1 := q7t.trans (c1.mono q7t.size)
      clear x0 x1 x2 x3 x4 o1 hy
      obtain ⟨_, x0, x1, x2, x3, x4⟩ := id E1
      go_wp2_with fail
      refine (hz t1 I1 (fun h1 h2 => Nat.lt_of_lt_of_le (hgd h1 h2) (Nat.le_trans q7t2.size z1)) D1).mono ?_
      rintro e t2 ⟨a2, k2, rfl, bv2, c2⟩
      have bv12 := bv1.keep c2
      have cv1 := conv_bv bv12 k1
      have cv2 := conv_bv bv2 k2
      have z2 := c2.size
      have b2 := b1.trans (c2.mono b1.size)
      obtain ⟨g, off, rfl, _, hg2, ho2⟩ := bv12.is.resolve_left (fun h => by rw [h.2] at hpos; simp at hpos)
      have hrd := readEdit_impl (fl ED) g off ED.length k1 t2 bv12.row ho2.lt (by omega) hk1
      have HR2 : Hid (Rok (fl ED) ED.length ⟨nx, lg, sq, Dl, Al⟩) := HR.out _ _ (fun i hi => by rw [Nat.zero_add]) rfl
      generalize strOfNums ED = ZZ at *
      clear x0 x1 x2 x3 x4 E1 I1 D1 hz HR ho2
      go_wp2_with fail
      refine hrd.mono ?_
      rintro e t3 (⟨r, hr, da3, cd3, aa3, ca3, rfl, hEA, hDB, c3⟩ | ⟨hno, _⟩)
      rotate_left
      · exact absurd HR2.out (hno _)
      obtain rfl : r = ⟨nx, lg, sq, Dl, Al⟩ := by
        have h1 := hr.1
        rw [HR2.out.1] at h1
        simpa using h1.symm
      dsimp only at hEA hDB ⊢
      have hI3 := hEA.irow
      have hD3 := hEA.drow hDB
      obtain ⟨g3, hNil3, hgd3⟩ := nilOr_ea hEA
      have b3 := b2.trans (c3.mono b2.size)
      have bn4 := below_new t3 (.cells #[.int .i64 nx, .int .i64 lg, .int .i64 sq, .slice da3 Dl.length cd3, .slice aa3 Al.length ca3] 29)
      have E4 := EX.new t3 nx lg sq (.slice da3 Dl.length cd3) (.slice aa3 Al.length ca3) 29
      have hx4 := hx _ da3 aa3 cd3 ca3 g3 hNil3 (hI3.keep bn4) (fun h1 h2 => Nat.lt_of_lt_of_le (hgd3 h1 h2) bn4.size) (hD3.keep bn4)
      have bv4 := ((bv12.keep c3).keep bn4)
      have b4 := b3.trans (bn4.mono b3.size)
      obtain ⟨_, x0, x1, x2, x3, x4⟩ := id E4
      clear hrd HR2 hr hEA hDB hx cv1 cv2 bv12 bv2 bv1
      go_wp2_with fail
      generalize t3.alloc (.cells #[.int .i64 nx, .int .i64 lg, .int .i64 sq, .slice da3 Dl.length cd3, .slice aa3 Al.length ca3] 29) = t4 at *
      refine hx4.mono ?_
      rintro e t5 ⟨a5, k5, rfl, bv5, c5⟩
      have cv5 := conv_bv bv5 k5
      have cv6 := conv_bv (bv4.keep c5) k1
      have b5 := b4.trans (c5.mono b4.size)
      generalize strOfNums ED = ZZ at cv5 cv6
      clear x0 x1 x2 x3 x4 E4 hx4 bv4 bv5 c5
      go_wp2
      go_ret
      exact ⟨rfl, b5⟩
    · obtain ⟨_, x0, x1, x2, x3, x4⟩ := id E7
      go_wp2_with fail
      refine (editBytes_implNo nx lg sq da Dl.length dc (fi Dl) aa Al.length ac (dL Al) w7 hI7 hD7 (by omega) (by omega) hG).mono ?_
      rintro e t1 ⟨a1, k1, rfl, bv1, c1⟩
      have E1 := E7.keep c1
      have I1 := hI7.keep c1
      have D1 := hD7.keep c1
      have b1 := q7t.trans (c1.mono q7t.size)
      clear x0 x1 x2 x3 x4
      obtain ⟨_, x0, x1, x2, x3, x4⟩ := id E1
      go_wp2_with fail
      refine (editBytes_specNo nx lg sq da Dl.length dc (fi Dl) aa Al.length ac (dL Al) t1 I1 D1 (by omega) (by omega) hG).mono ?_
      rintro e t2 ⟨a2, k2, rfl, bv2, c2⟩
      have cv1 := conv_bv (bv1.keep c2) k1
      have cv2 := conv_bv bv2 k2
      have b2 := b1.trans (c2.mono b1.size)
      simp only [List.length_nil] at cv1 cv2 ⊢
      clear x0 x1 x2 x3 x4 E1 I1 D1 hG
      go_wp2
      go_ret
      exact ⟨rfl, b2⟩
  · have bn4 := below_new w3 (.cells #[.int .i64 0, .int .i64 0, .int .i64 0, .slice none 0 0] 25)
    have X4 := VX.new w3 0 0 0 none 0 0 25
    have E4 := (E3.keep q3).keep bn4
    have V4 := (V3.keep q3).keep bn4
    have hV4 := (hV3.keep q3).keep bn4
    have hI4 := (hI3.keep q3).keep bn4
    have hD4 := (hD3.keep q3).keep bn4
    have q4 := q3.trans (bn4.mono q3.size)
    clear v0 v1 v2 v3 x0 x1 x2 x3 x4 bn4 q3
    obtain ⟨_, v0, v1, v2, v3⟩ := id V4
    obtain ⟨_, x0, x1, x2, x3, x4⟩ := id E4
    go_wp2_with fail
    generalize hw4 : w3.alloc (.cells #[.int .i64 0, .int .i64 0, .int .i64 0, .slice none 0 0] 25) = w4 at *
    refine (applyEdit_spec vx vl vs lo N lc LL nx lg sq da dc Dl aa ac Al w4 hV4 hI4 hD4 (by omega) hsum (by omega) (by omega) (by omega) hcI).mono ?_
    rintro e w5 (⟨hyes, _⟩ | ⟨_, rfl, q5⟩)
    · exact absurd hyes hg
    have bn6 := below_new w5 (.cells #[.int .i64 0, .int .i64 0, .int .i64 0, .slice none 0 0] 25)
    have E6 := (E4.keep q5).keep bn6
    have X6 := (X4.keep q5).keep bn6
    have hI6 := (hI4.keep q5).keep bn6
    have hD6 := (hD4.keep q5).keep bn6
    have q6 := q4.trans ((q5.trans (bn6.mono q5.size)).mono q4.size)
    clear v0 v1 v2 v3 x0 x1 x2 x3 x4 q4 V4 E4 X4 hV4 hI4 hD4
    have q7t := bw.trans (q6.mono bw.size)
    have q7t2 := q6
    by_cases hG : GoodEd nx lg sq Dl.length (fi Dl) Al.length (dL Al)
    · have hlen := edB_len hG
      have hpos := edB_pos nx lg sq Dl.length (fi Dl) Al.length (dL Al)
      have HR : Hid (∀ f n, Seg f 0 (edB nx lg sq Dl.length (fi Dl) Al.length (dL Al)) → (edB nx lg sq Dl.length (fi Dl) Al.length (dL Al)).length = n → Rok f n ⟨nx, lg, sq, Dl, Al⟩) := fun f n h1 h2 => rok_edB hG h1 h2
      have hy := fun W (h1 : IRow W da Dl.length (fi Dl)) (h2 : Dl.length ≠ 0 → da = some ⟨gd, 0, none⟩ → gd < W.heap.size) (h3 : DRow W aa Al.length (dL Al)) => editBytes_yes nx lg sq da gd Dl.length dc hNil (fi Dl) aa Al.length ac (dL Al) W h1 h2 h3 hG
      have hz := fun W (h1 : IRow W da Dl.length (fi Dl)) (h2 : Dl.length ≠ 0 → da = some ⟨gd, 0, none⟩ → gd < W.heap.size) (h3 : DRow W aa Al.length (dL Al)) => editBytes_specYes nx lg sq da gd Dl.length dc hNil (fi Dl) aa Al.length ac (dL Al) W h1 h2 h3 hG
      have hx := fun W (d2 a2 : Option Addr) (c2 e2 : Nat) (g2 : Nat) (h0 : NilOr d2 Dl.length g2) (h1 : IRow W d2 Dl.length (fi Dl)) (h2 : Dl.length ≠ 0 → d2 = some ⟨g2, 0, none⟩ → g2 < W.heap.size) (h3 : DRow W a2 Al.length (dL Al)) => editBytes_implYes nx lg sq d2 g2 Dl.length c2 h0 (fi Dl) a2 Al.length e2 (dL Al) W h1 h2 h3 hG
      clear hG
      generalize edB nx lg sq Dl.length (fi Dl) Al.length (dL Al) = ED at *
      obtain ⟨_, x0, x1, x2, x3, x4⟩ := id E6
      go_wp2_with fail
      generalize w5.alloc (.cells #[.int .i64 0, .int .i64 0, .int .i64 0, .slice none 0 0] 25) = w6 at *
      refine (hy w6 hI6 (fun h1 h2 => Nat.lt_of_lt_of_le (hgd h1 h2) q7t2.size) hD6).mono ?_
      rintro e t1 ⟨a1, k1, rfl, o1, c1⟩
      have hk1 := ownL_cap o1
      obtain ⟨a1', k1', e1', bv1⟩ := bv_of o1
      injection e1' with e11 _ e13
      subst e11 e13
      have E1 := E6.keep c1
      have I1 := hI6.keep c1
      have D1 := hD6.keep c1
      have z1 := c1.size
      have b1 := q7t.trans (c1.mono q7t.size)
      clear x0 x1 x2 x3 x4 o1 hy
      obtain ⟨_, x0, x1, x2, x3, x4⟩ := id E1
      go_wp2_with fail
      refine (hz t1 I1 (fun h1 h2 => Nat.lt_of_lt_of_le (hgd h1 h2) (Nat.le_trans q7t2.size z1)) D1).mono ?_
      rintro e t2 ⟨a2, k2, rfl, bv2, c2⟩
      have bv12 := bv1.keep c2
      have cv1 := conv_bv bv12 k1
      have cv2 := conv_bv bv2 k2
      have z2 := c2.size
      have b2 := b1.trans (c2.mono b1.size)
      obtain ⟨g, off, rfl, _, hg2, ho2⟩ := bv12.is.resolve_left (fun h => by rw [h.2] at hpos; simp at hpos)
      have hrd := readEdit_impl (fl ED) g off ED.length k1 t2 bv12.row ho2.lt (by omega) hk1
      have HR2 : Hid (Rok (fl ED) ED.length ⟨nx, lg, sq, Dl, Al⟩) := HR.out _ _ (fun i hi => by rw [Nat.zero_add]) rfl
      generalize strOfNums ED = ZZ at *
      clear x0 x1 x2 x3 x4 E1 I1 D1 hz HR ho2
      go_wp2_with fail
      refine hrd.mono ?_
      rintro e t3 (⟨r, hr, da3, cd3, aa3, ca3, rfl, hEA, hDB, c3⟩ | ⟨hno, _⟩)
      rotate_left
      · exact absurd HR2.out (hno _)
      obtain rfl : r = ⟨nx, lg, sq, Dl, Al⟩ := by
        have h1 := hr.1
        rw [HR2.out.1] at h1
        simpa using h1.symm
      dsimp only at hEA hDB ⊢
      have hI3 := hEA.irow
      have hD3 := hEA.drow hDB
      obtain ⟨g3, hNil3, hgd3⟩ := nilOr_ea hEA
      have b3 := b2.trans (c3.mono b2.size)
      have bn4 := below_new t3 (.cells #[.int .i64 nx, .int .i64 lg, .int .i64 sq, .slice da3 Dl.length cd3, .slice aa3 Al.length ca3] 29)
      have E4 := EX.new t3 nx lg sq (.slice da3 Dl.length cd3) (.slice aa3 Al.length ca3) 29
      have hx4 := hx _ da3 aa3 cd3 ca3 g3 hNil3 (hI3.keep bn4) (fun h1 h2 => Nat.lt_of_lt_of_le (hgd3 h1 h2) bn4.size) (hD3.keep bn4)
      have bv4 := ((bv12.keep c3).keep bn4)
      have b4 := b3.trans (bn4.mono b3.size)
      obtain ⟨_, x0, x1, x2, x3, x4⟩ := id E4
      clear hrd HR2 hr hEA hDB hx cv1 cv2 bv12 bv2 bv1
      go_wp2_with fail
      generalize t3.alloc (.cells #[.int .i64 nx, .int .i64 lg, .int .i64 sq, .slice da3 Dl.length cd3, .slice aa3 Al.length ca3] 29) = t4 at *
      refine hx4.mono ?_
      rintro e t5 ⟨a5, k5, rfl, bv5, c5⟩
      have cv5 := conv_bv bv5 k5
      have cv6 := conv_bv (bv4.keep c5) k1
      have b5 := b4.trans (c5.mono b4.size)
      generalize strOfNums ED = ZZ at cv5 cv6
      clear x0 x1 x2 x3 x4 E4 hx4 bv4 bv5 c5
      go_wp2
      go_ret
      exact ⟨rfl, b5⟩
    · obtain ⟨_, x0, x1, x2, x3, x4⟩ := id E6
      go_wp2_with fail
      generalize w5.alloc (.cells #[.int .i64 0, .int .i64 0, .int .i64 0, .slice none 0 0] 25) = w6 at *
      refine (editBytes_implNo nx lg sq da Dl.length dc (fi Dl) aa Al.length ac (dL Al) w6 hI6 hD6 (by omega) (by omega) hG).mono ?_
      rintro e t1 ⟨a1, k1, rfl, bv1, c1⟩
      have E1 := E6.keep c1
      have I1 := hI6.keep c1
      have D1 := hD6.keep c1
      have b1 := q7t.trans (c1.mono q7t.size)
      clear x0 x1 x2 x3 x4
      obtain ⟨_, x0, x1, x2, x3, x4⟩ := id E1
      go_wp2_with fail
      refine (editBytes_specNo nx lg sq da Dl.length dc (fi Dl) aa Al.length ac (dL Al) t1 I1 D1 (by omega) (by omega) hG).mono ?_
      rintro e t2 ⟨a2, k2, rfl, bv2, c2⟩
      have cv1 := conv_bv (bv1.keep c2) k1
      have cv2 := conv_bv bv2 k2
      have b2 := b1.trans (c2.mono b1.size)
      simp only [List.length_nil] at cv1 cv2 ⊢
      clear x0 x1 x2 x3 x4 E1 I1 D1 hG
      go_wp2
      go_ret
      exact ⟨rfl, b2⟩

theorem fnVersions_law (co : Option Addr) (cn cc : Nat) (cf : Nat → Int) (w : World) (hc : Row w co cn cf) (hcn : cn ≤ 9223372036854775807) :
    Calls Try.prog 3 #[.slice co cn cc] w fun e w' => e = .returned (.bool true) ∧ Below w.heap.size w w' := by
  by_cases hn : cn ≤ 1048576
  · exact fnVersions_good co cn cc cf w hc hn
  · have hn1 : (1048576 : Int) < (cn : Int) := by omega
    go_enter Try.func3, Try.ntmps3
    go_wp2
    go_ret
    exact ⟨rfl, Below.refl _ _⟩
end Go.Proofs.Ytagkhohglpjjlaa
namespace Go.Proofs.Ytagkhohglpjjlaa
open Go.RowKit

/-- A slice of integers that came in: nil, or it leads to 'cap' cells. -/
def IsRow (k : IntKind) (w : World) (a : Option Addr) (len cap : Nat) (zs : List Int) : Prop :=
  (a = none ∧ len = 0 ∧ cap = 0 ∧ zs = []) ∨
  ∃ x, a = some x ∧ len ≤ cap ∧ cap ≤ maxLen ∧ zs.length = cap ∧ (∀ i, i < zs.length → w.cell? (x.add i) = some (.int k (zs.getD i 0))) ∧ ∀ n ∈ zs, (Lit.int k n).wf = true

theorem lt_of_cell {w : World} {b o : Nat} {v : Value} (h : w.cell? ⟨b, o, none⟩ = some v) : b < w.heap.size := by
  unfold World.cell? at h
  split at h
  · rename_i hb
    exact (Array.getElem?_eq_some_iff.1 hb).1
  · simp at h

theorem row_of {w : World} {a : Option Addr} {len cap : Nat} {zs : List Int} (h : IsRow .u8 w a len cap zs) : ∃ f, Row w a len f ∧ len ≤ maxLen := by
  rcases h with ⟨rfl, rfl, rfl, rfl⟩ | ⟨x, rfl, hl, hm, hz, hcell, hwz⟩
  · exact ⟨fun _ => 0, ⟨fun _ => by omega, .inl rfl⟩, Nat.zero_le _⟩
  · refine ⟨fun i => zs[i]?.getD 0, ⟨fun i => range_u8 hwz i, ?_⟩, Nat.le_trans hl hm⟩
    by_cases h0 : len = 0
    · exact .inl h0
    · obtain ⟨b, off, spot⟩ := x
      have hc := hcell 0 (by omega)
      have hspot : spot = none := by simpa [Addr.add] using World.cell?_spot hc
      subst hspot
      have hc0 : w.cell? ⟨b, off, none⟩ = some (.int .u8 (zs.getD 0 0)) := by simpa [Addr.add] using hc
      refine .inr ⟨b, off, rfl, lt_of_cell hc0, fun i hi => ?_⟩
      have := hcell i (by omega)
      by_cases hi0 : i = 0
      · subst hi0; simpa [Addr.add] using this
      · simpa [Addr.add, hi0] using this

end Go.Proofs.Ytagkhohglpjjlaa
