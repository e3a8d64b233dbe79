/- EditBytes in both texts, and its law. -/
import Derived.Test.YtdcmclbbecnihaaEc
import Derived.Test.YtdcmclbbecnihaaEs
namespace Go.Proofs.Ytdcmclbbecnihaa
open Go.RowKit
set_option linter.unusedSimpArgs false
set_option linter.unusedVariables false

/-- What EditBytes leaves. -/
def EbO (L : List Int) (c : Bool) (w : World) (e : Ending) (w' : World) : Prop :=
  ∃ ao k, e = .returned (.tuple #[.slice ao L.length k, .bool c]) ∧ BV w' w.heap.size w'.heap.size ao L ∧ Below w.heap.size w w'
theorem Rng.mid {lo hi : Nat} {w w' : World} (h : Rng lo hi w w') : Mid lo hi w w' := ⟨h.os, h.tape, h.output, h.size, h.block⟩
theorem EX.mid {B U : Nat} {w w' : World} {b : Nat} {nx lg sq : Int} {dv av : Value} (h : EX w b nx lg sq dv av) (hm : Mid B U w w') (hne : b < B ∨ U ≤ b) : EX w' b nx lg sq dv av := h.same hm.size (hm.block b h.lt hne)
section
variable (nx lg sq : Int) (da : Option Addr) (nd cd : Nat) (f : Nat → Int) (aa : Option Addr) (na ca : Nat) (Y : Nat → Adm)

set_option maxHeartbeats 800000 in
theorem editBytes_implNo (w : World) (hr : IRow w da nd f) (hy : DRow w aa na Y) (hd : nd ≤ 1048576) (ha : na ≤ 1048576) (hG : ¬ GoodEd nx lg sq nd f na Y) :
    Calls Try.prog 26 #[.agg #[.int .i64 nx, .int .i64 lg, .int .i64 sq, .slice da nd cd, .slice aa na ca]] w fun e w' => EbO [] false w e w' := by
  have bn0 := below_new w (.cells #[.int .i64 nx, .int .i64 lg, .int .i64 sq, .slice da nd cd, .slice aa na ca] 45)
  have hc := (goodEdit_any nx lg sq da nd cd f aa na ca Y _ (hr.keep bn0) (hy.keep bn0) hd ha).mono (R' := fun e w' => e = .returned (.bool false) ∧ Below (w.alloc (.cells #[.int .i64 nx, .int .i64 lg, .int .i64 sq, .slice da nd cd, .slice aa na ca] 45)).heap.size (w.alloc (.cells #[.int .i64 nx, .int .i64 lg, .int .i64 sq, .slice da nd cd, .slice aa na ca] 45)) w') (by
    rintro e w' ⟨b, rfl, h, hb⟩
    cases b
    · exact ⟨rfl, hb⟩
    · exact absurd (h.1 rfl) hG)
  clear hG
  go_enter Try.func26, Try.ntmps26
  go_wp2_with fail
  refine hc.mono ?_
  rintro e w1 ⟨rfl, hb1⟩
  have bw1 := bn0.trans (hb1.mono bn0.size)
  clear hc
  go_wp2
  exact bodyPost_ret (v := .tuple #[.slice none 0 0, .bool false]) (by simp [results, Try.results26, go_sem]) rfl ⟨none, 0, rfl, bv_nil _ _ _ (Nat.le_refl _), bw1⟩

set_option maxHeartbeats 800000 in
theorem editBytes_specNo (w : World) (hr : IRow w da nd f) (hy : DRow w aa na Y) (hd : nd ≤ 1048576) (ha : na ≤ 1048576) (hG : ¬ GoodEd nx lg sq nd f na Y) :
    Calls Try.prog 25 #[.agg #[.int .i64 nx, .int .i64 lg, .int .i64 sq, .slice da nd cd, .slice aa na ca]] w fun e w' => EbO [] false w e w' := by
  have bn0 := below_new w (.cells #[.int .i64 nx, .int .i64 lg, .int .i64 sq, .slice da nd cd, .slice aa na ca] 45)
  have hc := (l9Edit_any nx lg sq da nd cd f aa na ca Y _ (hr.keep bn0) (hy.keep bn0) hd ha).mono (R' := fun e w' => e = .returned (.bool false) ∧ Below (w.alloc (.cells #[.int .i64 nx, .int .i64 lg, .int .i64 sq, .slice da nd cd, .slice aa na ca] 45)).heap.size (w.alloc (.cells #[.int .i64 nx, .int .i64 lg, .int .i64 sq, .slice da nd cd, .slice aa na ca] 45)) w') (by
    rintro e w' ⟨b, rfl, h, hb⟩
    cases b
    · exact ⟨rfl, hb⟩
    · exact absurd (h.1 rfl) hG)
  clear hG
  go_enter Try.func25, Try.ntmps25
  go_wp2_with fail
  refine hc.mono ?_
  rintro e w1 ⟨rfl, hb1⟩
  have bw1 := bn0.trans (hb1.mono bn0.size)
  clear hc
  go_wp2
  exact bodyPost_ret (v := .tuple #[.slice none 0 0, .bool false]) (by simp [results, Try.results25, go_sem]) rfl ⟨none, 0, rfl, bv_nil _ _ _ (Nat.le_refl _), bw1⟩
end

set_option maxHeartbeats 800000 in
theorem editBytes_specYes (nx lg sq : Int) (gd nd cd : Nat) (f : Nat → Int) (aa : Option Addr) (na ca : Nat) (Y : Nat → Adm) (w : World) (hr : IRow w (some ⟨gd, 0, none⟩) nd f) (hgd : gd < w.heap.size) (hy : DRow w aa na Y) (hG : GoodEd nx lg sq nd f na Y) :
    Calls Try.prog 25 #[.agg #[.int .i64 nx, .int .i64 lg, .int .i64 sq, .slice (some ⟨gd, 0, none⟩) nd cd, .slice aa na ca]] w fun e w' => EbO (edB nx lg sq nd f na Y) true w e w' := by
  have bn0 := below_new w (.cells #[.int .i64 nx, .int .i64 lg, .int .i64 sq, .slice (some ⟨gd, 0, none⟩) nd cd, .slice aa na ca] 45)
  have A0 := EX.new w nx lg sq (.slice (some ⟨gd, 0, none⟩) nd cd) (.slice aa na ca) 45
  have h24 : nd ≤ 24 := hG.2.2.2.1.1
  have h25 : na ≤ 24 := hG.2.2.2.2.1
  have hc := (l9Edit_any nx lg sq (some ⟨gd, 0, none⟩) nd cd f aa na ca Y _ (hr.keep bn0) (hy.keep bn0) (by omega) (by omega)).mono (R' := fun e w' => e = .returned (.bool true) ∧ Below (w.alloc (.cells #[.int .i64 nx, .int .i64 lg, .int .i64 sq, .slice (some ⟨gd, 0, none⟩) nd cd, .slice aa na ca] 45)).heap.size (w.alloc (.cells #[.int .i64 nx, .int .i64 lg, .int .i64 sq, .slice (some ⟨gd, 0, none⟩) nd cd, .slice aa na ca] 45)) w') (by
    rintro e w' ⟨b, rfl, h, hb⟩
    exact ⟨by rw [h.2 hG], hb⟩)
  have hb := fun W (hW : Below w.heap.size w W) => l9Bytes_any nx lg sq gd nd cd f aa na ca Y W (hr.keep hW) (Nat.lt_of_lt_of_le hgd hW.size) (hy.keep hW) hG
  have HB : Hid (∀ W, Below w.heap.size w W → Calls Try.prog 70 #[.agg #[.int .i64 nx, .int .i64 lg, .int .i64 sq, .slice (some ⟨gd, 0, none⟩) nd cd, .slice aa na ca]] W fun e w' => ∃ a c, e = .returned (.slice a (edB nx lg sq nd f na Y).length c) ∧ OwnL w' W.heap.size (.slice a (edB nx lg sq nd f na Y).length c) (edB nx lg sq nd f na Y) ∧ Below W.heap.size W w') := hb
  clear hG hb h24 h25
  generalize edB nx lg sq nd f na Y = ED at HB ⊢
  go_enter Try.func25, Try.ntmps25
  go_wp2_with fail
  refine hc.mono ?_
  rintro e w1 ⟨rfl, hb1⟩
  have A1 := A0.keep hb1
  have bw1 := bn0.trans (hb1.mono bn0.size)
  clear hc hb1 A0 bn0
  obtain ⟨_, x0, x1, x2, x3, x4⟩ := id A1
  go_wp2_with fail
  refine (HB.out w1 bw1).mono ?_
  rintro e w2 ⟨a, c, rfl, o, hb2⟩
  have bw2 := bw1.trans (hb2.mono bw1.size)
  obtain ⟨a', c', e', hbv⟩ := bv_of (o.mono bw1.size)
  injection e' with e1 e2 e3
  subst e1 e3
  clear hb2 A1 x0 x1 x2 x3 x4 o e2
  go_wp2
  exact bodyPost_ret (v := .tuple #[.slice a ED.length c, .bool true]) (by simp [results, Try.results25, go_sem]) rfl ⟨a, c, rfl, hbv, bw2⟩

/-- Both answer alike. -/
theorem editBytes_both (nx lg sq : Int) (nd : Nat) (f : Nat → Int) (na : Nat) (Y : Nat → Adm) (hd : nd ≤ 1048576) (ha : na ≤ 1048576) :
    ∃ (L : List Int) (c : Bool), L.length ≤ 1048576 ∧
      (∀ gd cd aa ca w, IRow w (some ⟨gd, 0, none⟩) nd f → gd < w.heap.size → DRow w aa na Y → Calls Try.prog 25 #[.agg #[.int .i64 nx, .int .i64 lg, .int .i64 sq, .slice (some ⟨gd, 0, none⟩) nd cd, .slice aa na ca]] w fun e w' => EbO L c w e w') ∧
      (∀ gd cd aa ca w, IRow w (some ⟨gd, 0, none⟩) nd f → gd < w.heap.size → DRow w aa na Y → Calls Try.prog 26 #[.agg #[.int .i64 nx, .int .i64 lg, .int .i64 sq, .slice (some ⟨gd, 0, none⟩) nd cd, .slice aa na ca]] w fun e w' => EbO L c w e w') := by
  by_cases hG : GoodEd nx lg sq nd f na Y
  · refine ⟨edB nx lg sq nd f na Y, true, ?_, fun gd cd aa ca w h1 h2 h3 => editBytes_specYes nx lg sq gd nd cd f aa na ca Y w h1 h2 h3 hG, fun gd cd aa ca w h1 h2 h3 => (editBytes_yes nx lg sq gd nd cd f aa na ca Y w h1 h2 h3 hG).mono ?_⟩
    · have l1 := nsL_len [nx, lg, sq, (nd : Int)]
      have l2 := nsL_len (iL f nd)
      have l3 := nsL_len [(na : Int)]
      have l4 := adsB_len Y na hG.2.2.2.2.2
      have := hG.2.2.2.1.1
      have := hG.2.2.2.2.1
      simp only [edB, List.length_append, List.length_cons, List.length_nil, iL_len] at *
      omega
    · rintro e w' ⟨a, c, rfl, o, hb⟩
      obtain ⟨a', c', e', hbv⟩ := bv_of o
      injection e' with e1 e2 e3
      subst e1 e3
      exact ⟨a, c, rfl, hbv, hb⟩
  · exact ⟨[], false, by simp, fun gd cd aa ca w h1 _ h3 => editBytes_specNo nx lg sq _ nd cd f aa na ca Y w h1 h3 hd ha hG, fun gd cd aa ca w h1 _ h3 => editBytes_implNo nx lg sq _ nd cd f aa na ca Y w h1 h3 hd ha hG⟩
theorem EA.glt {w : World} {lo hi g nd na : Nat} {aa : Option Addr} {f : Nat → Int} {Y : Nat → Adm} (h : EA w lo hi (some ⟨g, 0, none⟩) nd f aa na Y) (hn : 0 < nd) : g < w.heap.size := by
  obtain ⟨g', e, _, h2, _⟩ := h.dr.resolve_left (by omega)
  injection e with e
  injection e with e _ _
  have := h.top
  omega

set_option maxHeartbeats 6400000 in
theorem editBytes_law (nx lg sq : Int) (da : Option Addr) (nd cd : Nat) (f : Nat → Int) (aa : Option Addr) (na ca : Nat) (Y : Nat → Adm) (w : World) (hr : IRow w da nd f) (hy : DRow w aa na Y) (_hb : (-9223372036854775808 ≤ nx ∧ nx ≤ 9223372036854775807) ∧ (-9223372036854775808 ≤ lg ∧ lg ≤ 9223372036854775807) ∧ (-9223372036854775808 ≤ sq ∧ sq ≤ 9223372036854775807)) (hdx : nd ≤ 9223372036854775807) (hax : na ≤ 9223372036854775807) :
    Calls Try.prog 6 #[.agg #[.int .i64 nx, .int .i64 lg, .int .i64 sq, .slice da nd cd, .slice aa na ca]] w fun e w' => e = .returned (.bool true) ∧ Below w.heap.size w w' := by
  have bn0 := below_new w (.cells #[.int .i64 nx, .int .i64 lg, .int .i64 sq, .slice da nd cd, .slice aa na ca] 39)
  have A0 := EX.new w nx lg sq (.slice da nd cd) (.slice aa na ca) 39
  clear _hb
  go_enter Try.func6, Try.ntmps6
  go_wp2_with fail
  generalize w.alloc (.cells #[.int .i64 nx, .int .i64 lg, .int .i64 sq, .slice da nd cd, .slice aa na ca] 39) = w0 at *
  refine (szEdit_ex nx lg sq da nd cd aa na ca Y 1048576 _ (hy.keep bn0) ⟨by omega, by omega⟩ hdx hax).mono ?_
  rintro e w1 ⟨v, rfl, h1, h3, hb1⟩
  have A1 := A0.keep hb1
  have bw1 := bn0.trans (hb1.mono bn0.size)
  clear hb1 A0 bn0
  by_cases hv : v < 0
  · clear h3
    go_wp2
    go_ret
    exact ⟨rfl, bw1⟩
  have hd : nd ≤ 1048576 := by have := h3 (by omega); omega
  have ha : na ≤ 1048576 := by have := h3 (by omega); omega
  clear h3
  obtain ⟨L, c, hL, hS, hI⟩ := editBytes_both nx lg sq nd f na Y hd ha
  obtain ⟨l0, x0, x1, x2, x3, x4⟩ := id A1
  go_wp2_with fail
  refine (toEdit_any nx lg sq da nd cd f aa na ca Y w1 (hr.keep bw1) (hy.keep bw1) hd ha).mono ?_
  rintro e w2 ⟨g2, h2, rfl, E2, gl2, hb2⟩
  have A2 := A1.keep hb2
  have bw2 := bw1.trans (hb2.mono bw1.size)
  clear hb2 A1 l0 x0 x1 x2 x3 x4
  go_wp2_with fail
  refine (hS g2 _ _ _ w2 E2.irow gl2 (E2.drow hy.bd)).mono ?_
  rintro e w3 ⟨wo, wc, rfl, OW, hb3⟩
  have A3 := A2.keep hb3
  have bw3 := bw2.trans (hb3.mono bw2.size)
  have s23 := hb3.size
  have sA3 := A3.lt
  clear hb3 A2 E2 hS gl2
  obtain ⟨l0, x0, x1, x2, x3, x4⟩ := id A3
  go_wp2_with fail
  refine (toEdit_any nx lg sq da nd cd f aa na ca Y w3 (hr.keep bw3) (hy.keep bw3) hd ha).mono ?_
  rintro e w4 ⟨g4, h4, rfl, E4, gl4, hb4⟩
  have bn4 := below_new w4 (.cells #[.int .i64 nx, .int .i64 lg, .int .i64 sq, .slice (some ⟨g4, 0, none⟩) nd nd, .slice (some ⟨h4, 0, none⟩) na na] 45)
  have X4 := EX.new w4 nx lg sq (.slice (some ⟨g4, 0, none⟩) nd nd) (.slice (some ⟨h4, 0, none⟩) na na) 45
  have A4 := (A3.keep hb4).keep bn4
  have bw4 := (bw3.trans (hb4.mono bw3.size)).trans (bn4.mono (by have := hb4.size; have := bw3.size; omega))
  have V4 := E4.keep bn4
  have OW4 := (OW.keep hb4).keep bn4
  have s34 := hb4.size
  have s45 : w4.heap.size < (w4.alloc (.cells #[.int .i64 nx, .int .i64 lg, .int .i64 sq, .slice (some ⟨g4, 0, none⟩) nd nd, .slice (some ⟨h4, 0, none⟩) na na] 45)).heap.size := by simp
  clear hb4 E4 A3 l0 x0 x1 x2 x3 x4 bn4 OW
  go_wp2_with fail
  generalize w4.alloc (.cells #[.int .i64 nx, .int .i64 lg, .int .i64 sq, .slice (some ⟨g4, 0, none⟩) nd nd, .slice (some ⟨h4, 0, none⟩) na na] 45) = w5 at *
  refine (hI g4 _ _ _ w5 V4.irow (by omega) (V4.drow hy.bd)).mono ?_
  rintro e w6 ⟨go, gc, rfl, OG, hb6⟩
  have A6 := A4.keep hb6
  have X6 := X4.keep hb6
  have V6 := V4.keep hb6
  have OW6 := OW4.keep hb6
  have bw6 := bw4.trans (hb6.mono bw4.size)
  have s56 := hb6.size
  clear hb6 A4 X4 V4 OW4
  go_wp2_with fail
  refine (eqBV go wo gc wc _ _ _ _ L w6 OG OW6 hL).mono ?_
  rintro e w7 ⟨rfl, hb7⟩
  have A7 := A6.keep hb7
  have X7 := X6.keep hb7
  have V7 := V6.keep hb7
  have OW7 := OW6.keep hb7
  have OG7 := OG.keep hb7
  have bw7 := bw6.trans (hb7.mono bw6.size)
  have s67 := hb7.size
  clear hb7 A6 X6 V6 OW6 OG
  have hcv := toEdit_any nx lg sq da nd cd f aa na ca Y w7.drew ((hr.keep bw7).keep (Below.refl _ _).drew) ((hy.keep bw7).keep (Below.refl _ _).drew) hd ha
  have hq := fun (g h : Nat) (W : World) (h1 : IRow W (some ⟨g, 0, none⟩) nd f) (h2 : IRow W (some ⟨g4, 0, none⟩) nd f) (h3 : DRow W (some ⟨h, 0, none⟩) na Y) (h5 : DRow W (some ⟨h4, 0, none⟩) na Y) => eqEdit_same nx lg sq (some ⟨g4, 0, none⟩) (some ⟨g, 0, none⟩) nd nd nd f (some ⟨h4, 0, none⟩) (some ⟨h, 0, none⟩) na na na Y W h2 h1 h5 h3 hd ha
  have hmk := fun W h => markEdit_any nx lg sq w3.heap.size w4.heap.size (some ⟨g4, 0, none⟩) nd nd f (some ⟨h4, 0, none⟩) na na Y W h hd ha
  have hpos : ¬ ((1 + nd + 5 * na : Nat) : Int) < 0 := by omega
  generalize ((1 + nd + 5 * na : Nat) : Int) = kk at hmk hpos
  have hmi := fun W h => markBV go gc w5.heap.size w6.heap.size L W h hL
  have hhd := fun W (h : Row W go L.length marks) => held_one go L.length gc W h hL
  have hpos2 : ¬ (L.length : Int) + 1 < 0 := by omega
  generalize (L.length : Int) + 1 = mm at hmi hhd hpos2
  obtain ⟨l0, x0, x1, x2, x3, x4⟩ := id A7
  obtain ⟨m0, y0, y1, y2, y3, y4⟩ := id X7
  cases c
  all_goals
    go_wp2
    go_region_held3 (fun w' => w'.cell? ⟨w4.heap.size, 0, none⟩ = some (.int .i64 nx) ∧ w'.cell? ⟨w4.heap.size, 1, none⟩ = some (.int .i64 lg) ∧ w'.cell? ⟨w4.heap.size, 2, none⟩ = some (.int .i64 sq) ∧ w'.cell? ⟨w4.heap.size, 3, none⟩ = some (.slice (some ⟨g4, 0, none⟩) nd nd) ∧ w'.cell? ⟨w4.heap.size, 4, none⟩ = some (.slice (some ⟨h4, 0, none⟩) na na) ∧ w'.cell? ⟨w.heap.size, 0, none⟩ = some (.int .i64 nx) ∧ w'.cell? ⟨w.heap.size, 1, none⟩ = some (.int .i64 lg) ∧ w'.cell? ⟨w.heap.size, 2, none⟩ = some (.int .i64 sq) ∧ w'.cell? ⟨w.heap.size, 3, none⟩ = some (.slice da nd cd) ∧ w'.cell? ⟨w.heap.size, 4, none⟩ = some (.slice aa na ca)) (go_keep) (first | (go_at_call 21; refine hcv.mono ?_; rintro e w8 ⟨g8, h8, rfl, E8, _, hb8⟩; have hb8' := (Below.refl _ w7).drew.trans hb8; have A8 := A7.keep hb8'; have X8 := X7.keep hb8'; obtain ⟨_, p0, p1, p2, p3, p4⟩ := id A8; obtain ⟨_, q0, q1, q2, q3, q4⟩ := id X8; have V8 := V7.keep hb8'; have OW8 := OW7.keep hb8'; have OG8 := OG7.keep hb8'; have bw8 := bw7.trans (hb8'.mono bw7.size); have s78 := hb8'.size; clear hb8 hb8') | (go_at_call 23; refine (hq _ _ _ E8.irow V8.irow (E8.drow hy.bd) (V8.drow hy.bd)).mono ?_; rintro e w9 ⟨rfl, hb9⟩; have bw9 := bw8.trans (hb9.mono bw8.size); have A9 := A8.keep hb9; have X9 := X8.keep hb9; obtain ⟨_, r0, r1, r2, r3, r4⟩ := id A9; obtain ⟨_, t0, t1, t2, t3, t4⟩ := id X9; have V9 := V8.keep hb9; have OW9 := OW8.keep hb9; have OG9 := OG8.keep hb9; have s89 := hb9.size; clear hb9))
    clear hcv hq
    go_wp2_with fail
    refine (hmk w9 V9).mono ?_
    rintro e w10 ⟨rfl, _, hr10⟩
    have OW10 := OW9.mid hr10.mid (.inl (by omega))
    have OG10 := OG9.mid hr10.mid (.inr (by omega))
    have A10 := A9.mid hr10.mid (.inl (by omega))
    have bw10 : Below w.heap.size w w10 := bw9.trans (hr10.below bw3.size bw9.size)
    have s910 := hr10.size
    clear OW9 OG9 A9 X9 V9 hr10 hmk V8 OW8 OG8 A8 X8
    go_wp2_with fail
    refine (eqBV go wo gc wc _ _ _ _ L w10 OG10 OW10 hL).mono ?_
    rintro e w11 ⟨rfl, hb11⟩
    have A11 := A10.keep hb11
    have OW11 := OW10.keep hb11
    have OG11 := OG10.keep hb11
    have bw11 := bw10.trans (hb11.mono bw10.size)
    have s1011 := hb11.size
    clear hb11 A10 OW10 OG10
    go_wp2_with fail
    refine (hmi w11 OG11).mono ?_
    rintro e w12 ⟨rfl, IR12, hm12⟩
    have OW12 := OW11.mid hm12 (.inl (by omega))
    have A12 := A11.mid hm12 (.inl (by omega))
    have bw12 : Below w.heap.size w w12 := bw11.trans (hm12.below (by have := bw3.size; omega) bw11.size)
    clear OW11 A11 OG11 hm12 hmi
    go_wp2_with fail
    refine (hhd w12 IR12).mono ?_
    rintro e w13 ⟨rfl, hb13⟩
    have A13 := A12.keep hb13
    have OW13 := OW12.keep hb13
    have IR13 := IR12.keep hb13
    have bw13 := bw12.trans (hb13.mono bw12.size)
    clear hb13 A12 OW12 IR12
    obtain ⟨_, z0, z1, z2, z3, z4⟩ := id A13
    go_wp2_with fail
    refine (toEdit_any nx lg sq da nd cd f aa na ca Y w13 (hr.keep bw13) (hy.keep bw13) hd ha).mono ?_
    rintro e w14 ⟨g14, h14, rfl, E14, gl14, hb14⟩
    have OW14 := OW13.keep hb14
    have IR14 := IR13.keep hb14
    have bw14 := bw13.trans (hb14.mono bw13.size)
    clear hb14 A13 OW13 IR13 z0 z1 z2 z3 z4
    go_wp2_with fail
    refine (hI g14 _ _ _ w14 E14.irow gl14 (E14.drow hy.bd)).mono ?_
    rintro e w15 ⟨ho, hc, rfl, OH, hb15⟩
    have OW15 := OW14.keep hb15
    have IR15 := IR14.keep hb15
    have bw15 := bw14.trans (hb15.mono bw14.size)
    clear hb15 E14 OW14 IR14
    go_wp2_with fail
    refine (eqBV ho wo hc wc _ _ _ _ L w15 OH OW15 hL).mono ?_
    rintro e w16 ⟨rfl, hb16⟩
    have IR16 := IR15.keep hb16
    have bw16 := bw15.trans (hb16.mono bw15.size)
    clear hb16 OH OW15 IR15
    go_wp2_with fail
    refine (hhd w16 IR16).mono ?_
    rintro e w17 ⟨rfl, hb17⟩
    have bw17 := bw16.trans (hb17.mono bw16.size)
    clear hb17
    go_wp2
    go_ret
    exact ⟨rfl, bw17⟩
end Go.Proofs.Ytdcmclbbecnihaa
