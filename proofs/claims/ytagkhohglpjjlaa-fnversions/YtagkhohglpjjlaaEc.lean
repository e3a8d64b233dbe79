/- The bytes of an edit, walked in both texts. -/
import Derived.Test.YtagkhohglpjjlaaVf
namespace Go.Proofs.Ytagkhohglpjjlaa
open Go.RowKit
set_option linter.unusedSimpArgs false
set_option linter.unusedVariables false



set_option maxRecDepth 10000 in
set_option maxHeartbeats 4000000 in
theorem editBytes_yes (nx lg sq : Int) (da : Option Addr) (gd nd cd : Nat) (hda : NilOr da nd gd) (f : Nat → Int) (aa : Option Addr) (na ca : Nat) (Y : Nat → Adm) (w : World) (hr : IRow w da nd f) (hgd : nd ≠ 0 → da = some ⟨gd, 0, none⟩ → gd < w.heap.size) (hy : DRow w aa na Y) (hG : GoodEd nx lg sq nd f na Y) :
    Calls Try.prog 8 #[.agg #[.int .i64 nx, .int .i64 lg, .int .i64 sq, .slice da nd cd, .slice aa na ca]] w fun e w' => ∃ a c, e = .returned (.tuple #[.slice a (edB nx lg sq nd f na Y).length c, .bool true]) ∧ OwnL w' w.heap.size (.slice a (edB nx lg sq nd f na Y).length c) (edB nx lg sq nd f na Y) ∧ Below w.heap.size w w' := by
  have bn0 := below_new w (.cells #[.int .i64 nx, .int .i64 lg, .int .i64 sq, .slice da nd cd, .slice aa na ca] 29)
  have A0 := EX.new w nx lg sq (.slice da nd cd) (.slice aa na ca) 29
  obtain ⟨g1, g2, g3, ⟨g4, g5⟩, g6, g7⟩ := id hG
  have hnx : 1 ≤ nx ∧ nx ≤ 100000 := by simpa [fN, btw] using g1
  have hlg : 1 ≤ lg ∧ lg ≤ 100000 := by simpa [fN, btw] using g2
  have hsq : 0 ≤ sq ∧ sq ≤ 1000000000 := by simpa [isC, btw] using g3
  have HD0 : Hid (Nat0 (iL f nd)) := fun i hi => by
    rw [iL_len] at hi
    have := g5 i hi
    have h2 : 1 ≤ f i ∧ f i ≤ 100000 := by simpa [fN, btw] using this
    have e : fi (iL f nd) i = f i := by simp [fi, iL, hi]
    rw [e]; omega
  have HDA : Hid (nd ≠ 0 → da = some ⟨gd, 0, none⟩ → ∀ W, Below w.heap.size w W → NumAt W gd (iL f nd)) := fun h00 hde W hW => by
    refine ⟨Nat.lt_of_lt_of_le (hgd h00 hde) hW.size, fun i hi => ?_⟩
    rw [iL_len] at hi
    obtain ⟨b, off, e, hb, hc⟩ := hr.lies.resolve_left (by omega)
    rw [hde] at e
    injection e with e
    injection e with e1 e2 _
    subst e1 e2
    have e : fi (iL f nd) i = f i := by simp [fi, iL, hi]
    rw [e]
    have := (hW.cell (p := ⟨gd, 0 + i, none⟩) hb).trans (hc i hi)
    simpa using this
  have HGA : Hid (∀ i, i < na → ga (Y i) = true) := g7
  have hl1 := nsL_len [nx, lg, sq, (nd : Int)]
  have hl2 := nsL_len (iL f nd)
  have hl3 := nsL_len [(na : Int)]
  simp only [List.length_cons, List.length_nil, iL_len] at hl1 hl2 hl3
  have hiL := iL_len f nd
  have HED : Hid (edB nx lg sq nd f na Y = nsL [nx, lg, sq, (nd : Int)] ++ nsL (iL f nd) ++ nsL [(na : Int)] ++ adsB Y na) := rfl
  have hN4 : Nat0 [nx, lg, sq, (nd : Int)] := nat4 ⟨by omega, by omega⟩ ⟨by omega, by omega⟩ ⟨by omega, by omega⟩ ⟨by omega, by omega⟩
  have hN1 : Nat0 [(na : Int)] := nat1 ⟨by omega, by omega⟩
  have hgood := (goodEdit_any nx lg sq da nd cd f aa na ca Y _ (hr.keep bn0) (hy.keep bn0) (by omega) (by omega)).mono (R' := fun e w' => e = .returned (.bool true) ∧ Below (w.alloc (.cells #[.int .i64 nx, .int .i64 lg, .int .i64 sq, .slice da nd cd, .slice aa na ca] 29)).heap.size (w.alloc (.cells #[.int .i64 nx, .int .i64 lg, .int .i64 sq, .slice da nd cd, .slice aa na ca] 29)) w') (by
    rintro e w' ⟨b, rfl, h, hb⟩
    exact ⟨by rw [h.2 hG], hb⟩)
  clear hG g1 g2 g3 g5 g7
  generalize edB nx lg sq nd f na Y = ED at HED ⊢
  go_enter Try.func8, Try.ntmps8
  go_wp2_with fail
  generalize w.alloc (.cells #[.int .i64 nx, .int .i64 lg, .int .i64 sq, .slice da nd cd, .slice aa na ca] 29) = w0 at *
  refine hgood.mono ?_
  rintro e w1 ⟨rfl, hb1⟩
  have A1 := A0.keep hb1
  have bw1 := bn0.trans (hb1.mono bn0.size)
  clear hb1 A0 bn0 hgood
  obtain ⟨_, x0, x1, x2, x3, x4⟩ := id A1
  go_wp2_with fail
  have hcall := aNum w1.heap.size none 0 [] w1.heap.size 4 [nx, lg, sq, (nd : Int)] _ ((ownL_nil w1 w1.heap.size).keep (below_new w1 (.cells #[.int .i64 nx, .int .i64 lg, .int .i64 sq, .int .i64 (nd : Int)] 3))) (num4 w1 nx lg sq (nd : Int) 3) (by simp [Value.ownBlock]) hN4 (by simp) (by simp)
  have sA1 := A1.lt
  have hbs1 := bw1.size
  have bn1 := below_new w1 (.cells #[.int .i64 nx, .int .i64 lg, .int .i64 sq, .int .i64 (nd : Int)] 3)
  refine hcall.mono ?_
  rintro e w2 ⟨a2, c2, rfl, o2, b2, _⟩
  have d2 : Below w1.heap.size w1 w2 := bn1.trans b2
  have A2 := A1.keep d2
  have bw2 := bw1.trans (d2.mono hbs1)
  have HL2 : Hid ([] ++ nsL [nx, lg, sq, (nd : Int)] = nsL [nx, lg, sq, (nd : Int)]) := rfl
  have ll2 : ([] ++ nsL [nx, lg, sq, (nd : Int)]).length ≤ 40 := by rw [List.nil_append]; omega
  clear hcall b2 A1 bn1 x0 x1 x2 x3 x4
  generalize [] ++ nsL [nx, lg, sq, (nd : Int)] = L2 at *
  have hne2 : nd ≠ 0 → da = some ⟨gd, 0, none⟩ → (Value.slice a2 L2.length c2).ownBlock ≠ some gd := fun h00 hde e => by have := (o2.lt _ e).1; have := hgd h00 hde; omega
  have hcall := aNumD w1.heap.size a2 c2 L2 da gd nd cd f w2 hda o2 (fun h00 h => HDA.out h00 h w2 bw2) hne2 HD0.out (by omega) d2.size
  rw [hiL] at hcall
  obtain ⟨_, x0, x1, x2, x3, x4⟩ := id A2
  go_wp2_with fail
  refine hcall.mono ?_
  rintro e w3 ⟨a3, c3, rfl, o3, b3, _⟩
  have d3 : Below w1.heap.size w1 w3 := d2.trans b3
  have A3 := A2.same b3.size (b3.block _ sA1)
  have bw3 := bw2.trans (b3.mono hbs1)
  have HL3 : Hid (L2 ++ nsL (iL f nd) = nsL [nx, lg, sq, (nd : Int)] ++ nsL (iL f nd)) := by unfold Hid; rw [HL2.out]
  have ll3 : (L2 ++ nsL (iL f nd)).length ≤ 280 := by rw [List.length_append]; omega
  clear hcall b3 A2 x0 x1 x2 x3 x4 o2 HL2 hne2
  generalize L2 ++ nsL (iL f nd) = L3 at *
  obtain ⟨_, x0, x1, x2, x3, x4⟩ := id A3
  have hcall := aNum w1.heap.size a3 c3 L3 w3.heap.size 1 [(na : Int)] _ (o3.keep (below_new w3 (.cells #[.int .i64 (na : Int)] 3))) (num1 w3 (na : Int) 3) (own_new9 o3) hN1 (by simp; omega) (by have := d3.size; simp; omega)
  have bn3 := below_new w3 (.cells #[.int .i64 (na : Int)] 3)
  go_wp2_with fail
  refine hcall.mono ?_
  rintro e w4 ⟨a4, c4, rfl, o4, b4, _⟩
  have e4 : Below w1.heap.size w3 w4 := (bn3.mono d3.size).trans b4
  have d4 : Below w1.heap.size w1 w4 := d3.trans e4
  have A4 := A3.same (Nat.le_trans bn3.size b4.size) (e4.block _ sA1)
  have bw4 := bw3.trans (e4.mono hbs1)
  have HL4 : Hid (L3 ++ nsL [(na : Int)] = nsL [nx, lg, sq, (nd : Int)] ++ nsL (iL f nd) ++ nsL [(na : Int)]) := by unfold Hid; rw [HL3.out]
  have ll4 : (L3 ++ nsL [(na : Int)]).length ≤ 290 := by rw [List.length_append]; omega
  clear hcall b4 A3 x0 x1 x2 x3 x4 o3 HL3 e4 bn3
  generalize L3 ++ nsL [(na : Int)] = L4 at *
  obtain ⟨_, x0, x1, x2, x3, x4⟩ := id A4
  obtain ⟨_, hyl⟩ := hy
  have hs4 := d4.size
  have HAL : Hid (∀ k, k ≤ na → (adsB Y k).length ≤ 330 * k) := fun k hk => adsB_len Y k (fun i hi => HGA.out i (by omega))
  go_wp2
  go_loopw [4, 34] (fun v i wr => ∃ (k : Nat) (L : List Int) (a : Option Addr) (c : Nat), k ≤ na ∧ i = .int .i64 k ∧ v = .slice a L.length c ∧ Hid (L = L4 ++ adsB Y k) ∧ OwnL wr w1.heap.size (.slice a L.length c) L ∧ Below w1.heap.size w4 wr) (fun _ i _ => na - (intOf i).toNat)
  case atStart => exact ⟨0, L4, a4, c4, Nat.zero_le _, rfl, rfl, by simp [Hid, adsB], o4, Below.refl _ _⟩
  case round =>
    obtain ⟨k, L, a, c, hk, rfl, rfl, HL, oL, hbk⟩ := hrel
    have bwk := bw4.trans (hbk.mono hbs1)
    have hll : L.length ≤ 290 + 330 * k := by have := HAL.out k hk; rw [HL.out, List.length_append]; omega
    by_cases hlt : k < na
    rotate_left
    · obtain rfl : k = na := by omega
      have HE : Hid (L = ED) := by unfold Hid; rw [HL.out, HL4.out, HED.out]
      have oF := oL.mono hbs1
      clear HL hyl
      go_wp2
      refine bodyPost_ret (v := .tuple #[.slice a L.length c, .bool true]) (by simp [results, Try.results8, go_sem]) rfl ⟨a, c, by rw [← HE.out], by rw [← HE.out]; exact oF, bwk⟩
    obtain ⟨b, off, rfl, hblt, hc⟩ := hyl.resolve_left (by omega)
    have hyk := (hc k hlt).keep bwk
    obtain ⟨_, y0, y1, y2, y3, y4⟩ := id hyk
    have hgk := HGA.out k hlt
    have hgv : 0 ≤ (Y k).lv ∧ (Y k).lv ≤ 2 := by simp only [ga, Bool.and_eq_true] at hgk; simpa [btw] using hgk.1
    have hgm : gm (Y k).m = true := by simp only [ga, Bool.and_eq_true] at hgk; exact hgk.2
    have hgf := gm_file hgm
    have hgs : ((Y k).m.least.size ≤ 140 ∧ (Y k).m.most.size ≤ 140) ∧ 1 ≤ (Y k).m.many ∧ (Y k).m.many ≤ 100 := by
      simp only [gm, Bool.and_eq_true, kT, btw, decide_eq_true_eq] at hgm
      omega
    have HAB : Hid (adsB Y (k + 1) = adsB Y k ++ adB (Y k)) := rfl
    have bnk := below_new wr (.cells #[.int .i64 (Y k).lv, .int .i64 (Y k).m.file, .string (Y k).m.least, .string (Y k).m.most, .int .i64 (Y k).m.many] 54)
    have Dk := DAt.new wr (Y k) 54
    have ok := oL.keep bnk
    have hsk := Nat.le_trans hs4 hbk.size
    have hnb : (Value.slice a L.length c).ownBlock ≠ some wr.heap.size := own_new9 oL
    have hszk : wr.heap.size < (wr.alloc (.cells #[.int .i64 (Y k).lv, .int .i64 (Y k).m.file, .string (Y k).m.least, .string (Y k).m.most, .int .i64 (Y k).m.many] 54)).heap.size := by simp
    have hsz2 : (wr.alloc (.cells #[.int .i64 (Y k).lv, .int .i64 (Y k).m.file, .string (Y k).m.least, .string (Y k).m.most, .int .i64 (Y k).m.many] 54)).heap.size = wr.heap.size + 1 := by simp
    clear hc hyl hgk hgm
    obtain ⟨_, z0, z1, z2, z3, z4⟩ := id Dk
    have hnum := num3 (wr.alloc (.cells #[.int .i64 (Y k).lv, .int .i64 (Y k).m.file, .string (Y k).m.least, .string (Y k).m.most, .int .i64 (Y k).m.many] 54)) (Y k).lv (Y k).m.file (Y k).m.many 3
    rw [hsz2] at hnum
    have bnq := below_new (wr.alloc (.cells #[.int .i64 (Y k).lv, .int .i64 (Y k).m.file, .string (Y k).m.least, .string (Y k).m.most, .int .i64 (Y k).m.many] 54)) (.cells #[.int .i64 (Y k).lv, .int .i64 (Y k).m.file, .int .i64 (Y k).m.many] 3)
    have hcall := aNum w1.heap.size a c L (wr.heap.size + 1) 3 [(Y k).lv, (Y k).m.file, (Y k).m.many] _ (ok.keep bnq) hnum (fun e => by have := (oL.lt _ e).2; omega) (nat3 ⟨by omega, by omega⟩ ⟨by omega, by omega⟩ ⟨by omega, by omega⟩) (by simp; omega) (by simp; omega)
    have Dn := Dk.keep bnq
    have bnn := bnk.trans (bnq.mono bnk.size)
    have hszn : wr.heap.size < ((wr.alloc (.cells #[.int .i64 (Y k).lv, .int .i64 (Y k).m.file, .string (Y k).m.least, .string (Y k).m.most, .int .i64 (Y k).m.many] 54)).alloc (.cells #[.int .i64 (Y k).lv, .int .i64 (Y k).m.file, .int .i64 (Y k).m.many] 3)).heap.size := by simp; omega
    have HA1 : Hid (adB (Y k) = nsL [(Y k).lv, (Y k).m.file, (Y k).m.many] ++ txL (Y k).m.least ++ txL (Y k).m.most) := rfl
    have hln := nsL_len [(Y k).lv, (Y k).m.file, (Y k).m.many]
    simp only [List.length_cons, List.length_nil] at hln hcall
    generalize nsL [(Y k).lv, (Y k).m.file, (Y k).m.many] = N3 at *
    clear hnum bnk bnq hsz2 hszk ok Dk
    go_wp2_with fail
    generalize (wr.alloc (.cells #[.int .i64 (Y k).lv, .int .i64 (Y k).m.file, .string (Y k).m.least, .string (Y k).m.most, .int .i64 (Y k).m.many] 54)).alloc (.cells #[.int .i64 (Y k).lv, .int .i64 (Y k).m.file, .int .i64 (Y k).m.many] 3) = wn at *
    refine hcall.mono ?_
    rintro e w5 ⟨a5, c5, rfl, o5, b5, k5⟩
    have q5 := k5 wr.heap.size hszn hnb
    have D5 : DAt w5 wr.heap.size 0 (Y k) := Dn.move (Nat.lt_of_lt_of_le Dn.lt b5.size) (fun j => World.cell?_of_block (w := wn) (w' := w5) (a := ⟨wr.heap.size, j, none⟩) q5.1)
    have hnb5 := q5.2
    have d5 : Below w1.heap.size w4 w5 := hbk.trans ((bnn.mono hsk).trans b5)
    have hl5 : (L ++ N3).length ≤ 320 + 330 * k := by rw [List.length_append]; omega
    have HL5 : Hid (L ++ N3 = L4 ++ adsB Y k ++ N3) := by unfold Hid; rw [HL.out]
    have s5 : wr.heap.size < w5.heap.size := D5.lt
    clear hcall b5 k5 q5 Dn bnn hnb oL HL hszn z0 z1 z2 z3 z4
    generalize L ++ N3 = L5 at *
    obtain ⟨_, z0, z1, z2, z3, z4⟩ := id D5
    simp only [Nat.zero_add] at z0 z1 z2 z3 z4
    go_wp2_with fail
    refine (appendText_any w1.heap.size a5 c5 L5 (Y k).m.least w5 o5 (by omega) (by omega) (Nat.le_trans hs4 d5.size)).mono ?_
    rintro e w6 ⟨a6, c6, rfl, o6, b6, k6⟩
    have q6 := k6 wr.heap.size s5 hnb5
    have D6 : DAt w6 wr.heap.size 0 (Y k) := D5.move (Nat.lt_of_lt_of_le D5.lt b6.size) (fun j => World.cell?_of_block (w := w5) (w' := w6) (a := ⟨wr.heap.size, j, none⟩) q6.1)
    have d6 : Below w1.heap.size w4 w6 := d5.trans b6
    have ht6 := txL_len (Y k).m.least
    have hl6 : (L5 ++ txL (Y k).m.least).length ≤ 470 + 330 * k := by rw [List.length_append]; omega
    have HL6 : Hid (L5 ++ txL (Y k).m.least = L4 ++ adsB Y k ++ N3 ++ txL (Y k).m.least) := by unfold Hid; rw [HL5.out]
    clear b6 k6 q6 D5 hnb5 o5 HL5 z0 z1 z2 z3 z4
    generalize L5 ++ txL (Y k).m.least = L6 at *
    obtain ⟨_, z0, z1, z2, z3, z4⟩ := id D6
    simp only [Nat.zero_add] at z0 z1 z2 z3 z4
    go_wp2_with fail
    refine (appendText_any w1.heap.size a6 c6 L6 (Y k).m.most w6 o6 (by omega) (by omega) (Nat.le_trans hs4 d6.size)).mono ?_
    rintro e w7 ⟨a7, c7, rfl, o7, b7, _⟩
    have d7 : Below w1.heap.size w4 w7 := d6.trans b7
    have HL7 : Hid (L6 ++ txL (Y k).m.most = L4 ++ adsB Y (k + 1)) := by
      unfold Hid
      rw [HL6.out, HAB.out, HA1.out]
      simp only [List.append_assoc]
    clear b7 D6 o6 HL6 HA1 HAB z0 z1 z2 z3 z4
    generalize L6 ++ txL (Y k).m.most = L7 at *
    go_wp2
    go_roundw
    case rel => exact ⟨k + 1, L7, a7, c7, by omega, by go_num, rfl, HL7, o7, d7⟩
    case measure => simp [intOf]; omega
end Go.Proofs.Ytagkhohglpjjlaa
