/- The law of FnFilters, walked. -/
import Derived.Test.YtoccfmkciacomaaFx
namespace Go.Proofs.Ytoccfmkciacomaa
open Go.RowKit
set_option linter.unusedSimpArgs false
set_option linter.unusedVariables false

theorem ffl_back {f : Nat → Int} {B : List Int} (h : ∀ i, i < B.length → f i = fl B i) : ffl f B.length = B := by
  refine List.ext_getElem (by rw [ffl_len]) (fun i h1 h2 => ?_)
  have e1 : fl (ffl f B.length) i = f i := ffl_fl h2
  have e2 := h i h2
  simp only [fl, List.getD_eq_getElem?_getD, List.getElem?_eq_getElem h1, List.getElem?_eq_getElem h2, Option.getD_some] at e1 e2
  rw [e1, e2]
theorem rf_back {y : Int} {B : List Int} (hg : GoodF y B.length) : IsFl (B.length + 1) (fl (fbL y (fl B) B.length)) ∧ fl (fbL y (fl B) B.length) 0 = y ∧ ffl (fun i => fl (fbL y (fl B) B.length) (i + 1)) (B.length + 1 - 1) = B := by
  refine ⟨⟨by omega, ?_⟩, fbL_zero _ _ _, ?_⟩
  · rw [fbL_zero]; exact hg
  · rw [Nat.add_sub_cancel]
    exact ffl_back (fun i hi => fbL_succ _ _ _ _ hi)

set_option maxRecDepth 100000 in
set_option maxHeartbeats 4000000 in
theorem fnFilters_law (ao : Option Addr) (n cap : Nat) (f : Nat → Int) (w : World) (hr : Row w ao n f) (hmx : n ≤ maxLen) :
    Calls Try.prog 3 #[.slice ao n cap] w fun e w' => e = .returned (.bool true) ∧ Below w.heap.size w w' := by
  unfold maxLen at hmx
  by_cases hn : n ≤ 1048576
  rotate_left
  · have hng : (1048576 : Int) < (n : Int) := by omega
    go_enter Try.func3, Try.ntmps3
    go_wp2
    go_ret
    exact ⟨rfl, Below.refl _ _⟩
  have hng : ¬ (1048576 : Int) < (n : Int) := by omega
  go_enter Try.func3, Try.ntmps3
  go_wp2_with fail
  refine (drawFilterOf_any ao n cap f _ hr hn).mono ?_
  rintro e w1 ⟨L, va, vc, p, rfl, S1, hz, hl, b1⟩
  have r1 := S1.row.2
  obtain ⟨K, hK⟩ : ∃ K : Nat → ByteArray, K = fun i => L.getD i ⟨#[]⟩ := ⟨_, rfl⟩
  have hTz : TSz K L.length := ⟨by omega, fun i hi => by
    rw [hK]
    have := hz _ (List.getElem_mem hi)
    simp only [List.getD_eq_getElem?_getD, List.getElem?_eq_getElem hi, Option.getD_some]
    omega⟩
  rw [← hK] at r1
  clear hK S1 hz
  obtain ⟨m, hm⟩ : ∃ m, m = L.length := ⟨_, rfl⟩
  rw [← hm] at r1 hTz hl ⊢
  clear hm
  have HTz : Hid (TSz K m) := hTz
  clear hTz
  go_wp2_with fail
  refine (filterOf_impl va m vc K p _ r1 HTz.out).mono ?_
  rintro e w2 hF2
  have one : ∃ (y : Int) (B : List Int) (ok : Bool), (∀ W e W', FOO K m p W e W' → RO y B ok W e W') ∧ (ok = true → GoodF y B.length ∧ ∀ i, i < m → mhB y B.length (fl B) (K i) = true) := by
    by_cases hg : FOg m p
    · refine ⟨fwI p, ffl (kyF K (fwI p).toNat (fbI m p).toNat m) (fbI m p).toNat, true, fun _ _ _ h => h.1 hg, fun _ => ?_⟩
      rw [ffl_len]
      have h1 := fw_bd p
      have h2 := fb_bd m p
      exact ⟨⟨by omega, by omega, by omega⟩, fun i hi => fo_has K m p i hi⟩
    · exact ⟨0, [], false, fun _ _ _ h => h.2 hg, fun h => by cases h⟩
  obtain ⟨y, B, ok, hRO, hok⟩ := one
  have HRO : Hid (∀ W e W', FOO K m p W e W' → RO y B ok W e W') := hRO
  have HOK : Hid (ok = true → GoodF y B.length ∧ ∀ i, i < m → mhB y B.length (fl B) (K i) = true) := hok
  obtain ⟨ga, gc, rfl, V2, b2⟩ := hRO _ _ _ hF2
  clear hRO hok hF2
  have bn2 := below_new w2 (.cells #[.int .i64 y, .slice ga B.length gc] 27)
  have F2 := FAt.new w2 y (.slice ga B.length gc) 27
  have R2 := V2.row.keep bn2
  have bw2 : Below w.heap.size w (w2.alloc (.cells #[.int .i64 y, .slice ga B.length gc] 27)) := (b1.trans (b2.mono b1.size)).trans (bn2.mono (Nat.le_trans b1.size b2.size))
  have r2 := (r1.keep b2).keep bn2
  clear V2 b2 bn2 b1 r1
  go_wp2_with fail
  generalize w2.alloc (.cells #[.int .i64 y, .slice ga B.length gc] 27) = w3 at *
  obtain ⟨FB2, hFB2⟩ : ∃ q, q = w2.heap.size := ⟨_, rfl⟩
  rw [← hFB2] at F2 ⊢
  clear hFB2
  refine (filterOf_spec va m vc K p _ r2 HTz.out).mono ?_
  rintro e w4 hF4
  obtain ⟨ha, hc, rfl, V4, b4⟩ := HRO.out _ _ _ hF4
  clear HRO hF4
  have bn4 := below_new w4 (.cells #[.int .i64 y, .slice ha B.length hc] 27)
  have H4 := FAt.new w4 y (.slice ha B.length hc) 27
  have F4 := (F2.keep b4).keep bn4
  have R4 := (R2.keep b4).keep bn4
  have RH := V4.row.keep bn4
  have r4 := (r2.keep b4).keep bn4
  have bw4 : Below w.heap.size w (w4.alloc (.cells #[.int .i64 y, .slice ha B.length hc] 27)) := (bw2.trans (b4.mono bw2.size)).trans (bn4.mono (Nat.le_trans bw2.size b4.size))
  clear V4 b4 bn4 r2 R2 F2 bw2
  have cv2 := conv_row _ ga gc B R4
  have cv4 := conv_row _ ha hc B RH
  have hss := str_same (strOfNums B)
  have hok2 : (ok != ok) = false := by simp
  obtain ⟨_, f0, f1⟩ := id F4
  obtain ⟨_, h0, h1⟩ := id H4
  cases ok
  · generalize strOfNums B = sB at *
    go_wp2
    go_ret
    exact ⟨rfl, bw4⟩
  obtain ⟨hG, hM⟩ := HOK.out rfl
  have HG : Hid (GoodF y B.length) := hG
  have HM : Hid (∀ i, i < m → mhB y B.length (fl B) (K i) = true) := hM
  have hBl : B.length ≤ 200 := hG.2.2
  clear HOK hG hM
  generalize hsB : strOfNums B = sB at *
  have HsB : Hid (strOfNums B = sB) := hsB
  clear hsB
  go_wp2
  generalize w4.alloc (.cells #[.int .i64 y, .slice ha B.length hc] 27) = w5 at *
  clear cv2 cv4 f0 f1 h0 h1 RH H4
  go_loopw [58] (fun i wr => ∃ k : Nat, k ≤ m ∧ i = .int .i64 k ∧ Below w5.heap.size w5 wr) (fun i _ => m - (intOf i).toNat)
  case atStart => exact ⟨0, Nat.zero_le _, rfl, Below.refl _ _⟩
  case round =>
    obtain ⟨k, hk, rfl, hbk⟩ := hrel
    have Fk := F4.keep hbk
    have Rk := R4.keep hbk
    have rk := r4.keep hbk
    have bwk := bw4.trans (hbk.mono bw4.size)
    obtain ⟨_, f0, f1⟩ := id Fk
    by_cases hlt : k < m
    · obtain ⟨b, off, rfl, hblt, hcell⟩ := rk.lies.resolve_left (by omega)
      have ck := hcell k hlt
      have hq0 : (0 : Int) ≤ (k : Int) := by omega
      have hq1 : (k : Int) < (m : Int) := by omega
      have hmk := mayHave_impl y ga B.length gc (fl B) (K k) wr Rk (by omega) (HTz.out.2 k hlt)
      rw [HM.out k hlt] at hmk
      clear hcell Rk rk Fk
      go_wp2_with fail
      refine hmk.mono ?_
      rintro e w6 ⟨rfl, b6⟩
      have hb6 := hbk.trans (b6.mono hbk.size)
      clear hmk b6 hbk bwk f0 f1
      go_wp2
      go_roundw
      case rel => exact ⟨k + 1, by omega, by go_num, hb6⟩
      case measure => simp [intOf]; omega
    · have hkm : k = m := by omega
      subst hkm
      have hfb := filterBytes_implX y ga B.length gc (fl B) wr Rk (by omega) HG
      clear hbk
      go_wp2_with fail
      refine hfb.mono ?_
      rintro e w6 ⟨g6, rfl, O6, b6⟩
      have F6 := Fk.keep b6
      have R6 := Rk.keep b6
      have bw6 := bwk.trans (b6.mono bwk.size)
      clear hfb Fk Rk rk bwk b6 f0 f1
      obtain ⟨hIs, hz0, hbk⟩ := rf_back HG.out
      have hrf := readFilter_impl g6 (B.length + 1) (fl (fbL y (fl B) B.length)) w6 O6 (by omega)
      go_wp2_with fail
      refine hrf.mono ?_
      rintro e w7 hR7
      obtain ⟨ja, jc, rfl, V7, b7⟩ := hR7.1 hIs
      rw [hz0, hbk]
      rw [hbk] at V7
      have bn7 := below_new w7 (.cells #[.int .i64 y, .slice ja B.length jc] 27)
      have J7 := FAt.new w7 y (.slice ja B.length jc) 27
      have F7 := (F6.keep b7).keep bn7
      have R7 := (R6.keep b7).keep bn7
      have RJ := V7.row.keep bn7
      have bw7 : Below w.heap.size w (w7.alloc (.cells #[.int .i64 y, .slice ja B.length jc] 27)) := (bw6.trans (b7.mono bw6.size)).trans (bn7.mono (Nat.le_trans bw6.size b7.size))
      have cv6 := conv_row _ ga gc B R7
      have cv7 := conv_row _ ja jc B RJ
      rw [HsB.out] at cv6 cv7
      obtain ⟨_, f0, f1⟩ := id F7
      obtain ⟨_, j0, j1⟩ := id J7
      clear hR7 hIs hz0 hbk hrf O6 V7 bn7 b7 F6 R6 bw6
      go_wp2
      go_ret
      exact ⟨rfl, bw7⟩
end Go.Proofs.Ytoccfmkciacomaa
