/- Two parts merged where the second is one alone. -/
import Derived.Test.YtjdijikmdlklkaaYa
namespace Go.Proofs.Ytjdijikmdlklkaa
open Go.RowKit
set_option linter.unusedSimpArgs false
set_option linter.unusedVariables false

set_option maxRecDepth 100000 in
set_option maxHeartbeats 16000000 in
theorem merge2_any (B n cap : Nat) (C : Nat → Nat → Value) (R : Nat → Nat → Prop) (G : World → Prop) (hR : TOrd R) (hC : CmpOk B C R G) (h1 : ∀ v j, j < 10 → (C v j).oneCell' = true) (hn : n ≤ 1000) (hcap : n ≤ cap) (x : Nat → Nat) (a m b : Nat) (w : World) (h : AR w B n C x) (hG : G w) (ham : a + 1 < m) (hm : b = m + 1) (hb : b ≤ n) (hU : UpR R x a m) (hA : Apt x a m (m + 1)) :
    Calls Try.prog 53 #[.slice (some ⟨B, 0, none⟩) n cap, .int .i64 a, .int .i64 m, .int .i64 b, .func (.func 19) #[] #[]] w fun e w' => MgO B n C R x a b w e w' := by
  obtain ⟨d, hd⟩ : ∃ d, m - a = d := ⟨_, rfl⟩
  have hw0 : IntKind.i64.wrap ((m : Int) - (a : Int)) = (d : Int) := by rw [IntKind.wrap_i64] <;> omega
  have hd1 : ((d : Int) == 1) = false := by simp; omega
  have hw1 : IntKind.i64.wrap ((b : Int) - (m : Int)) = 1 := by rw [IntKind.wrap_i64] <;> omega
  have hmn : m < n := by omega
  have hmi : (m : Int) < (n : Int) := by omega
  clear hd
  obtain ⟨hK, hcmp⟩ := hC
  have hM0 : Hid (b = m + 1) := hm
  clear hm
  go_enter Try.func53, Try.ntmps53
  go_wp2
  clear hw0 hd1 hw1
  go_loopw [14, 15] (fun u v wr => ∃ i j : Nat, u = .int .i64 (i : Int) ∧ v = .int .i64 (j : Int) ∧ a ≤ i ∧ i ≤ j ∧ j ≤ m ∧ Hid (∀ g, a ≤ g → g < i → R (x g) (x m)) ∧ Hid (∀ g, j ≤ g → g < m → R (x m) (x g)) ∧ AR wr B n C x ∧ G wr ∧ WrB B w wr) (fun u v _ => (intOf v).toNat - (intOf u).toNat)
  case atStart => exact ⟨a, m, rfl, rfl, Nat.le_refl _, by omega, Nat.le_refl _, fun g g1 g2 => by omega, fun g g1 g2 => by omega, h, hG, WrB.refl _ _⟩
  case round =>
    obtain ⟨i, j, rfl, rfl, hi, hij, hjb, HL, HG, hAr, hGr, hw⟩ := hrel
    by_cases hlt : i < j
    · obtain ⟨g, hg⟩ : ∃ g, g = (i + j) / 2 := ⟨_, rfl⟩
      obtain ⟨t, ht⟩ : ∃ t, t = i + j := ⟨_, rfl⟩
      have hg1 : i ≤ g ∧ g < j := by omega
      have hwt : IntKind.i64.wrap ((i : Int) + (j : Int)) = (t : Int) := by rw [IntKind.wrap_i64] <;> omega
      have hwu : IntKind.u64.wrap (t : Int) = (t : Int) := by rw [IntKind.wrap_u64] <;> omega
      have hsh : (t : Int) / 2 = (g : Int) := by omega
      have hsh2 : ((i : Int) + (j : Int)) / 2 = (g : Int) := by omega
      have hwg : IntKind.i64.wrap (g : Int) = (g : Int) := by rw [IntKind.wrap_i64] <;> omega
      have hgn : g < n := by omega
      have hgi : (g : Int) < (n : Int) := by omega
      have hxlt : x g < x m := hA g m (by omega) (by omega) (Nat.le_refl _) (by omega)
      have HI : Hid (¬ R (x m) (x g) → ∀ q, a ≤ q → q < g + 1 → R (x q) (x m)) := fun hr q q1 q2 => by
        have h0 := hR.not hr (Nat.ne_of_gt hxlt)
        by_cases e : q = g
        · rw [e]; exact h0
        · exact hR.tr _ _ _ (hU q g q1 (by omega) (by omega)) h0
      have HJ : Hid (R (x m) (x g) → ∀ q, g ≤ q → q < m → R (x m) (x q)) := fun hr q q1 q2 => by
        by_cases e : q = g
        · rw [e]; exact hr
        · exact hR.tr _ _ _ hr (hU g q (by omega) (by omega) q2)
      have HM : Hid (i ≤ g ∧ g < j ∧ j ≤ m ∧ a ≤ i) := ⟨hg1.1, hg1.2, hjb, hi⟩
      have hAd := hAr.keep ((Below.refl wr.heap.size wr).drew)
      have hGd := hK _ _ hGr (WrB.refl B wr).drew
      have hL1 : Lie10 wr.drew B (m * 10) (C (x m)) := hAd.at' m hmn
      have hL2 : Lie10 wr.drew B (g * 10) (C (x g)) := hAd.at' g hgn
      clear hg ht hU hA hg1
      go_upto_region 17 with fail
      go_cut [103] from 83 to 106 (fun s103 wx => ∃ B0 : Bool, s103 = .bool B0 ∧ Hid (B0 = true ↔ ¬ R (x m) (x g)) ∧ AR wx B n C x ∧ G wx ∧ WrB B w wx)
      case first =>
        refine wp_region_w (fun w' : World => Lie10 w' B (m * 10) (C (x m)) ∧ Lie10 w' B (g * 10) (C (x g))) (fun _ => true) (by kernel_rfl) ?_
        change wpW _ _ _ _ _ _ 12 _ _ wr.drew
        have hS0 : (fun w' : World => Lie10 w' B (m * 10) (C (x m)) ∧ Lie10 w' B (g * 10) (C (x g))) wr.drew := ⟨hL1, hL2⟩
        refine wpW_take 0 _ (.func (.func 19) #[] #[]) rfl (by kernel_rfl) (by kernel_rfl) (by kernel_rfl) (fun _ _ _ h => h) (by kernel_rfl) (.inl ⟨rfl, fun w' hS' => by go_simp⟩) hS0 ?_
        simp only [Act.put, List.getElem_toArray, List.getElem_cons_succ, List.getElem_cons_zero, List.setIfInBounds_toArray, List.set_cons_zero, List.set_cons_succ]
        refine wpW_take 1 _ (.slice (some ⟨B, 0, none⟩) n cap) rfl (by kernel_rfl) (by kernel_rfl) (by kernel_rfl) (fun _ _ _ h => h) (by kernel_rfl) (.inl ⟨rfl, fun w' hS' => by go_simp⟩) hS0 ?_
        simp only [Act.put, List.getElem_toArray, List.getElem_cons_succ, List.getElem_cons_zero, List.setIfInBounds_toArray, List.set_cons_zero, List.set_cons_succ]
        refine wpW_take 2 _ (.int .i64 m) rfl (by kernel_rfl) (by kernel_rfl) (by kernel_rfl) (fun _ _ _ h => h) (by kernel_rfl) (.inl ⟨rfl, fun w' hS' => by go_simp⟩) hS0 ?_
        simp only [Act.put, List.getElem_toArray, List.getElem_cons_succ, List.getElem_cons_zero, List.setIfInBounds_toArray, List.set_cons_zero, List.set_cons_succ]
        refine wpW_take 3 _ (.pointer (some ⟨B, m * 10, none⟩)) rfl (by kernel_rfl) (by kernel_rfl) (by kernel_rfl) (fun _ _ _ h => h) (by kernel_rfl) (.inl ⟨rfl, fun w' hS' => by go_simp⟩) hS0 ?_
        simp only [Act.put, List.getElem_toArray, List.getElem_cons_succ, List.getElem_cons_zero, List.setIfInBounds_toArray, List.set_cons_zero, List.set_cons_succ]
        refine wpW_take 4 _ (tv (C (x m))) rfl (by kernel_rfl) (by kernel_rfl) (by kernel_rfl) (fun _ _ _ h => h) (by kernel_rfl) (.inl ⟨rfl, fun w' hS' => by exact ldT 95 rfl rfl hS'.1⟩) hS0 ?_
        simp only [Act.put, List.getElem_toArray, List.getElem_cons_succ, List.getElem_cons_zero, List.setIfInBounds_toArray, List.set_cons_zero, List.set_cons_succ]
        refine wpW_take 5 _ (.slice (some ⟨B, 0, none⟩) n cap) rfl (by kernel_rfl) (by kernel_rfl) (by kernel_rfl) (fun _ _ _ h => h) (by kernel_rfl) (.inl ⟨rfl, fun w' hS' => by go_simp⟩) hS0 ?_
        simp only [Act.put, List.getElem_toArray, List.getElem_cons_succ, List.getElem_cons_zero, List.setIfInBounds_toArray, List.set_cons_zero, List.set_cons_succ]
        refine wpW_take 6 _ (.int .i64 g) rfl (by kernel_rfl) (by kernel_rfl) (by kernel_rfl) (fun _ _ _ h => h) (by kernel_rfl) (.inl ⟨rfl, fun w' hS' => by go_simp⟩) hS0 ?_
        simp only [Act.put, List.getElem_toArray, List.getElem_cons_succ, List.getElem_cons_zero, List.setIfInBounds_toArray, List.set_cons_zero, List.set_cons_succ]
        refine wpW_take 7 _ (.pointer (some ⟨B, g * 10, none⟩)) rfl (by kernel_rfl) (by kernel_rfl) (by kernel_rfl) (fun _ _ _ h => h) (by kernel_rfl) (.inl ⟨rfl, fun w' hS' => by go_simp⟩) hS0 ?_
        simp only [Act.put, List.getElem_toArray, List.getElem_cons_succ, List.getElem_cons_zero, List.setIfInBounds_toArray, List.set_cons_zero, List.set_cons_succ]
        refine wpW_take 8 _ (tv (C (x g))) rfl (by kernel_rfl) (by kernel_rfl) (by kernel_rfl) (fun _ _ _ h => h) (by kernel_rfl) (.inl ⟨rfl, fun w' hS' => by exact ldT 99 rfl rfl hS'.2⟩) hS0 ?_
        simp only [Act.put, List.getElem_toArray, List.getElem_cons_succ, List.getElem_cons_zero, List.setIfInBounds_toArray, List.set_cons_zero, List.set_cons_succ]
        refine wpW_one 9 _ rfl (by kernel_rfl) (step_wanted rfl (op_call 19 #[tv (C (x m)), tv (C (x g))] _ (by go_simp) (hcmp _ _ _ hGd hxlt) ?_))
        rintro e w6 ⟨c, rfl, hc, q6⟩
        have hL1' := (hL1.keep q6)
        have hL2' := (hL2.keep q6)
        have hS6 : (fun w' : World => Lie10 w' B (m * 10) (C (x m)) ∧ Lie10 w' B (g * 10) (C (x g))) w6 := ⟨hL1', hL2'⟩
        refine ⟨_, rfl, fun _ => hS6, ?_⟩
        simp only [Act.put, List.getElem_toArray, List.getElem_cons_succ, List.getElem_cons_zero, List.setIfInBounds_toArray, List.set_cons_zero, List.set_cons_succ]
        refine wpW_take 10 _ (.bool (decide (c < 0))) rfl (by kernel_rfl) (by kernel_rfl) (by kernel_rfl) (fun _ _ _ h => h) (by kernel_rfl) (.inl ⟨rfl, fun w' hS' => by go_simp⟩) hS6 ?_
        simp only [Act.put, List.getElem_toArray, List.getElem_cons_succ, List.getElem_cons_zero, List.setIfInBounds_toArray, List.set_cons_zero, List.set_cons_succ]
        refine wpW_take 11 _ (.bool (!decide (c < 0))) rfl (by kernel_rfl) (by kernel_rfl) (by kernel_rfl) (fun _ _ _ h => h) (by kernel_rfl) (.inl ⟨rfl, fun w' hS' => by go_simp⟩) hS6 ?_
        simp only [Act.put, List.getElem_toArray, List.getElem_cons_succ, List.getElem_cons_zero, List.setIfInBounds_toArray, List.set_cons_zero, List.set_cons_succ]
        refine wpW_done (by kernel_rfl) ?_
        try simp only [Act.put, List.getElem_toArray, List.getElem_cons_succ, List.getElem_cons_zero, List.setIfInBounds_toArray, List.set_cons_zero, List.set_cons_succ]
        go_wp2_with fail
        go_meet
        case rel => exact ⟨_, rfl, by unfold Hid; rw [← hc]; simp, hAd.keep q6, hK _ _ hGd (WrB.of_below q6), (hw.trans (WrB.refl B wr).drew).trans (WrB.of_below q6)⟩
      case rest =>
        obtain ⟨B0, rfl, hc, hA3, hG3, hw3⟩ := hcut
        clear hAr hGr hw hAd hGd hL1 hL2
        cases B0
        · have HJh : Hid (∀ q, g ≤ q → q < m → R (x m) (x q)) := HJ.out (Classical.not_not.1 fun h => by have := hc.out.2 h; cases this)
          clear HI HJ hc
          go_wp2
          go_roundw
          case rel => exact ⟨i, g, rfl, rfl, hi, by have := HM.out; omega, by have := HM.out; omega, HL, HJh, hA3, hG3, hw3⟩
          case measure => have := HM.out; simp [intOf]; omega
        · have HIh : Hid (∀ q, a ≤ q → q < g + 1 → R (x q) (x m)) := HI.out (hc.out.1 rfl)
          have hwg1 : IntKind.i64.wrap ((g : Int) + 1) = ((g + 1 : Nat) : Int) := by rw [IntKind.wrap_i64] <;> omega
          clear HI HJ hc
          go_wp2
          go_roundw
          case rel => exact ⟨g + 1, j, rfl, rfl, by have := HM.out; omega, by have := HM.out; omega, hjb, HIh, HG, hA3, hG3, hw3⟩
          case measure => have := HM.out; simp [intOf]; omega
    · obtain rfl : i = j := by omega
      have HU : Hid (UpR R (rot x i m (m + 1)) a b ∧ SSet x (rot x i m (m + 1)) a b) := by rw [hM0.out]; exact ⟨up_last hR hi hjb hU HL.out HG.out, (rot_set x hjb (by omega)).wide hi (Nat.le_refl _)⟩
      have H0 : AR wr B n C (rot x m m (m + 1)) := by rw [rot_none2 x m (m + 1)]; exact hAr
      have him : i ≤ m := hjb
      rename_i wq
      have hw0 := hw
      clear HL HG hU hA hAr hGr h hG hcmp hK hij hjb hi hlt hw
      go_wp2
      go_loopw [17] (fun u wr => ∃ k : Nat, u = .int .i64 (k : Int) ∧ i ≤ k ∧ k ≤ m ∧ AR wr B n C (rot x k m (m + 1)) ∧ WrB B w wr) (fun u _ => (intOf u).toNat)
      case atStart => exact ⟨m, rfl, him, Nat.le_refl _, H0, hw0⟩
      case round =>
        clear H0 hw0
        obtain ⟨p, rfl, hap, hpi, hA, hw⟩ := hrel
        by_cases hlt : i < p
        · obtain ⟨q, hq⟩ : ∃ q, p - 1 = q := ⟨_, rfl⟩
          have hwq : IntKind.i64.wrap ((p : Int) - 1) = (q : Int) := by rw [IntKind.wrap_i64] <;> omega
          have hpn : p < n := by omega
          have hqn : q < n := by omega
          have hpi2 : (p : Int) < (n : Int) := by omega
          have hqi2 : (q : Int) < (n : Int) := by omega
          have hpq : p ≠ q := by omega
          have HS : Hid (sw1 (rot x p m (m + 1)) p q = rot x q m (m + 1)) := by unfold Hid; rw [← hq]; exact rot_last x (by omega) hpi
          have HQ : Hid (q + 1 = p) := by unfold Hid; omega
          obtain ⟨y, hy⟩ : ∃ y, rot x p m (m + 1) = y := ⟨_, rfl⟩
          rw [hy] at hA HS
          clear hy hq
          have hA' := hA.keep ((Below.refl wr.heap.size wr).drew)
          have hA1 : Lie10 wr.drew B (q * 10) (C (y q)) := hA'.at' q hqn
          have hA2 : Lie10 wr.drew B (p * 10) (C (y p)) := hA'.at' p hpn
          have hF1 : ∀ i, i < 10 → wr.drew.frozen? ⟨B, p * 10 + i, none⟩ = false := fun i hi => hA'.fz _ (by omega)
          have hP1 : Lie10 wr.drew B (p * 10) (C (y p)) := hA2
          have hAp := hA'.put (v := y q) hpn
          have hP2 := hAp.at' q hqn
          have hF2 : ∀ i, i < 10 → (lay10 wr.drew B (p * 10) (C (y q))).frozen? ⟨B, q * 10 + i, none⟩ = false := fun i hi => hAp.fz _ (by omega)
          obtain ⟨hsw1, hsw2⟩ := hA'.swap hpn hqn hpq
          have HW : AR (lay10 (lay10 wr.drew B (p * 10) (C (y q))) B (q * 10) (C (y p))) B n C (rot x q m (m + 1)) ∧ WrB B w (lay10 (lay10 wr.drew B (p * 10) (C (y q))) B (q * 10) (C (y p))) := ⟨hsw1.eqx HS.out, (hw.trans (WrB.refl B wr).drew).trans hsw2⟩
          clear hsw1 hsw2 HS hAp
          go_upto_block 7 with fail
          go_cut [] from 108 to 128 (fun wx => AR wx B n C (rot x q m (m + 1)) ∧ WrB B w wx)
          case first =>
            go_upto_region 23 with fail
            refine wp_region_w (fun _ : World => True) (fun _ => true) (by kernel_rfl) ?_
            change wpW _ _ _ _ _ _ 18 _ _ wr.drew
            have hS0 : (fun _ : World => True) wr.drew := trivial
            refine wpW_take 0 _ (.slice (some ⟨B, 0, none⟩) n cap) rfl (by kernel_rfl) (by kernel_rfl) (by kernel_rfl) (fun _ _ _ h => h) (by kernel_rfl) (.inl ⟨rfl, fun w' hS' => by go_simp⟩) hS0 ?_
            simp only [Act.put, List.getElem_toArray, List.getElem_cons_succ, List.getElem_cons_zero, List.setIfInBounds_toArray, List.set_cons_zero, List.set_cons_succ]
            refine wpW_take 1 _ (.int .i64 p) rfl (by kernel_rfl) (by kernel_rfl) (by kernel_rfl) (fun _ _ _ h => h) (by kernel_rfl) (.inl ⟨rfl, fun w' hS' => by go_simp⟩) hS0 ?_
            simp only [Act.put, List.getElem_toArray, List.getElem_cons_succ, List.getElem_cons_zero, List.setIfInBounds_toArray, List.set_cons_zero, List.set_cons_succ]
            refine wpW_take 2 _ (.slice (some ⟨B, 0, none⟩) n cap) rfl (by kernel_rfl) (by kernel_rfl) (by kernel_rfl) (fun _ _ _ h => h) (by kernel_rfl) (.inl ⟨rfl, fun w' hS' => by go_simp⟩) hS0 ?_
            simp only [Act.put, List.getElem_toArray, List.getElem_cons_succ, List.getElem_cons_zero, List.setIfInBounds_toArray, List.set_cons_zero, List.set_cons_succ]
            refine wpW_take 3 _ (.int .i64 p) rfl (by kernel_rfl) (by kernel_rfl) (by kernel_rfl) (fun _ _ _ h => h) (by kernel_rfl) (.inl ⟨rfl, fun w' hS' => by go_simp⟩) hS0 ?_
            simp only [Act.put, List.getElem_toArray, List.getElem_cons_succ, List.getElem_cons_zero, List.setIfInBounds_toArray, List.set_cons_zero, List.set_cons_succ]
            refine wpW_take 4 _ (.int .i64 q) rfl (by kernel_rfl) (by kernel_rfl) (by kernel_rfl) (fun _ _ _ h => h) (by kernel_rfl) (.inl ⟨rfl, fun w' hS' => by go_simp⟩) hS0 ?_
            simp only [Act.put, List.getElem_toArray, List.getElem_cons_succ, List.getElem_cons_zero, List.setIfInBounds_toArray, List.set_cons_zero, List.set_cons_succ]
            refine wpW_take 5 _ (.slice (some ⟨B, 0, none⟩) n cap) rfl (by kernel_rfl) (by kernel_rfl) (by kernel_rfl) (fun _ _ _ h => h) (by kernel_rfl) (.inl ⟨rfl, fun w' hS' => by go_simp⟩) hS0 ?_
            simp only [Act.put, List.getElem_toArray, List.getElem_cons_succ, List.getElem_cons_zero, List.setIfInBounds_toArray, List.set_cons_zero, List.set_cons_succ]
            refine wpW_take 6 _ (.int .i64 p) rfl (by kernel_rfl) (by kernel_rfl) (by kernel_rfl) (fun _ _ _ h => h) (by kernel_rfl) (.inl ⟨rfl, fun w' hS' => by go_simp⟩) hS0 ?_
            simp only [Act.put, List.getElem_toArray, List.getElem_cons_succ, List.getElem_cons_zero, List.setIfInBounds_toArray, List.set_cons_zero, List.set_cons_succ]
            refine wpW_take 7 _ (.int .i64 q) rfl (by kernel_rfl) (by kernel_rfl) (by kernel_rfl) (fun _ _ _ h => h) (by kernel_rfl) (.inl ⟨rfl, fun w' hS' => by go_simp⟩) hS0 ?_
            simp only [Act.put, List.getElem_toArray, List.getElem_cons_succ, List.getElem_cons_zero, List.setIfInBounds_toArray, List.set_cons_zero, List.set_cons_succ]
            refine wpW_take 8 _ (.pointer (some ⟨B, q * 10, none⟩)) rfl (by kernel_rfl) (by kernel_rfl) (by kernel_rfl) (fun _ _ _ h => h) (by kernel_rfl) (.inl ⟨rfl, fun w' hS' => by go_simp⟩) hS0 ?_
            simp only [Act.put, List.getElem_toArray, List.getElem_cons_succ, List.getElem_cons_zero, List.setIfInBounds_toArray, List.set_cons_zero, List.set_cons_succ]
            refine wpW_take 10 _ (.slice (some ⟨B, 0, none⟩) n cap) rfl (by kernel_rfl) (by kernel_rfl) (by kernel_rfl) (fun _ _ _ h => h) (by kernel_rfl) (.inl ⟨rfl, fun w' hS' => by go_simp⟩) hS0 ?_
            simp only [Act.put, List.getElem_toArray, List.getElem_cons_succ, List.getElem_cons_zero, List.setIfInBounds_toArray, List.set_cons_zero, List.set_cons_succ]
            refine wpW_take 11 _ (.int .i64 p) rfl (by kernel_rfl) (by kernel_rfl) (by kernel_rfl) (fun _ _ _ h => h) (by kernel_rfl) (.inl ⟨rfl, fun w' hS' => by go_simp⟩) hS0 ?_
            simp only [Act.put, List.getElem_toArray, List.getElem_cons_succ, List.getElem_cons_zero, List.setIfInBounds_toArray, List.set_cons_zero, List.set_cons_succ]
            refine wpW_take 12 _ (.pointer (some ⟨B, p * 10, none⟩)) rfl (by kernel_rfl) (by kernel_rfl) (by kernel_rfl) (fun _ _ _ h => h) (by kernel_rfl) (.inl ⟨rfl, fun w' hS' => by go_simp⟩) hS0 ?_
            simp only [Act.put, List.getElem_toArray, List.getElem_cons_succ, List.getElem_cons_zero, List.setIfInBounds_toArray, List.set_cons_zero, List.set_cons_succ]
            refine wpW_two 9 13 _ _ rfl rfl (by kernel_rfl) ?_ ?_
            · skip
              refine (step_val rfl (tv (C (y q))) (ldT 121 rfl rfl hA1) ?_)
              refine ⟨fun _ => trivial, ?_⟩
              simp only [Act.put, List.getElem_toArray, List.getElem_cons_succ, List.getElem_cons_zero, List.setIfInBounds_toArray, List.set_cons_zero, List.set_cons_succ]
              refine wpW_one 13 _ rfl (by kernel_rfl) (step_val rfl (tv (C (y p))) (ldT 125 rfl rfl hA2) ?_)
              refine ⟨fun _ => trivial, ?_⟩
              simp only [Act.put, List.getElem_toArray, List.getElem_cons_succ, List.getElem_cons_zero, List.setIfInBounds_toArray, List.set_cons_zero, List.set_cons_succ]
              refine wpW_take 14 _ (.pointer (some ⟨B, p * 10, none⟩)) rfl (by kernel_rfl) (by kernel_rfl) (by kernel_rfl) (fun _ _ _ h => h) (by kernel_rfl) (.inl ⟨rfl, fun w' hS' => by go_simp⟩) hS0 ?_
              simp only [Act.put, List.getElem_toArray, List.getElem_cons_succ, List.getElem_cons_zero, List.setIfInBounds_toArray, List.set_cons_zero, List.set_cons_succ]
              -- the second address
              refine wpW_one 15 _ rfl (by kernel_rfl) (step_storeT (q := p * 10) (c := C (y q)) rfl 127 122 rfl (by simp [Act.eval, Act.put]) (by simp [Act.eval, Act.put]) hP1 hF1 (h1 _) ?_)
              refine ⟨fun _ => trivial, ?_⟩
              simp only [Act.put, List.getElem_toArray, List.getElem_cons_succ, List.getElem_cons_zero, List.setIfInBounds_toArray, List.set_cons_zero, List.set_cons_succ]
              refine wpW_take 16 _ (.pointer (some ⟨B, q * 10, none⟩)) rfl (by kernel_rfl) (by kernel_rfl) (by kernel_rfl) (fun _ _ _ h => h) (by kernel_rfl) (.inl ⟨rfl, fun w' hS' => by go_simp⟩) hS0 ?_
              simp only [Act.put, List.getElem_toArray, List.getElem_cons_succ, List.getElem_cons_zero, List.setIfInBounds_toArray, List.set_cons_zero, List.set_cons_succ]
              refine wpW_one 17 _ rfl (by kernel_rfl) (step_storeT (q := q * 10) (c := C (y p)) rfl 128 126 rfl (by simp [Act.eval, Act.put]) (by simp [Act.eval, Act.put]) hP2 hF2 (h1 _) ?_)
              refine ⟨fun _ => trivial, ?_⟩
              simp only [Act.put, List.getElem_toArray, List.getElem_cons_succ, List.getElem_cons_zero, List.setIfInBounds_toArray, List.set_cons_zero, List.set_cons_succ]
              refine wpW_done (by kernel_rfl) ?_
              try simp only [Act.put, List.getElem_toArray, List.getElem_cons_succ, List.getElem_cons_zero, List.setIfInBounds_toArray, List.set_cons_zero, List.set_cons_succ]
              go_wp2_with fail
              go_meet
              case rel => exact HW
            · skip
              refine (step_val rfl (tv (C (y p))) (ldT 125 rfl rfl hA2) ?_)
              refine ⟨fun _ => trivial, ?_⟩
              simp only [Act.put, List.getElem_toArray, List.getElem_cons_succ, List.getElem_cons_zero, List.setIfInBounds_toArray, List.set_cons_zero, List.set_cons_succ]
              refine wpW_one 9 _ rfl (by kernel_rfl) (step_val rfl (tv (C (y q))) (ldT 121 rfl rfl hA1) ?_)
              refine ⟨fun _ => trivial, ?_⟩
              simp only [Act.put, List.getElem_toArray, List.getElem_cons_succ, List.getElem_cons_zero, List.setIfInBounds_toArray, List.set_cons_zero, List.set_cons_succ]
              refine wpW_take 14 _ (.pointer (some ⟨B, p * 10, none⟩)) rfl (by kernel_rfl) (by kernel_rfl) (by kernel_rfl) (fun _ _ _ h => h) (by kernel_rfl) (.inl ⟨rfl, fun w' hS' => by go_simp⟩) hS0 ?_
              simp only [Act.put, List.getElem_toArray, List.getElem_cons_succ, List.getElem_cons_zero, List.setIfInBounds_toArray, List.set_cons_zero, List.set_cons_succ]
              -- the second address
              refine wpW_one 15 _ rfl (by kernel_rfl) (step_storeT (q := p * 10) (c := C (y q)) rfl 127 122 rfl (by simp [Act.eval, Act.put]) (by simp [Act.eval, Act.put]) hP1 hF1 (h1 _) ?_)
              refine ⟨fun _ => trivial, ?_⟩
              simp only [Act.put, List.getElem_toArray, List.getElem_cons_succ, List.getElem_cons_zero, List.setIfInBounds_toArray, List.set_cons_zero, List.set_cons_succ]
              refine wpW_take 16 _ (.pointer (some ⟨B, q * 10, none⟩)) rfl (by kernel_rfl) (by kernel_rfl) (by kernel_rfl) (fun _ _ _ h => h) (by kernel_rfl) (.inl ⟨rfl, fun w' hS' => by go_simp⟩) hS0 ?_
              simp only [Act.put, List.getElem_toArray, List.getElem_cons_succ, List.getElem_cons_zero, List.setIfInBounds_toArray, List.set_cons_zero, List.set_cons_succ]
              refine wpW_one 17 _ rfl (by kernel_rfl) (step_storeT (q := q * 10) (c := C (y p)) rfl 128 126 rfl (by simp [Act.eval, Act.put]) (by simp [Act.eval, Act.put]) hP2 hF2 (h1 _) ?_)
              refine ⟨fun _ => trivial, ?_⟩
              simp only [Act.put, List.getElem_toArray, List.getElem_cons_succ, List.getElem_cons_zero, List.setIfInBounds_toArray, List.set_cons_zero, List.set_cons_succ]
              refine wpW_done (by kernel_rfl) ?_
              try simp only [Act.put, List.getElem_toArray, List.getElem_cons_succ, List.getElem_cons_zero, List.setIfInBounds_toArray, List.set_cons_zero, List.set_cons_succ]
              go_wp2_with fail
              go_meet
              case rel => exact HW
          case rest =>
            obtain ⟨hA3, hw3⟩ := hcut
            clear HW hA' hA1 hA2 hF1 hP1 hP2 hF2 hA hw
            go_wp2
            go_roundw
            case rel => exact ⟨q, rfl, by have := HQ.out; omega, by have := HQ.out; omega, hA3, hw3⟩
            case measure => have := HQ.out; simp [intOf]; omega
        · have e : p = i := by omega
          have HD : Hid (rot x p m (m + 1) = rot x i m (m + 1)) := by unfold Hid; rw [e]
          clear e
          go_wp2
          go_end0
          exact ⟨⟨_, rfl⟩, _, hA.eqx HD.out, HU.out.1, HU.out.2, hw⟩
end Go.Proofs.Ytjdijikmdlklkaa
