/- Two parts merged, in the program. -/
import Derived.Test.YtjdijikmdlklkaaYb
namespace Go.Proofs.Ytjdijikmdlklkaa
open Go.RowKit
set_option linter.unusedSimpArgs false
set_option linter.unusedVariables false

/-- Merges of at most K. -/
def MgC (B n cap : Nat) (C : Nat → Nat → Value) (R : Nat → Nat → Prop) (G : World → Prop) (K : Nat) : Prop :=
  ∀ (x : Nat → Nat) (a m b : Nat) (w : World), b - a ≤ K → AR w B n C x → G w → a < m → m < b → b ≤ n → UpR R x a m → UpR R x m b → Apt x a m b →
    Calls Try.prog 53 #[.slice (some ⟨B, 0, none⟩) n cap, .int .i64 a, .int .i64 m, .int .i64 b, .func (.func 19) #[] #[]] w fun e w' => MgO B n C R x a b w e w'
theorem up_same {R : Nat → Nat → Prop} {x y : Nat → Nat} {a b : Nat} (h : UpR R x a b) (e : ∀ k, a ≤ k → k < b → y k = x k) : UpR R y a b := fun i j h1 h2 h3 => by
  rw [e i h1 (by omega), e j (by omega) h3]; exact h i j h1 h2 h3
theorem apt_same {x y : Nat → Nat} {a m b : Nat} (h : Apt x a m b) (e : ∀ k, a ≤ k → k < b → y k = x k) (ham : a ≤ m) (hmb : m ≤ b) : Apt y a m b := fun i j h1 h2 h3 h4 => by
  rw [e i h1 (by omega), e j (by omega) h4]; exact h i j h1 h2 h3 h4

/-- A word on three places. -/
def WrdB (b : Bool) (x y z : Nat) : Prop := b = true ↔ x < y ∧ y < z
/-- Where the search for the cut begins. -/
def MgQ (a m b mid s1 s0 r0 : Nat) : Prop := a ≤ s0 ∧ s0 ≤ r0 ∧ r0 ≤ m ∧ r0 ≤ mid ∧ s1 ≤ s0 + b ∧ (s0 = a ∨ s0 + b = s1) ∧ (r0 = m ∨ r0 = mid)

set_option maxRecDepth 100000 in
set_option maxHeartbeats 16000000 in
theorem merge3_any (B n cap : Nat) (C : Nat → Nat → Value) (R : Nat → Nat → Prop) (G : World → Prop) (hR : TOrd R) (hC : CmpOk B C R G) (h1 : ∀ v j, j < 10 → (C v j).oneCell' = true) (hn : n ≤ 1000) (hcap : n ≤ cap) (K : Nat) (hIH : MgC B n cap C R G K) (x : Nat → Nat) (a m b : Nat) (w : World) (hbK : b - a ≤ K + 1) (h : AR w B n C x) (hG : G w) (ham : a + 1 < m) (hmb : m + 1 < b) (hb : b ≤ n) (hU : UpR R x a m) (hV : UpR R x m b) (hA : Apt x a m b) :
    Calls Try.prog 53 #[.slice (some ⟨B, 0, none⟩) n cap, .int .i64 a, .int .i64 m, .int .i64 b, .func (.func 19) #[] #[]] w fun e w' => MgO B n C R x a b w e w' := by
  obtain ⟨d, hd⟩ : ∃ d, m - a = d := ⟨_, rfl⟩
  have hw0 : IntKind.i64.wrap ((m : Int) - (a : Int)) = (d : Int) := by rw [IntKind.wrap_i64] <;> omega
  have hd1 : ((d : Int) == 1) = false := by simp; omega
  obtain ⟨d2, hd2⟩ : ∃ d2, b - m = d2 := ⟨_, rfl⟩
  have hw1 : IntKind.i64.wrap ((b : Int) - (m : Int)) = (d2 : Int) := by rw [IntKind.wrap_i64] <;> omega
  have hd3 : ((d2 : Int) == 1) = false := by simp; omega
  obtain ⟨hK, hcmp⟩ := hC
  obtain ⟨t, ht⟩ : ∃ t, t = a + b := ⟨_, rfl⟩
  obtain ⟨mid, hmid⟩ : ∃ mid, mid = t / 2 := ⟨_, rfl⟩
  obtain ⟨s1, hs1⟩ : ∃ s1, s1 = mid + m := ⟨_, rfl⟩
  have hwt : IntKind.i64.wrap ((a : Int) + (b : Int)) = (t : Int) := by rw [IntKind.wrap_i64] <;> omega
  have hwu : IntKind.u64.wrap (t : Int) = (t : Int) := by rw [IntKind.wrap_u64] <;> omega
  have hsh : (t : Int) / 2 = (mid : Int) := by omega
  have hsh2 : ((a : Int) + (b : Int)) / 2 = (mid : Int) := by omega
  have hwm : IntKind.i64.wrap (mid : Int) = (mid : Int) := by rw [IntKind.wrap_i64] <;> omega
  have hws : IntKind.i64.wrap ((mid : Int) + (m : Int)) = (s1 : Int) := by rw [IntKind.wrap_i64] <;> omega
  have HM : Hid (s1 = mid + m ∧ a < mid ∧ mid < b ∧ 2 * mid ≤ a + b ∧ a + b ≤ 2 * mid + 1) := ⟨hs1, by omega, by omega, by omega, by omega⟩
  have hs1000 : s1 ≤ 2000 := by omega
  clear ht hmid hs1 hd hd2
  go_enter Try.func53, Try.ntmps53
  go_upto_if 140 with fail
  clear hw0 hd1 hw1 hd3 hwt hwu hsh hsh2 hwm hws
  go_cut [20, 21] from 138 (fun s20 s21 wx => ∃ s0 r0 : Nat, s20 = .int .i64 (s0 : Int) ∧ s21 = .int .i64 (r0 : Int) ∧ Hid (MgQ a m b mid s1 s0 r0) ∧ wx = w)
  case first =>
    have hM := HM.out
    by_cases hgt : mid < m
    · have hgi : (mid : Int) < (m : Int) := by omega
      obtain ⟨s0, hs0⟩ : ∃ s0, s0 = s1 - b := ⟨_, rfl⟩
      have hwb : IntKind.i64.wrap ((s1 : Int) - (b : Int)) = (s0 : Int) := by rw [IntKind.wrap_i64] <;> omega
      have HQ : Hid (MgQ a m b mid s1 s0 mid) := ⟨by omega, by omega, by omega, by omega, by omega, .inr (by omega), .inr rfl⟩
      clear hM hs0 hgt
      go_wp2
      go_meet
      case rel => exact ⟨s0, mid, rfl, rfl, HQ, rfl⟩
    · have hgi : ¬ (mid : Int) < (m : Int) := by omega
      have HQ : Hid (MgQ a m b mid s1 a m) := ⟨by omega, by omega, by omega, by omega, by omega, .inl rfl, .inl rfl⟩
      clear hM hgt
      go_wp2
      go_meet
      case rel => exact ⟨a, m, rfl, rfl, HQ, rfl⟩
  case rest =>
    obtain ⟨s0, r0, rfl, rfl, HQ, hwc⟩ := hcut
    have hwc2 := hwc.symm
    clear hwc
    subst hwc2
    obtain ⟨p, hp⟩ : ∃ p, p = s1 - 1 := ⟨_, rfl⟩
    have hwp : IntKind.i64.wrap ((s1 : Int) - 1) = (p : Int) := by have := HM.out; rw [IntKind.wrap_i64] <;> omega
    have HP : Hid (p + 1 = s1) := by have := HM.out; unfold Hid; omega
    have hp2000 : p ≤ 2000 := by omega
    clear hp
    go_wp2
    clear hwp
    go_loopw [20, 21] (fun u v wr => ∃ s r : Nat, u = .int .i64 (s : Int) ∧ v = .int .i64 (r : Int) ∧ s0 ≤ s ∧ s ≤ r ∧ r ≤ r0 ∧ Hid (s0 < s → R (x (s - 1)) (x (s1 - s))) ∧ Hid (r < r0 → R (x (s1 - 1 - r)) (x r)) ∧ AR wr B n C x ∧ G wr ∧ WrB B w wr) (fun u v _ => (intOf v).toNat - (intOf u).toNat)
    case atStart => exact ⟨s0, r0, rfl, rfl, Nat.le_refl _, HQ.out.2.1, Nat.le_refl _, fun hh => by omega, fun hh => by omega, h, hG, WrB.refl _ _⟩
    case round =>
      obtain ⟨s, r, rfl, rfl, hs, hsr, hrr, HL, HH, hAr, hGr, hw⟩ := hrel
      by_cases hlt : s < r
      · obtain ⟨g, hg⟩ : ∃ g, g = (s + r) / 2 := ⟨_, rfl⟩
        obtain ⟨t, ht⟩ : ∃ t, t = s + r := ⟨_, rfl⟩
        obtain ⟨q1, q2, q3, q4, q5, q6, q7⟩ := HQ.out
        have hM := HM.out
        have hPp := HP.out
        have hg1 : s ≤ g ∧ g < r := by omega
        obtain ⟨pc, hpc⟩ : ∃ pc, pc = p - g := ⟨_, rfl⟩
        have hwt : IntKind.i64.wrap ((s : Int) + (r : Int)) = (t : Int) := by rw [IntKind.wrap_i64] <;> omega
        have hwu : IntKind.u64.wrap (t : Int) = (t : Int) := by rw [IntKind.wrap_u64] <;> omega
        have hsh : (t : Int) / 2 = (g : Int) := by omega
        have hsh2 : ((s : Int) + (r : Int)) / 2 = (g : Int) := by omega
        have hwg : IntKind.i64.wrap (g : Int) = (g : Int) := by rw [IntKind.wrap_i64] <;> omega
        have hwpc : IntKind.i64.wrap ((p : Int) - (g : Int)) = (pc : Int) := by rw [IntKind.wrap_i64] <;> omega
        have hgm : a ≤ g ∧ g < m := by omega
        have hpcm : m ≤ pc ∧ pc < b := by omega
        have hgn : g < n := by omega
        have hgi : (g : Int) < (n : Int) := by omega
        have hpn : pc < n := by omega
        have hpi : (pc : Int) < (n : Int) := by omega
        have hxlt : x g < x pc := hA g pc hgm.1 hgm.2 hpcm.1 hpcm.2
        have HI : Hid (¬ R (x pc) (x g) → R (x (g + 1 - 1)) (x (s1 - (g + 1)))) := fun hr => by
          rw [show g + 1 - 1 = g by omega, show s1 - (g + 1) = pc by omega]
          exact hR.not hr (Nat.ne_of_gt hxlt)
        have HJ : Hid (R (x pc) (x g) → R (x (s1 - 1 - g)) (x g)) := fun hr => by
          rw [show s1 - 1 - g = pc by omega]
          exact hr
        have HB : Hid (s ≤ g ∧ g < r ∧ r ≤ r0 ∧ s0 ≤ s) := ⟨hg1.1, hg1.2, hrr, hs⟩
        have hAd := hAr.keep ((Below.refl wr.heap.size wr).drew)
        have hGd := hK _ _ hGr (WrB.refl B wr).drew
        have hL1 : Lie10 wr.drew B (pc * 10) (C (x pc)) := hAd.at' pc hpn
        have hL2 : Lie10 wr.drew B (g * 10) (C (x g)) := hAd.at' g hgn
        clear hg ht hpc hM hPp hg1 hgm hpcm q1 q2 q3 q4 q5 q6 q7
        go_upto_region 35 with fail
        go_cut [171] from 149 to 174 (fun s171 wx => ∃ B0 : Bool, s171 = .bool B0 ∧ Hid (B0 = true ↔ ¬ R (x pc) (x g)) ∧ AR wx B n C x ∧ G wx ∧ WrB B w wx)
        case first =>
          refine wp_region_w (fun w' : World => Lie10 w' B (pc * 10) (C (x pc)) ∧ Lie10 w' B (g * 10) (C (x g))) (fun _ => true) (by kernel_rfl) ?_
          change wpW _ _ _ _ _ _ 14 _ _ wr.drew
          have hS0 : (fun w' : World => Lie10 w' B (pc * 10) (C (x pc)) ∧ Lie10 w' B (g * 10) (C (x g))) wr.drew := ⟨hL1, hL2⟩
          refine wpW_take 0 _ (.func (.func 19) #[] #[]) rfl (by kernel_rfl) (by kernel_rfl) (by kernel_rfl) (fun _ _ _ h => h) (by kernel_rfl) (.inl ⟨rfl, fun w' hS' => by go_simp⟩) hS0 ?_
          simp only [Act.put, List.getElem_toArray, List.getElem_cons_succ, List.getElem_cons_zero, List.setIfInBounds_toArray, List.set_cons_zero, List.set_cons_succ]
          refine wpW_take 1 _ (.slice (some ⟨B, 0, none⟩) n cap) rfl (by kernel_rfl) (by kernel_rfl) (by kernel_rfl) (fun _ _ _ h => h) (by kernel_rfl) (.inl ⟨rfl, fun w' hS' => by go_simp⟩) hS0 ?_
          simp only [Act.put, List.getElem_toArray, List.getElem_cons_succ, List.getElem_cons_zero, List.setIfInBounds_toArray, List.set_cons_zero, List.set_cons_succ]
          refine wpW_take 2 _ (.int .i64 p) rfl (by kernel_rfl) (by kernel_rfl) (by kernel_rfl) (fun _ _ _ h => h) (by kernel_rfl) (.inl ⟨rfl, fun w' hS' => by go_simp⟩) hS0 ?_
          simp only [Act.put, List.getElem_toArray, List.getElem_cons_succ, List.getElem_cons_zero, List.setIfInBounds_toArray, List.set_cons_zero, List.set_cons_succ]
          refine wpW_take 3 _ (.int .i64 g) rfl (by kernel_rfl) (by kernel_rfl) (by kernel_rfl) (fun _ _ _ h => h) (by kernel_rfl) (.inl ⟨rfl, fun w' hS' => by go_simp⟩) hS0 ?_
          simp only [Act.put, List.getElem_toArray, List.getElem_cons_succ, List.getElem_cons_zero, List.setIfInBounds_toArray, List.set_cons_zero, List.set_cons_succ]
          refine wpW_take 4 _ (.int .i64 pc) rfl (by kernel_rfl) (by kernel_rfl) (by kernel_rfl) (fun _ _ _ h => h) (by kernel_rfl) (.inl ⟨rfl, fun w' hS' => by go_simp⟩) hS0 ?_
          simp only [Act.put, List.getElem_toArray, List.getElem_cons_succ, List.getElem_cons_zero, List.setIfInBounds_toArray, List.set_cons_zero, List.set_cons_succ]
          refine wpW_take 5 _ (.pointer (some ⟨B, pc * 10, none⟩)) rfl (by kernel_rfl) (by kernel_rfl) (by kernel_rfl) (fun _ _ _ h => h) (by kernel_rfl) (.inl ⟨rfl, fun w' hS' => by go_simp⟩) hS0 ?_
          simp only [Act.put, List.getElem_toArray, List.getElem_cons_succ, List.getElem_cons_zero, List.setIfInBounds_toArray, List.set_cons_zero, List.set_cons_succ]
          refine wpW_take 6 _ (tv (C (x pc))) rfl (by kernel_rfl) (by kernel_rfl) (by kernel_rfl) (fun _ _ _ h => h) (by kernel_rfl) (.inl ⟨rfl, fun w' hS' => by exact ldT 163 rfl rfl hS'.1⟩) hS0 ?_
          simp only [Act.put, List.getElem_toArray, List.getElem_cons_succ, List.getElem_cons_zero, List.setIfInBounds_toArray, List.set_cons_zero, List.set_cons_succ]
          refine wpW_take 7 _ (.slice (some ⟨B, 0, none⟩) n cap) rfl (by kernel_rfl) (by kernel_rfl) (by kernel_rfl) (fun _ _ _ h => h) (by kernel_rfl) (.inl ⟨rfl, fun w' hS' => by go_simp⟩) hS0 ?_
          simp only [Act.put, List.getElem_toArray, List.getElem_cons_succ, List.getElem_cons_zero, List.setIfInBounds_toArray, List.set_cons_zero, List.set_cons_succ]
          refine wpW_take 8 _ (.int .i64 g) rfl (by kernel_rfl) (by kernel_rfl) (by kernel_rfl) (fun _ _ _ h => h) (by kernel_rfl) (.inl ⟨rfl, fun w' hS' => by go_simp⟩) hS0 ?_
          simp only [Act.put, List.getElem_toArray, List.getElem_cons_succ, List.getElem_cons_zero, List.setIfInBounds_toArray, List.set_cons_zero, List.set_cons_succ]
          refine wpW_take 9 _ (.pointer (some ⟨B, g * 10, none⟩)) rfl (by kernel_rfl) (by kernel_rfl) (by kernel_rfl) (fun _ _ _ h => h) (by kernel_rfl) (.inl ⟨rfl, fun w' hS' => by go_simp⟩) hS0 ?_
          simp only [Act.put, List.getElem_toArray, List.getElem_cons_succ, List.getElem_cons_zero, List.setIfInBounds_toArray, List.set_cons_zero, List.set_cons_succ]
          refine wpW_take 10 _ (tv (C (x g))) rfl (by kernel_rfl) (by kernel_rfl) (by kernel_rfl) (fun _ _ _ h => h) (by kernel_rfl) (.inl ⟨rfl, fun w' hS' => by exact ldT 167 rfl rfl hS'.2⟩) hS0 ?_
          simp only [Act.put, List.getElem_toArray, List.getElem_cons_succ, List.getElem_cons_zero, List.setIfInBounds_toArray, List.set_cons_zero, List.set_cons_succ]
          refine wpW_one 11 _ rfl (by kernel_rfl) (step_wanted rfl (op_call 19 #[tv (C (x pc)), tv (C (x g))] _ (by go_simp) (hcmp _ _ _ hGd hxlt) ?_))
          rintro e w6 ⟨c, rfl, hc, q6⟩
          have hL1' := (hL1.keep q6)
          have hL2' := (hL2.keep q6)
          have hS6 : (fun w' : World => Lie10 w' B (pc * 10) (C (x pc)) ∧ Lie10 w' B (g * 10) (C (x g))) w6 := ⟨hL1', hL2'⟩
          refine ⟨_, rfl, fun _ => hS6, ?_⟩
          simp only [Act.put, List.getElem_toArray, List.getElem_cons_succ, List.getElem_cons_zero, List.setIfInBounds_toArray, List.set_cons_zero, List.set_cons_succ]
          refine wpW_take 12 _ (.bool (decide (c < 0))) rfl (by kernel_rfl) (by kernel_rfl) (by kernel_rfl) (fun _ _ _ h => h) (by kernel_rfl) (.inl ⟨rfl, fun w' hS' => by go_simp⟩) hS6 ?_
          simp only [Act.put, List.getElem_toArray, List.getElem_cons_succ, List.getElem_cons_zero, List.setIfInBounds_toArray, List.set_cons_zero, List.set_cons_succ]
          refine wpW_take 13 _ (.bool (!decide (c < 0))) rfl (by kernel_rfl) (by kernel_rfl) (by kernel_rfl) (fun _ _ _ h => h) (by kernel_rfl) (.inl ⟨rfl, fun w' hS' => by go_simp⟩) hS6 ?_
          simp only [Act.put, List.getElem_toArray, List.getElem_cons_succ, List.getElem_cons_zero, List.setIfInBounds_toArray, List.set_cons_zero, List.set_cons_succ]
          refine wpW_done (by kernel_rfl) ?_
          try simp only [Act.put, List.getElem_toArray, List.getElem_cons_succ, List.getElem_cons_zero, List.setIfInBounds_toArray, List.set_cons_zero, List.set_cons_succ]
          go_wp2_with fail
          go_meet
          case rel => exact ⟨_, rfl, by unfold Hid; rw [← hc]; simp, hAd.keep q6, hK _ _ hGd (WrB.of_below q6), (hw.trans (WrB.refl B wr).drew).trans (WrB.of_below q6)⟩
        case rest =>
          obtain ⟨B0, rfl, hc, hA3, hG3, hw3⟩ := hcut
          clear hAr hGr hw hAd hGd hL1 hL2
          cases B0
          · have HJh : Hid (g < r0 → R (x (s1 - 1 - g)) (x g)) := fun _ => HJ.out (Classical.not_not.1 fun h => by have := hc.out.2 h; cases this)
            clear HI HJ hc
            go_wp2
            go_roundw
            case rel => exact ⟨s, g, rfl, rfl, hs, by have := HB.out; omega, by have := HB.out; omega, HL, HJh, hA3, hG3, hw3⟩
            case measure => have := HB.out; simp [intOf]; omega
          · have HIh : Hid (s0 < g + 1 → R (x (g + 1 - 1)) (x (s1 - (g + 1)))) := fun _ => HI.out (hc.out.1 rfl)
            have hwg1 : IntKind.i64.wrap ((g : Int) + 1) = ((g + 1 : Nat) : Int) := by rw [IntKind.wrap_i64] <;> omega
            clear HI HJ hc
            go_wp2
            go_roundw
            case rel => exact ⟨g + 1, r, rfl, rfl, by have := HB.out; omega, by have := HB.out; omega, hrr, HIh, HH, hA3, hG3, hw3⟩
            case measure => have := HB.out; simp [intOf]; omega
      · obtain rfl : s = r := by omega
        obtain ⟨e, he⟩ : ∃ e, e = s1 - s := ⟨_, rfl⟩
        obtain ⟨q1, q2, q3, q4, q5, q6, q7⟩ := HQ.out
        obtain ⟨m1, m2, m3, m4, m5⟩ := HM.out
        have hCut : Cut R x a m b s e mid := by
          refine ⟨by omega, by omega, by omega, by omega, by omega, m2, m3, fun c1 c2 => ?_, fun c1 c2 => ?_⟩
          · rw [he]; exact HL.out (by omega)
          · have hh := HH.out (by omega)
            rw [show s1 - 1 - s = e - 1 by omega] at hh
            exact hh
        have hwe : IntKind.i64.wrap ((s1 : Int) - (s : Int)) = (e : Int) := by rw [IntKind.wrap_i64] <;> omega
        have HC : Hid (Cut R x a m b s e mid) := hCut
        have hen : e ≤ 2000 := by omega
        have hsn : s ≤ 2000 := by omega
        clear he q1 q2 q3 q4 q5 q6 q7 m1 m2 m3 m4 m5 hCut HQ HL HH hs hsr hrr hlt HP
        have HY := HC.out.parts hR hU hV hA
        have HYH : Hid (UpR R (rot x s m e) a s ∧ UpR R (rot x s m e) s mid ∧ Apt (rot x s m e) a s mid ∧ UpR R (rot x s m e) mid e ∧ UpR R (rot x s m e) e b ∧ Apt (rot x s m e) mid e b ∧ ∀ i j, a ≤ i → i < mid → mid ≤ j → j < b → R (rot x s m e i) (rot x s m e j)) := HY
        clear HY
        have HNOW : AR wr B n C x ∧ G wr ∧ WrB B w wr := ⟨hAr, hGr, hw⟩
        have hHC := HC.out
        have hsm := hHC.sm
        have hme := hHC.me
        have hmid1 := hHC.amid
        have hmid2 := hHC.midb
        have hab : b ≤ n := hb
        clear hHC hAr hGr hw h hG hcmp
        go_upto_region 39 with fail
        go_cut [185] from 178 (fun s185 wx => ∃ B1 : Bool, s185 = .bool B1 ∧ Hid (WrdB B1 s m e) ∧ AR wx B n C x ∧ G wx ∧ WrB B w wx)
        case first =>
          by_cases c1 : s < m
          · have c1i : (s : Int) < (m : Int) := by omega
            by_cases c2 : m < e
            · have c2i : (m : Int) < (e : Int) := by omega
              have HBt : Hid (WrdB true s m e) := ⟨fun _ => ⟨c1, c2⟩, fun _ => rfl⟩
              go_wp2
              go_meet
              case rel => exact ⟨_, rfl, HBt, HNOW⟩
            · have c2i : ¬ (m : Int) < (e : Int) := by omega
              have HBt : Hid (WrdB false s m e) := ⟨fun h => (by cases h), fun h => absurd h.2 c2⟩
              go_wp2
              go_meet
              case rel => exact ⟨_, rfl, HBt, HNOW⟩
          · have c1i : ¬ (s : Int) < (m : Int) := by omega
            have HBt : Hid (WrdB false s m e) := ⟨fun h => (by cases h), fun h => absurd h.1 c1⟩
            go_wp2
            go_meet
            case rel => exact ⟨_, rfl, HBt, HNOW⟩
        case rest =>
          clear HNOW
          obtain ⟨B1, rfl, hB1, hA1, hG1, hw1⟩ := hcut
          go_upto_if 185 with fail
          go_cut [] from 186 (fun wx => AR wx B n C (rot x s m e) ∧ G wx ∧ WrB B w wx)
          case first =>
            cases B1
            · have HX : Hid (x = rot x s m e) := by
                unfold Hid
                by_cases c : s = m
                · rw [c, rot_none2]
                · have c2 : m = e := Classical.not_not.1 fun hne => (by have := hB1.out.2 ⟨by omega, by omega⟩; cases this)
                  rw [c2, rot_none x s e (by omega)]
              go_wp2
              go_meet
              case rel => exact ⟨hA1.eqx HX.out, hG1, hw1⟩
            · obtain ⟨c1, c2⟩ := hB1.out.1 rfl
              have hro := rotate_any B n cap C x s m e (.func (.func 19) #[] #[]) _ hA1 h1 c1 c2 (by have := HC.out.eb; omega) hn hcap
              clear c1 c2
              go_wp2_with fail
              refine hro.mono ?_
              rintro e' w2 ⟨⟨u, rfl⟩, hA2, hw2⟩
              clear hro
              go_wp2
              go_meet
              case rel => exact ⟨hA2, hK _ _ hG1 hw2, hw1.trans hw2⟩
          case rest =>
            clear hA1 hG1 hw1 hB1
            obtain ⟨hA2, hG2, hw2⟩ := hcut
            have HNOW := (⟨hA2, hG2, hw2⟩ : _ ∧ _ ∧ _)
            go_upto_region 41 with fail
            go_cut [199] from 192 (fun s199 wx => ∃ B1 : Bool, s199 = .bool B1 ∧ Hid (WrdB B1 a s mid) ∧ AR wx B n C (rot x s m e) ∧ G wx ∧ WrB B w wx)
            case first =>
              by_cases c1 : a < s
              · have c1i : (a : Int) < (s : Int) := by omega
                by_cases c2 : s < mid
                · have c2i : (s : Int) < (mid : Int) := by omega
                  have HBt : Hid (WrdB true a s mid) := ⟨fun _ => ⟨c1, c2⟩, fun _ => rfl⟩
                  go_wp2
                  go_meet
                  case rel => exact ⟨_, rfl, HBt, HNOW⟩
                · have c2i : ¬ (s : Int) < (mid : Int) := by omega
                  have HBt : Hid (WrdB false a s mid) := ⟨fun h => (by cases h), fun h => absurd h.2 c2⟩
                  go_wp2
                  go_meet
                  case rel => exact ⟨_, rfl, HBt, HNOW⟩
              · have c1i : ¬ (a : Int) < (s : Int) := by omega
                have HBt : Hid (WrdB false a s mid) := ⟨fun h => (by cases h), fun h => absurd h.1 c1⟩
                go_wp2
                go_meet
                case rel => exact ⟨_, rfl, HBt, HNOW⟩
            case rest =>
              clear HNOW hA2 hG2 hw2
              obtain ⟨B1, rfl, hB1, hA2, hG2, hw2⟩ := hcut
              go_upto_if 199 with fail
              go_cut [] from 200 (fun wx => (∃ y2, AR wx B n C y2 ∧ UpR R y2 a mid ∧ SSet (rot x s m e) y2 a mid) ∧ G wx ∧ WrB B w wx)
              case first =>
                cases B1
                · have HX : Hid (UpR R (rot x s m e) a mid) := by
                    unfold Hid
                    have hsum := HC.out.sum
                    have has := HC.out.aS
                    by_cases c : a = s
                    · rw [c]; exact HYH.out.2.1
                    · have c2 : s = mid := Classical.not_not.1 fun hne => (by have := hB1.out.2 ⟨by omega, by omega⟩; cases this)
                      rw [← c2]; exact HYH.out.1
                  go_wp2
                  go_meet
                  case rel => exact ⟨⟨_, hA2, HX.out, SSet.refl _ _ _⟩, hG2, hw2⟩
                · obtain ⟨c1, c2⟩ := hB1.out.1 rfl
                  have hro := hIH (rot x s m e) a s mid _ (by omega) hA2 hG2 c1 c2 (by omega) HYH.out.1 HYH.out.2.1 HYH.out.2.2.1
                  clear c1 c2
                  go_wp2_with fail
                  refine hro.mono ?_
                  rintro e' w3 ⟨⟨u, rfl⟩, y2, hA3, hU3, hS3, hw3⟩
                  clear hro
                  go_wp2
                  go_meet
                  case rel => exact ⟨⟨y2, hA3, hU3, hS3⟩, hK _ _ hG2 hw3, hw2.trans hw3⟩
              case rest =>
                clear hA2 hG2 hw2 hB1
                obtain ⟨⟨y2, hA3, hU3, hS3⟩, hG3, hw3⟩ := hcut
                have HS : Hid (UpR R y2 a mid ∧ SSet (rot x s m e) y2 a mid) := ⟨hU3, hS3⟩
                have HNOW := (⟨hA3, hG3, hw3⟩ : _ ∧ _ ∧ _)
                clear hU3 hS3
                go_upto_region 43 with fail
                go_cut [213] from 206 (fun s213 wx => ∃ B1 : Bool, s213 = .bool B1 ∧ Hid (WrdB B1 mid e b) ∧ AR wx B n C y2 ∧ G wx ∧ WrB B w wx)
                case first =>
                  by_cases c1 : mid < e
                  · have c1i : (mid : Int) < (e : Int) := by omega
                    by_cases c2 : e < b
                    · have c2i : (e : Int) < (b : Int) := by omega
                      have HBt : Hid (WrdB true mid e b) := ⟨fun _ => ⟨c1, c2⟩, fun _ => rfl⟩
                      go_wp2
                      go_meet
                      case rel => exact ⟨_, rfl, HBt, HNOW⟩
                    · have c2i : ¬ (e : Int) < (b : Int) := by omega
                      have HBt : Hid (WrdB false mid e b) := ⟨fun h => (by cases h), fun h => absurd h.2 c2⟩
                      go_wp2
                      go_meet
                      case rel => exact ⟨_, rfl, HBt, HNOW⟩
                  · have c1i : ¬ (mid : Int) < (e : Int) := by omega
                    have HBt : Hid (WrdB false mid e b) := ⟨fun h => (by cases h), fun h => absurd h.1 c1⟩
                    go_wp2
                    go_meet
                    case rel => exact ⟨_, rfl, HBt, HNOW⟩
                case rest =>
                  clear HNOW hA3 hG3 hw3
                  obtain ⟨B1, rfl, hB1, hA3, hG3, hw3⟩ := hcut
                  have hout : ∀ k, mid ≤ k → k < b → y2 k = rot x s m e k := fun k k1 _ => HS.out.2.out k (by omega)
                  have HR0 : Hid (SSet x (rot x s m e) a b) := (rot_set x hsm hme).wide HC.out.aS HC.out.eb
                  have HJ : Hid (∀ z, SSet y2 z mid b → UpR R z mid b → UpR R z a b ∧ SSet x z a b) := fun z hz hu => by
                    obtain ⟨q1, q2⟩ := up_join (by omega) (by omega) HYH.out.2.2.2.2.2.2 HS.out.2 HS.out.1 hz hu
                    exact ⟨q1, HR0.out.trans q2⟩
                  cases B1
                  · have HX : Hid (UpR R y2 a b ∧ SSet x y2 a b) := by
                      refine HJ.out y2 (SSet.refl _ _ _) (up_same ?_ hout)
                      have hsum := HC.out.sum
                      have heb := HC.out.eb
                      by_cases c : mid = e
                      · rw [c]; exact HYH.out.2.2.2.2.1
                      · have c2 : e = b := Classical.not_not.1 fun hne => (by have := hB1.out.2 ⟨by omega, by omega⟩; cases this)
                        rw [← c2]; exact HYH.out.2.2.2.1
                    clear hout HJ
                    go_wp2
                    go_end0
                    exact ⟨⟨_, rfl⟩, y2, hA3, HX.out.1, HX.out.2, hw3⟩
                  · obtain ⟨c1, c2⟩ := hB1.out.1 rfl
                    have hro := hIH y2 mid e b _ (by omega) hA3 hG3 c1 c2 hb (up_same HYH.out.2.2.2.1 fun k k1 k2 => hout k k1 (by omega)) (up_same HYH.out.2.2.2.2.1 fun k k1 k2 => hout k (by omega) k2) (apt_same HYH.out.2.2.2.2.2.1 hout (by omega) (by omega))
                    clear c1 c2 hout
                    go_wp2_with fail
                    refine hro.mono ?_
                    rintro e' w4 ⟨⟨u, rfl⟩, z, hA4, hU4, hS4, hw4⟩
                    have HX : Hid (UpR R z a b ∧ SSet x z a b) := HJ.out z hS4 hU4
                    clear hro HJ
                    go_wp2
                    go_end0
                    exact ⟨⟨_, rfl⟩, z, hA4, HX.out.1, HX.out.2, hw3.trans hw4⟩

/-- A merge, in the program. -/
theorem merge_any (B n cap : Nat) (C : Nat → Nat → Value) (R : Nat → Nat → Prop) (G : World → Prop) (hR : TOrd R) (hC : CmpOk B C R G) (h1 : ∀ v j, j < 10 → (C v j).oneCell' = true) (hn : n ≤ 1000) (hcap : n ≤ cap) : ∀ K, MgC B n cap C R G K
  | 0 => fun x a m b w hk _ _ h2 h3 => by omega
  | K + 1 => fun x a m b w hk hA hG ham hmb hb hU hV hP => by
    by_cases c1 : m = a + 1
    · subst c1
      exact merge1_any B n cap C R G hR hC h1 hn hcap x a (a + 1) b w hA hG rfl hmb hb hV hP
    · by_cases c2 : b = m + 1
      · subst c2
        exact merge2_any B n cap C R G hR hC h1 hn hcap x a m (m + 1) w hA hG (by omega) rfl hb hU hP
      · exact merge3_any B n cap C R G hR hC h1 hn hcap K (merge_any B n cap C R G hR hC h1 hn hcap K) x a m b w hk hA hG (by omega) (by omega) hb hU hV hP
end Go.Proofs.Ytjdijikmdlklkaa
