/- A part sorted by insertion, in the program. -/
import Derived.Test.YtjdijikmdlklkaaYc
namespace Go.Proofs.Ytjdijikmdlklkaa
open Go.RowKit
set_option linter.unusedSimpArgs false
set_option linter.unusedVariables false

/-- As at first, from a to b. -/
def Asc (x : Nat → Nat) (a b : Nat) : Prop := ∀ i j, a ≤ i → i < j → j < b → x i < x j
/-- What stood at i is at j on its way to the front. -/
structure InsI (R : Nat → Nat → Prop) (y z : Nat → Nat) (a i j : Nat) : Prop where
  aj : a ≤ j
  ji : j ≤ i
  oth : ∀ p q, a ≤ p → p < q → q ≤ i → p ≠ j → q ≠ j → R (z p) (z q)
  beh : ∀ q, j < q → q ≤ i → R (z j) (z q)
  set : SSet y z a (i + 1)
  low : ∀ k, a ≤ k → k ≤ i → k ≠ j → z k < z j
theorem InsI.start {R : Nat → Nat → Prop} {y : Nat → Nat} {a i : Nat} (hai : a ≤ i) (h : UpR R y a i) (hl : ∀ k, a ≤ k → k < i → y k < y i) : InsI R y y a i i :=
  ⟨hai, Nat.le_refl _, fun p q p1 p2 p3 p4 p5 => h p q p1 p2 (by omega), fun q q1 q2 => by omega, SSet.refl _ _ _, fun k k1 k2 k3 => hl k k1 (by omega)⟩
theorem InsI.step {R : Nat → Nat → Prop} {y z : Nat → Nat} {a i j : Nat} (h : InsI R y z a i j) (hj : a < j) (hr : R (z j) (z (j - 1))) : InsI R y (sw1 z j (j - 1)) a i (j - 1) := by
  obtain ⟨h1, h2, h3, h4, h5, h6⟩ := h
  have v1 : sw1 z j (j - 1) (j - 1) = z j := by unfold sw1; rw [if_neg (by omega), if_pos rfl]
  have v2 : sw1 z j (j - 1) j = z (j - 1) := by unfold sw1; rw [if_pos rfl]
  have v3 : ∀ k, k ≠ j → k ≠ j - 1 → sw1 z j (j - 1) k = z k := fun k k1 k2 => by unfold sw1; rw [if_neg k1, if_neg k2]
  refine ⟨by omega, by omega, fun p q p1 p2 p3 p4 p5 => ?_, fun q q1 q2 => ?_, ?_, fun k k1 k2 k3 => ?_⟩
  · by_cases c1 : p = j
    · subst c1
      rw [v2, v3 q (by omega) p5]
      exact h3 (p - 1) q (by omega) (by omega) p3 (by omega) (by omega)
    · by_cases c2 : q = j
      · subst c2
        rw [v2, v3 p c1 p4]
        exact h3 p (q - 1) p1 (by omega) (by omega) c1 (by omega)
      · rw [v3 p c1 p4, v3 q c2 p5]
        exact h3 p q p1 p2 p3 c1 c2
  · rw [v1]
    by_cases c1 : q = j
    · subst c1
      rw [v2]; exact hr
    · rw [v3 q c1 (by omega)]
      exact h4 q (by omega) q2
  · refine h5.trans ⟨fun k hk => v3 k (by omega) (by omega), fun k k1 k2 => ?_, fun k k1 k2 => ?_⟩
    · by_cases c1 : k = j
      · subst c1; exact ⟨k - 1, by omega, by omega, v1⟩
      · by_cases c2 : k = j - 1
        · subst c2; exact ⟨j, by omega, by omega, v2⟩
        · exact ⟨k, k1, k2, v3 k c1 c2⟩
    · by_cases c1 : k = j
      · subst c1; exact ⟨k - 1, by omega, by omega, v2.symm⟩
      · by_cases c2 : k = j - 1
        · subst c2; exact ⟨j, by omega, by omega, v1.symm⟩
        · exact ⟨k, k1, k2, (v3 k c1 c2).symm⟩
  · rw [v1]
    by_cases c1 : k = j
    · subst c1
      rw [v2]; exact h6 _ (by omega) (by omega) (by omega)
    · rw [v3 k c1 k3]; exact h6 k k1 k2 c1
theorem InsI.stop {R : Nat → Nat → Prop} {y z : Nat → Nat} {a i j : Nat} (hR : TOrd R) (h : InsI R y z a i j) (hr : j = a ∨ R (z (j - 1)) (z j)) : UpR R z a (i + 1) := by
  obtain ⟨h1, h2, h3, h4, h5, h6⟩ := h
  intro p q p1 p2 p3
  by_cases c1 : p = j
  · subst c1; exact h4 q p2 (by omega)
  · by_cases c2 : q = j
    · subst c2
      rcases hr with hr | hr
      · omega
      · by_cases c3 : p = q - 1
        · rw [c3]; exact hr
        · exact hR.tr _ _ _ (h3 p (q - 1) p1 (by omega) (by omega) c1 (by omega)) hr
    · exact h3 p q p1 p2 (by omega) c1 c2
/-- The word of the inner loop. -/
def InsW (R : Nat → Nat → Prop) (z : Nat → Nat) (a j : Nat) (b : Bool) : Prop := b = true ↔ a < j ∧ R (z j) (z (j - 1))

set_option maxRecDepth 100000 in
set_option maxHeartbeats 16000000 in
theorem insert_any (B n cap : Nat) (C : Nat → Nat → Value) (R : Nat → Nat → Prop) (G : World → Prop) (hR : TOrd R) (hC : CmpOk B C R G) (h1 : ∀ v j, j < 10 → (C v j).oneCell' = true) (hn : n ≤ 1000) (hcap : n ≤ cap) (x : Nat → Nat) (a b : Nat) (w : World) (h : AR w B n C x) (hG : G w) (hab : a ≤ b) (hb : b ≤ n) (hX : Asc x a b) :
    Calls Try.prog 52 #[.slice (some ⟨B, 0, none⟩) n cap, .int .i64 a, .int .i64 b, .func (.func 19) #[] #[]] w fun e w' => MgO B n C R x a b w e w' := by
  obtain ⟨a1, ha1⟩ : ∃ a1, a1 = a + 1 := ⟨_, rfl⟩
  have hwa : IntKind.i64.wrap ((a : Int) + 1) = (a1 : Int) := by rw [IntKind.wrap_i64] <;> omega
  have HA1 : Hid (a1 = a + 1) := ha1
  obtain ⟨hK, hcmp⟩ := hC
  by_cases hab2 : b ≤ a
  · have hlt : ¬ (a1 : Int) < (b : Int) := by omega
    have HM : Hid (MgO B n C R x a b w (.returned (.tuple #[])) w) := ⟨⟨_, rfl⟩, x, h, fun i j i1 i2 i3 => by omega, SSet.refl _ _ _, WrB.refl _ _⟩
    clear ha1 hab hab2 h hG
    go_enter Try.func52, Try.ntmps52
    go_wp2
    go_loopw [8, 9] (fun u v wr => u = .int .i64 (a1 : Int) ∧ wr = w) (fun u _ _ => 0)
    case atStart => exact ⟨rfl, rfl⟩
    case round =>
      obtain ⟨rfl, hw⟩ := hrel
      have hw2 := hw.symm
      clear hw
      subst hw2
      go_wp2
      go_end0
      exact HM.out
  clear ha1
  go_enter Try.func52, Try.ntmps52
  go_wp2
  clear hwa
  go_loopw [8, 9] (fun u v wr => ∃ (i : Nat) (y : Nat → Nat), u = .int .i64 (i : Int) ∧ a < i ∧ i ≤ b ∧ Hid (UpR R y a i ∧ SSet x y a i) ∧ AR wr B n C y ∧ G wr ∧ WrB B w wr) (fun u _ _ => b - (intOf u).toNat)
  case atStart => exact ⟨a1, x, rfl, by have := HA1.out; omega, by have := HA1.out; omega, ⟨fun p q p1 p2 p3 => by have := HA1.out; omega, SSet.refl _ _ _⟩, h, hG, WrB.refl _ _⟩
  case round =>
    obtain ⟨i, y, rfl, hai, hib, HY, hA, hGr, hw⟩ := hrel
    by_cases hlt : i < b
    · have HI0 : Hid (InsI R y y a i i) := InsI.start (by omega) HY.out.1 fun k k1 k2 => by
        obtain ⟨q, q1, q2, e⟩ := HY.out.2.bwd k k1 k2
        rw [← e, HY.out.2.out i (by omega)]
        exact hX q i q1 q2 hlt
      have HX2 : Hid (∀ z, SSet y z a (i + 1) → SSet x z a (i + 1)) := fun z hz => (HY.out.2.wide (Nat.le_refl _) (Nat.le_succ _)).trans hz
      have hin : i < n := by omega
      have hA0 := hA
      have hG0 := hGr
      have hw0 := hw
      clear HY hA hGr hw h hG
      go_upto_block 1 with fail
      go_cut [9] from 12 to 52 (fun s9 wx => ∃ z, AR wx B n C z ∧ Hid (UpR R z a (i + 1) ∧ SSet x z a (i + 1)) ∧ G wx ∧ WrB B w wx)
      case first =>
        go_wp2
        go_loopw [9] (fun v wr => ∃ (j : Nat) (z : Nat → Nat), v = .int .i64 (j : Int) ∧ a ≤ j ∧ j ≤ i ∧ Hid (InsI R y z a i j) ∧ AR wr B n C z ∧ G wr ∧ WrB B w wr) (fun v _ => (intOf v).toNat)
        case atStart => exact ⟨i, y, rfl, by omega, Nat.le_refl _, HI0, hA0, hG0, hw0⟩
        case round =>
          clear HI0 hA0 hG0 hw0
          obtain ⟨j, z, rfl, haj, hji, HI, hA, hGr, hw⟩ := hrel
          obtain ⟨q, hq⟩ : ∃ q, q = j - 1 := ⟨_, rfl⟩
          have HQ : Hid (q = j - 1) := hq
          have hjn : j < n := by omega
          have hjni : (j : Int) < (n : Int) := by omega
          have hqn : q < n := by omega
          have hqni : (q : Int) < (n : Int) := by omega
          have hAd := hA.keep ((Below.refl wr.heap.size wr).drew)
          have hGd := hK _ _ hGr (WrB.refl B wr).drew
          have hL1 : Lie10 wr.drew B (j * 10) (C (z j)) := hAd.at' j hjn
          have hL2 : Lie10 wr.drew B (q * 10) (C (z q)) := hAd.at' q hqn
          clear hq
          go_upto_region 4 with fail
          go_cut [34] from 18 to 52 (fun s34 wx => ∃ B0 : Bool, s34 = .bool B0 ∧ Hid (InsW R z a j B0) ∧ AR wx B n C z ∧ G wx ∧ WrB B w wx)
          case first =>
            by_cases hj : a < j
            · have hji2 : (a : Int) < (j : Int) := by omega
              have hwq : IntKind.i64.wrap ((j : Int) - 1) = (q : Int) := by have := HQ.out; rw [IntKind.wrap_i64] <;> omega
              have hxlt : z q < z j := HI.out.low q (by have := HQ.out; omega) (by have := HQ.out; omega) (by have := HQ.out; omega)
              refine wp_region_w (fun w' : World => Lie10 w' B (j * 10) (C (z j)) ∧ Lie10 w' B (q * 10) (C (z q))) (fun _ => true) (by kernel_rfl) ?_
              change wpW _ _ _ _ _ _ 17 _ _ wr.drew
              have hS0 : (fun w' : World => Lie10 w' B (j * 10) (C (z j)) ∧ Lie10 w' B (q * 10) (C (z q))) wr.drew := ⟨hL1, hL2⟩
              refine wpW_take 0 _ (.int .i64 j) rfl (by kernel_rfl) (by kernel_rfl) (by kernel_rfl) (fun _ _ _ h => h) (by kernel_rfl) (.inl ⟨rfl, fun w' hS' => by go_simp⟩) hS0 ?_
              simp only [Act.put, List.getElem_toArray, List.getElem_cons_succ, List.getElem_cons_zero, List.setIfInBounds_toArray, List.set_cons_zero, List.set_cons_succ]
              refine wpW_take 1 _ (.int .i64 a) rfl (by kernel_rfl) (by kernel_rfl) (by kernel_rfl) (fun _ _ _ h => h) (by kernel_rfl) (.inl ⟨rfl, fun w' hS' => by go_simp⟩) hS0 ?_
              simp only [Act.put, List.getElem_toArray, List.getElem_cons_succ, List.getElem_cons_zero, List.setIfInBounds_toArray, List.set_cons_zero, List.set_cons_succ]
              refine wpW_take 2 _ (.bool true) rfl (by kernel_rfl) (by kernel_rfl) (by kernel_rfl) (fun _ _ _ h => h) (by kernel_rfl) (.inl ⟨rfl, fun w' hS' => by go_simp⟩) hS0 ?_
              simp only [Act.put, List.getElem_toArray, List.getElem_cons_succ, List.getElem_cons_zero, List.setIfInBounds_toArray, List.set_cons_zero, List.set_cons_succ]
              refine wpW_take 3 _ (.bool true) rfl (by kernel_rfl) (by kernel_rfl) (by kernel_rfl) (fun _ _ _ h => h) (by kernel_rfl) (.inl ⟨rfl, fun w' hS' => by go_simp⟩) hS0 ?_
              simp only [Act.put, List.getElem_toArray, List.getElem_cons_succ, List.getElem_cons_zero, List.setIfInBounds_toArray, List.set_cons_zero, List.set_cons_succ]
              refine wpW_take 4 _ (.func (.func 19) #[] #[]) rfl (by kernel_rfl) (by kernel_rfl) (by kernel_rfl) (fun _ _ _ h => h) (by kernel_rfl) (.inl ⟨rfl, fun w' hS' => by go_simp⟩) hS0 ?_
              simp only [Act.put, List.getElem_toArray, List.getElem_cons_succ, List.getElem_cons_zero, List.setIfInBounds_toArray, List.set_cons_zero, List.set_cons_succ]
              refine wpW_take 5 _ (.slice (some ⟨B, 0, none⟩) n cap) rfl (by kernel_rfl) (by kernel_rfl) (by kernel_rfl) (fun _ _ _ h => h) (by kernel_rfl) (.inl ⟨rfl, fun w' hS' => by go_simp⟩) hS0 ?_
              simp only [Act.put, List.getElem_toArray, List.getElem_cons_succ, List.getElem_cons_zero, List.setIfInBounds_toArray, List.set_cons_zero, List.set_cons_succ]
              refine wpW_take 6 _ (.int .i64 j) rfl (by kernel_rfl) (by kernel_rfl) (by kernel_rfl) (fun _ _ _ h => h) (by kernel_rfl) (.inl ⟨rfl, fun w' hS' => by go_simp⟩) hS0 ?_
              simp only [Act.put, List.getElem_toArray, List.getElem_cons_succ, List.getElem_cons_zero, List.setIfInBounds_toArray, List.set_cons_zero, List.set_cons_succ]
              refine wpW_take 7 _ (.pointer (some ⟨B, j * 10, none⟩)) rfl (by kernel_rfl) (by kernel_rfl) (by kernel_rfl) (fun _ _ _ h => h) (by kernel_rfl) (.inl ⟨rfl, fun w' hS' => by go_simp⟩) hS0 ?_
              simp only [Act.put, List.getElem_toArray, List.getElem_cons_succ, List.getElem_cons_zero, List.setIfInBounds_toArray, List.set_cons_zero, List.set_cons_succ]
              refine wpW_take 8 _ (tv (C (z j))) rfl (by kernel_rfl) (by kernel_rfl) (by kernel_rfl) (fun _ _ _ h => h) (by kernel_rfl) (.inl ⟨rfl, fun w' hS' => by exact ldT 25 rfl rfl hS'.1⟩) hS0 ?_
              simp only [Act.put, List.getElem_toArray, List.getElem_cons_succ, List.getElem_cons_zero, List.setIfInBounds_toArray, List.set_cons_zero, List.set_cons_succ]
              refine wpW_take 9 _ (.slice (some ⟨B, 0, none⟩) n cap) rfl (by kernel_rfl) (by kernel_rfl) (by kernel_rfl) (fun _ _ _ h => h) (by kernel_rfl) (.inl ⟨rfl, fun w' hS' => by go_simp⟩) hS0 ?_
              simp only [Act.put, List.getElem_toArray, List.getElem_cons_succ, List.getElem_cons_zero, List.setIfInBounds_toArray, List.set_cons_zero, List.set_cons_succ]
              refine wpW_take 10 _ (.int .i64 j) rfl (by kernel_rfl) (by kernel_rfl) (by kernel_rfl) (fun _ _ _ h => h) (by kernel_rfl) (.inl ⟨rfl, fun w' hS' => by go_simp⟩) hS0 ?_
              simp only [Act.put, List.getElem_toArray, List.getElem_cons_succ, List.getElem_cons_zero, List.setIfInBounds_toArray, List.set_cons_zero, List.set_cons_succ]
              refine wpW_take 11 _ (.int .i64 q) rfl (by kernel_rfl) (by kernel_rfl) (by kernel_rfl) (fun _ _ _ h => h) (by kernel_rfl) (.inl ⟨rfl, fun w' hS' => by go_simp⟩) hS0 ?_
              simp only [Act.put, List.getElem_toArray, List.getElem_cons_succ, List.getElem_cons_zero, List.setIfInBounds_toArray, List.set_cons_zero, List.set_cons_succ]
              refine wpW_take 12 _ (.pointer (some ⟨B, q * 10, none⟩)) rfl (by kernel_rfl) (by kernel_rfl) (by kernel_rfl) (fun _ _ _ h => h) (by kernel_rfl) (.inl ⟨rfl, fun w' hS' => by go_simp⟩) hS0 ?_
              simp only [Act.put, List.getElem_toArray, List.getElem_cons_succ, List.getElem_cons_zero, List.setIfInBounds_toArray, List.set_cons_zero, List.set_cons_succ]
              refine wpW_take 13 _ (tv (C (z q))) rfl (by kernel_rfl) (by kernel_rfl) (by kernel_rfl) (fun _ _ _ h => h) (by kernel_rfl) (.inl ⟨rfl, fun w' hS' => by exact ldT 30 rfl rfl hS'.2⟩) hS0 ?_
              simp only [Act.put, List.getElem_toArray, List.getElem_cons_succ, List.getElem_cons_zero, List.setIfInBounds_toArray, List.set_cons_zero, List.set_cons_succ]
              refine wpW_one 14 _ rfl (by kernel_rfl) (step_wanted rfl (op_call 19 #[tv (C (z j)), tv (C (z q))] _ (by go_simp) (hcmp _ _ _ hGd hxlt) ?_))
              rintro e w6 ⟨c, rfl, hc, q6⟩
              have hL1' := (hL1.keep q6)
              have hL2' := (hL2.keep q6)
              have hS6 : (fun w' : World => Lie10 w' B (j * 10) (C (z j)) ∧ Lie10 w' B (q * 10) (C (z q))) w6 := ⟨hL1', hL2'⟩
              refine ⟨_, rfl, fun _ => hS6, ?_⟩
              simp only [Act.put, List.getElem_toArray, List.getElem_cons_succ, List.getElem_cons_zero, List.setIfInBounds_toArray, List.set_cons_zero, List.set_cons_succ]
              refine wpW_take 15 _ (.bool (decide (c < 0))) rfl (by kernel_rfl) (by kernel_rfl) (by kernel_rfl) (fun _ _ _ h => h) (by kernel_rfl) (.inl ⟨rfl, fun w' hS' => by go_simp⟩) hS6 ?_
              simp only [Act.put, List.getElem_toArray, List.getElem_cons_succ, List.getElem_cons_zero, List.setIfInBounds_toArray, List.set_cons_zero, List.set_cons_succ]
              refine wpW_take 16 _ (.bool (decide (c < 0))) rfl (by kernel_rfl) (by kernel_rfl) (by kernel_rfl) (fun _ _ _ h => h) (by kernel_rfl) (.inl ⟨rfl, fun w' hS' => by go_simp⟩) hS6 ?_
              simp only [Act.put, List.getElem_toArray, List.getElem_cons_succ, List.getElem_cons_zero, List.setIfInBounds_toArray, List.set_cons_zero, List.set_cons_succ]
              refine wpW_done (by kernel_rfl) ?_
              try simp only [Act.put, List.getElem_toArray, List.getElem_cons_succ, List.getElem_cons_zero, List.setIfInBounds_toArray, List.set_cons_zero, List.set_cons_succ]
              go_wp2_with fail
              go_meet
              case rel => exact ⟨_, rfl, by unfold Hid InsW; rw [← HQ.out, ← hc]; simp [hj], hAd.keep q6, hK _ _ hGd (WrB.of_below q6), (hw.trans (WrB.refl B wr).drew).trans (WrB.of_below q6)⟩
            · have hji2 : ¬ (a : Int) < (j : Int) := by omega
              have HIW : Hid (InsW R z a j false) := ⟨fun hh => (by cases hh), fun hh => absurd hh.1 hj⟩
              refine wp_region_w (fun _ : World => True) (fun _ => true) (by kernel_rfl) ?_
              change wpW _ _ _ _ _ _ 17 _ _ wr.drew
              have hS0 : (fun _ : World => True) wr.drew := trivial
              refine wpW_take 0 _ (.int .i64 j) rfl (by kernel_rfl) (by kernel_rfl) (by kernel_rfl) (fun _ _ _ h => h) (by kernel_rfl) (.inl ⟨rfl, fun w' hS' => by go_simp⟩) hS0 ?_
              simp only [Act.put, List.getElem_toArray, List.getElem_cons_succ, List.getElem_cons_zero, List.setIfInBounds_toArray, List.set_cons_zero, List.set_cons_succ]
              refine wpW_take 1 _ (.int .i64 a) rfl (by kernel_rfl) (by kernel_rfl) (by kernel_rfl) (fun _ _ _ h => h) (by kernel_rfl) (.inl ⟨rfl, fun w' hS' => by go_simp⟩) hS0 ?_
              simp only [Act.put, List.getElem_toArray, List.getElem_cons_succ, List.getElem_cons_zero, List.setIfInBounds_toArray, List.set_cons_zero, List.set_cons_succ]
              refine wpW_take 2 _ (.bool false) rfl (by kernel_rfl) (by kernel_rfl) (by kernel_rfl) (fun _ _ _ h => h) (by kernel_rfl) (.inl ⟨rfl, fun w' hS' => by go_simp⟩) hS0 ?_
              simp only [Act.put, List.getElem_toArray, List.getElem_cons_succ, List.getElem_cons_zero, List.setIfInBounds_toArray, List.set_cons_zero, List.set_cons_succ]
              refine wpW_take 3 _ (.bool false) rfl (by kernel_rfl) (by kernel_rfl) (by kernel_rfl) (fun _ _ _ h => h) (by kernel_rfl) (.inl ⟨rfl, fun w' hS' => by go_simp⟩) hS0 ?_
              simp only [Act.put, List.getElem_toArray, List.getElem_cons_succ, List.getElem_cons_zero, List.setIfInBounds_toArray, List.set_cons_zero, List.set_cons_succ]
              refine wpW_take 4 _ (undef) rfl (by kernel_rfl) (by kernel_rfl) (by kernel_rfl) (fun _ _ _ h => h) (by kernel_rfl) (.inr ⟨rfl, rfl⟩) hS0 ?_
              simp only [Act.put, List.getElem_toArray, List.getElem_cons_succ, List.getElem_cons_zero, List.setIfInBounds_toArray, List.set_cons_zero, List.set_cons_succ]
              refine wpW_take 5 _ (undef) rfl (by kernel_rfl) (by kernel_rfl) (by kernel_rfl) (fun _ _ _ h => h) (by kernel_rfl) (.inr ⟨rfl, rfl⟩) hS0 ?_
              simp only [Act.put, List.getElem_toArray, List.getElem_cons_succ, List.getElem_cons_zero, List.setIfInBounds_toArray, List.set_cons_zero, List.set_cons_succ]
              refine wpW_take 6 _ (undef) rfl (by kernel_rfl) (by kernel_rfl) (by kernel_rfl) (fun _ _ _ h => h) (by kernel_rfl) (.inr ⟨rfl, rfl⟩) hS0 ?_
              simp only [Act.put, List.getElem_toArray, List.getElem_cons_succ, List.getElem_cons_zero, List.setIfInBounds_toArray, List.set_cons_zero, List.set_cons_succ]
              refine wpW_take 7 _ (undef) rfl (by kernel_rfl) (by kernel_rfl) (by kernel_rfl) (fun _ _ _ h => h) (by kernel_rfl) (.inr ⟨rfl, rfl⟩) hS0 ?_
              simp only [Act.put, List.getElem_toArray, List.getElem_cons_succ, List.getElem_cons_zero, List.setIfInBounds_toArray, List.set_cons_zero, List.set_cons_succ]
              refine wpW_take 8 _ (undef) rfl (by kernel_rfl) (by kernel_rfl) (by kernel_rfl) (fun _ _ _ h => h) (by kernel_rfl) (.inr ⟨rfl, rfl⟩) hS0 ?_
              simp only [Act.put, List.getElem_toArray, List.getElem_cons_succ, List.getElem_cons_zero, List.setIfInBounds_toArray, List.set_cons_zero, List.set_cons_succ]
              refine wpW_take 9 _ (undef) rfl (by kernel_rfl) (by kernel_rfl) (by kernel_rfl) (fun _ _ _ h => h) (by kernel_rfl) (.inr ⟨rfl, rfl⟩) hS0 ?_
              simp only [Act.put, List.getElem_toArray, List.getElem_cons_succ, List.getElem_cons_zero, List.setIfInBounds_toArray, List.set_cons_zero, List.set_cons_succ]
              refine wpW_take 10 _ (undef) rfl (by kernel_rfl) (by kernel_rfl) (by kernel_rfl) (fun _ _ _ h => h) (by kernel_rfl) (.inr ⟨rfl, rfl⟩) hS0 ?_
              simp only [Act.put, List.getElem_toArray, List.getElem_cons_succ, List.getElem_cons_zero, List.setIfInBounds_toArray, List.set_cons_zero, List.set_cons_succ]
              refine wpW_take 11 _ (undef) rfl (by kernel_rfl) (by kernel_rfl) (by kernel_rfl) (fun _ _ _ h => h) (by kernel_rfl) (.inr ⟨rfl, rfl⟩) hS0 ?_
              simp only [Act.put, List.getElem_toArray, List.getElem_cons_succ, List.getElem_cons_zero, List.setIfInBounds_toArray, List.set_cons_zero, List.set_cons_succ]
              refine wpW_take 12 _ (undef) rfl (by kernel_rfl) (by kernel_rfl) (by kernel_rfl) (fun _ _ _ h => h) (by kernel_rfl) (.inr ⟨rfl, rfl⟩) hS0 ?_
              simp only [Act.put, List.getElem_toArray, List.getElem_cons_succ, List.getElem_cons_zero, List.setIfInBounds_toArray, List.set_cons_zero, List.set_cons_succ]
              refine wpW_take 13 _ (undef) rfl (by kernel_rfl) (by kernel_rfl) (by kernel_rfl) (fun _ _ _ h => h) (by kernel_rfl) (.inr ⟨rfl, rfl⟩) hS0 ?_
              simp only [Act.put, List.getElem_toArray, List.getElem_cons_succ, List.getElem_cons_zero, List.setIfInBounds_toArray, List.set_cons_zero, List.set_cons_succ]
              refine wpW_take 14 _ (undef) rfl (by kernel_rfl) (by kernel_rfl) (by kernel_rfl) (fun _ _ _ h => h) (by kernel_rfl) (.inr ⟨rfl, rfl⟩) hS0 ?_
              simp only [Act.put, List.getElem_toArray, List.getElem_cons_succ, List.getElem_cons_zero, List.setIfInBounds_toArray, List.set_cons_zero, List.set_cons_succ]
              refine wpW_take 15 _ (undef) rfl (by kernel_rfl) (by kernel_rfl) (by kernel_rfl) (fun _ _ _ h => h) (by kernel_rfl) (.inr ⟨rfl, rfl⟩) hS0 ?_
              simp only [Act.put, List.getElem_toArray, List.getElem_cons_succ, List.getElem_cons_zero, List.setIfInBounds_toArray, List.set_cons_zero, List.set_cons_succ]
              refine wpW_take 16 _ (.bool false) rfl (by kernel_rfl) (by kernel_rfl) (by kernel_rfl) (fun _ _ _ h => h) (by kernel_rfl) (.inl ⟨rfl, fun w' hS' => by go_simp⟩) hS0 ?_
              simp only [Act.put, List.getElem_toArray, List.getElem_cons_succ, List.getElem_cons_zero, List.setIfInBounds_toArray, List.set_cons_zero, List.set_cons_succ]
              refine wpW_done (by kernel_rfl) ?_
              try simp only [Act.put, List.getElem_toArray, List.getElem_cons_succ, List.getElem_cons_zero, List.setIfInBounds_toArray, List.set_cons_zero, List.set_cons_succ]
              go_wp2_with fail
              go_meet
              case rel => exact ⟨_, rfl, HIW, hAd, hGd, hw.trans (WrB.refl B wr).drew⟩
          case rest =>
            clear hA hGr hw hAd hGd hL1 hL2
            obtain ⟨B0, rfl, hc, hA, hGr, hw⟩ := hcut
            cases B0
            · have HU : Hid (UpR R z a (i + 1) ∧ SSet x z a (i + 1)) := by
                refine ⟨HI.out.stop hR ?_, HX2.out _ HI.out.set⟩
                by_cases c : j = a
                · exact .inl c
                · refine .inr (hR.not (fun hr => ?_) ?_)
                  · have := hc.out.2 ⟨by omega, hr⟩
                    cases this
                  · exact Nat.ne_of_gt (HI.out.low (j - 1) (by omega) (by omega) (by omega))
              clear HI hc
              go_wp2
              go_meet
              case rel => exact ⟨z, hA, HU, hGr, hw⟩
            · obtain ⟨haj2, hr⟩ := hc.out.1 rfl
              have HS : Hid (InsI R y (sw1 z j (j - 1)) a i (j - 1)) := HI.out.step haj2 hr
              have hQe := HQ.out
              rw [← hQe] at HS
              obtain ⟨p, hp⟩ : ∃ p, p = j := ⟨_, rfl⟩
              have hpq : p ≠ q := by omega
              have hpn : p < n := by omega
              have HQ2 : Hid (a ≤ q ∧ q < j ∧ q ≤ i) := ⟨by omega, by omega, by omega⟩
              have hwq : IntKind.i64.wrap ((j : Int) - 1) = (q : Int) := by rw [IntKind.wrap_i64] <;> omega
              clear HI hc hr hQe HQ haj2
              subst hp
              have hA' := hA.keep ((Below.refl wc.heap.size wc).drew)
              have hA1 : Lie10 wc.drew B (q * 10) (C (z q)) := hA'.at' q hqn
              have hA2 : Lie10 wc.drew B (p * 10) (C (z p)) := hA'.at' p hpn
              have hF1 : ∀ i, i < 10 → wc.drew.frozen? ⟨B, p * 10 + i, none⟩ = false := fun i hi => hA'.fz _ (by omega)
              have hP1 : Lie10 wc.drew B (p * 10) (C (z p)) := hA2
              have hAp := hA'.put (v := z q) hpn
              have hP2 := hAp.at' q hqn
              have hF2 : ∀ i, i < 10 → (lay10 wc.drew B (p * 10) (C (z q))).frozen? ⟨B, q * 10 + i, none⟩ = false := fun i hi => hAp.fz _ (by omega)
              obtain ⟨hsw1, hsw2⟩ := hA'.swap hpn hqn hpq
              have hwn := (hw.trans (WrB.refl B wc).drew).trans hsw2
              have HW : AR (lay10 (lay10 wc.drew B (p * 10) (C (z q))) B (q * 10) (C (z p))) B n C (sw1 z p q) ∧ G (lay10 (lay10 wc.drew B (p * 10) (C (z q))) B (q * 10) (C (z p))) ∧ WrB B w (lay10 (lay10 wc.drew B (p * 10) (C (z q))) B (q * 10) (C (z p))) := ⟨hsw1, hK _ _ (hK _ _ hGr (WrB.refl B wc).drew) hsw2, hwn⟩
              clear hsw1 hsw2 hAp hwn
              go_upto_block 3 with fail
              go_cut [] from 18 to 52 (fun wx => AR wx B n C (sw1 z p q) ∧ G wx ∧ WrB B w wx)
              case first =>
                go_upto_region 6 with fail
                refine wp_region_w (fun _ : World => True) (fun _ => true) (by kernel_rfl) ?_
                change wpW _ _ _ _ _ _ 18 _ _ wc.drew
                have hS0 : (fun _ : World => True) wc.drew := trivial
                refine wpW_take 0 _ (.slice (some ⟨B, 0, none⟩) n cap) rfl (by kernel_rfl) (by kernel_rfl) (by kernel_rfl) (fun _ _ _ h => h) (by kernel_rfl) (.inl ⟨rfl, fun w' hS' => by go_simp⟩) hS0 ?_
                simp only [Act.put, List.getElem_toArray, List.getElem_cons_succ, List.getElem_cons_zero, List.setIfInBounds_toArray, List.set_cons_zero, List.set_cons_succ]
                refine wpW_take 1 _ (.int .i64 p) rfl (by kernel_rfl) (by kernel_rfl) (by kernel_rfl) (fun _ _ _ h => h) (by kernel_rfl) (.inl ⟨rfl, fun w' hS' => by go_simp⟩) hS0 ?_
                simp only [Act.put, List.getElem_toArray, List.getElem_cons_succ, List.getElem_cons_zero, List.setIfInBounds_toArray, List.set_cons_zero, List.set_cons_succ]
                refine wpW_take 2 _ (.slice (some ⟨B, 0, none⟩) n cap) rfl (by kernel_rfl) (by kernel_rfl) (by kernel_rfl) (fun _ _ _ h => h) (by kernel_rfl) (.inl ⟨rfl, fun w' hS' => by go_simp⟩) hS0 ?_
                simp only [Act.put, List.getElem_toArray, List.getElem_cons_succ, List.getElem_cons_zero, List.setIfInBounds_toArray, List.set_cons_zero, List.set_cons_succ]
                refine wpW_take 3 _ (.int .i64 p) rfl (by kernel_rfl) (by kernel_rfl) (by kernel_rfl) (fun _ _ _ h => h) (by kernel_rfl) (.inl ⟨rfl, fun w' hS' => by go_simp⟩) hS0 ?_
                simp only [Act.put, List.getElem_toArray, List.getElem_cons_succ, List.getElem_cons_zero, List.setIfInBounds_toArray, List.set_cons_zero, List.set_cons_succ]
                refine wpW_take 4 _ (.int .i64 q) rfl (by kernel_rfl) (by kernel_rfl) (by kernel_rfl) (fun _ _ _ h => h) (by kernel_rfl) (.inl ⟨rfl, fun w' hS' => by go_simp⟩) hS0 ?_
                simp only [Act.put, List.getElem_toArray, List.getElem_cons_succ, List.getElem_cons_zero, List.setIfInBounds_toArray, List.set_cons_zero, List.set_cons_succ]
                refine wpW_take 5 _ (.slice (some ⟨B, 0, none⟩) n cap) rfl (by kernel_rfl) (by kernel_rfl) (by kernel_rfl) (fun _ _ _ h => h) (by kernel_rfl) (.inl ⟨rfl, fun w' hS' => by go_simp⟩) hS0 ?_
                simp only [Act.put, List.getElem_toArray, List.getElem_cons_succ, List.getElem_cons_zero, List.setIfInBounds_toArray, List.set_cons_zero, List.set_cons_succ]
                refine wpW_take 6 _ (.int .i64 p) rfl (by kernel_rfl) (by kernel_rfl) (by kernel_rfl) (fun _ _ _ h => h) (by kernel_rfl) (.inl ⟨rfl, fun w' hS' => by go_simp⟩) hS0 ?_
                simp only [Act.put, List.getElem_toArray, List.getElem_cons_succ, List.getElem_cons_zero, List.setIfInBounds_toArray, List.set_cons_zero, List.set_cons_succ]
                refine wpW_take 7 _ (.int .i64 q) rfl (by kernel_rfl) (by kernel_rfl) (by kernel_rfl) (fun _ _ _ h => h) (by kernel_rfl) (.inl ⟨rfl, fun w' hS' => by go_simp⟩) hS0 ?_
                simp only [Act.put, List.getElem_toArray, List.getElem_cons_succ, List.getElem_cons_zero, List.setIfInBounds_toArray, List.set_cons_zero, List.set_cons_succ]
                refine wpW_take 8 _ (.pointer (some ⟨B, q * 10, none⟩)) rfl (by kernel_rfl) (by kernel_rfl) (by kernel_rfl) (fun _ _ _ h => h) (by kernel_rfl) (.inl ⟨rfl, fun w' hS' => by go_simp⟩) hS0 ?_
                simp only [Act.put, List.getElem_toArray, List.getElem_cons_succ, List.getElem_cons_zero, List.setIfInBounds_toArray, List.set_cons_zero, List.set_cons_succ]
                refine wpW_take 10 _ (.slice (some ⟨B, 0, none⟩) n cap) rfl (by kernel_rfl) (by kernel_rfl) (by kernel_rfl) (fun _ _ _ h => h) (by kernel_rfl) (.inl ⟨rfl, fun w' hS' => by go_simp⟩) hS0 ?_
                simp only [Act.put, List.getElem_toArray, List.getElem_cons_succ, List.getElem_cons_zero, List.setIfInBounds_toArray, List.set_cons_zero, List.set_cons_succ]
                refine wpW_take 11 _ (.int .i64 p) rfl (by kernel_rfl) (by kernel_rfl) (by kernel_rfl) (fun _ _ _ h => h) (by kernel_rfl) (.inl ⟨rfl, fun w' hS' => by go_simp⟩) hS0 ?_
                simp only [Act.put, List.getElem_toArray, List.getElem_cons_succ, List.getElem_cons_zero, List.setIfInBounds_toArray, List.set_cons_zero, List.set_cons_succ]
                refine wpW_take 12 _ (.pointer (some ⟨B, p * 10, none⟩)) rfl (by kernel_rfl) (by kernel_rfl) (by kernel_rfl) (fun _ _ _ h => h) (by kernel_rfl) (.inl ⟨rfl, fun w' hS' => by go_simp⟩) hS0 ?_
                simp only [Act.put, List.getElem_toArray, List.getElem_cons_succ, List.getElem_cons_zero, List.setIfInBounds_toArray, List.set_cons_zero, List.set_cons_succ]
                refine wpW_two 9 13 _ _ rfl rfl (by kernel_rfl) ?_ ?_
                · skip
                  refine (step_val rfl (tv (C (z q))) (ldT 45 rfl rfl hA1) ?_)
                  refine ⟨fun _ => trivial, ?_⟩
                  simp only [Act.put, List.getElem_toArray, List.getElem_cons_succ, List.getElem_cons_zero, List.setIfInBounds_toArray, List.set_cons_zero, List.set_cons_succ]
                  refine wpW_one 13 _ rfl (by kernel_rfl) (step_val rfl (tv (C (z p))) (ldT 49 rfl rfl hA2) ?_)
                  refine ⟨fun _ => trivial, ?_⟩
                  simp only [Act.put, List.getElem_toArray, List.getElem_cons_succ, List.getElem_cons_zero, List.setIfInBounds_toArray, List.set_cons_zero, List.set_cons_succ]
                  refine wpW_take 14 _ (.pointer (some ⟨B, p * 10, none⟩)) rfl (by kernel_rfl) (by kernel_rfl) (by kernel_rfl) (fun _ _ _ h => h) (by kernel_rfl) (.inl ⟨rfl, fun w' hS' => by go_simp⟩) hS0 ?_
                  simp only [Act.put, List.getElem_toArray, List.getElem_cons_succ, List.getElem_cons_zero, List.setIfInBounds_toArray, List.set_cons_zero, List.set_cons_succ]
                  -- the second address
                  refine wpW_one 15 _ rfl (by kernel_rfl) (step_storeT (q := p * 10) (c := C (z q)) rfl 51 46 rfl (by simp [Act.eval, Act.put]) (by simp [Act.eval, Act.put]) hP1 hF1 (h1 _) ?_)
                  refine ⟨fun _ => trivial, ?_⟩
                  simp only [Act.put, List.getElem_toArray, List.getElem_cons_succ, List.getElem_cons_zero, List.setIfInBounds_toArray, List.set_cons_zero, List.set_cons_succ]
                  refine wpW_take 16 _ (.pointer (some ⟨B, q * 10, none⟩)) rfl (by kernel_rfl) (by kernel_rfl) (by kernel_rfl) (fun _ _ _ h => h) (by kernel_rfl) (.inl ⟨rfl, fun w' hS' => by go_simp⟩) hS0 ?_
                  simp only [Act.put, List.getElem_toArray, List.getElem_cons_succ, List.getElem_cons_zero, List.setIfInBounds_toArray, List.set_cons_zero, List.set_cons_succ]
                  refine wpW_one 17 _ rfl (by kernel_rfl) (step_storeT (q := q * 10) (c := C (z p)) rfl 52 50 rfl (by simp [Act.eval, Act.put]) (by simp [Act.eval, Act.put]) hP2 hF2 (h1 _) ?_)
                  refine ⟨fun _ => trivial, ?_⟩
                  simp only [Act.put, List.getElem_toArray, List.getElem_cons_succ, List.getElem_cons_zero, List.setIfInBounds_toArray, List.set_cons_zero, List.set_cons_succ]
                  refine wpW_done (by kernel_rfl) ?_
                  try simp only [Act.put, List.getElem_toArray, List.getElem_cons_succ, List.getElem_cons_zero, List.setIfInBounds_toArray, List.set_cons_zero, List.set_cons_succ]
                  go_wp2_with fail
                  go_meet
                  case rel => exact HW
                · skip
                  refine (step_val rfl (tv (C (z p))) (ldT 49 rfl rfl hA2) ?_)
                  refine ⟨fun _ => trivial, ?_⟩
                  simp only [Act.put, List.getElem_toArray, List.getElem_cons_succ, List.getElem_cons_zero, List.setIfInBounds_toArray, List.set_cons_zero, List.set_cons_succ]
                  refine wpW_one 9 _ rfl (by kernel_rfl) (step_val rfl (tv (C (z q))) (ldT 45 rfl rfl hA1) ?_)
                  refine ⟨fun _ => trivial, ?_⟩
                  simp only [Act.put, List.getElem_toArray, List.getElem_cons_succ, List.getElem_cons_zero, List.setIfInBounds_toArray, List.set_cons_zero, List.set_cons_succ]
                  refine wpW_take 14 _ (.pointer (some ⟨B, p * 10, none⟩)) rfl (by kernel_rfl) (by kernel_rfl) (by kernel_rfl) (fun _ _ _ h => h) (by kernel_rfl) (.inl ⟨rfl, fun w' hS' => by go_simp⟩) hS0 ?_
                  simp only [Act.put, List.getElem_toArray, List.getElem_cons_succ, List.getElem_cons_zero, List.setIfInBounds_toArray, List.set_cons_zero, List.set_cons_succ]
                  -- the second address
                  refine wpW_one 15 _ rfl (by kernel_rfl) (step_storeT (q := p * 10) (c := C (z q)) rfl 51 46 rfl (by simp [Act.eval, Act.put]) (by simp [Act.eval, Act.put]) hP1 hF1 (h1 _) ?_)
                  refine ⟨fun _ => trivial, ?_⟩
                  simp only [Act.put, List.getElem_toArray, List.getElem_cons_succ, List.getElem_cons_zero, List.setIfInBounds_toArray, List.set_cons_zero, List.set_cons_succ]
                  refine wpW_take 16 _ (.pointer (some ⟨B, q * 10, none⟩)) rfl (by kernel_rfl) (by kernel_rfl) (by kernel_rfl) (fun _ _ _ h => h) (by kernel_rfl) (.inl ⟨rfl, fun w' hS' => by go_simp⟩) hS0 ?_
                  simp only [Act.put, List.getElem_toArray, List.getElem_cons_succ, List.getElem_cons_zero, List.setIfInBounds_toArray, List.set_cons_zero, List.set_cons_succ]
                  refine wpW_one 17 _ rfl (by kernel_rfl) (step_storeT (q := q * 10) (c := C (z p)) rfl 52 50 rfl (by simp [Act.eval, Act.put]) (by simp [Act.eval, Act.put]) hP2 hF2 (h1 _) ?_)
                  refine ⟨fun _ => trivial, ?_⟩
                  simp only [Act.put, List.getElem_toArray, List.getElem_cons_succ, List.getElem_cons_zero, List.setIfInBounds_toArray, List.set_cons_zero, List.set_cons_succ]
                  refine wpW_done (by kernel_rfl) ?_
                  try simp only [Act.put, List.getElem_toArray, List.getElem_cons_succ, List.getElem_cons_zero, List.setIfInBounds_toArray, List.set_cons_zero, List.set_cons_succ]
                  go_wp2_with fail
                  go_meet
                  case rel => exact HW
              case rest =>
                obtain ⟨hA3, hG3, hw3⟩ := hcut
                clear HW hA' hA1 hA2 hF1 hP1 hP2 hF2 hA hGr hw
                go_wp2
                go_roundw
                case rel => exact ⟨q, _, rfl, HQ2.out.1, HQ2.out.2.2, HS, hA3, hG3, hw3⟩
                case measure => have := HQ2.out; simp [intOf]; omega
      case rest =>
        obtain ⟨z, hA, HU, hGr, hw⟩ := hcut
        clear HI0 hA0 hG0 hw0 HX2
        have hwi : IntKind.i64.wrap ((i : Int) + 1) = ((i + 1 : Nat) : Int) := by rw [IntKind.wrap_i64] <;> omega
        go_wp2
        go_roundw
        case rel => exact ⟨i + 1, z, rfl, by omega, by omega, HU, hA, hGr, hw⟩
        case measure => simp [intOf]; omega
    · obtain rfl : i = b := by omega
      go_wp2
      go_end0
      exact ⟨⟨_, rfl⟩, y, hA, HY.out.1, HY.out.2, hw⟩
end Go.Proofs.Ytjdijikmdlklkaa
