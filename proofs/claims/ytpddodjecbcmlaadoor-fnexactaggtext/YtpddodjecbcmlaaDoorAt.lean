/- The text of an agg, in the program and in the model. -/
import Derived.Test.YtpddodjecbcmlaaDoorNum
import Derived.Test.YtpddodjecbcmlaaDoorGdI
import Derived.Test.YtpddodjecbcmlaaDoorGdS
namespace Go.Proofs.YtpddodjecbcmlaaDoor
open Go.RowKit
set_option linter.unusedSimpArgs false
set_option linter.unusedVariables false

/-- An agg's text, without the last word. -/
def agB (c s lo hi : Int) : ByteArray := ⟨#[110, 61]⟩ ++ tx c ++ ⟨#[32, 115, 61]⟩ ++ tx s ++ ⟨#[32, 108, 111, 61]⟩ ++ tx lo ++ ⟨#[32, 104, 105, 61]⟩ ++ tx hi
/-- An agg's text. -/
def agT (c s lo hi : Int) (fu : Bool) : ByteArray := if fu = true then agB c s lo hi ++ ⟨#[32, 102, 117, 108, 108]⟩ else agB c s lo hi
theorem tx_size (n : Int) (h : -9223372036854775808 ≤ n ∧ n ≤ 9223372036854775807) : (tx n).size ≤ 21 := by
  have := Lib.itoa_length_le n h.1 h.2
  simpa [tx, ByteArray.size] using this
theorem ag_parts (c s lo hi : Int) : ∃ Tc Ts Tl Th A1 A2 A3 A4 A5 A6 A7 : ByteArray, tx c = Tc ∧ tx s = Ts ∧ tx lo = Tl ∧ tx hi = Th ∧ (⟨#[110, 61]⟩ : ByteArray) ++ Tc = A1 ∧ A1 ++ (⟨#[32, 115, 61]⟩ : ByteArray) = A2 ∧ A2 ++ Ts = A3 ∧ A3 ++ (⟨#[32, 108, 111, 61]⟩ : ByteArray) = A4 ∧ A4 ++ Tl = A5 ∧ A5 ++ (⟨#[32, 104, 105, 61]⟩ : ByteArray) = A6 ∧ A6 ++ Th = A7 ∧ agB c s lo hi = A7 :=
  ⟨_, _, _, _, _, _, _, _, _, _, _, rfl, rfl, rfl, rfl, rfl, rfl, rfl, rfl, rfl, rfl, rfl, rfl⟩
theorem ag_sizes {Tc Ts Tl Th A1 A2 A3 A4 A5 A6 A7 : ByteArray} (h1 : Tc.size ≤ 21) (h2 : Ts.size ≤ 21) (h3 : Tl.size ≤ 21) (h4 : Th.size ≤ 21) (e1 : (⟨#[110, 61]⟩ : ByteArray) ++ Tc = A1) (e2 : A1 ++ (⟨#[32, 115, 61]⟩ : ByteArray) = A2) (e3 : A2 ++ Ts = A3) (e4 : A3 ++ (⟨#[32, 108, 111, 61]⟩ : ByteArray) = A4) (e5 : A4 ++ Tl = A5) (e6 : A5 ++ (⟨#[32, 104, 105, 61]⟩ : ByteArray) = A6) (e7 : A6 ++ Th = A7) :
    A1.size ≤ 200 ∧ A2.size ≤ 200 ∧ A3.size ≤ 200 ∧ A4.size ≤ 200 ∧ A5.size ≤ 200 ∧ A6.size ≤ 200 ∧ A7.size ≤ 200 := by
  subst e1 e2 e3 e4 e5 e6 e7
  have l1 : (⟨#[110, 61]⟩ : ByteArray).size = 2 := rfl
  have l2 : (⟨#[32, 115, 61]⟩ : ByteArray).size = 3 := rfl
  have l3 : (⟨#[32, 108, 111, 61]⟩ : ByteArray).size = 4 := rfl
  have l4 : (⟨#[32, 104, 105, 61]⟩ : ByteArray).size = 4 := rfl
  simp only [ByteArray.size_append, l1, l2, l3, l4]
  omega
theorem GoodA.bds {c s lo hi : Int} {n : Nat} {f : Nat → Int} {fu : Bool} (h : GoodA c s lo hi n f fu) : (-9223372036854775808 ≤ c ∧ c ≤ 9223372036854775807) ∧ (-9223372036854775808 ≤ s ∧ s ≤ 9223372036854775807) ∧ (-9223372036854775808 ≤ lo ∧ lo ≤ 9223372036854775807) ∧ (-9223372036854775808 ≤ hi ∧ hi ≤ 9223372036854775807) := by
  obtain ⟨h1, h2, h3, h4, h5, h6, h7⟩ := h
  have hc : 0 ≤ c ∧ c ≤ 1000000000 := by simpa [isC, btw] using h1
  have hs : -1000000000000000000 ≤ s ∧ s ≤ 1000000000000000000 := by
    cases fu
    · have := (h4 rfl).2
      omega
    · have := (h5 rfl).1
      omega
  have hl : (-1000000000 ≤ lo ∧ lo ≤ 1000000000) ∧ (-1000000000 ≤ hi ∧ hi ≤ 1000000000) := by
    by_cases c0 : c = 0
    · have := h6 c0
      omega
    · have := h7 c0
      simp [isV, btw] at this
      omega
  omega
/-- What AggText leaves. -/
def AgO (c s lo hi : Int) (n : Nat) (f : Nat → Int) (fu : Bool) (w : World) (e : Ending) (w' : World) : Prop :=
  ∃ (t : ByteArray) (b : Bool), e = .returned (.tuple #[.string t, .bool b]) ∧ (b = true ↔ GoodA c s lo hi n f fu) ∧ (t = if b = true then agT c s lo hi fu else ⟨#[]⟩) ∧ Below w.heap.size w w'

set_option maxHeartbeats 2000000 in
set_option maxRecDepth 100000 in
theorem aggText_impl (c s lo hi : Int) (ao : Option Addr) (n cap : Nat) (f : Nat → Int) (fu : Bool) (w : World) (hr : IRow w ao n f) (hn : n ≤ 1048576) (hs : -9223372036854775808 ≤ s ∧ s ≤ 9223372036854775807) (ht : TabP w) :
    Calls Tryd.prog 16 #[.agg #[.int .i64 c, .int .i64 s, .int .i64 lo, .int .i64 hi, .slice ao n cap, .bool fu]] w fun e w' => AgO c s lo hi n f fu w e w' := by
  have hB := below_new w (.cells #[.int .i64 c, .int .i64 s, .int .i64 lo, .int .i64 hi, .slice ao n cap, .bool fu] 44)
  have A0 := AAt.new w c s lo hi (.slice ao n cap) fu 44
  go_enter Tryd.func16, Tryd.ntmps16
  go_wp2_with fail
  refine (goodAgg_impl c s lo hi ao n cap f fu _ (hr.keep hB) hn hs).mono ?_
  rintro e w1 ⟨b1, rfl, h1, q0⟩
  have A1 := A0.keep q0
  have B1 : Below w.heap.size w w1 := hB.trans (q0.mono (by simp))
  clear q0 hB A0
  cases b1
  · have K : Hid (¬ (GoodA c s lo hi n f fu)) := fun h => by
      have := h1.2 h
      cases this
    clear h1
    go_wp2
    exact bodyPost_ret (v := .tuple #[.string ⟨#[]⟩, .bool false]) (by simp [results, Tryd.results16, go_sem]) rfl ⟨_, false, rfl, ⟨fun h => (by cases h), fun k => absurd k K.out⟩, by simp, B1⟩
  · have hg := h1.1 rfl
    clear h1
    obtain ⟨bc, bs, bl, bh⟩ := hg.bds
    obtain ⟨Tc, Ts, Tl, Th, A1', A2, A3, A4, A5, A6, A7, hT1, hT2, hT3, hT4, e1, e2, e3, e4, e5, e6, e7, eF⟩ := ag_parts c s lo hi
    obtain ⟨z1, z2, z3, z4, z5, z6, z7⟩ := ag_sizes (hT1 ▸ tx_size c bc) (hT2 ▸ tx_size s bs) (hT3 ▸ tx_size lo bl) (hT4 ▸ tx_size hi bh) e1 e2 e3 e4 e5 e6 e7
    have t1 : Tc.size ≤ 21 := hT1 ▸ tx_size c bc
    have t2 : Ts.size ≤ 21 := hT2 ▸ tx_size s bs
    have t3 : Tl.size ≤ 21 := hT3 ▸ tx_size lo bl
    have t4 : Th.size ≤ 21 := hT4 ▸ tx_size hi bh
    have EF : Hid (agB c s lo hi = A7) := eF
    clear eF
    have HG : Hid (GoodA c s lo hi n f fu) := hg
    clear hg
    go_wp2
    refine wp_region_w (fun w' : World => w'.cell? ⟨w.heap.size, 0, none⟩ = some (.int .i64 c) ∧ w'.cell? ⟨w.heap.size, 1, none⟩ = some (.int .i64 s) ∧ w'.cell? ⟨w.heap.size, 2, none⟩ = some (.int .i64 lo) ∧ w'.cell? ⟨w.heap.size, 3, none⟩ = some (.int .i64 hi)) (fun _ => true) (by kernel_rfl) ?_
    change wpW _ _ _ _ _ _ 20 _ _ w1.drew
    have D0 := A1.keep (Below.refl _ w1).drew
    obtain ⟨_, a0, a1, a2, a3, a4, a5⟩ := id D0
    have hS0 := (⟨a0, a1, a2, a3⟩ : (fun w' : World => w'.cell? ⟨w.heap.size, 0, none⟩ = some (.int .i64 c) ∧ w'.cell? ⟨w.heap.size, 1, none⟩ = some (.int .i64 s) ∧ w'.cell? ⟨w.heap.size, 2, none⟩ = some (.int .i64 lo) ∧ w'.cell? ⟨w.heap.size, 3, none⟩ = some (.int .i64 hi)) w1.drew)
    refine wpW_take 0 _ (.pointer (some ⟨w.heap.size, 0, none⟩)) rfl (by kernel_rfl) (by kernel_rfl) (by kernel_rfl) (fun _ _ _ h => h) (by kernel_rfl) (.inl ⟨rfl, fun w' hS' => by obtain ⟨s0, s1, s2, s3⟩ := hS'; go_simp⟩) hS0 ?_
    refine wpW_take 1 _ (.int .i64 c) rfl (by kernel_rfl) (by kernel_rfl) (by kernel_rfl) (fun _ _ _ h => h) (by kernel_rfl) (.inl ⟨rfl, fun w' hS' => by obtain ⟨s0, s1, s2, s3⟩ := hS'; go_simp⟩) hS0 ?_
    refine wpW_take 5 _ (.pointer (some ⟨w.heap.size, 1, none⟩)) rfl (by kernel_rfl) (by kernel_rfl) (by kernel_rfl) (fun _ _ _ h => h) (by kernel_rfl) (.inl ⟨rfl, fun w' hS' => by obtain ⟨s0, s1, s2, s3⟩ := hS'; go_simp⟩) hS0 ?_
    refine wpW_take 6 _ (.int .i64 s) rfl (by kernel_rfl) (by kernel_rfl) (by kernel_rfl) (fun _ _ _ h => h) (by kernel_rfl) (.inl ⟨rfl, fun w' hS' => by obtain ⟨s0, s1, s2, s3⟩ := hS'; go_simp⟩) hS0 ?_
    refine wpW_take 10 _ (.pointer (some ⟨w.heap.size, 2, none⟩)) rfl (by kernel_rfl) (by kernel_rfl) (by kernel_rfl) (fun _ _ _ h => h) (by kernel_rfl) (.inl ⟨rfl, fun w' hS' => by obtain ⟨s0, s1, s2, s3⟩ := hS'; go_simp⟩) hS0 ?_
    refine wpW_take 11 _ (.int .i64 lo) rfl (by kernel_rfl) (by kernel_rfl) (by kernel_rfl) (fun _ _ _ h => h) (by kernel_rfl) (.inl ⟨rfl, fun w' hS' => by obtain ⟨s0, s1, s2, s3⟩ := hS'; go_simp⟩) hS0 ?_
    refine wpW_take 15 _ (.pointer (some ⟨w.heap.size, 3, none⟩)) rfl (by kernel_rfl) (by kernel_rfl) (by kernel_rfl) (fun _ _ _ h => h) (by kernel_rfl) (.inl ⟨rfl, fun w' hS' => by obtain ⟨s0, s1, s2, s3⟩ := hS'; go_simp⟩) hS0 ?_
    refine wpW_take 16 _ (.int .i64 hi) rfl (by kernel_rfl) (by kernel_rfl) (by kernel_rfl) (fun _ _ _ h => h) (by kernel_rfl) (.inl ⟨rfl, fun w' hS' => by obtain ⟨s0, s1, s2, s3⟩ := hS'; go_simp⟩) hS0 ?_
    simp only [Act.put, List.getElem_toArray, List.getElem_cons_succ, List.getElem_cons_zero, List.setIfInBounds_toArray, List.set_cons_zero, List.set_cons_succ]
    refine wpW_one 2 _ rfl (by kernel_rfl) (step_enter rfl 20 #[.int .i64 c] _ _ (by go_simp) (itoa_any c bc _ (ht.keep B1.drew)) ?_)
    intro u1 q1
    have y1 : Below w.heap.size w u1 := (B1.drew.trans (q1.mono (by have := B1.size; show w.heap.size ≤ w1.heap.size; omega)))
    have D1 := D0.keep q1
    obtain ⟨_, a0, a1, a2, a3, a4, a5⟩ := id D1
    have hS1 := (⟨a0, a1, a2, a3⟩ : (fun w' : World => w'.cell? ⟨w.heap.size, 0, none⟩ = some (.int .i64 c) ∧ w'.cell? ⟨w.heap.size, 1, none⟩ = some (.int .i64 s) ∧ w'.cell? ⟨w.heap.size, 2, none⟩ = some (.int .i64 lo) ∧ w'.cell? ⟨w.heap.size, 3, none⟩ = some (.int .i64 hi)) u1)
    refine ⟨fun _ => hS1, ?_⟩
    change wpW _ _ _ _ _ _ _ _ (Act.put _ _ (.string (tx c))) _
    rw [hT1]
    simp only [Act.put, List.getElem_toArray, List.getElem_cons_succ, List.getElem_cons_zero, List.setIfInBounds_toArray, List.set_cons_zero, List.set_cons_succ]
    refine wpW_take 3 _ (.string A1') rfl (by kernel_rfl) (by kernel_rfl) (by kernel_rfl) (fun _ _ _ h => h) (by kernel_rfl) (.inl ⟨rfl, fun w' hS' => by obtain ⟨s0, s1, s2, s3⟩ := hS'; go_simp; omega⟩) hS1 ?_
    refine wpW_take 4 _ (.string A2) rfl (by kernel_rfl) (by kernel_rfl) (by kernel_rfl) (fun _ _ _ h => h) (by kernel_rfl) (.inl ⟨rfl, fun w' hS' => by obtain ⟨s0, s1, s2, s3⟩ := hS'; go_simp; omega⟩) hS1 ?_
    simp only [Act.put, List.getElem_toArray, List.getElem_cons_succ, List.getElem_cons_zero, List.setIfInBounds_toArray, List.set_cons_zero, List.set_cons_succ]
    refine wpW_one 7 _ rfl (by kernel_rfl) (step_enter rfl 20 #[.int .i64 s] _ _ (by go_simp) (itoa_any s bs _ (ht.keep y1)) ?_)
    intro u2 q2
    have y2 : Below w.heap.size w u2 := y1.trans (q2.mono y1.size)
    have D2 := D1.keep q2
    obtain ⟨_, a0, a1, a2, a3, a4, a5⟩ := id D2
    have hS2 := (⟨a0, a1, a2, a3⟩ : (fun w' : World => w'.cell? ⟨w.heap.size, 0, none⟩ = some (.int .i64 c) ∧ w'.cell? ⟨w.heap.size, 1, none⟩ = some (.int .i64 s) ∧ w'.cell? ⟨w.heap.size, 2, none⟩ = some (.int .i64 lo) ∧ w'.cell? ⟨w.heap.size, 3, none⟩ = some (.int .i64 hi)) u2)
    refine ⟨fun _ => hS2, ?_⟩
    change wpW _ _ _ _ _ _ _ _ (Act.put _ _ (.string (tx s))) _
    rw [hT2]
    simp only [Act.put, List.getElem_toArray, List.getElem_cons_succ, List.getElem_cons_zero, List.setIfInBounds_toArray, List.set_cons_zero, List.set_cons_succ]
    refine wpW_take 8 _ (.string A3) rfl (by kernel_rfl) (by kernel_rfl) (by kernel_rfl) (fun _ _ _ h => h) (by kernel_rfl) (.inl ⟨rfl, fun w' hS' => by obtain ⟨s0, s1, s2, s3⟩ := hS'; go_simp; omega⟩) hS2 ?_
    refine wpW_take 9 _ (.string A4) rfl (by kernel_rfl) (by kernel_rfl) (by kernel_rfl) (fun _ _ _ h => h) (by kernel_rfl) (.inl ⟨rfl, fun w' hS' => by obtain ⟨s0, s1, s2, s3⟩ := hS'; go_simp; omega⟩) hS2 ?_
    simp only [Act.put, List.getElem_toArray, List.getElem_cons_succ, List.getElem_cons_zero, List.setIfInBounds_toArray, List.set_cons_zero, List.set_cons_succ]
    refine wpW_one 12 _ rfl (by kernel_rfl) (step_enter rfl 20 #[.int .i64 lo] _ _ (by go_simp) (itoa_any lo bl _ (ht.keep y2)) ?_)
    intro u3 q3
    have y3 : Below w.heap.size w u3 := y2.trans (q3.mono y2.size)
    have D3 := D2.keep q3
    obtain ⟨_, a0, a1, a2, a3, a4, a5⟩ := id D3
    have hS3 := (⟨a0, a1, a2, a3⟩ : (fun w' : World => w'.cell? ⟨w.heap.size, 0, none⟩ = some (.int .i64 c) ∧ w'.cell? ⟨w.heap.size, 1, none⟩ = some (.int .i64 s) ∧ w'.cell? ⟨w.heap.size, 2, none⟩ = some (.int .i64 lo) ∧ w'.cell? ⟨w.heap.size, 3, none⟩ = some (.int .i64 hi)) u3)
    refine ⟨fun _ => hS3, ?_⟩
    change wpW _ _ _ _ _ _ _ _ (Act.put _ _ (.string (tx lo))) _
    rw [hT3]
    simp only [Act.put, List.getElem_toArray, List.getElem_cons_succ, List.getElem_cons_zero, List.setIfInBounds_toArray, List.set_cons_zero, List.set_cons_succ]
    refine wpW_take 13 _ (.string A5) rfl (by kernel_rfl) (by kernel_rfl) (by kernel_rfl) (fun _ _ _ h => h) (by kernel_rfl) (.inl ⟨rfl, fun w' hS' => by obtain ⟨s0, s1, s2, s3⟩ := hS'; go_simp; omega⟩) hS3 ?_
    refine wpW_take 14 _ (.string A6) rfl (by kernel_rfl) (by kernel_rfl) (by kernel_rfl) (fun _ _ _ h => h) (by kernel_rfl) (.inl ⟨rfl, fun w' hS' => by obtain ⟨s0, s1, s2, s3⟩ := hS'; go_simp; omega⟩) hS3 ?_
    simp only [Act.put, List.getElem_toArray, List.getElem_cons_succ, List.getElem_cons_zero, List.setIfInBounds_toArray, List.set_cons_zero, List.set_cons_succ]
    refine wpW_one 17 _ rfl (by kernel_rfl) (step_enter rfl 20 #[.int .i64 hi] _ _ (by go_simp) (itoa_any hi bh _ (ht.keep y3)) ?_)
    intro u4 q4
    have y4 : Below w.heap.size w u4 := y3.trans (q4.mono y3.size)
    have D4 := D3.keep q4
    obtain ⟨_, a0, a1, a2, a3, a4, a5⟩ := id D4
    have hS4 := (⟨a0, a1, a2, a3⟩ : (fun w' : World => w'.cell? ⟨w.heap.size, 0, none⟩ = some (.int .i64 c) ∧ w'.cell? ⟨w.heap.size, 1, none⟩ = some (.int .i64 s) ∧ w'.cell? ⟨w.heap.size, 2, none⟩ = some (.int .i64 lo) ∧ w'.cell? ⟨w.heap.size, 3, none⟩ = some (.int .i64 hi)) u4)
    refine ⟨fun _ => hS4, ?_⟩
    change wpW _ _ _ _ _ _ _ _ (Act.put _ _ (.string (tx hi))) _
    rw [hT4]
    simp only [Act.put, List.getElem_toArray, List.getElem_cons_succ, List.getElem_cons_zero, List.setIfInBounds_toArray, List.set_cons_zero, List.set_cons_succ]
    refine wpW_take 18 _ (.string A7) rfl (by kernel_rfl) (by kernel_rfl) (by kernel_rfl) (fun _ _ _ h => h) (by kernel_rfl) (.inl ⟨rfl, fun w' hS' => by obtain ⟨s0, s1, s2, s3⟩ := hS'; go_simp; omega⟩) hS4 ?_
    simp only [Act.put, List.getElem_toArray, List.getElem_cons_succ, List.getElem_cons_zero, List.setIfInBounds_toArray, List.set_cons_zero, List.set_cons_succ]
    refine wpW_one 19 _ rfl (by kernel_rfl) (step_val rfl (.string A7) (w' := u4) (by go_simp) ?_)
    refine ⟨fun _ => hS4, ?_⟩
    refine wpW_done (by kernel_rfl) ?_
    simp only [Act.put, List.getElem_toArray, List.getElem_cons_succ, List.getElem_cons_zero, List.setIfInBounds_toArray, List.set_cons_zero, List.set_cons_succ]
    have hfu := a5
    have EF' := EF
    cases fu
    · go_wp2
      exact bodyPost_ret (v := .tuple #[.string A7, .bool true]) (by simp [results, Tryd.results16, go_sem]) rfl ⟨_, true, rfl, ⟨fun h => HG.out, fun k => rfl⟩, by simp [agT, EF.out], y4⟩
    · go_wp2
      exact bodyPost_ret (v := .tuple #[.string (A7 ++ ⟨#[32, 102, 117, 108, 108]⟩), .bool true]) (by simp [results, Tryd.results16, go_sem]) rfl ⟨_, true, rfl, ⟨fun h => HG.out, fun k => rfl⟩, by simp [agT, EF.out], y4⟩
set_option maxHeartbeats 2000000 in
set_option maxRecDepth 100000 in
theorem l12Agg_any (c s lo hi : Int) (ao : Option Addr) (n cap : Nat) (fu : Bool) (w : World) (bc : -9223372036854775808 ≤ c ∧ c ≤ 9223372036854775807) (bs : -9223372036854775808 ≤ s ∧ s ≤ 9223372036854775807) (bl : -9223372036854775808 ≤ lo ∧ lo ≤ 9223372036854775807) (bh : -9223372036854775808 ≤ hi ∧ hi ≤ 9223372036854775807) :
    Calls Tryd.prog 31 #[.agg #[.int .i64 c, .int .i64 s, .int .i64 lo, .int .i64 hi, .slice ao n cap, .bool fu]] w fun e w' => e = .returned (.string (agT c s lo hi fu)) ∧ Below w.heap.size w w' := by
  have B1 := below_new w (.cells #[.int .i64 c, .int .i64 s, .int .i64 lo, .int .i64 hi, .slice ao n cap, .bool fu] 44)
  have A1 := AAt.new w c s lo hi (.slice ao n cap) fu 44
  obtain ⟨Tc, Ts, Tl, Th, A1', A2, A3, A4, A5, A6, A7, hT1, hT2, hT3, hT4, e1, e2, e3, e4, e5, e6, e7, eF⟩ := ag_parts c s lo hi
  obtain ⟨z1, z2, z3, z4, z5, z6, z7⟩ := ag_sizes (hT1 ▸ tx_size c bc) (hT2 ▸ tx_size s bs) (hT3 ▸ tx_size lo bl) (hT4 ▸ tx_size hi bh) e1 e2 e3 e4 e5 e6 e7
  have t1 : Tc.size ≤ 21 := hT1 ▸ tx_size c bc
  have t2 : Ts.size ≤ 21 := hT2 ▸ tx_size s bs
  have t3 : Tl.size ≤ 21 := hT3 ▸ tx_size lo bl
  have t4 : Th.size ≤ 21 := hT4 ▸ tx_size hi bh
  have EF : Hid (agB c s lo hi = A7) := eF
  clear eF
  go_enter Tryd.func31, Tryd.ntmps31
  go_wp2
  refine wp_region_w (fun w' : World => w'.cell? ⟨w.heap.size, 0, none⟩ = some (.int .i64 c) ∧ w'.cell? ⟨w.heap.size, 1, none⟩ = some (.int .i64 s) ∧ w'.cell? ⟨w.heap.size, 2, none⟩ = some (.int .i64 lo) ∧ w'.cell? ⟨w.heap.size, 3, none⟩ = some (.int .i64 hi)) (fun _ => true) (by kernel_rfl) ?_
  change wpW _ _ _ _ _ _ 20 _ _ (w.alloc (.cells #[.int .i64 c, .int .i64 s, .int .i64 lo, .int .i64 hi, .slice ao n cap, .bool fu] 44)).drew
  have D0 := A1.keep (Below.refl _ (w.alloc (.cells #[.int .i64 c, .int .i64 s, .int .i64 lo, .int .i64 hi, .slice ao n cap, .bool fu] 44))).drew
  obtain ⟨_, a0, a1, a2, a3, a4, a5⟩ := id D0
  have hS0 := (⟨a0, a1, a2, a3⟩ : (fun w' : World => w'.cell? ⟨w.heap.size, 0, none⟩ = some (.int .i64 c) ∧ w'.cell? ⟨w.heap.size, 1, none⟩ = some (.int .i64 s) ∧ w'.cell? ⟨w.heap.size, 2, none⟩ = some (.int .i64 lo) ∧ w'.cell? ⟨w.heap.size, 3, none⟩ = some (.int .i64 hi)) (w.alloc (.cells #[.int .i64 c, .int .i64 s, .int .i64 lo, .int .i64 hi, .slice ao n cap, .bool fu] 44)).drew)
  refine wpW_take 0 _ (.pointer (some ⟨w.heap.size, 0, none⟩)) rfl (by kernel_rfl) (by kernel_rfl) (by kernel_rfl) (fun _ _ _ h => h) (by kernel_rfl) (.inl ⟨rfl, fun w' hS' => by obtain ⟨s0, s1, s2, s3⟩ := hS'; go_simp⟩) hS0 ?_
  refine wpW_take 1 _ (.int .i64 c) rfl (by kernel_rfl) (by kernel_rfl) (by kernel_rfl) (fun _ _ _ h => h) (by kernel_rfl) (.inl ⟨rfl, fun w' hS' => by obtain ⟨s0, s1, s2, s3⟩ := hS'; go_simp⟩) hS0 ?_
  refine wpW_take 5 _ (.pointer (some ⟨w.heap.size, 1, none⟩)) rfl (by kernel_rfl) (by kernel_rfl) (by kernel_rfl) (fun _ _ _ h => h) (by kernel_rfl) (.inl ⟨rfl, fun w' hS' => by obtain ⟨s0, s1, s2, s3⟩ := hS'; go_simp⟩) hS0 ?_
  refine wpW_take 6 _ (.int .i64 s) rfl (by kernel_rfl) (by kernel_rfl) (by kernel_rfl) (fun _ _ _ h => h) (by kernel_rfl) (.inl ⟨rfl, fun w' hS' => by obtain ⟨s0, s1, s2, s3⟩ := hS'; go_simp⟩) hS0 ?_
  refine wpW_take 10 _ (.pointer (some ⟨w.heap.size, 2, none⟩)) rfl (by kernel_rfl) (by kernel_rfl) (by kernel_rfl) (fun _ _ _ h => h) (by kernel_rfl) (.inl ⟨rfl, fun w' hS' => by obtain ⟨s0, s1, s2, s3⟩ := hS'; go_simp⟩) hS0 ?_
  refine wpW_take 11 _ (.int .i64 lo) rfl (by kernel_rfl) (by kernel_rfl) (by kernel_rfl) (fun _ _ _ h => h) (by kernel_rfl) (.inl ⟨rfl, fun w' hS' => by obtain ⟨s0, s1, s2, s3⟩ := hS'; go_simp⟩) hS0 ?_
  refine wpW_take 15 _ (.pointer (some ⟨w.heap.size, 3, none⟩)) rfl (by kernel_rfl) (by kernel_rfl) (by kernel_rfl) (fun _ _ _ h => h) (by kernel_rfl) (.inl ⟨rfl, fun w' hS' => by obtain ⟨s0, s1, s2, s3⟩ := hS'; go_simp⟩) hS0 ?_
  refine wpW_take 16 _ (.int .i64 hi) rfl (by kernel_rfl) (by kernel_rfl) (by kernel_rfl) (fun _ _ _ h => h) (by kernel_rfl) (.inl ⟨rfl, fun w' hS' => by obtain ⟨s0, s1, s2, s3⟩ := hS'; go_simp⟩) hS0 ?_
  simp only [Act.put, List.getElem_toArray, List.getElem_cons_succ, List.getElem_cons_zero, List.setIfInBounds_toArray, List.set_cons_zero, List.set_cons_succ]
  refine wpW_one 2 _ rfl (by kernel_rfl) (step_enter rfl 41 #[.int .i64 c] _ _ (by go_simp) (l1Num_any c bc _) ?_)
  intro u1 q1
  have y1 : Below w.heap.size w u1 := (B1.drew.trans (q1.mono (by have := B1.size; simp)))
  have D1 := D0.keep q1
  obtain ⟨_, a0, a1, a2, a3, a4, a5⟩ := id D1
  have hS1 := (⟨a0, a1, a2, a3⟩ : (fun w' : World => w'.cell? ⟨w.heap.size, 0, none⟩ = some (.int .i64 c) ∧ w'.cell? ⟨w.heap.size, 1, none⟩ = some (.int .i64 s) ∧ w'.cell? ⟨w.heap.size, 2, none⟩ = some (.int .i64 lo) ∧ w'.cell? ⟨w.heap.size, 3, none⟩ = some (.int .i64 hi)) u1)
  refine ⟨fun _ => hS1, ?_⟩
  change wpW _ _ _ _ _ _ _ _ (Act.put _ _ (.string (tx c))) _
  rw [hT1]
  simp only [Act.put, List.getElem_toArray, List.getElem_cons_succ, List.getElem_cons_zero, List.setIfInBounds_toArray, List.set_cons_zero, List.set_cons_succ]
  refine wpW_take 3 _ (.string A1') rfl (by kernel_rfl) (by kernel_rfl) (by kernel_rfl) (fun _ _ _ h => h) (by kernel_rfl) (.inl ⟨rfl, fun w' hS' => by obtain ⟨s0, s1, s2, s3⟩ := hS'; go_simp; omega⟩) hS1 ?_
  refine wpW_take 4 _ (.string A2) rfl (by kernel_rfl) (by kernel_rfl) (by kernel_rfl) (fun _ _ _ h => h) (by kernel_rfl) (.inl ⟨rfl, fun w' hS' => by obtain ⟨s0, s1, s2, s3⟩ := hS'; go_simp; omega⟩) hS1 ?_
  simp only [Act.put, List.getElem_toArray, List.getElem_cons_succ, List.getElem_cons_zero, List.setIfInBounds_toArray, List.set_cons_zero, List.set_cons_succ]
  refine wpW_one 7 _ rfl (by kernel_rfl) (step_enter rfl 41 #[.int .i64 s] _ _ (by go_simp) (l1Num_any s bs _) ?_)
  intro u2 q2
  have y2 : Below w.heap.size w u2 := y1.trans (q2.mono y1.size)
  have D2 := D1.keep q2
  obtain ⟨_, a0, a1, a2, a3, a4, a5⟩ := id D2
  have hS2 := (⟨a0, a1, a2, a3⟩ : (fun w' : World => w'.cell? ⟨w.heap.size, 0, none⟩ = some (.int .i64 c) ∧ w'.cell? ⟨w.heap.size, 1, none⟩ = some (.int .i64 s) ∧ w'.cell? ⟨w.heap.size, 2, none⟩ = some (.int .i64 lo) ∧ w'.cell? ⟨w.heap.size, 3, none⟩ = some (.int .i64 hi)) u2)
  refine ⟨fun _ => hS2, ?_⟩
  change wpW _ _ _ _ _ _ _ _ (Act.put _ _ (.string (tx s))) _
  rw [hT2]
  simp only [Act.put, List.getElem_toArray, List.getElem_cons_succ, List.getElem_cons_zero, List.setIfInBounds_toArray, List.set_cons_zero, List.set_cons_succ]
  refine wpW_take 8 _ (.string A3) rfl (by kernel_rfl) (by kernel_rfl) (by kernel_rfl) (fun _ _ _ h => h) (by kernel_rfl) (.inl ⟨rfl, fun w' hS' => by obtain ⟨s0, s1, s2, s3⟩ := hS'; go_simp; omega⟩) hS2 ?_
  refine wpW_take 9 _ (.string A4) rfl (by kernel_rfl) (by kernel_rfl) (by kernel_rfl) (fun _ _ _ h => h) (by kernel_rfl) (.inl ⟨rfl, fun w' hS' => by obtain ⟨s0, s1, s2, s3⟩ := hS'; go_simp; omega⟩) hS2 ?_
  simp only [Act.put, List.getElem_toArray, List.getElem_cons_succ, List.getElem_cons_zero, List.setIfInBounds_toArray, List.set_cons_zero, List.set_cons_succ]
  refine wpW_one 12 _ rfl (by kernel_rfl) (step_enter rfl 41 #[.int .i64 lo] _ _ (by go_simp) (l1Num_any lo bl _) ?_)
  intro u3 q3
  have y3 : Below w.heap.size w u3 := y2.trans (q3.mono y2.size)
  have D3 := D2.keep q3
  obtain ⟨_, a0, a1, a2, a3, a4, a5⟩ := id D3
  have hS3 := (⟨a0, a1, a2, a3⟩ : (fun w' : World => w'.cell? ⟨w.heap.size, 0, none⟩ = some (.int .i64 c) ∧ w'.cell? ⟨w.heap.size, 1, none⟩ = some (.int .i64 s) ∧ w'.cell? ⟨w.heap.size, 2, none⟩ = some (.int .i64 lo) ∧ w'.cell? ⟨w.heap.size, 3, none⟩ = some (.int .i64 hi)) u3)
  refine ⟨fun _ => hS3, ?_⟩
  change wpW _ _ _ _ _ _ _ _ (Act.put _ _ (.string (tx lo))) _
  rw [hT3]
  simp only [Act.put, List.getElem_toArray, List.getElem_cons_succ, List.getElem_cons_zero, List.setIfInBounds_toArray, List.set_cons_zero, List.set_cons_succ]
  refine wpW_take 13 _ (.string A5) rfl (by kernel_rfl) (by kernel_rfl) (by kernel_rfl) (fun _ _ _ h => h) (by kernel_rfl) (.inl ⟨rfl, fun w' hS' => by obtain ⟨s0, s1, s2, s3⟩ := hS'; go_simp; omega⟩) hS3 ?_
  refine wpW_take 14 _ (.string A6) rfl (by kernel_rfl) (by kernel_rfl) (by kernel_rfl) (fun _ _ _ h => h) (by kernel_rfl) (.inl ⟨rfl, fun w' hS' => by obtain ⟨s0, s1, s2, s3⟩ := hS'; go_simp; omega⟩) hS3 ?_
  simp only [Act.put, List.getElem_toArray, List.getElem_cons_succ, List.getElem_cons_zero, List.setIfInBounds_toArray, List.set_cons_zero, List.set_cons_succ]
  refine wpW_one 17 _ rfl (by kernel_rfl) (step_enter rfl 41 #[.int .i64 hi] _ _ (by go_simp) (l1Num_any hi bh _) ?_)
  intro u4 q4
  have y4 : Below w.heap.size w u4 := y3.trans (q4.mono y3.size)
  have D4 := D3.keep q4
  obtain ⟨_, a0, a1, a2, a3, a4, a5⟩ := id D4
  have hS4 := (⟨a0, a1, a2, a3⟩ : (fun w' : World => w'.cell? ⟨w.heap.size, 0, none⟩ = some (.int .i64 c) ∧ w'.cell? ⟨w.heap.size, 1, none⟩ = some (.int .i64 s) ∧ w'.cell? ⟨w.heap.size, 2, none⟩ = some (.int .i64 lo) ∧ w'.cell? ⟨w.heap.size, 3, none⟩ = some (.int .i64 hi)) u4)
  refine ⟨fun _ => hS4, ?_⟩
  change wpW _ _ _ _ _ _ _ _ (Act.put _ _ (.string (tx hi))) _
  rw [hT4]
  simp only [Act.put, List.getElem_toArray, List.getElem_cons_succ, List.getElem_cons_zero, List.setIfInBounds_toArray, List.set_cons_zero, List.set_cons_succ]
  refine wpW_take 18 _ (.string A7) rfl (by kernel_rfl) (by kernel_rfl) (by kernel_rfl) (fun _ _ _ h => h) (by kernel_rfl) (.inl ⟨rfl, fun w' hS' => by obtain ⟨s0, s1, s2, s3⟩ := hS'; go_simp; omega⟩) hS4 ?_
  simp only [Act.put, List.getElem_toArray, List.getElem_cons_succ, List.getElem_cons_zero, List.setIfInBounds_toArray, List.set_cons_zero, List.set_cons_succ]
  refine wpW_one 19 _ rfl (by kernel_rfl) (step_val rfl (.string A7) (w' := u4) (by go_simp) ?_)
  refine ⟨fun _ => hS4, ?_⟩
  refine wpW_done (by kernel_rfl) ?_
  simp only [Act.put, List.getElem_toArray, List.getElem_cons_succ, List.getElem_cons_zero, List.setIfInBounds_toArray, List.set_cons_zero, List.set_cons_succ]
  cases fu
  · go_wp2
    exact bodyPost_ret (v := .string A7) (by simp [results, Tryd.results31, go_sem]) rfl ⟨by simp [agT, EF.out], y4⟩
  · go_wp2
    exact bodyPost_ret (v := .string (A7 ++ ⟨#[32, 102, 117, 108, 108]⟩)) (by simp [results, Tryd.results31, go_sem]) rfl ⟨by simp [agT, EF.out], y4⟩

set_option maxHeartbeats 2000000 in
set_option maxRecDepth 100000 in
theorem aggText_spec (c s lo hi : Int) (ao : Option Addr) (n cap : Nat) (f : Nat → Int) (fu : Bool) (w : World) (hr : IRow w ao n f) (hn : n ≤ 1048576) (hs : -9223372036854775808 ≤ s ∧ s ≤ 9223372036854775807) :
    Calls Tryd.prog 14 #[.agg #[.int .i64 c, .int .i64 s, .int .i64 lo, .int .i64 hi, .slice ao n cap, .bool fu]] w fun e w' => AgO c s lo hi n f fu w e w' := by
  have hB := below_new w (.cells #[.int .i64 c, .int .i64 s, .int .i64 lo, .int .i64 hi, .slice ao n cap, .bool fu] 44)
  have A0 := AAt.new w c s lo hi (.slice ao n cap) fu 44
  go_enter Tryd.func14, Tryd.ntmps14
  go_wp2_with fail
  refine (goodAgg_spec c s lo hi ao n cap f fu _ (hr.keep hB) hn hs).mono ?_
  rintro e w1 ⟨b1, rfl, h1, q0⟩
  have A1 := A0.keep q0
  have B1 : Below w.heap.size w w1 := hB.trans (q0.mono (by simp))
  clear q0 hB A0
  cases b1
  · have K : Hid (¬ (GoodA c s lo hi n f fu)) := fun h => by
      have := h1.2 h
      cases this
    clear h1
    go_wp2
    exact bodyPost_ret (v := .tuple #[.string ⟨#[]⟩, .bool false]) (by simp [results, Tryd.results14, go_sem]) rfl ⟨_, false, rfl, ⟨fun h => (by cases h), fun k => absurd k K.out⟩, by simp, B1⟩
  · have hg := h1.1 rfl
    clear h1
    obtain ⟨bc, bs, bl, bh⟩ := hg.bds
    have HG : Hid (GoodA c s lo hi n f fu) := hg
    clear hg
    obtain ⟨la, a0, a1, a2, a3, a4, a5⟩ := id A1
    go_wp2_with fail
    refine (l12Agg_any c s lo hi ao n cap fu _ bc bs bl bh).mono ?_
    rintro e w2 ⟨rfl, q2⟩
    have B2 : Below w.heap.size w w2 := B1.trans (q2.mono B1.size)
    obtain ⟨T, hT⟩ : ∃ T, agT c s lo hi fu = T := ⟨_, rfl⟩
    rw [hT]
    have HT : Hid (agT c s lo hi fu = T) := hT
    clear hT
    go_wp2
    exact bodyPost_ret (v := .tuple #[.string T, .bool true]) (by simp [results, Tryd.results14, go_sem]) rfl ⟨_, true, rfl, ⟨fun h => HG.out, fun k => rfl⟩, by simp [HT.out], B2⟩
end Go.Proofs.YtpddodjecbcmlaaDoor
