/- Edits that are good: the whole of it, in both texts. -/
import Derived.Test.YtagkhohglpjjlaaGd9
namespace Go.Proofs.Ytagkhohglpjjlaa
open Go.RowKit
set_option linter.unusedSimpArgs false
set_option linter.unusedVariables false

section
variable (nx lg sq : Int) (da : Option Addr) (nd cd : Nat) (f : Nat → Int) (aa : Option Addr) (na ca : Nat) (Y : Nat → Adm)
set_option maxHeartbeats 1600000 in
theorem goodEdit_any (w : World) (hr : IRow w da nd f) (hy : DRow w aa na Y) (hd : nd ≤ 1048576) (ha : na ≤ 1048576) :
    Calls Try.prog 13 #[.agg #[.int .i64 nx, .int .i64 lg, .int .i64 sq, .slice da nd cd, .slice aa na ca]] w fun e w' => Ans (GoodEd nx lg sq nd f na Y) w e w' := by
  have bn0 := below_new w (.cells #[.int .i64 nx, .int .i64 lg, .int .i64 sq, .slice da nd cd, .slice aa na ca] 29)
  have A0 := EX.new w nx lg sq (.slice da nd cd) (.slice aa na ca) 29
  go_enter Try.func13, Try.ntmps13
  go_wp2_with fail
  refine (isFileNumber_any nx _).mono ?_
  rintro e w1 ⟨rfl, rfl⟩
  cases h1 : fN nx
  · have H : Hid (¬ GoodEd nx lg sq nd f na Y) := fun h => by have := h.1; rw [h1] at this; cases this
    go_wp2
    go_ret
    exact Ans.mk false (by have := H.out; simp only [Bool.false_eq_true, this]) bn0
  go_wp2_with fail
  refine (isFileNumber_any lg _).mono ?_
  rintro e w1 ⟨rfl, rfl⟩
  cases h2 : fN lg
  · have H : Hid (¬ GoodEd nx lg sq nd f na Y) := fun h => by have := h.2.1; rw [h2] at this; cases this
    go_wp2
    go_ret
    exact Ans.mk false (by have := H.out; simp only [Bool.false_eq_true, this]) bn0
  go_wp2_with fail
  refine (isLastSeq_any sq _).mono ?_
  rintro e w1 ⟨rfl, rfl⟩
  cases h3 : isC sq
  · have H : Hid (¬ GoodEd nx lg sq nd f na Y) := fun h => by have := h.2.2.1; rw [h3] at this; cases this
    go_wp2
    go_ret
    exact Ans.mk false (by have := H.out; simp only [Bool.false_eq_true, this]) bn0
  go_wp2_with fail
  generalize w.alloc (.cells #[.int .i64 nx, .int .i64 lg, .int .i64 sq, .slice da nd cd, .slice aa na ca] 29) = w0 at *
  refine (goodDrops_any da nd cd f w0 (hr.keep bn0) hd).mono ?_
  rintro e w2 ⟨b2, rfl, g2, q2⟩
  have A2 := A0.keep q2
  have bw2 := bn0.trans (q2.mono bn0.size)
  clear q2 A0 bn0
  obtain ⟨_, x0, x1, x2, x3, x4⟩ := id A2
  cases b2
  · have H : Hid (¬ GoodEd nx lg sq nd f na Y) := fun h => by have := g2.2 h.2.2.2.1; cases this
    clear g2
    go_wp2
    go_ret
    exact Ans.mk false (by have := H.out; simp only [Bool.false_eq_true, this]) bw2
  have H2 : Hid ((na ≤ 24 ∧ ∀ i, i < na → ga (Y i) = true) ↔ GoodEd nx lg sq nd f na Y) := ⟨fun h => ⟨h1, h2, h3, g2.1 rfl, h⟩, fun h => h.2.2.2.2⟩
  clear g2
  go_wp2_with fail
  refine (goodAdds_any aa na ca Y w2 (hy.keep bw2) ha).mono ?_
  rintro e w3 ⟨b3, rfl, g3, q3⟩
  have bw3 := bw2.trans (q3.mono bw2.size)
  have H3 : Hid (b3 = true ↔ GoodEd nx lg sq nd f na Y) := g3.trans H2.out
  clear g3 H2 q3
  go_wp2
  go_ret
  exact Ans.mk b3 H3.out bw3

set_option maxHeartbeats 3200000 in
theorem l9Edit_any (w : World) (hr : IRow w da nd f) (hy : DRow w aa na Y) (hd : nd ≤ 1048576) (ha : na ≤ 1048576) :
    Calls Try.prog 18 #[.agg #[.int .i64 nx, .int .i64 lg, .int .i64 sq, .slice da nd cd, .slice aa na ca]] w fun e w' => Ans (GoodEd nx lg sq nd f na Y) w e w' := by
  have bn0 := below_new w (.cells #[.int .i64 nx, .int .i64 lg, .int .i64 sq, .slice da nd cd, .slice aa na ca] 29)
  have A0 := EX.new w nx lg sq (.slice da nd cd) (.slice aa na ca) 29
  go_enter Try.func18, Try.ntmps18
  go_wp2_with fail
  refine (l9File_any nx _).mono ?_
  rintro e w1 ⟨rfl, rfl⟩
  cases h1 : fN nx
  · have H : Hid (¬ GoodEd nx lg sq nd f na Y) := fun h => by have := h.1; rw [h1] at this; cases this
    go_wp2
    go_ret
    exact Ans.mk false (by have := H.out; simp only [Bool.false_eq_true, this]) bn0
  go_wp2_with fail
  refine (l9File_any lg _).mono ?_
  rintro e w1 ⟨rfl, rfl⟩
  cases h2 : fN lg
  · have H : Hid (¬ GoodEd nx lg sq nd f na Y) := fun h => by have := h.2.1; rw [h2] at this; cases this
    go_wp2
    go_ret
    exact Ans.mk false (by have := H.out; simp only [Bool.false_eq_true, this]) bn0
  go_wp2_with fail
  refine (l1In_any sq 0 1000000000 _).mono ?_
  rintro e w1 ⟨rfl, rfl⟩
  have he : btw 0 sq 1000000000 = isC sq := rfl
  rw [he]
  clear he
  cases h3 : isC sq
  · have H : Hid (¬ GoodEd nx lg sq nd f na Y) := fun h => by have := h.2.2.1; rw [h3] at this; cases this
    go_wp2
    go_ret
    exact Ans.mk false (by have := H.out; simp only [Bool.false_eq_true, this]) bn0
  by_cases h4 : 24 < nd
  · have H : Hid (¬ GoodEd nx lg sq nd f na Y) := fun h => by have := h.2.2.2.1.1; omega
    have hd4 : decide ((24 : Int) < (nd : Int)) = true := decide_eq_true (by omega)
    go_wp2
    go_ret
    exact Ans.mk false (by have := H.out; simp only [Bool.false_eq_true, this]) bn0
  have hd4 : decide ((24 : Int) < (nd : Int)) = false := decide_eq_false (by omega)
  by_cases h5 : 24 < na
  · have H : Hid (¬ GoodEd nx lg sq nd f na Y) := fun h => by have := h.2.2.2.2.1; omega
    have hd5 : decide ((24 : Int) < (na : Int)) = true := decide_eq_true (by omega)
    go_wp2
    go_ret
    exact Ans.mk false (by have := H.out; simp only [Bool.false_eq_true, this]) bn0
  have hd5 : decide ((24 : Int) < (na : Int)) = false := decide_eq_false (by omega)
  have HD : Hid (fN nx = true ∧ fN lg = true ∧ isC sq = true) := ⟨h1, h2, h3⟩
  clear h1 h2 h3
  go_wp2
  generalize w.alloc (.cells #[.int .i64 nx, .int .i64 lg, .int .i64 sq, .slice da nd cd, .slice aa na ca] 29) = w0 at *
  have hr0 := hr.keep bn0
  have hy0 := hy.keep bn0
  obtain ⟨_, hrl⟩ := hr0
  obtain ⟨_, hyl⟩ := hy0
  go_loopw [38] (fun i wr => ∃ k : Nat, k ≤ nd ∧ i = .int .i64 k ∧ Hid (∀ i, i < k → fN (f i) = true) ∧ wr = w0) (fun i _ => nd - (intOf i).toNat)
  case atStart => exact ⟨0, Nat.zero_le _, rfl, fun i h => by omega, rfl⟩
  case round =>
    obtain ⟨k, hk, rfl, HG, hw⟩ := hrel
    have hw2 := hw.symm
    clear hw
    subst hw2
    by_cases hlt : k < nd
    · obtain ⟨b, off, rfl, hblt, hc⟩ := hrl.resolve_left (by omega)
      have a0 := hc k hlt
      clear hc hrl
      go_wp2_with fail
      refine (l9File_any (f k) _).mono ?_
      rintro e w1 ⟨rfl, rfl⟩
      cases hg : fN (f k)
      · have H : Hid (¬ GoodEd nx lg sq nd f na Y) := fun h => by have := h.2.2.2.1.2 k hlt; rw [hg] at this; cases this
        go_wp2
        go_ret
        exact Ans.mk false (by have := H.out; simp only [Bool.false_eq_true, this]) bn0
      · have HG2 : Hid (∀ i, i < k + 1 → fN (f i) = true) := fun i hi => by
          rcases Nat.lt_succ_iff_lt_or_eq.1 hi with h | h
          · exact HG.out i h
          · subst h; exact hg
        go_wp2
        go_roundw
        case rel => exact ⟨k + 1, by omega, by go_num, HG2, by trivial⟩
        case measure => simp [intOf]; omega
    obtain rfl : k = nd := by omega
    have HGd : Hid (∀ i, i < k → fN (f i) = true) := HG
    obtain ⟨_, x0, x1, x2, x3, x4⟩ := id A0
    clear HG hrl
    go_wp2
    go_loopw [49] (fun i W => ∃ q : Nat, q ≤ na ∧ i = .int .i64 q ∧ Hid (∀ i, i < q → ga (Y i) = true) ∧ Below w0.heap.size w0 W) (fun i _ => na - (intOf i).toNat)
    case atStart => exact ⟨0, Nat.zero_le _, rfl, fun i h => by omega, Below.refl _ _⟩
    case round =>
      obtain ⟨q, hq, rfl, HQ, hbq⟩ := hrel
      have bwq := bn0.trans (hbq.mono bn0.size)
      by_cases hql : q < na
      · obtain ⟨b, off, rfl, hblt, hc⟩ := hyl.resolve_left (by omega)
        obtain ⟨_, a0, a1, a2, a3, a4⟩ := (hc q hql).keep hbq
        have bn := below_new wr (.cells #[.int .i64 (Y q).lv, .int .i64 (Y q).m.file, .string (Y q).m.least, .string (Y q).m.most, .int .i64 (Y q).m.many] 54)
        have hbn := hbq.trans (bn.mono hbq.size)
        have bwn := bn0.trans (hbn.mono bn0.size)
        clear hc hyl
        have HGA : Hid (ga (Y q) = (btw 0 (Y q).lv 2 && gm (Y q).m)) := rfl
        go_wp2_with fail
        refine (l1In_any (Y q).lv 0 2 _).mono ?_
        rintro e w1 ⟨rfl, rfl⟩
        cases hl : btw 0 (Y q).lv 2
        · have H : Hid (¬ GoodEd nx lg sq k f na Y) := fun h => by have := h.2.2.2.2.2 q hql; rw [HGA.out, hl] at this; cases this
          go_wp2
          go_ret
          exact Ans.mk false (by have := H.out; simp only [Bool.false_eq_true, this]) bwn
        go_wp2_with fail
        refine (l9Meta_any (Y q).m _).mono ?_
        rintro e w2 ⟨rfl, hb2⟩
        have hb3 := hbn.trans (hb2.mono hbn.size)
        have bw3 := bn0.trans (hb3.mono bn0.size)
        clear hb2
        cases hg : gm (Y q).m
        · have H : Hid (¬ GoodEd nx lg sq k f na Y) := fun h => by have := h.2.2.2.2.2 q hql; rw [HGA.out, hg, hl] at this; cases this
          go_wp2
          go_ret
          exact Ans.mk false (by have := H.out; simp only [Bool.false_eq_true, this]) bw3
        · have HG2 : Hid (∀ i, i < q + 1 → ga (Y i) = true) := fun i hi => by
            rcases Nat.lt_succ_iff_lt_or_eq.1 hi with h | h
            · exact HQ.out i h
            · subst h; rw [HGA.out, hg, hl]; rfl
          go_wp2
          go_roundw
          case rel => exact ⟨q + 1, by omega, by go_num, HG2, hb3⟩
          case measure => simp [intOf]; omega
      · obtain rfl : q = na := by omega
        have H : Hid (GoodEd nx lg sq k f q Y) := ⟨HD.out.1, HD.out.2.1, HD.out.2.2, ⟨by omega, HGd.out⟩, by omega, HQ.out⟩
        clear HQ HGd HD
        go_wp2
        go_ret
        exact Ans.mk true ⟨fun _ => H.out, fun _ => rfl⟩ bwq
end
end Go.Proofs.Ytagkhohglpjjlaa
