/- Edits that are good, in both texts. -/
import Derived.Test.YtofdhgffnkhdfaaEd
import Derived.Test.YtofdhgffnkhdfaaGt
namespace Go.Proofs.Ytofdhgffnkhdfaa
open Go.RowKit
set_option linter.unusedSimpArgs false
set_option linter.unusedVariables false

/-- A good add. -/
def ga (y : Adm) : Bool := btw 0 y.lv 2 && gm y.m
/-- A good edit. -/
def GoodEd (nx lg sq : Int) (nd : Nat) (f : Nat → Int) (na : Nat) (Y : Nat → Adm) : Prop :=
  fN nx = true ∧ fN lg = true ∧ isC sq = true ∧ (nd ≤ 24 ∧ ∀ i, i < nd → fN (f i) = true) ∧ (na ≤ 24 ∧ ∀ i, i < na → ga (Y i) = true)

set_option maxHeartbeats 800000 in
theorem goodDrops_any (ao : Option Addr) (n cap : Nat) (f : Nat → Int) (w : World) (hr : IRow w ao n f) (hn : n ≤ 1048576) :
    Calls Try.prog 50 #[.slice ao n cap] w fun e w' => Ans (n ≤ 24 ∧ ∀ i, i < n → fN (f i) = true) w e w' := by
  obtain ⟨_, hlies⟩ := hr
  go_enter Try.func50, Try.ntmps50
  go_wp2
  go_loopw [7] (fun i wr => ∃ k : Nat, k ≤ n ∧ i = .int .i64 k ∧ Hid (∀ i, i < k → fN (f i) = true) ∧ wr = w) (fun i _ => n - (intOf i).toNat)
  case atStart => exact ⟨0, Nat.zero_le _, rfl, fun i h => by omega, rfl⟩
  case round =>
    obtain ⟨k, hk, rfl, HG, hw⟩ := hrel
    have hw2 := hw.symm
    clear hw
    subst hw2
    by_cases hlt : k < n
    · obtain ⟨b, off, rfl, hblt, hc⟩ := hlies.resolve_left (by omega)
      have a0 := hc k hlt
      clear hc hlies
      go_wp2_with fail
      refine (isFileNumber_any (f k) _).mono ?_
      rintro e w1 ⟨rfl, rfl⟩
      cases hg : fN (f k)
      · have H : Hid (¬ (n ≤ 24 ∧ ∀ i, i < n → fN (f i) = true)) := fun h => by have := h.2 k hlt; rw [hg] at this; cases this
        go_wp2
        go_ret
        exact Ans.mk false (by have := H.out; simp only [Bool.false_eq_true, this]) (Below.refl _ _)
      · have HG2 : Hid (∀ i, i < k + 1 → fN (f i) = true) := fun i hi => by
          rcases Nat.lt_succ_iff_lt_or_eq.1 hi with h | h
          · exact HG.out i h
          · subst h; exact hg
        go_wp2
        go_roundw
        case rel => exact ⟨k + 1, by omega, by go_num, HG2, by trivial⟩
        case measure => simp [intOf]; omega
    · obtain rfl : k = n := by omega
      by_cases h24 : k ≤ 24
      · have H : Hid (k ≤ 24 ∧ ∀ i, i < k → fN (f i) = true) := ⟨h24, HG.out⟩
        have hd : decide ((k : Int) ≤ 24) = true := decide_eq_true (by omega)
        clear HG
        go_wp2
        refine bodyPost_ret (v := .bool true) (by simp [results, Try.results50, go_sem, hd, h24]) rfl (Ans.mk true ⟨fun _ => H.out, fun _ => rfl⟩ (Below.refl _ _))
      · have H : Hid (¬ (k ≤ 24 ∧ ∀ i, i < k → fN (f i) = true)) := fun h => h24 h.1
        have hd : decide ((k : Int) ≤ 24) = false := decide_eq_false (by omega)
        clear HG
        go_wp2
        refine bodyPost_ret (v := .bool false) (by simp [results, Try.results50, go_sem, hd, h24]) rfl (Ans.mk false (by have := H.out; simp only [Bool.false_eq_true, this]) (Below.refl _ _))

set_option maxHeartbeats 1600000 in
theorem goodAdds_any (ao : Option Addr) (n cap : Nat) (Y : Nat → Adm) (w : World) (hr : DRow w ao n Y) (hn : n ≤ 1048576) :
    Calls Try.prog 51 #[.slice ao n cap] w fun e w' => Ans (n ≤ 24 ∧ ∀ i, i < n → ga (Y i) = true) w e w' := by
  obtain ⟨hbd, hlies⟩ := hr
  go_enter Try.func51, Try.ntmps51
  go_wp2
  go_loopw [7] (fun i wr => ∃ k : Nat, k ≤ n ∧ i = .int .i64 k ∧ Hid (∀ i, i < k → ga (Y i) = true) ∧ Below w.heap.size w wr) (fun i _ => n - (intOf i).toNat)
  case atStart => exact ⟨0, Nat.zero_le _, rfl, fun i h => by omega, Below.refl _ _⟩
  case round =>
    obtain ⟨k, hk, rfl, HG, hbk⟩ := hrel
    by_cases hlt : k < n
    · obtain ⟨b, off, rfl, hblt, hc⟩ := hlies.resolve_left (by omega)
      obtain ⟨_, a0, a1, a2, a3, a4⟩ := (hc k hlt).keep hbk
      have bn := below_new wr (.cells #[.int .i64 (Y k).lv, .int .i64 (Y k).m.file, .string (Y k).m.least, .string (Y k).m.most, .int .i64 (Y k).m.many] 67)
      have bwn := hbk.trans (bn.mono hbk.size)
      clear hc hlies
      have HGA : Hid (ga (Y k) = (decide (0 ≤ (Y k).lv) && decide ((Y k).lv ≤ 2) && gm (Y k).m)) := by simp [Hid, ga, btw, Bool.decide_and]
      by_cases h1 : (Y k).lv < 0
      · have H : Hid (¬ (n ≤ 24 ∧ ∀ i, i < n → ga (Y i) = true)) := fun h => by
          have h2 := h.2 k hlt
          rw [HGA.out, decide_eq_false (show ¬ 0 ≤ (Y k).lv by omega)] at h2
          simp at h2
        go_wp2
        go_ret
        exact Ans.mk false (by have := H.out; simp only [Bool.false_eq_true, this]) bwn
      by_cases h2 : 3 ≤ (Y k).lv
      · have H : Hid (¬ (n ≤ 24 ∧ ∀ i, i < n → ga (Y i) = true)) := fun h => by
          have h3 := h.2 k hlt
          rw [HGA.out, decide_eq_false (show ¬ (Y k).lv ≤ 2 by omega)] at h3
          simp at h3
        go_wp2
        go_ret
        exact Ans.mk false (by have := H.out; simp only [Bool.false_eq_true, this]) bwn
      have HGA2 : Hid (ga (Y k) = gm (Y k).m) := by
        unfold Hid
        rw [HGA.out, decide_eq_true (show 0 ≤ (Y k).lv by omega), decide_eq_true (show (Y k).lv ≤ 2 by omega)]
        simp
      clear HGA
      go_wp2_with fail
      refine (goodMeta_any (Y k).m _).mono ?_
      rintro e w1 ⟨rfl, hb1⟩
      have bw1 := bwn.trans (hb1.mono bwn.size)
      clear hb1
      cases hg : gm (Y k).m
      · have H : Hid (¬ (n ≤ 24 ∧ ∀ i, i < n → ga (Y i) = true)) := fun h => by have := h.2 k hlt; rw [HGA2.out, hg] at this; cases this
        go_wp2
        go_ret
        exact Ans.mk false (by have := H.out; simp only [Bool.false_eq_true, this]) bw1
      · have HG2 : Hid (∀ i, i < k + 1 → ga (Y i) = true) := fun i hi => by
          rcases Nat.lt_succ_iff_lt_or_eq.1 hi with h | h
          · exact HG.out i h
          · subst h; rw [HGA2.out]; exact hg
        go_wp2
        go_roundw
        case rel => exact ⟨k + 1, by omega, by go_num, HG2, bw1⟩
        case measure => simp [intOf]; omega
    · obtain rfl : k = n := by omega
      by_cases h24 : k ≤ 24
      · have H : Hid (k ≤ 24 ∧ ∀ i, i < k → ga (Y i) = true) := ⟨h24, HG.out⟩
        have hd : decide ((k : Int) ≤ 24) = true := decide_eq_true (by omega)
        clear HG
        go_wp2
        refine bodyPost_ret (v := .bool true) (by simp [results, Try.results51, go_sem, hd, h24]) rfl (Ans.mk true ⟨fun _ => H.out, fun _ => rfl⟩ hbk)
      · have H : Hid (¬ (k ≤ 24 ∧ ∀ i, i < k → ga (Y i) = true)) := fun h => h24 h.1
        have hd : decide ((k : Int) ≤ 24) = false := decide_eq_false (by omega)
        clear HG
        go_wp2
        refine bodyPost_ret (v := .bool false) (by simp [results, Try.results51, go_sem, hd, h24]) rfl (Ans.mk false (by have := H.out; simp only [Bool.false_eq_true, this]) hbk)
end Go.Proofs.Ytofdhgffnkhdfaa
