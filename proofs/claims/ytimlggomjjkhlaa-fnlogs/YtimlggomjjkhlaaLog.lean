/- A log of records: the program's and the model's. -/
import Derived.Test.YtimlggomjjkhlaaPcLaw
import Derived.Test.YtimlggomjjkhlaaSSb
namespace Go.Proofs.Ytimlggomjjkhlaa
open Go.RowKit
set_option linter.unusedSimpArgs false
set_option linter.unusedVariables false

def logL (Rs : Nat → List Int) : Nat → List Int
  | 0 => []
  | k + 1 => logL Rs k ++ allL (logL Rs k).length (Rs k)
def Gd (Rs : Nat → List Int) (n : Nat) : Prop := ∀ i, i < n → (Rs i).length ≤ 2000 ∧ (logL Rs (i + 1)).length ≤ 20000
theorem logL_succ (Rs : Nat → List Int) (k : Nat) : logL Rs (k + 1) = logL Rs k ++ allL (logL Rs k).length (Rs k) := rfl
theorem Gd.le {Rs : Nat → List Int} {k : Nat} (h : Gd Rs k) : (logL Rs k).length ≤ 20000 := by
  cases k with
  | zero => simp [logL]
  | succ k => exact (h k (by omega)).2
theorem Gd.succ {Rs : Nat → List Int} {k : Nat} (h : Gd Rs k) (h1 : (Rs k).length ≤ 2000) (h2 : (logL Rs (k + 1)).length ≤ 20000) : Gd Rs (k + 1) := fun i hi => by
  by_cases e : i = k
  · subst e; exact ⟨h1, h2⟩
  · exact h i (by omega)

/-- What LogOf answers. -/
def LogOut (Rs : Nat → List Int) (n : Nat) (w : World) (e : Ending) (w' : World) : Prop :=
  Below w.heap.size w w' ∧ ((n ≤ 60 ∧ Gd Rs n ∧ ∃ v, e = .returned (.tuple #[v, .bool true]) ∧ OwnL w' w.heap.size v (logL Rs n)) ∨
    (¬ (n ≤ 60 ∧ Gd Rs n) ∧ e = .returned (.tuple #[.slice none 0 0, .bool false])))

set_option maxHeartbeats 1000000 in
theorem logOf_impl (ao : Option Addr) (n cap : Nat) (V : Nat → Value) (Rs : Nat → List Int) (w : World) (h : RdA w ao n V Rs) (hn : n ≤ 1048576) (hs : ∀ i, i < n → (Rs i).length ≤ 1048576) :
    Calls Try.prog 8 #[.slice ao n cap] w fun e w' => LogOut Rs n w e w' := by
  by_cases h60 : (60 : Int) < (n : Int)
  · have HN : Hid (¬ (n ≤ 60 ∧ Gd Rs n)) := fun hh => by have := hh.1; omega
    go_enter Try.func8, Try.ntmps8
    go_wp2
    go_ret2
    exact ⟨Below.refl _ _, .inr ⟨HN.out, rfl⟩⟩
  · obtain ⟨hrows, hl⟩ := h
    go_enter Try.func8, Try.ntmps8
    go_wp2
    go_loopw [4, 14] (fun v i wr => ∃ (k m cp : Nat) (a : Option Addr), k ≤ n ∧ i = .int .i64 k ∧ v = .slice a m cp ∧ m = (logL Rs k).length ∧ OwnL wr w.heap.size (.slice a (logL Rs k).length cp) (logL Rs k) ∧ Gd Rs k ∧ Below w.heap.size w wr) (fun _ i _ => n - (intOf i).toNat)
    case atStart => exact ⟨0, 0, 0, none, Nat.zero_le _, rfl, rfl, rfl, ownL_nil _ _, fun i hi => absurd hi (Nat.not_lt_zero _), Below.refl _ _⟩
    case round =>
      obtain ⟨k, m, cp, a, hk, rfl, rfl, rfl, hown, hG, hbk⟩ := hrel
      have hLl := hG.le
      by_cases hlt : k < n
      · obtain ⟨b, off, rfl, hblt, hc⟩ := hl.resolve_left (by omega)
        obtain ⟨g, o, c, hV, hcc, hA⟩ := hrows k hlt
        have hsk := hs k hlt
        have h1 : wr.cell? ⟨b, off + k, none⟩ = some (.slice (some ⟨g, o, none⟩) (Rs k).length c) := ((hbk.cell (p := ⟨b, off + k, none⟩) hblt).trans (hc k hlt)).trans (by rw [hV])
        have hA' := hA.keep hbk
        have HG : Hid (Gd Rs k) := hG
        clear hc hl hrows hV hs hG
        have HL : Hid (logL Rs (k + 1) = logL Rs k ++ allL (logL Rs k).length (Rs k)) := rfl
        by_cases h2 : (Rs k).length ≤ 2000
        · have hTp := allL_pos (logL Rs k).length (Rs k)
          have hTl := allL_length_le (logL Rs k).length (Rs k) h2
          go_wp2_with fail
          refine (logPieces_impl_yes (logL Rs k).length g o (Rs k).length c (Rs k) _ hA' rfl hcc hLl h2).mono ?_
          rintro e w1 ⟨v1, rfl, ho1, b1⟩
          obtain ⟨g1, c1, rfl, hg1, hcp1, A1⟩ := ho1.at (by omega)
          have hown1 := hown.keep b1
          have hB1 := hbk.trans (b1.mono hbk.size)
          have s1 := hB1.size
          generalize hT : allL (logL Rs k).length (Rs k) = T at *
          by_cases h3 : (logL Rs k).length + T.length ≤ 20000
          · have h3' : ¬ (20000 : Int) < ((logL Rs k).length : Int) + (T.length : Int) := by omega
            have HG' : Hid (Gd Rs (k + 1)) := HG.out.succ h2 (by rw [HL.out, List.length_append]; exact h3)
            clear hT
            go_wp2_with (at_builtin; refine wpList_app rfl (.tmp 35) (.tmp 36) rfl w.heap.size (.slice a (logL Rs k).length cp) (logL Rs k) rfl hown1 g1 0 T.length c1 T rfl rfl A1 (by omega) s1 ?_; intro v2 w2 ho2 hg2 ha2)
            have hB2 := hown1.below hB1 hg2 (Nat.le_refl _) s1
            rw [← HL.out] at ho2
            obtain ⟨a2, cp2, rfl⟩ := ho2.form
            go_roundw
            case rel => exact ⟨k + 1, _, cp2, a2, by omega, by go_num, rfl, rfl, ho2, HG'.out, hB2⟩
            case measure => simp [intOf]; omega
          · have h3' : (20000 : Int) < ((logL Rs k).length : Int) + (T.length : Int) := by omega
            have HN : Hid (¬ (n ≤ 60 ∧ Gd Rs n)) := fun hh => by
              have := (hh.2 k hlt).2
              rw [HL.out, List.length_append] at this
              omega
            clear hT
            go_wp2
            go_ret2
            exact ⟨hB1, .inr ⟨HN.out, rfl⟩⟩
        · have HN : Hid (¬ (n ≤ 60 ∧ Gd Rs n)) := fun hh => h2 (hh.2 k hlt).1
          go_wp2_with fail
          refine (logPieces_impl_no ((logL Rs k).length : Int) _ (Rs k).length c _ (by omega) hsk (fun hh => h2 hh.2.2)).mono ?_
          rintro e w1 ⟨rfl, rfl⟩
          go_wp2
          go_ret2
          exact ⟨hbk, .inr ⟨HN.out, rfl⟩⟩
      · obtain rfl : k = n := by omega
        go_wp2
        go_ret2
        exact ⟨hbk, .inl ⟨by omega, hG, _, rfl, hown⟩⟩

set_option maxHeartbeats 1000000 in
theorem logOf_spec (ao : Option Addr) (n cap : Nat) (V : Nat → Value) (Rs : Nat → List Int) (w : World) (h : RdA w ao n V Rs) (hn : n ≤ 1048576) (hs : ∀ i, i < n → (Rs i).length ≤ 1048576) :
    Calls Try.prog 9 #[.slice ao n cap] w fun e w' => LogOut Rs n w e w' := by
  by_cases h60 : (60 : Int) < (n : Int)
  · have HN : Hid (¬ (n ≤ 60 ∧ Gd Rs n)) := fun hh => by have := hh.1; omega
    go_enter Try.func9, Try.ntmps9
    go_wp2
    go_ret2
    exact ⟨Below.refl _ _, .inr ⟨HN.out, rfl⟩⟩
  · obtain ⟨hrows, hl⟩ := h
    go_enter Try.func9, Try.ntmps9
    go_wp2
    go_loopw [4, 12] (fun v i wr => ∃ (k m cp : Nat) (a : Option Addr), k ≤ n ∧ i = .int .i64 k ∧ v = .slice a m cp ∧ m = (logL Rs k).length ∧ OwnL wr w.heap.size (.slice a (logL Rs k).length cp) (logL Rs k) ∧ Gd Rs k ∧ Below w.heap.size w wr) (fun _ i _ => n - (intOf i).toNat)
    case atStart => exact ⟨0, 0, 0, none, Nat.zero_le _, rfl, rfl, rfl, ownL_nil _ _, fun i hi => absurd hi (Nat.not_lt_zero _), Below.refl _ _⟩
    case round =>
      obtain ⟨k, m, cp, a, hk, rfl, rfl, rfl, hown, hG, hbk⟩ := hrel
      have hLl := hG.le
      by_cases hlt : k < n
      · obtain ⟨b, off, rfl, hblt, hc⟩ := hl.resolve_left (by omega)
        obtain ⟨g, o, c, hV, hcc, hA⟩ := hrows k hlt
        have hsk := hs k hlt
        have h1 : wr.cell? ⟨b, off + k, none⟩ = some (.slice (some ⟨g, o, none⟩) (Rs k).length c) := ((hbk.cell (p := ⟨b, off + k, none⟩) hblt).trans (hc k hlt)).trans (by rw [hV])
        have hA' := hA.keep hbk
        have HG : Hid (Gd Rs k) := hG
        clear hc hl hrows hV hs hG
        have HL : Hid (logL Rs (k + 1) = logL Rs k ++ allL (logL Rs k).length (Rs k)) := rfl
        by_cases h2 : (Rs k).length ≤ 2000
        · have hTp := allL_pos (logL Rs k).length (Rs k)
          have hTl := allL_length_le (logL Rs k).length (Rs k) h2
          have h2' : ¬ (2000 : Int) < ((Rs k).length : Int) := by omega
          go_wp2_with fail
          refine (l3Pieces_any (logL Rs k).length g o (Rs k).length c (Rs k) _ hA' rfl hcc hLl h2).mono ?_
          rintro e w1 ⟨v1, rfl, ho1, b1⟩
          obtain ⟨g1, c1, rfl, hg1, hcp1, A1⟩ := ho1.at (by omega)
          have hown1 := hown.keep b1
          have hB1 := hbk.trans (b1.mono hbk.size)
          have s1 := hB1.size
          generalize hT : allL (logL Rs k).length (Rs k) = T at *
          by_cases h3 : (logL Rs k).length + T.length ≤ 20000
          · have h3' : ¬ (20000 : Int) < ((logL Rs k).length : Int) + (T.length : Int) := by omega
            have HG' : Hid (Gd Rs (k + 1)) := HG.out.succ h2 (by rw [HL.out, List.length_append]; exact h3)
            clear hT
            go_wp2_with (at_builtin; refine wpList_app rfl (.tmp 19) (.tmp 23) rfl w.heap.size (.slice a (logL Rs k).length cp) (logL Rs k) rfl hown1 g1 0 T.length c1 T rfl rfl A1 (by omega) s1 ?_; intro v2 w2 ho2 hg2 ha2; have hB2 := hown1.below hB1 hg2 (Nat.le_refl _) s1; obtain ⟨a2, cp2, rfl⟩ := ho2.form)
            rw [← HL.out] at ho2
            go_roundw
            case rel => exact ⟨k + 1, _, cp2, a2, by omega, by go_num, rfl, by rw [HL.out, List.length_append], ho2, HG'.out, hB2⟩
            case measure => simp [intOf]; omega
          · have h3' : (20000 : Int) < ((logL Rs k).length : Int) + (T.length : Int) := by omega
            have HN : Hid (¬ (n ≤ 60 ∧ Gd Rs n)) := fun hh => by
              have := (hh.2 k hlt).2
              rw [HL.out, List.length_append] at this
              omega
            clear hT
            go_wp2_with (at_builtin; refine wpList_app rfl (.tmp 19) (.tmp 23) rfl w.heap.size (.slice a (logL Rs k).length cp) (logL Rs k) rfl hown1 g1 0 T.length c1 T rfl rfl A1 (by omega) s1 ?_; intro v2 w2 ho2 hg2 ha2; have hB2 := hown1.below hB1 hg2 (Nat.le_refl _) s1; obtain ⟨a2, cp2, rfl⟩ := ho2.form)
            go_ret2
            exact ⟨hB2, .inr ⟨HN.out, rfl⟩⟩
        · have HN : Hid (¬ (n ≤ 60 ∧ Gd Rs n)) := fun hh => h2 (hh.2 k hlt).1
          have h2' : (2000 : Int) < ((Rs k).length : Int) := by omega
          go_wp2
          go_ret2
          exact ⟨hbk, .inr ⟨HN.out, rfl⟩⟩
      · obtain rfl : k = n := by omega
        go_wp2
        go_ret2
        exact ⟨hbk, .inl ⟨by omega, hG, _, rfl, hown⟩⟩
end Go.Proofs.Ytimlggomjjkhlaa
