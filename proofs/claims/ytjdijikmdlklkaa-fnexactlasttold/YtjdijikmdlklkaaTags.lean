/- Names: letters, one to twelve. / Tags in memory: copied, compared. -/
import Derived.Test.YtjdijikmdlklkaaIn
import Derived.Deep.RegionWith
namespace Go.Proofs.Ytjdijikmdlklkaa
open Go.RowKit
set_option linter.unusedSimpArgs false
set_option linter.unusedVariables false

def IsLet (c : Int) : Prop := (97 ≤ c ∧ c ≤ 122) ∨ (65 ≤ c ∧ c ≤ 90)

theorem isLetter_yes (c : Int) (w : World) (h : IsLet c) : Calls Try.prog 51 #[.int .u8 c] w fun e w' => e = .returned (.bool true) ∧ w' = w := by
  rcases h with ⟨h1, h2⟩ | ⟨h1, h2⟩
  · go_enter Try.func51, Try.ntmps51
    go_wp2
    go_ret
    exact ⟨rfl, rfl⟩
  · have hd : decide (97 ≤ c) = false := by simp; omega
    go_enter Try.func51, Try.ntmps51
    go_wp2
    go_ret
    exact ⟨rfl, rfl⟩
theorem isLetter_no (c : Int) (w : World) (h : ¬ IsLet c) : Calls Try.prog 51 #[.int .u8 c] w fun e w' => e = .returned (.bool false) ∧ w' = w := by
  unfold IsLet at h
  have h0 : (97 ≤ c ∧ decide (c ≤ 122) = false) ∨ (decide (97 ≤ c) = false ∧ 65 ≤ c ∧ decide (c ≤ 90) = false) ∨ (decide (97 ≤ c) = false ∧ decide (65 ≤ c) = false) := by
    simp; omega
  clear h
  rcases h0 with ⟨h1, h2⟩ | ⟨h1, h2, h3⟩ | ⟨h1, h2⟩
  · have h3 : 65 ≤ c := by omega
    have h4 : decide (c ≤ 90) = false := by simp; omega
    go_enter Try.func51, Try.ntmps51
    go_wp2
    go_ret
    exact ⟨rfl, rfl⟩
  · go_enter Try.func51, Try.ntmps51
    go_wp2
    go_ret
    exact ⟨rfl, rfl⟩
  · go_enter Try.func51, Try.ntmps51
    go_wp2
    go_ret
    exact ⟨rfl, rfl⟩

/-- Whether a text is a name. -/
def nmB (s : ByteArray) : Bool := decide (1 ≤ s.size) && decide (s.size ≤ 12) && s.data.toList.all fun c => decide ((97 ≤ (c.toNat : Int) ∧ (c.toNat : Int) ≤ 122) ∨ (65 ≤ (c.toNat : Int) ∧ (c.toNat : Int) ≤ 90))
theorem nmB_yes {s : ByteArray} (h1 : 1 ≤ s.size) (h2 : s.size ≤ 12) (h : ∀ j (hj : j < s.size), IsLet (s[j].toNat : Int)) : nmB s = true := by
  simp only [nmB, h1, h2, decide_true, Bool.and_self, Bool.true_and, List.all_eq_true]
  intro c hc
  obtain ⟨j, hj, rfl⟩ := List.getElem_of_mem hc
  have := h j (by simpa using hj)
  unfold IsLet at this
  simp only [decide_eq_true_eq, Array.getElem_toList]
  exact this
theorem nmB_short {s : ByteArray} (h : ¬ 1 ≤ s.size) : nmB s = false := by simp [nmB, h]
theorem nmB_long {s : ByteArray} (h : ¬ s.size ≤ 12) : nmB s = false := by simp [nmB, h]
theorem nmB_no {s : ByteArray} (j : Nat) (hj : j < s.size) (h : ¬ IsLet (s[j].toNat : Int)) : nmB s = false := by
  have hm : s[j] ∈ s.data.toList := by
    rw [show s[j] = s.data.toList[j]'(by simpa using hj) from by simp; rfl]
    exact List.getElem_mem _
  cases hb : nmB s with
  | false => rfl
  | true =>
    simp only [nmB, Bool.and_eq_true, List.all_eq_true] at hb
    have := of_decide_eq_true (hb.2 _ hm)
    exact absurd this h
theorem nmB_size {s : ByteArray} (h : nmB s = true) : 1 ≤ s.size ∧ s.size ≤ 12 := by
  simp only [nmB, Bool.and_eq_true, decide_eq_true_eq] at h
  exact ⟨h.1.1, h.1.2⟩

set_option maxHeartbeats 400000 in
theorem isName_any (s : ByteArray) (w : World) (hs : s.size ≤ 1048576) : Calls Try.prog 35 #[.string s] w fun e w' => e = .returned (.bool (nmB s)) ∧ w' = w := by
  generalize hB : nmB s = B
  have HB : Hid (nmB s = B) := hB
  clear hB
  by_cases h1 : 1 ≤ s.size
  · have hd1 : decide ((s.size : Int) < 1) = false := by simp; omega
    by_cases h2 : s.size ≤ 12
    · have hd2 : decide ((12 : Int) < (s.size : Int)) = false := by simp; omega
      go_enter Try.func35, Try.ntmps35
      go_wp2
      go_loopw [14] (fun i wr => ∃ k : Nat, k ≤ s.size ∧ i = .int .i64 k ∧ Hid (∀ j (hj : j < s.size), j < k → IsLet (s[j].toNat : Int)) ∧ wr = w) (fun i _ => s.size - (intOf i).toNat)
      case atStart => exact ⟨0, by omega, rfl, fun j _ h => by omega, rfl⟩
      case round =>
        obtain ⟨k, hk, rfl, HL, rfl⟩ := hrel
        by_cases hlt : k < s.size
        · by_cases hL : IsLet (s[k].toNat : Int)
          · have HL' : Hid (∀ j (hj : j < s.size), j < k + 1 → IsLet (s[j].toNat : Int)) := fun j hj h => by
              rcases Nat.lt_succ_iff_lt_or_eq.1 h with h | h
              · exact HL.out j hj h
              · subst h; exact hL
            go_wp2_with fail
            refine (isLetter_yes _ _ hL).mono ?_
            rintro e w' ⟨rfl, rfl⟩
            go_wp2
            go_roundw
            case rel => exact ⟨k + 1, by omega, by go_num, HL', trivial⟩
            case measure => simp [intOf]; omega
          · have HF : Hid (B = false) := by unfold Hid; rw [← HB.out, nmB_no k hlt hL]
            go_wp2_with fail
            refine (isLetter_no _ _ hL).mono ?_
            rintro e w' ⟨rfl, rfl⟩
            go_wp2
            go_ret
            rw [HF.out]
            exact ⟨rfl, rfl⟩
        · have HT : Hid (B = true) := by unfold Hid; rw [← HB.out, nmB_yes h1 h2 (fun j hj => HL.out j hj (by omega))]
          go_wp2
          go_ret
          rw [HT.out]
          exact ⟨rfl, rfl⟩
    · have HF : Hid (B = false) := by unfold Hid; rw [← HB.out, nmB_long h2]
      have h2' : (12 : Int) < (s.size : Int) := by omega
      go_enter Try.func35, Try.ntmps35
      go_wp2
      go_ret
      rw [HF.out]
      exact ⟨rfl, rfl⟩
  · have HF : Hid (B = false) := by unfold Hid; rw [← HB.out, nmB_short h1]
    have h1' : (s.size : Int) < 1 := by omega
    go_enter Try.func35, Try.ntmps35
    go_wp2
    go_ret
    rw [HF.out]
    exact ⟨rfl, rfl⟩

set_option maxHeartbeats 1000000 in
theorem l1Name_any (s : ByteArray) (w : World) (hs : s.size ≤ 1048576) : Calls Try.prog 30 #[.string s] w fun e w' => e = .returned (.bool (nmB s)) ∧ w' = w := by
  generalize hB : nmB s = B
  have HB : Hid (nmB s = B) := hB
  clear hB
  by_cases h12 : (1 : Int) ≤ (s.size : Int) ∧ (s.size : Int) ≤ 12
  · have h1 : 1 ≤ s.size := by omega
    have h2 : s.size ≤ 12 := by omega
    go_enter Try.func30, Try.ntmps30
    go_wp2_with fail
    refine (l1In_yes _ _ _ _ h12.1 h12.2).mono ?_
    rintro e w' ⟨rfl, rfl⟩
    go_wp2
    go_loopw [3] (fun i wr => ∃ k : Nat, k ≤ s.size ∧ i = .int .i64 k ∧ Hid (∀ j (hj : j < s.size), j < k → IsLet (s[j].toNat : Int)) ∧ wr = w') (fun i _ => s.size - (intOf i).toNat)
    case atStart => exact ⟨0, by omega, rfl, fun j _ h => by omega, rfl⟩
    case round =>
      obtain ⟨k, hk, rfl, HL, rfl⟩ := hrel
      by_cases hlt : k < s.size
      · by_cases hL : IsLet (s[k].toNat : Int)
        · have HL' : Hid (∀ j (hj : j < s.size), j < k + 1 → IsLet (s[j].toNat : Int)) := fun j hj h => by
            rcases Nat.lt_succ_iff_lt_or_eq.1 h with h | h
            · exact HL.out j hj h
            · subst h; exact hL
          have h0 : (97 ≤ (s[k].toNat : Int) ∧ (s[k].toNat : Int) ≤ 122) ∨ (decide (97 ≤ (s[k].toNat : Int)) = false ∧ 65 ≤ (s[k].toNat : Int) ∧ (s[k].toNat : Int) ≤ 90) := by
            unfold IsLet at hL; simp; omega
          clear hL
          rcases h0 with ⟨h3, h4⟩ | ⟨h3, h4, h5⟩
          all_goals
            go_wp2
            go_roundw
            case rel => exact ⟨k + 1, by omega, by go_num, HL', trivial⟩
            case measure => simp [intOf]; omega
        · have HF : Hid (B = false) := by unfold Hid; rw [← HB.out, nmB_no k hlt hL]
          unfold IsLet at hL
          have h0 : (97 ≤ (s[k].toNat : Int) ∧ decide ((s[k].toNat : Int) ≤ 122) = false ∧ 65 ≤ (s[k].toNat : Int) ∧ decide ((s[k].toNat : Int) ≤ 90) = false) ∨ (decide (97 ≤ (s[k].toNat : Int)) = false ∧ 65 ≤ (s[k].toNat : Int) ∧ decide ((s[k].toNat : Int) ≤ 90) = false) ∨ (decide (97 ≤ (s[k].toNat : Int)) = false ∧ decide (65 ≤ (s[k].toNat : Int)) = false) := by
            simp; omega
          clear hL
          rcases h0 with ⟨h3, h4, h5, h6⟩ | ⟨h3, h4, h5⟩ | ⟨h3, h4⟩
          all_goals
            go_wp2
            go_ret
            rw [HF.out]
            exact ⟨rfl, rfl⟩
      · have HT : Hid (B = true) := by unfold Hid; rw [← HB.out, nmB_yes h1 h2 (fun j hj => HL.out j hj (by omega))]
        go_wp2
        go_ret
        rw [HT.out]
        exact ⟨rfl, rfl⟩
  · have HF : Hid (B = false) := by
      unfold Hid; rw [← HB.out]
      by_cases h1 : 1 ≤ s.size
      · exact nmB_long (by omega)
      · exact nmB_short h1
    go_enter Try.func30, Try.ntmps30
    go_wp2_with fail
    refine (l1In_no _ _ _ _ h12).mono ?_
    rintro e w' ⟨rfl, rfl⟩
    go_wp2
    go_ret
    rw [HF.out]
    exact ⟨rfl, rfl⟩
end Go.Proofs.Ytjdijikmdlklkaa
namespace Go.Proofs.Ytjdijikmdlklkaa
open Go.RowKit
set_option linter.unusedSimpArgs false
set_option linter.unusedVariables false

/-- n tags, their names and values, lie at ao. -/
structure TRow (w : World) (ao : Option Addr) (n : Nat) (nm vl : Nat → ByteArray) : Prop where
  lies : n = 0 ∨ ∃ b off, ao = some ⟨b, off, none⟩ ∧ b < w.heap.size ∧ ∀ i, i < n → w.cell? ⟨b, off + i * 2, none⟩ = some (.string (nm i)) ∧ w.cell? ⟨b, off + i * 2 + 1, none⟩ = some (.string (vl i))

theorem TRow.keep {w w' : World} {ao : Option Addr} {n : Nat} {nm vl : Nat → ByteArray} (h : TRow w ao n nm vl) (hb : Below w.heap.size w w') : TRow w' ao n nm vl :=
  ⟨h.lies.elim .inl fun ⟨b, off, e, hlt, hc⟩ => .inr ⟨b, off, e, Nat.lt_of_lt_of_le hlt hb.size, fun i hi => ⟨(hb.cell (p := ⟨b, off + i * 2, none⟩) hlt).trans (hc i hi).1, (hb.cell (p := ⟨b, off + i * 2 + 1, none⟩) hlt).trans (hc i hi).2⟩⟩⟩

theorem eqTag_same (a b : ByteArray) (w : World) :
    Calls Try.prog 61 #[.agg #[.string a, .string b], .agg #[.string a, .string b]] w fun e w' => e = .returned (.bool true) ∧ Below w.heap.size w w' := by
  go_enter Try.func61, Try.ntmps61
  go_wp2
  go_ret
  exact ⟨rfl, ((Below.refl _ _).alloc (Nat.le_refl _) _).alloc (by simp) _⟩

set_option maxHeartbeats 400000 in
theorem eqTagS_same (ao bo : Option Addr) (n ca cb : Nat) (nm vl : Nat → ByteArray) (w : World) (hr : TRow w ao n nm vl) (hs : TRow w bo n nm vl) (hn : n ≤ 1048576) :
    Calls Try.prog 56 #[.slice ao n ca, .slice bo n cb] w fun e w' => e = .returned (.bool true) ∧ Below w.heap.size w w' := by
  obtain ⟨hl⟩ := hr
  obtain ⟨hm⟩ := hs
  go_enter Try.func56, Try.ntmps56
  go_wp2
  go_loopw [5] (fun i wr => ∃ k : Nat, k ≤ n ∧ i = .int .i64 k ∧ Below w.heap.size w wr) (fun i _ => n - (intOf i).toNat)
  case atStart => exact ⟨0, Nat.zero_le _, rfl, Below.refl _ _⟩
  case round =>
    obtain ⟨k, hk, rfl, hbk⟩ := hrel
    by_cases hlt : k < n
    · obtain ⟨b, off, rfl, hblt, hc⟩ := hl.resolve_left (by omega)
      obtain ⟨b', off', rfl, hblt', hc'⟩ := hm.resolve_left (by omega)
      have h1 : wr.cell? ⟨b, off + k * 2, none⟩ = some (.string (nm k)) := (hbk.cell (p := ⟨b, off + k * 2, none⟩) hblt).trans (hc k hlt).1
      have h1' : wr.cell? ⟨b, off + k * 2 + 1, none⟩ = some (.string (vl k)) := (hbk.cell (p := ⟨b, off + k * 2 + 1, none⟩) hblt).trans (hc k hlt).2
      have h2 : wr.cell? ⟨b', off' + k * 2, none⟩ = some (.string (nm k)) := (hbk.cell (p := ⟨b', off' + k * 2, none⟩) hblt').trans (hc' k hlt).1
      have h2' : wr.cell? ⟨b', off' + k * 2 + 1, none⟩ = some (.string (vl k)) := (hbk.cell (p := ⟨b', off' + k * 2 + 1, none⟩) hblt').trans (hc' k hlt).2
      clear hc hc' hl hm
      go_wp2
      go_region_with (go_at_call 61; refine (eqTag_same _ _ _).mono ?_; rintro e w' ⟨rfl, hb⟩)
      all_goals
        have hb := hb.mono hbk.size
        have hbw : Below w.heap.size w _ := hbk.drew.trans hb
        clear hb
        go_wp2
        go_roundw
        case rel => exact ⟨k + 1, by omega, by go_num, hbw⟩
        case measure => simp [intOf]; omega
    · go_wp2
      go_ret
      exact ⟨rfl, hbk⟩
end Go.Proofs.Ytjdijikmdlklkaa
