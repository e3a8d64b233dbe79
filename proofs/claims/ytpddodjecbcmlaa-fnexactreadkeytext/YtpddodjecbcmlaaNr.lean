/- Numbers read out of texts, in the program (by runes) and in the model (by bytes). -/
import Derived.Test.YtpddodjecbcmlaaPt
import Derived.Test.YtpddodjecbcmlaaVal
namespace Go.Proofs.Ytpddodjecbcmlaa
open Go.RowKit
set_option linter.unusedSimpArgs false
set_option linter.unusedVariables false

/-- The byte at k. -/
def at8 (s : ByteArray) (k : Nat) : Nat := (s.data.toList.getD k 0).toNat
theorem at8_get {s : ByteArray} {k : Nat} (h : k < s.size) : at8 s k = (s[k]'h).toNat := by
  have h1 : k < s.data.toList.length := by rw [Array.length_toList]; exact h
  simp only [at8, List.getD_eq_getElem?_getD, List.getElem?_eq_getElem h1, Option.getD_some]
  rfl
def isDig (s : ByteArray) (k : Nat) : Prop := 48 ≤ at8 s k ∧ at8 s k ≤ 57
/-- The number of the first k digits. -/
def dgs (s : ByteArray) : Nat → Int
  | 0 => 0
  | k + 1 => 10 * dgs s k + ((at8 s k : Int) - 48)
theorem dgs_bd {s : ByteArray} : ∀ {k : Nat}, (∀ i, i < k → isDig s i) → 0 ≤ dgs s k ∧ dgs s k < 10 ^ k
  | 0, _ => by simp [dgs]
  | k + 1, h => by
    have h1 := dgs_bd (k := k) (fun i hi => h i (by omega))
    have h2 := h k (by omega)
    unfold isDig at h2
    simp only [dgs, Int.pow_succ]
    omega
theorem dgs_le {s : ByteArray} {k : Nat} (h : ∀ i, i < k → isDig s i) (hk : k ≤ 10) : 0 ≤ dgs s k ∧ dgs s k ≤ 10000000000 := by
  have h1 := dgs_bd h
  have h2 : (10 : Nat) ^ k ≤ 10 ^ 10 := Nat.pow_le_pow_right (by omega) hk
  have h3 : ((10 ^ k : Nat) : Int) ≤ ((10 ^ 10 : Nat) : Int) := Int.ofNat_le.2 h2
  have h4 : ((10 ^ k : Nat) : Int) = (10 : Int) ^ k := by simp
  rw [h4] at h3
  have h5 : ((10 ^ 10 : Nat) : Int) = 10000000000 := by decide
  omega
/-- A number of 1 to 10 digits, with no needless nought. -/
def NumP (s : ByteArray) : Prop := 1 ≤ s.size ∧ s.size ≤ 10 ∧ ¬ (1 < s.size ∧ at8 s 0 = 48) ∧ ∀ i, i < s.size → isDig s i
def isDigD (s : ByteArray) (k : Nat) : Decidable (isDig s k) := inferInstanceAs (Decidable (_ ∧ _))
def numPD (s : ByteArray) : Decidable (NumP s) :=
  have : ∀ k, Decidable (isDig s k) := isDigD s
  inferInstanceAs (Decidable (_ ∧ _ ∧ _ ∧ _))
/-- What it is; less than nought where it is none. -/
def numI (s : ByteArray) : Int := @ite Int (NumP s) (numPD s) (dgs s s.size) (-1)
theorem numI_no {s : ByteArray} (h : ¬ NumP s) : numI s = -1 := if_neg h
theorem numI_yes {s : ByteArray} (h : NumP s) : numI s = dgs s s.size := if_pos h
theorem numI_bd (s : ByteArray) : -1 ≤ numI s ∧ numI s ≤ 10000000000 := by
  unfold numI
  split
  · rename_i h
    have := dgs_le h.2.2.2 h.2.1
    omega
  · omega

set_option maxHeartbeats 1000000 in
theorem l12Number_any (s : ByteArray) (w : World) (hs : s.size ≤ 1048576) :
    Calls Try.prog 56 #[.string s] w fun e w' => e = .returned (.int .i64 (numI s)) ∧ w' = w := by
  by_cases h1 : 1 ≤ s.size ∧ s.size ≤ 10
  · have hb : btw 1 (s.size : Int) 10 = true := by simp [btw]; omega
    have h0 : 0 < s.size := by omega
    by_cases h2 : 1 < s.size ∧ at8 s 0 = 48
    · have H : Hid (numI s = -1) := numI_no (fun h => h.2.2.1 h2)
      have e0 : (((s[0]'h0).toNat : Int) == 48) = true := by rw [← at8_get h0, h2.2]; rfl
      have e1 : decide ((1 : Int) < (s.size : Int)) = true := by simp; omega
      go_enter Try.func56, Try.ntmps56
      go_wp2_with fail
      refine (l1In_any (s.size : Int) 1 10 _).mono ?_
      rintro e w1 ⟨rfl, rfl⟩
      go_wp2
      go_ret
      rw [H.out]
      exact ⟨rfl, rfl⟩
    · by_cases e2 : (s[0]'h0).toNat = 48
      · have e0 : (((s[0]'h0).toNat : Int) == 48) = true := by rw [e2]; rfl
        have e1 : decide ((1 : Int) < (s.size : Int)) = false := by
          simp only [decide_eq_false_iff_not]
          intro h4
          exact h2 ⟨by omega, by rw [at8_get h0]; exact e2⟩
        go_enter Try.func56, Try.ntmps56
        go_wp2_with fail
        refine (l1In_any (s.size : Int) 1 10 _).mono ?_
        rintro e w1 ⟨rfl, rfl⟩
        go_wp2
        go_loopw [3, 4] (fun n i wr => ∃ k : Nat, k ≤ s.size ∧ n = .int .i64 (dgs s k) ∧ i = .int .i64 (k : Int) ∧ Hid (∀ i, i < k → isDig s i) ∧ wr = w1) (fun _ i _ => s.size - (intOf i).toNat)
        case atStart => exact ⟨0, by omega, rfl, rfl, fun i hi => by omega, rfl⟩
        case round =>
          obtain ⟨k, hk, rfl, rfl, HK, rfl⟩ := hrel
          have hbd := dgs_le HK.out (by omega)
          by_cases hlt : k < s.size
          · have h8 := at8_get hlt
            have hlt8 : (s[k]'hlt).toNat < 256 := (s[k]'hlt).toNat_lt
            by_cases hd : isDig s k
            · have HK' : Hid (∀ i, i < k + 1 → isDig s i) := fun i hi => by
                by_cases e : i = k
                · subst e; exact hd
                · exact HK.out i (by omega)
              unfold isDig at hd
              rw [h8] at hd
              have d1 : decide (((s[k]'hlt).toNat : Int) < 48) = false := by simp; omega
              have d2 : decide ((57 : Int) < ((s[k]'hlt).toNat : Int)) = false := by simp; omega
              have d3 : IntKind.u8.wrap (((s[k]'hlt).toNat : Int) - 48) = ((s[k]'hlt).toNat : Int) - 48 := by rw [IntKind.wrap_u8] <;> omega
              have dd : dgs s (k + 1) = 10 * dgs s k + (((s[k]'hlt).toNat : Int) - 48) := by rw [dgs, h8]
              have d4 : IntKind.i64.wrap (10 * dgs s k) = 10 * dgs s k := by rw [IntKind.wrap_i64] <;> omega
              have d5 : IntKind.i64.wrap (10 * dgs s k + (((s[k]'hlt).toNat : Int) - 48)) = 10 * dgs s k + (((s[k]'hlt).toNat : Int) - 48) := by rw [IntKind.wrap_i64] <;> omega
              have d6 : IntKind.i64.wrap (((s[k]'hlt).toNat : Int) - 48) = ((s[k]'hlt).toNat : Int) - 48 := by rw [IntKind.wrap_i64] <;> omega
              go_wp2
              go_roundw
              case rel => exact ⟨k + 1, by omega, by first | (rw [dd]; done) | (rw [dd, d5]; done) | (simp [dd, d5]; done), by go_num, HK', by first | rfl | trivial⟩
              case measure => simp [intOf]; omega
            · have H : Hid (numI s = -1) := numI_no (fun h => hd (h.2.2.2 k hlt))
              unfold isDig at hd
              rw [h8] at hd
              by_cases c1 : (s[k]'hlt).toNat < 48
              · have d1 : decide (((s[k]'hlt).toNat : Int) < 48) = true := by simp; omega
                go_wp2
                go_ret
                rw [H.out]
                exact ⟨rfl, rfl⟩
              · have d1 : decide (((s[k]'hlt).toNat : Int) < 48) = false := by simp; omega
                have d2 : decide ((57 : Int) < ((s[k]'hlt).toNat : Int)) = true := by simp; omega
                go_wp2
                go_ret
                rw [H.out]
                exact ⟨rfl, rfl⟩
          · have e : k = s.size := by omega
            subst e
            have H : Hid (numI s = dgs s s.size) := numI_yes ⟨h1.1, h1.2, h2, HK.out⟩
            go_wp2
            go_ret
            rw [H.out]
            exact ⟨rfl, rfl⟩
      · have e0 : (((s[0]'h0).toNat : Int) == 48) = false := by simp; omega
        go_enter Try.func56, Try.ntmps56
        go_wp2_with fail
        refine (l1In_any (s.size : Int) 1 10 _).mono ?_
        rintro e w1 ⟨rfl, rfl⟩
        go_wp2
        go_loopw [3, 4] (fun n i wr => ∃ k : Nat, k ≤ s.size ∧ n = .int .i64 (dgs s k) ∧ i = .int .i64 (k : Int) ∧ Hid (∀ i, i < k → isDig s i) ∧ wr = w1) (fun _ i _ => s.size - (intOf i).toNat)
        case atStart => exact ⟨0, by omega, rfl, rfl, fun i hi => by omega, rfl⟩
        case round =>
          obtain ⟨k, hk, rfl, rfl, HK, rfl⟩ := hrel
          have hbd := dgs_le HK.out (by omega)
          by_cases hlt : k < s.size
          · have h8 := at8_get hlt
            have hlt8 : (s[k]'hlt).toNat < 256 := (s[k]'hlt).toNat_lt
            by_cases hd : isDig s k
            · have HK' : Hid (∀ i, i < k + 1 → isDig s i) := fun i hi => by
                by_cases e : i = k
                · subst e; exact hd
                · exact HK.out i (by omega)
              unfold isDig at hd
              rw [h8] at hd
              have d1 : decide (((s[k]'hlt).toNat : Int) < 48) = false := by simp; omega
              have d2 : decide ((57 : Int) < ((s[k]'hlt).toNat : Int)) = false := by simp; omega
              have d3 : IntKind.u8.wrap (((s[k]'hlt).toNat : Int) - 48) = ((s[k]'hlt).toNat : Int) - 48 := by rw [IntKind.wrap_u8] <;> omega
              have dd : dgs s (k + 1) = 10 * dgs s k + (((s[k]'hlt).toNat : Int) - 48) := by rw [dgs, h8]
              have d4 : IntKind.i64.wrap (10 * dgs s k) = 10 * dgs s k := by rw [IntKind.wrap_i64] <;> omega
              have d5 : IntKind.i64.wrap (10 * dgs s k + (((s[k]'hlt).toNat : Int) - 48)) = 10 * dgs s k + (((s[k]'hlt).toNat : Int) - 48) := by rw [IntKind.wrap_i64] <;> omega
              have d6 : IntKind.i64.wrap (((s[k]'hlt).toNat : Int) - 48) = ((s[k]'hlt).toNat : Int) - 48 := by rw [IntKind.wrap_i64] <;> omega
              go_wp2
              go_roundw
              case rel => exact ⟨k + 1, by omega, by first | (rw [dd]; done) | (rw [dd, d5]; done) | (simp [dd, d5]; done), by go_num, HK', by first | rfl | trivial⟩
              case measure => simp [intOf]; omega
            · have H : Hid (numI s = -1) := numI_no (fun h => hd (h.2.2.2 k hlt))
              unfold isDig at hd
              rw [h8] at hd
              by_cases c1 : (s[k]'hlt).toNat < 48
              · have d1 : decide (((s[k]'hlt).toNat : Int) < 48) = true := by simp; omega
                go_wp2
                go_ret
                rw [H.out]
                exact ⟨rfl, rfl⟩
              · have d1 : decide (((s[k]'hlt).toNat : Int) < 48) = false := by simp; omega
                have d2 : decide ((57 : Int) < ((s[k]'hlt).toNat : Int)) = true := by simp; omega
                go_wp2
                go_ret
                rw [H.out]
                exact ⟨rfl, rfl⟩
          · have e : k = s.size := by omega
            subst e
            have H : Hid (numI s = dgs s s.size) := numI_yes ⟨h1.1, h1.2, h2, HK.out⟩
            go_wp2
            go_ret
            rw [H.out]
            exact ⟨rfl, rfl⟩
  · have hb : btw 1 (s.size : Int) 10 = false := by simp [btw]; omega
    have H : Hid (numI s = -1) := numI_no (fun h => h1 ⟨h.1, h.2.1⟩)
    go_enter Try.func56, Try.ntmps56
    go_wp2_with fail
    refine (l1In_any (s.size : Int) 1 10 _).mono ?_
    rintro e w1 ⟨rfl, rfl⟩
    go_wp2
    go_ret
    rw [H.out]
    exact ⟨rfl, rfl⟩
/-- What the program reads. -/
def RnO (s : ByteArray) (w : World) (e : Ending) (w' : World) : Prop := e = .returned (.tuple #[.int .i64 (@ite Int (NumP s) (numPD s) (dgs s s.size) 0), .bool (@decide (NumP s) (numPD s))]) ∧ Below w.heap.size w w'
theorem RnO.no {s : ByteArray} {w w' : World} (h : ¬ NumP s) (hb : Below w.heap.size w w') : RnO s w (.returned (.tuple #[.int .i64 0, .bool false])) w' := ⟨by simp [h], hb⟩
theorem RnO.yes {s : ByteArray} {w w' : World} (h : NumP s) (hb : Below w.heap.size w w') : RnO s w (.returned (.tuple #[.int .i64 (dgs s s.size), .bool true])) w' := ⟨by simp [h], hb⟩

set_option maxHeartbeats 1000000 in
theorem readNumber_any (s : ByteArray) (w : World) (hs : s.size ≤ 1048576) :
    Calls Try.prog 42 #[.string s] w fun e w' => RnO s w e w' := by
  by_cases l1 : s.size < 1
  · have H : Hid (¬ NumP s) := fun h => by have := h.1; omega
    have d1 : decide ((s.size : Int) < 1) = true := by simp; omega
    go_enter Try.func42, Try.ntmps42
    go_wp2
    exact bodyPost_ret (v := .tuple #[.int .i64 0, .bool false]) (by simp [results, Try.results42, go_sem]) rfl (RnO.no H.out (Below.refl _ _))
  · have d1 : decide ((s.size : Int) < 1) = false := by simp; omega
    by_cases l2 : 10 < s.size
    · have H : Hid (¬ NumP s) := fun h => by have := h.2.1; omega
      have d2 : decide ((10 : Int) < (s.size : Int)) = true := by simp; omega
      go_enter Try.func42, Try.ntmps42
      go_wp2
      exact bodyPost_ret (v := .tuple #[.int .i64 0, .bool false]) (by simp [results, Try.results42, go_sem]) rfl (RnO.no H.out (Below.refl _ _))
    · have d2 : decide ((10 : Int) < (s.size : Int)) = false := by simp; omega
      have h1 : 1 ≤ s.size ∧ s.size ≤ 10 := by omega
      have h0 : 0 < s.size := by omega
      by_cases l3 : 1 < s.size
      · have d3 : decide ((1 : Int) < (s.size : Int)) = true := by simp; omega
        by_cases l4 : (s[0]'h0).toNat = 48
        · have H : Hid (¬ NumP s) := fun h => h.2.2.1 ⟨l3, by rw [at8_get h0]; exact l4⟩
          have e0 : (((s[0]'h0).toNat : Int) == 48) = true := by rw [l4]; rfl
          go_enter Try.func42, Try.ntmps42
          go_wp2
          exact bodyPost_ret (v := .tuple #[.int .i64 0, .bool false]) (by simp [results, Try.results42, go_sem]) rfl (RnO.no H.out (Below.refl _ _))
        · have e0 : (((s[0]'h0).toNat : Int) == 48) = false := by simp; omega
          have h2 : ¬ (1 < s.size ∧ at8 s 0 = 48) := fun h => l4 (by rw [← at8_get h0]; exact h.2)
          go_enter Try.func42, Try.ntmps42
          go_wp2
          go_loopw [4] (fun n wr => ∃ k : Nat, k ≤ s.size ∧ n = .int .i64 (dgs s k) ∧ Hid (∀ i, i < k → isDig s i) ∧ wr.heap[w.heap.size]? = some (.stringIter s k) ∧ Below w.heap.size w wr) (fun _ wr => s.size - wr.iterPos w.heap.size)
          case atStart => exact ⟨0, by omega, rfl, fun i hi => by omega, World.iter_heap w s 0, (Below.refl _ _).alloc (Nat.le_refl _) _⟩
          case round =>
            obtain ⟨k, hk, rfl, HK, hit, hbk⟩ := hrel
            have hbd := dgs_le HK.out (by omega)
            by_cases hlt : k < s.size
            · have h8 := at8_get hlt
              have hlt8 : (s[k]'hlt).toNat < 256 := (s[k]'hlt).toNat_lt
              by_cases hd : isDig s k
              · have HK' : Hid (∀ i, i < k + 1 → isDig s i) := fun i hi => by
                  by_cases e : i = k
                  · subst e; exact hd
                  · exact HK.out i (by omega)
                unfold isDig at hd
                rw [h8] at hd
                have hn := fun ty => Lib.run_next_ascii_at (P := Try.prog) wr w.heap.size s k ty hit hlt (by omega)
                have it2 := Lib.iterAt_heap wr w.heap.size s k (k + 1) hit
                have b2 := Lib.below_iterAt hbk (Nat.le_refl _) s (k + 1)
                have d1 : decide (((s[k]'hlt).toNat : Int) < 48) = false := by simp; omega
                have d2 : decide ((57 : Int) < ((s[k]'hlt).toNat : Int)) = false := by simp; omega
                have d3 : IntKind.i32.wrap (((s[k]'hlt).toNat : Int) - 48) = ((s[k]'hlt).toNat : Int) - 48 := by rw [IntKind.wrap_i32] <;> omega
                have dd : dgs s (k + 1) = 10 * dgs s k + (((s[k]'hlt).toNat : Int) - 48) := by rw [dgs, h8]
                have d4 : IntKind.i64.wrap (10 * dgs s k) = 10 * dgs s k := by rw [IntKind.wrap_i64] <;> omega
                have d5 : IntKind.i64.wrap (10 * dgs s k + (((s[k]'hlt).toNat : Int) - 48)) = 10 * dgs s k + (((s[k]'hlt).toNat : Int) - 48) := by rw [IntKind.wrap_i64] <;> omega
                have d6 : IntKind.i64.wrap (((s[k]'hlt).toNat : Int) - 48) = ((s[k]'hlt).toNat : Int) - 48 := by rw [IntKind.wrap_i64] <;> omega
                go_wp2
                go_roundw
                case rel => exact ⟨k + 1, by omega, by first | (rw [dd]; done) | (rw [dd, d5]; done) | (simp [dd, d5]; done), HK', it2, b2⟩
                case measure => rw [iterPos_of it2, iterPos_of hit]; omega
              · have H : Hid (¬ NumP s) := fun h => hd (h.2.2.2 k hlt)
                unfold isDig at hd
                rw [h8] at hd
                have hn := fun ty => Lib.run_next_any_at (P := Try.prog) wr w.heap.size s k ty hit hlt
                have b2 := Lib.below_iterAt hbk (Nat.le_refl _) s (k + (Utf8.decode s k).2)
                have hr : (Utf8.decode s k).1 < 48 ∨ 57 < (Utf8.decode s k).1 := by
                  by_cases ha : (s[k]'hlt).toNat < 128
                  · rw [decode_ascii s k hlt ha]
                    simp only
                    omega
                  · have := decode_high s k hlt (by omega)
                    omega
                generalize Utf8.decode s k = rr at *
                rcases hr with c1 | c1
                · have d1 : decide ((rr.1 : Int) < 48) = true := by simp; omega
                  go_wp2
                  exact bodyPost_ret (v := .tuple #[.int .i64 0, .bool false]) (by simp [results, Try.results42, go_sem]) rfl (RnO.no H.out b2)
                · have d1 : decide ((rr.1 : Int) < 48) = false := by simp; omega
                  have d2 : decide ((57 : Int) < (rr.1 : Int)) = true := by simp; omega
                  go_wp2
                  exact bodyPost_ret (v := .tuple #[.int .i64 0, .bool false]) (by simp [results, Try.results42, go_sem]) rfl (RnO.no H.out b2)
            · have e : k = s.size := by omega
              subst e
              have hn := fun ty => Lib.run_next_end_at (P := Try.prog) wr w.heap.size s s.size ty hit hlt
              have H : Hid (NumP s) := ⟨h1.1, h1.2, h2, HK.out⟩
              go_wp2
              exact bodyPost_ret (v := .tuple #[.int .i64 (dgs s s.size), .bool true]) (by simp [results, Try.results42, go_sem]) rfl (RnO.yes H.out hbk)
      · have d3 : decide ((1 : Int) < (s.size : Int)) = false := by simp; omega
        have h2 : ¬ (1 < s.size ∧ at8 s 0 = 48) := fun h => l3 h.1
        go_enter Try.func42, Try.ntmps42
        go_wp2
        go_loopw [4] (fun n wr => ∃ k : Nat, k ≤ s.size ∧ n = .int .i64 (dgs s k) ∧ Hid (∀ i, i < k → isDig s i) ∧ wr.heap[w.heap.size]? = some (.stringIter s k) ∧ Below w.heap.size w wr) (fun _ wr => s.size - wr.iterPos w.heap.size)
        case atStart => exact ⟨0, by omega, rfl, fun i hi => by omega, World.iter_heap w s 0, (Below.refl _ _).alloc (Nat.le_refl _) _⟩
        case round =>
          obtain ⟨k, hk, rfl, HK, hit, hbk⟩ := hrel
          have hbd := dgs_le HK.out (by omega)
          by_cases hlt : k < s.size
          · have h8 := at8_get hlt
            have hlt8 : (s[k]'hlt).toNat < 256 := (s[k]'hlt).toNat_lt
            by_cases hd : isDig s k
            · have HK' : Hid (∀ i, i < k + 1 → isDig s i) := fun i hi => by
                by_cases e : i = k
                · subst e; exact hd
                · exact HK.out i (by omega)
              unfold isDig at hd
              rw [h8] at hd
              have hn := fun ty => Lib.run_next_ascii_at (P := Try.prog) wr w.heap.size s k ty hit hlt (by omega)
              have it2 := Lib.iterAt_heap wr w.heap.size s k (k + 1) hit
              have b2 := Lib.below_iterAt hbk (Nat.le_refl _) s (k + 1)
              have d1 : decide (((s[k]'hlt).toNat : Int) < 48) = false := by simp; omega
              have d2 : decide ((57 : Int) < ((s[k]'hlt).toNat : Int)) = false := by simp; omega
              have d3 : IntKind.i32.wrap (((s[k]'hlt).toNat : Int) - 48) = ((s[k]'hlt).toNat : Int) - 48 := by rw [IntKind.wrap_i32] <;> omega
              have dd : dgs s (k + 1) = 10 * dgs s k + (((s[k]'hlt).toNat : Int) - 48) := by rw [dgs, h8]
              have d4 : IntKind.i64.wrap (10 * dgs s k) = 10 * dgs s k := by rw [IntKind.wrap_i64] <;> omega
              have d5 : IntKind.i64.wrap (10 * dgs s k + (((s[k]'hlt).toNat : Int) - 48)) = 10 * dgs s k + (((s[k]'hlt).toNat : Int) - 48) := by rw [IntKind.wrap_i64] <;> omega
              have d6 : IntKind.i64.wrap (((s[k]'hlt).toNat : Int) - 48) = ((s[k]'hlt).toNat : Int) - 48 := by rw [IntKind.wrap_i64] <;> omega
              go_wp2
              go_roundw
              case rel => exact ⟨k + 1, by omega, by first | (rw [dd]; done) | (rw [dd, d5]; done) | (simp [dd, d5]; done), HK', it2, b2⟩
              case measure => rw [iterPos_of it2, iterPos_of hit]; omega
            · have H : Hid (¬ NumP s) := fun h => hd (h.2.2.2 k hlt)
              unfold isDig at hd
              rw [h8] at hd
              have hn := fun ty => Lib.run_next_any_at (P := Try.prog) wr w.heap.size s k ty hit hlt
              have b2 := Lib.below_iterAt hbk (Nat.le_refl _) s (k + (Utf8.decode s k).2)
              have hr : (Utf8.decode s k).1 < 48 ∨ 57 < (Utf8.decode s k).1 := by
                by_cases ha : (s[k]'hlt).toNat < 128
                · rw [decode_ascii s k hlt ha]
                  simp only
                  omega
                · have := decode_high s k hlt (by omega)
                  omega
              generalize Utf8.decode s k = rr at *
              rcases hr with c1 | c1
              · have d1 : decide ((rr.1 : Int) < 48) = true := by simp; omega
                go_wp2
                exact bodyPost_ret (v := .tuple #[.int .i64 0, .bool false]) (by simp [results, Try.results42, go_sem]) rfl (RnO.no H.out b2)
              · have d1 : decide ((rr.1 : Int) < 48) = false := by simp; omega
                have d2 : decide ((57 : Int) < (rr.1 : Int)) = true := by simp; omega
                go_wp2
                exact bodyPost_ret (v := .tuple #[.int .i64 0, .bool false]) (by simp [results, Try.results42, go_sem]) rfl (RnO.no H.out b2)
          · have e : k = s.size := by omega
            subst e
            have hn := fun ty => Lib.run_next_end_at (P := Try.prog) wr w.heap.size s s.size ty hit hlt
            have H : Hid (NumP s) := ⟨h1.1, h1.2, h2, HK.out⟩
            go_wp2
            exact bodyPost_ret (v := .tuple #[.int .i64 (dgs s s.size), .bool true]) (by simp [results, Try.results42, go_sem]) rfl (RnO.yes H.out hbk)
end Go.Proofs.Ytpddodjecbcmlaa
