/- What is found in blocks: the program's way and the model's way over a table's blocks. / The model's check and its numbers of fixed length, the world as it was. -/
import Derived.Test.YtohjjigkfdhklaaGreatOf
import Derived.Test.YtohjjigkfdhklaaGreatBytI
import Derived.Test.YtohjjigkfdhklaaGreatBef
import Derived.Test.YtohjjigkfdhklaaGreatBV
import Derived.Test.YtohjjigkfdhklaaGreatFixR
namespace Go.Proofs.YtohjjigkfdhklaaGreat
set_option maxRecDepth 100000
open Go.RowKit
set_option linter.unusedSimpArgs false
set_option linter.unusedVariables false

theorem bl_trans : ∀ a b c : List UInt8, Op.bytesLess a b = true → Op.bytesLess b c = true → Op.bytesLess a c = true
  | _, [], _, h, _ => by simp [Op.bytesLess] at h
  | _, _ :: _, [], _, h => by simp [Op.bytesLess] at h
  | [], _ :: _, _ :: _, _, _ => by simp [Op.bytesLess]
  | x :: a, y :: b, z :: c, h, g => by
    have ih := bl_trans a b c
    simp only [Op.bytesLess, Bool.or_eq_true, Bool.and_eq_true, decide_eq_true_eq, beq_iff_eq] at h g ⊢
    rcases h with h | ⟨rfl, h⟩ <;> rcases g with g | ⟨rfl, g⟩
    · exact .inl (UInt8.lt_trans h g)
    · exact .inl h
    · exact .inl g
    · exact .inr ⟨rfl, ih h g⟩
/-- No less. -/
def geS (a s : List UInt8) : Prop := Op.bytesLess a s = false
theorem rise_keys {X : Nat → Ent} {n : Nat} (h : RiseE X n) (i : Nat) : ∀ d, i + d < n → Op.bytesLess (X i).key.toList (X (i + d)).key.toList = true ∨ (X i).key.toList = (X (i + d)).key.toList
  | 0, _ => .inr rfl
  | d + 1, hd => by
    have h1 := rise_keys h i d (by omega)
    have h2 := h (i + d) (by omega)
    rcases h1 with h1 | h1
    · rcases h2 with h2 | ⟨h2, _⟩
      · exact .inl (bl_trans _ _ _ h1 h2)
      · exact .inl (by rw [show i + (d + 1) = i + d + 1 by omega, ← h2]; exact h1)
    · rcases h2 with h2 | ⟨h2, _⟩
      · exact .inl (by rw [h1]; exact h2)
      · exact .inr (h1.trans h2)
theorem key_le {X : Nat → Ent} {n : Nat} (h : RiseE X n) {i j : Nat} (hij : i ≤ j) (hj : j < n) : Op.bytesLess (X i).key.toList (X j).key.toList = true ∨ (X i).key.toList = (X j).key.toList := by
  have := rise_keys h i (j - i) (by omega)
  rwa [show i + (j - i) = j by omega] at this
/-- A key behind one that is not less is not less. -/
theorem ge_up {X : Nat → Ent} {n : Nat} (h : RiseE X n) {i j : Nat} (hij : i ≤ j) (hj : j < n) {s : List UInt8} (hi : Op.bytesLess (X i).key.toList s = false) : Op.bytesLess (X j).key.toList s = false := by
  cases hc : Op.bytesLess (X j).key.toList s with
  | false => rfl
  | true =>
    rcases key_le h hij hj with h1 | h1
    · rw [bl_trans _ _ _ h1 hc] at hi; cases hi
    · rw [h1, hc] at hi; cases hi
/-- A key ahead of one that is less is less. -/
theorem lt_down {X : Nat → Ent} {n : Nat} (h : RiseE X n) {i j : Nat} (hij : i ≤ j) (hj : j < n) {s : List UInt8} (hi : Op.bytesLess (X j).key.toList s = true) : Op.bytesLess (X i).key.toList s = true := by
  cases hc : Op.bytesLess (X i).key.toList s with
  | true => rfl
  | false => rw [ge_up h hij hj hc] at hi; cases hi
/-- A key behind one that is greater is another. -/
theorem gt_up {X : Nat → Ent} {n : Nat} (h : RiseE X n) {i j : Nat} (hij : i ≤ j) (hj : j < n) {s : List UInt8} (hi : Op.bytesLess (X i).key.toList s = false) (hne : (X i).key.toList ≠ s) : (X j).key.toList ≠ s := by
  intro e
  rcases key_le h hij hj with h1 | h1
  · rw [e] at h1; rw [h1] at hi; cases hi
  · exact hne (h1.trans e)
theorem less_irr (s : List UInt8) : Op.bytesLess s s = false := by
  induction s with
  | nil => rfl
  | cons x s ih => simp [Op.bytesLess, ih]
theorem lt_ne {a s : List UInt8} (h : Op.bytesLess a s = true) : a ≠ s := fun e => by
  rw [e, less_irr] at h; cases h
theorem fX_add (X : Nat → Ent) (s : ByteArray) (o : Nat) : ∀ c, fX X s (o + c) = fX X s o ++ fX (fun i => X (o + i)) s c
  | 0 => by simp [fX]
  | c + 1 => by
    show fX X s (o + c + 1) = _
    simp only [fX, fX_add X s o c]
    split <;> simp
theorem fX_none (X : Nat → Ent) (s : ByteArray) : ∀ c, (∀ i, i < c → (X i).key.toList ≠ s.toList) → fX X s c = []
  | 0, _ => rfl
  | c + 1, h => by
    have h1 := fX_none X s c fun i hi => h i (by omega)
    have h2 := h c (by omega)
    have h3 : ((X c).key.toList == s.toList) = false := by simpa using h2
    unfold fX
    rw [if_neg (by rw [h3]; decide), h1]
/-- Where the blocks end. -/
def eB (m j : Nat) : Nat := min m (4 * j)
theorem eB_succ (m j : Nat) : eB m (j + 1) = eB m j + bsz m j := by unfold eB bsz; omega
theorem eB_lt {m j : Nat} (h : j < nbl m) : eB m j = 4 * j ∧ 4 * j < m ∧ 1 ≤ bsz m j ∧ eB m (j + 1) ≤ m := by unfold eB bsz; unfold nbl at h; omega
theorem eB_all (m : Nat) : eB m (nbl m) = m := by unfold eB nbl; omega
/-- The program's way: how many are looked at, whether it has ended, what is found. -/
def fd (X : Nat → Ent) (m : Nat) (s : ByteArray) : Nat → Nat × Bool × List Ent
  | 0 => (0, false, [])
  | j + 1 => if (fd X m s j).2.1 = true ∨ Op.bytesLess (lastK X m j).toList s.toList = true then fd X m s j
    else ((fd X m s j).1 + 1, decide ((lastK X m j).toList ≠ s.toList), (fd X m s j).2.2 ++ fX (fun i => X (4 * j + i)) s (bsz m j))
/-- The model's way: how many are looked at, and whether it has ended. -/
def sd (X : Nat → Ent) (m : Nat) (s : ByteArray) : Nat → Nat × Bool
  | 0 => (0, false)
  | j + 1 => if (sd X m s j).2 = true ∨ Op.bytesLess (lastK X m j).toList s.toList = true then sd X m s j
    else if 0 < (sd X m s j).1 ∧ (lastK X m (j - 1)).toList ≠ s.toList then ((sd X m s j).1, true) else ((sd X m s j).1 + 1, false)
section
variable {X : Nat → Ent} {m : Nat} {s : ByteArray}
theorem last_le (h : RiseE X m) {i j : Nat} (hj : j < nbl m) (hi : i < eB m (j + 1)) {t : List UInt8} (hl : Op.bytesLess (lastK X m j).toList t = true) : (X i).key.toList ≠ t := by
  obtain ⟨h1, h2, h3, h4⟩ := eB_lt hj
  rw [eB_succ, h1] at hi h4
  exact lt_ne (lt_down h (show i ≤ 4 * j + bsz m j - 1 by omega) (by omega) hl)
theorem last_up (h : RiseE X m) {i j : Nat} (hij : i ≤ j) (hj : j < nbl m) {t : List UInt8} (hl : Op.bytesLess (lastK X m i).toList t = false) : Op.bytesLess (lastK X m j).toList t = false := by
  obtain ⟨h1, h2, h3, h4⟩ := eB_lt hj
  obtain ⟨k1, k2, k3, k4⟩ := eB_lt (show i < nbl m by omega)
  rw [eB_succ, h1] at h4
  rw [eB_succ, k1] at k4
  refine ge_up h (show 4 * i + bsz m i - 1 ≤ 4 * j + bsz m j - 1 from ?_) (by omega) hl
  by_cases e : i = j
  · subst e; exact Nat.le_refl _
  · have := (bsz_le m i).1
    omega
/-- What the program's way is behind j blocks. -/
theorem fd_inv (h : RiseE X m) : ∀ j, j ≤ nbl m →
    ((fd X m s j).2.1 = false ∧ (fd X m s j).2.2 = fX X s (eB m j) ∧ ((fd X m s j).1 = 0 ∨ (0 < j ∧ (lastK X m (j - 1)).toList = s.toList))) ∨
    ((fd X m s j).2.1 = true ∧ 0 < (fd X m s j).1 ∧ ∃ b, b < j ∧ Op.bytesLess (lastK X m b).toList s.toList = false ∧ (lastK X m b).toList ≠ s.toList ∧ (fd X m s j).2.2 = fX X s (eB m (b + 1)))
  | 0, _ => .inl ⟨rfl, by simp [fd, eB, fX], .inl rfl⟩
  | j + 1, hj => by
    have ih := fd_inv h j (by omega)
    have hjl : j < nbl m := by omega
    obtain ⟨h1, h2, h3, h4⟩ := eB_lt hjl
    rcases ih with ⟨a, b, c⟩ | ⟨a, b, q, hq, c, d, e⟩
    · by_cases hl : Op.bytesLess (lastK X m j).toList s.toList = true
      · have ef : fd X m s (j + 1) = fd X m s j := by show (if _ then _ else _) = _; rw [if_pos (.inr hl)]
        rw [ef]
        refine .inl ⟨a, ?_, ?_⟩
        · rw [b, eB_succ, h1, fX_add, fX_none (fun i => X (4 * j + i)) s (bsz m j) (fun i hi => last_le h hjl (by rw [eB_succ, h1]; omega) hl), List.append_nil]
        · rcases c with c | ⟨c0, c⟩
          · exact .inl c
          · have hp : Op.bytesLess (lastK X m (j - 1)).toList s.toList = false := by rw [c]; exact less_irr _
            rw [last_up h (show j - 1 ≤ j by omega) hjl hp] at hl
            cases hl
      · have hl' : Op.bytesLess (lastK X m j).toList s.toList = false := by simpa using hl
        have ef : fd X m s (j + 1) = ((fd X m s j).1 + 1, decide ((lastK X m j).toList ≠ s.toList), (fd X m s j).2.2 ++ fX (fun i => X (4 * j + i)) s (bsz m j)) := by
          show (if _ then _ else _) = _
          rw [if_neg (by rintro (g | g); exact absurd g (by rw [a]; decide); exact hl g)]
        have eo : (fd X m s j).2.2 ++ fX (fun i => X (4 * j + i)) s (bsz m j) = fX X s (eB m (j + 1)) := by rw [b, eB_succ, h1, fX_add]
        rw [ef, eo]
        by_cases hk : (lastK X m j).toList = s.toList
        · exact .inl ⟨by simp [hk], rfl, .inr ⟨by omega, by rw [Nat.add_sub_cancel]; exact hk⟩⟩
        · exact .inr ⟨by simp [hk], by show 0 < (fd X m s j).1 + 1; omega, j, by omega, hl', hk, rfl⟩
    · have ef : fd X m s (j + 1) = fd X m s j := by show (if _ then _ else _) = _; rw [if_pos (.inl a)]
      rw [ef]
      exact .inr ⟨a, b, q, by omega, c, d, e⟩
/-- All is found. -/
theorem fd_all (h : RiseE X m) : (fd X m s (nbl m)).2.2 = fX X s m := by
  rcases fd_inv (s := s) h (nbl m) (Nat.le_refl _) with ⟨_, b, _⟩ | ⟨_, _, q, hq, c, d, e⟩
  · rw [b, eB_all]
  · obtain ⟨h1, h2, h3, h4⟩ := eB_lt hq
    rw [e]
    have hm : m = eB m (q + 1) + (m - eB m (q + 1)) := by omega
    conv => rhs; rw [hm]
    rw [fX_add, fX_none (fun i => X (eB m (q + 1) + i)) s _ (fun i hi => ?_), List.append_nil]
    rw [eB_succ, h1] at h4 hi ⊢
    exact gt_up h (show 4 * q + bsz m q - 1 ≤ 4 * q + bsz m q + i by omega) (by omega) c d
/-- The model's way looks at as many. -/
theorem sd_fd (h : RiseE X m) : ∀ j, j ≤ nbl m → (sd X m s j).1 = (fd X m s j).1 ∧ ((sd X m s j).2 = true → (fd X m s j).2.1 = true) ∧ ((fd X m s j).2.1 = true → (sd X m s j).2 = true ∨ (0 < j ∧ Op.bytesLess (lastK X m (j - 1)).toList s.toList = false ∧ (lastK X m (j - 1)).toList ≠ s.toList))
  | 0, _ => ⟨rfl, (fun g => by cases g), (fun g => by cases g)⟩
  | j + 1, hj => by
    obtain ⟨i1, i2, i3⟩ := sd_fd h j (by omega)
    have hjl : j < nbl m := by omega
    have hinv := fd_inv (s := s) h j (by omega)
    cases hst : (sd X m s j).2 with
    | true =>
      have hf := i2 hst
      have es : sd X m s (j + 1) = sd X m s j := by show (if _ then _ else _) = _; rw [if_pos (.inl hst)]
      have ef : fd X m s (j + 1) = fd X m s j := by show (if _ then _ else _) = _; rw [if_pos (.inl hf)]
      rw [es, ef]
      exact ⟨i1, i2, fun _ => .inl hst⟩
    | false =>
      cases hft : (fd X m s j).2.1 with
      | true =>
        obtain ⟨h0, hg, hne⟩ := (i3 hft).resolve_left (by rw [hst]; decide)
        have hl := last_up h (show j - 1 ≤ j by omega) hjl hg
        have hpos : 0 < (fd X m s j).1 := by
          rcases hinv with ⟨a, _⟩ | ⟨_, b, _⟩
          · rw [a] at hft; cases hft
          · exact b
        have es : sd X m s (j + 1) = ((sd X m s j).1, true) := by
          show (if _ then _ else _) = _
          rw [if_neg (by rintro (g | g); rw [hst] at g; cases g; rw [hl] at g; cases g), if_pos ⟨by omega, hne⟩]
        have ef : fd X m s (j + 1) = fd X m s j := by show (if _ then _ else _) = _; rw [if_pos (.inl hft)]
        rw [es, ef]
        exact ⟨i1, fun _ => hft, fun _ => .inl rfl⟩
      | false =>
        rcases hinv with ⟨a, b, c⟩ | ⟨a, _⟩
        · by_cases hl : Op.bytesLess (lastK X m j).toList s.toList = true
          · have es : sd X m s (j + 1) = sd X m s j := by show (if _ then _ else _) = _; rw [if_pos (.inr hl)]
            have ef : fd X m s (j + 1) = fd X m s j := by show (if _ then _ else _) = _; rw [if_pos (.inr hl)]
            rw [es, ef]
            exact ⟨i1, i2, fun g => by rw [hft] at g; cases g⟩
          · have hl' : Op.bytesLess (lastK X m j).toList s.toList = false := by simpa using hl
            have ef : fd X m s (j + 1) = ((fd X m s j).1 + 1, decide ((lastK X m j).toList ≠ s.toList), (fd X m s j).2.2 ++ fX (fun i => X (4 * j + i)) s (bsz m j)) := by
              show (if _ then _ else _) = _
              rw [if_neg (by rintro (g | g); rw [hft] at g; cases g; exact hl g)]
            have es : sd X m s (j + 1) = ((sd X m s j).1 + 1, false) := by
              show (if _ then _ else _) = _
              rw [if_neg (by rintro (g | g); rw [hst] at g; cases g; exact hl g), if_neg]
              rintro ⟨g1, g2⟩
              rcases c with c | ⟨_, c⟩
              · omega
              · exact g2 c
            rw [es, ef]
            refine ⟨by show (sd X m s j).1 + 1 = (fd X m s j).1 + 1; omega, (fun g => by cases g), fun g => .inr ⟨by omega, by rw [Nat.add_sub_cancel]; exact hl', ?_⟩⟩
            rw [Nat.add_sub_cancel]
            exact of_decide_eq_true g
        · rw [a] at hft; cases hft
end
end Go.Proofs.YtohjjigkfdhklaaGreat
namespace Go.Proofs.YtohjjigkfdhklaaGreat
set_option maxRecDepth 100000
open Go.RowKit
set_option linter.unusedSimpArgs false
set_option linter.unusedVariables false

set_option maxHeartbeats 400000 in
theorem crc_same (ao : Option Addr) (n cap : Nat) (f : Nat → Int) (w : World) (hr : Row w ao n f) (hn : n ≤ 1048576) :
    Calls Tryz.prog 61 #[.slice ao n cap] w fun e w' => e = .returned (.int .u32 (crcOf f n)) ∧ w' = w := by
  obtain ⟨hbd, hl⟩ := hr
  go_enter Tryz.func61, Tryz.ntmps61
  go_wp2
  go_loopw [3, 9] (fun s i wr => ∃ k : Nat, k ≤ n ∧ i = .int .i64 k ∧ s = .int .u32 (crcTo f k) ∧ wr = w) (fun _ i _ => n - (intOf i).toNat)
  case atStart => exact ⟨0, Nat.zero_le _, rfl, rfl, rfl⟩
  case round =>
    obtain ⟨k, hk, rfl, rfl, hbk⟩ := hrel
    subst hbk
    by_cases hlt : k < n
    · obtain ⟨b, off, rfl, hblt, hc⟩ := hl.resolve_left (by omega)
      have h1 : wr.cell? ⟨b, off + k, none⟩ = some (.int .u8 (f k)) := hc k hlt
      have hb := hbd k
      clear hc hl
      go_wp2
      go_loopw [3, 6] (fun s i ws => ∃ j : Nat, j ≤ 8 ∧ i = .int .i64 j ∧ s = .int .u32 (cbits j (bits .xor .u32 (crcTo f k) (f k))) ∧ ws = wr) (fun _ i _ => 8 - (intOf i).toNat)
      case atStart => exact ⟨0, by omega, rfl, rfl, rfl⟩
      case round =>
        obtain ⟨j, hj, rfl, rfl, rfl⟩ := hrel
        have hx := cbits_bd j _ (xor_bd (crcTo f k) (f k))
        have hsu : Hid (cbits (j + 1) (bits .xor .u32 (crcTo f k) (f k)) = cbit (cbits j (bits .xor .u32 (crcTo f k) (f k)))) := rfl
        have hs8 : Hid (j = 8 → cbits j (bits .xor .u32 (crcTo f k) (f k)) = crcTo f (k + 1)) := fun h => by subst h; rfl
        generalize bits .xor .u32 (crcTo f k) (f k) = y at *
        generalize cbits j y = c1 at *
        by_cases hlt8 : j < 8
        · go_wp2
          all_goals go_roundw
          all_goals first
            | (case rel => exact ⟨j + 1, by omega, by go_num, by rw [hsu.out]; first | rw [cbit_yes _ ‹_›] | rw [cbit_no _ ‹_›], by trivial⟩)
            | skip
          all_goals (case measure => simp [intOf]; omega)
        · go_wp2
          go_roundw
          case rel => exact ⟨k + 1, by omega, by go_num, by rw [hs8.out (by omega)], by trivial⟩
          case measure => simp [intOf]; omega
    · go_wp2
      go_ret
      have : k = n := by omega
      subst this
      exact ⟨rfl, rfl⟩

set_option maxHeartbeats 400000 in
theorem l1Number_same (b off m cap : Nat) (f : Nat → Int) (q : Nat) (w : World) (hbd : ∀ i, 0 ≤ f i ∧ f i ≤ 255) (hblt : b < w.heap.size) (hc : ∀ i, i < m → w.cell? ⟨b, off + i, none⟩ = some (.int .u8 (f (q + i)))) (hm : m ≤ 8) :
    Calls Tryz.prog 70 #[.slice (some ⟨b, off, none⟩) m cap] w fun e w' => e = .returned (.int .i64 (wrap64 (num f q m))) ∧ w' = w := by
  go_enter Tryz.func70, Tryz.ntmps70
  go_wp2
  go_loopw [3, 8] (fun s i wr => ∃ k : Nat, ∃ c : Int, k ≤ m ∧ i = .int .i64 k ∧ s = .int .i64 c ∧ Hid (c = wrap64 (num f q k)) ∧ wr = w) (fun _ i _ => m - (intOf i).toNat)
  case atStart => exact ⟨0, 0, by omega, rfl, rfl, (by unfold Hid wrap64; simp [num]), rfl⟩
  case round =>
    obtain ⟨k, c, hk, rfl, rfl, HC, hbk⟩ := hrel
    subst hbk
    by_cases hlt : k < m
    · have h1 : wr.cell? ⟨b, off + k, none⟩ = some (.int .u8 (f (q + k))) := hc k hlt
      have hb := hbd (q + k)
      have HS : Hid (bits .or .i64 (wrap64 (c * 256)) (f (q + k)) = wrap64 (num f q (k + 1))) := by
        unfold Hid; rw [HC.out, or_step_i _ _ (num_bd7 f hbd q k (by omega)) hb]; rfl
      clear hc
      go_wp2
      go_roundw
      case rel => exact ⟨k + 1, _, by omega, by go_num, rfl, HS, by trivial⟩
      case measure => simp [intOf]; omega
    · have e : k = m := by omega
      subst e
      go_wp2
      go_ret
      rw [HC.out]
      exact ⟨rfl, rfl⟩


end Go.Proofs.YtohjjigkfdhklaaGreat
