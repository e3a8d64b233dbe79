/- Texts parted at a byte; runes of a text. -/
import Derived.Test.YtpddodjecbcmlaaDoorTg
import Derived.Laws.RangeAny
import Derived.Laws.RangeString
import Derived.Lib.OthersKept
namespace Go.Proofs.YtpddodjecbcmlaaDoor
open Go.RowKit
set_option linter.unusedSimpArgs false
set_option linter.unusedVariables false

/-- The parts of a text between the bytes b. -/
def sp (b : UInt8) : List UInt8 → List (List UInt8)
  | [] => [[]]
  | c :: l => if c = b then [] :: sp b l else match sp b l with
    | [] => [[c]]
    | p :: ps => (c :: p) :: ps
theorem sp_cut (b : UInt8) : ∀ (p l : List UInt8), (∀ c ∈ p, c ≠ b) → sp b (p ++ b :: l) = p :: sp b l
  | [], l, _ => by simp [sp]
  | c :: p, l, h => by
    have h1 := sp_cut b p l (fun x hx => h x (List.mem_cons_of_mem _ hx))
    have h2 : c ≠ b := h c (List.mem_cons_self ..)
    simp [sp, h1, h2]
theorem sp_none (b : UInt8) : ∀ (p : List UInt8), (∀ c ∈ p, c ≠ b) → sp b p = [p]
  | [], _ => rfl
  | c :: p, h => by
    have h1 := sp_none b p (fun x hx => h x (List.mem_cons_of_mem _ hx))
    have h2 : c ≠ b := h c (List.mem_cons_self ..)
    simp [sp, h1, h2]
theorem sp_len (b : UInt8) : ∀ l : List UInt8, (sp b l).length ≤ l.length + 1
  | [] => by simp [sp]
  | c :: l => by
    have h := sp_len b l
    unfold sp
    split
    · simp; omega
    · split
      · simp
      · rename_i e
        rw [e] at h
        simp at h ⊢
        omega
theorem sp_pos (b : UInt8) : ∀ l : List UInt8, 1 ≤ (sp b l).length
  | [] => by simp [sp]
  | c :: l => by
    unfold sp
    split
    · simp
    · split <;> simp
/-- Each part is no longer than the text. -/
theorem sp_size (b : UInt8) : ∀ (l p : List UInt8), p ∈ sp b l → p.length ≤ l.length
  | [], p, h => by simp [sp] at h; subst h; simp
  | c :: l, p, h => by
    have ih := sp_size b l
    unfold sp at h
    split at h
    · rcases List.mem_cons.1 h with rfl | h1
      · simp
      · have := ih p h1; simp; omega
    · split at h
      · simp at h; subst h; simp
      · rename_i e
        rcases List.mem_cons.1 h with rfl | h1
        · have := ih _ (by rw [e]; exact List.mem_cons_self ..)
          simp; omega
        · have := ih p (by rw [e]; exact List.mem_cons_of_mem _ h1)
          simp; omega
/-- The parts, as texts. -/
def spL (b : UInt8) (l : List UInt8) : List ByteArray := (sp b l).map fun p => ⟨p.toArray⟩
def spB (b : UInt8) (s : ByteArray) : List ByteArray := spL b s.data.toList
theorem spL_len (b : UInt8) (l : List UInt8) : (spL b l).length = (sp b l).length := by simp [spL]
theorem spB_size (b : UInt8) (s : ByteArray) : ∀ p ∈ spB b s, p.size ≤ s.size := by
  intro p hp
  obtain ⟨l, hl, rfl⟩ := List.mem_map.1 hp
  have h1 := sp_size b _ l hl
  rw [Array.length_toList] at h1
  have h2 : (⟨l.toArray⟩ : ByteArray).size = l.length := by simp [ByteArray.size]
  rw [h2]
  exact h1

/-- The text from i to j. -/
def sub (s : ByteArray) (i j : Nat) : ByteArray := s.extract i j
theorem sub_list (s : ByteArray) (i j : Nat) : (sub s i j).data.toList = (s.data.toList.drop i).take (j - i) := by
  simp only [sub, ByteArray.data_extract, Array.toList_extract, List.extract_eq_take_drop]
/-- What is done of the parting: D are the parts so far, the next begins at i. -/
def Part (b : UInt8) (s : ByteArray) (D : List ByteArray) (i : Nat) : Prop := D ++ spL b (s.data.toList.drop i) = spB b s
/-- No b from i up to j. -/
def NoB (b : UInt8) (s : ByteArray) (i j : Nat) : Prop := ∀ k (hk : k < s.size), i ≤ k → k < j → s[k] ≠ b
theorem noB_mem {b : UInt8} {s : ByteArray} {i j : Nat} (h : NoB b s i j) : ∀ c ∈ (s.data.toList.drop i).take (j - i), c ≠ b := by
  intro c hc
  obtain ⟨k, hk, rfl⟩ := List.mem_iff_getElem.1 hc
  simp only [List.length_take, List.length_drop, Array.length_toList] at hk
  rw [List.getElem_take, List.getElem_drop]
  have := h (i + k) (by show i + k < s.data.size; omega) (by omega) (by omega)
  exact this
theorem Part.cut {b : UInt8} {s : ByteArray} {D : List ByteArray} {i j : Nat} (h : Part b s D i) (hn : NoB b s i j) (hij : i ≤ j) (hj : j < s.size) (hb : s[j] = b) : Part b s (D ++ [sub s i j]) (j + 1) := by
  unfold Part at h ⊢
  rw [← h]
  have e : s.data.toList.drop i = (s.data.toList.drop i).take (j - i) ++ b :: s.data.toList.drop (j + 1) := by
    have h1 := (List.take_append_drop (j - i) (s.data.toList.drop i)).symm
    rw [List.drop_drop, show i + (j - i) = j by omega] at h1
    have hj' : j < s.data.toList.length := by rw [Array.length_toList]; exact hj
    rw [List.drop_eq_getElem_cons hj'] at h1
    have : s.data.toList[j] = b := hb
    rw [this] at h1
    exact h1
  conv => rhs; rw [e]
  rw [show spL b ((s.data.toList.drop i).take (j - i) ++ b :: s.data.toList.drop (j + 1)) = sub s i j :: spL b (s.data.toList.drop (j + 1)) from by
    unfold spL
    rw [sp_cut b _ _ (noB_mem hn), List.map_cons]
    congr 1
    apply ByteArray.ext
    rw [← Array.toList_inj]
    exact (sub_list s i j).symm]
  simp
theorem Part.last {b : UInt8} {s : ByteArray} {D : List ByteArray} {i : Nat} (h : Part b s D i) (hn : NoB b s i s.size) : D ++ [sub s i s.size] = spB b s := by
  unfold Part at h
  rw [← h]
  congr 1
  unfold spL
  have e : (s.data.toList.drop i).take (s.size - i) = s.data.toList.drop i := List.take_of_length_le (by rw [List.length_drop, Array.length_toList]; exact Nat.le_refl _)
  have := noB_mem hn
  rw [e] at this
  rw [sp_none b _ this]
  simp only [List.map_cons, List.map_nil, List.cons.injEq, and_true]
  apply ByteArray.ext
  rw [← Array.toList_inj]
  exact (sub_list s i s.size).trans e
theorem Part.start (b : UInt8) (s : ByteArray) : Part b s [] 0 := by simp [Part, spB]
theorem Part.len {b : UInt8} {s : ByteArray} {D : List ByteArray} {i : Nat} (h : Part b s D i) : D.length ≤ s.size := by
  have h1 := congrArg List.length h
  rw [List.length_append, spL_len, spB, spL_len] at h1
  have h2 := sp_pos b (s.data.toList.drop i)
  have h3 := sp_len b s.data.toList
  have h4 : s.data.toList.length = s.size := Array.length_toList
  rw [h4] at h3
  omega
theorem NoB.start (b : UInt8) (s : ByteArray) (i : Nat) : NoB b s i i := fun k hk h1 h2 => by omega
theorem NoB.one {b : UInt8} {s : ByteArray} {i j : Nat} (h : NoB b s i j) (hj : j < s.size) (hb : s[j] ≠ b) : NoB b s i (j + 1) := by
  intro k hk h1 h2
  by_cases e : k = j
  · subst e; exact hb
  · exact h k hk h1 (by omega)

theorem get_at' (s : ByteArray) (k : Nat) (h : k < s.size) : s.get! k = s[k] := by
  simp [ByteArray.get!, getElem!_pos, h]
  rfl
/-- A rune that begins with a byte from 128 on takes only such bytes, and ends within the text. -/
theorem decode_wide (s : ByteArray) (pos : Nat) (h : pos < s.size) (ha : 128 ≤ (s[pos]'h).toNat) : pos + (Utf8.decode s pos).2 ≤ s.size ∧ ∀ k (hk : k < s.size), pos ≤ k → k < pos + (Utf8.decode s pos).2 → 128 ≤ (s[k]'hk).toNat := by
  have hn : ¬ (s[pos]'h).toNat < 128 := by omega
  have g0 : s.get! (pos + 0) = s[pos] := by rw [Nat.add_zero]; exact get_at' s pos h
  have one : pos + 1 ≤ s.size ∧ ∀ k (hk : k < s.size), pos ≤ k → k < pos + 1 → 128 ≤ (s[k]'hk).toNat := ⟨by omega, fun k hk h1 h2 => by
    have : k = pos := by omega
    subst this; exact ha⟩
  have ct : ∀ j, (decide (pos + j < s.size) && (s.get! (pos + j)).toNat / 64 == 2) = true → pos + j < s.size ∧ ∀ hk : pos + j < s.size, 128 ≤ (s[pos + j]'hk).toNat := by
    intro j hj
    simp only [Bool.and_eq_true, decide_eq_true_eq, beq_iff_eq] at hj
    refine ⟨hj.1, fun hk => ?_⟩
    rw [get_at' s _ hk] at hj
    omega
  simp only [Utf8.decode, g0, hn, if_false]
  split
  · rename_i h1
    simp only [Bool.and_eq_true] at h1
    have c1 := ct 1 (by simpa using h1.2)
    split
    · refine ⟨by simp; omega, fun k hk h3 h4 => ?_⟩
      simp only at h4
      rcases (show k = pos ∨ k = pos + 1 by omega) with rfl | rfl
      · exact ha
      · exact c1.2 hk
    · exact one
  · split
    · rename_i h0 h1
      simp only [Bool.and_eq_true] at h1
      have c1 := ct 1 (by simpa using h1.1.2)
      have c2 := ct 2 (by simpa using h1.2)
      split
      · refine ⟨by simp; omega, fun k hk h3 h4 => ?_⟩
        simp only at h4
        rcases (show k = pos ∨ k = pos + 1 ∨ k = pos + 2 by omega) with rfl | rfl | rfl
        · exact ha
        · exact c1.2 hk
        · exact c2.2 hk
      · exact one
    · split
      · rename_i h0 h00 h1
        simp only [Bool.and_eq_true] at h1
        have c1 := ct 1 (by simpa using h1.1.1.2)
        have c2 := ct 2 (by simpa using h1.1.2)
        have c3 := ct 3 (by simpa using h1.2)
        split
        · refine ⟨by simp; omega, fun k hk h3 h4 => ?_⟩
          simp only at h4
          rcases (show k = pos ∨ k = pos + 1 ∨ k = pos + 2 ∨ k = pos + 3 by omega) with rfl | rfl | rfl | rfl
          · exact ha
          · exact c1.2 hk
          · exact c2.2 hk
          · exact c3.2 hk
        · exact one
      · exact one
end Go.Proofs.YtpddodjecbcmlaaDoor
