/- Marks laid into files, and looked for. -/
import Derived.Test.YtapmbgmmonhdoaaGreatDoorSzTot
import Derived.Test.YtapmbgmmonhdoaaGreatDoorMarks
namespace Go.Proofs.YtapmbgmmonhdoaaGreatDoor
set_option maxRecDepth 100000
open Go.RowKit
set_option linter.unusedSimpArgs false
set_option linter.unusedVariables false

/-- n files of the call's own in block b; the bytes of file i, where it has any, in block G i; all of these blocks are different. -/
structure FBox (w : World) (b n : Nat) (F : Nat → Fil) (G : Nat → Nat) (B U : Nat) : Prop where
  lt : b < w.heap.size
  cell : ∀ i, i < n → ∃ da dc, w.cell? ⟨b, i * 3, none⟩ = some (.string (F i).nm) ∧ w.cell? ⟨b, i * 3 + 1, none⟩ = some (.slice da (F i).len dc) ∧ w.cell? ⟨b, i * 3 + 2, none⟩ = some (.int .i64 (F i).sy) ∧ ((F i).len = 0 ∨ da = some ⟨G i, 0, none⟩ ∧ Own w (G i) 0 (F i).len (F i).f)
  free : ∀ j, j < n * 3 → w.frozen? ⟨b, j, none⟩ = false
  bd : ∀ i, i < n → ∀ j, 0 ≤ (F i).f j ∧ (F i).f j ≤ 255
  self : ∀ i, i < n → (F i).len ≠ 0 → G i ≠ b
  apart : ∀ i j, i < j → j < n → (F i).len ≠ 0 → (F j).len ≠ 0 → G i ≠ G j
  range : B ≤ b ∧ b < U ∧ ∀ i, i < n → (F i).len ≠ 0 → B ≤ G i ∧ G i < U
section
variable {w w' : World} {b n B U : Nat} {F : Nat → Fil} {G : Nat → Nat}
theorem FOwn.box (h : FOwn w b n n F G) (hB : B ≤ b) (hU : b < U) (hG : ∀ i, i < n → G i < U) : FBox w b n F G B U :=
  ⟨h.lt, fun i hi => ⟨_, _, (h.cell i hi hi).1, (h.cell i hi hi).2.1, (h.cell i hi hi).2.2, .inr ⟨rfl, (h.data i hi hi).2⟩⟩, h.free, fun i hi j => (h.data i hi hi).2.bd j, fun i hi _ => by have := (h.data i hi hi).1; omega, fun i j hij hj _ _ => by have := h.mono i j hij hj; omega, hB, hU, fun i hi _ => ⟨by have := (h.data i hi hi).1; omega, hG i hi⟩⟩
theorem FBox.row (h : FBox w b n F G B U) : FRow w (some ⟨b, 0, none⟩) n F :=
  ⟨.inr ⟨b, 0, rfl, h.lt, fun i hi => by
    obtain ⟨da, dc, c0, c1, c2, hd⟩ := h.cell i hi
    refine ⟨da, dc, by simpa using c0, by simpa using c1, by simpa using c2, h.bd i hi, ?_⟩
    rcases hd with h0 | ⟨rfl, ho⟩
    · exact .inl h0
    · exact ho.row.lies⟩⟩
theorem FBox.keep (h : FBox w b n F G B U) (hb : Below w.heap.size w w') : FBox w' b n F G B U :=
  ⟨Nat.lt_of_lt_of_le h.lt hb.size, fun i hi => by
    obtain ⟨da, dc, c0, c1, c2, hd⟩ := h.cell i hi
    exact ⟨da, dc, (hb.cell (p := ⟨b, i * 3, none⟩) h.lt).trans c0, (hb.cell (p := ⟨b, i * 3 + 1, none⟩) h.lt).trans c1, (hb.cell (p := ⟨b, i * 3 + 2, none⟩) h.lt).trans c2, orR hd fun ⟨e, ho⟩ => ⟨e, ho.keep hb⟩⟩,
    fun j hj => (hb.frozen (p := ⟨b, j, none⟩) h.lt).trans (h.free j hj), h.bd, h.self, h.apart, h.range⟩
end

/-- The mark with which file i begins. -/
def cK (F : Nat → Fil) (i : Nat) : Nat := 1 + 2 * i + used F i
/-- A file as markFiles leaves it. -/
def fmark (F : Nat → Fil) (i : Nat) : Fil := { nm := mt ((cK F i : Nat) : Int), len := (F i).len, f := fun j => ((cK F i + 1 + j : Nat) : Int) % 256, sy := ((cK F i + 1 + (F i).len : Nat) : Int) }
/-- The first k files are marked. -/
def fpart (F : Nat → Fil) (k i : Nat) : Fil := if i < k then fmark F i else F i
theorem cK_succ (F : Nat → Fil) (i : Nat) : cK F (i + 1) = cK F i + 1 + (F i).len + 1 := by unfold cK; simp only [used]; omega
theorem cK_le {F : Nat → Fil} {i n : Nat} (h : i ≤ n) : cK F i ≤ cK F n := by have := used_le (F := F) h; unfold cK; omega
theorem fpart_zero (F : Nat → Fil) : fpart F 0 = F := by funext i; simp [fpart]
theorem fpart_len (F : Nat → Fil) (k i : Nat) : (fpart F k i).len = (F i).len := by unfold fpart; split <;> rfl
theorem fpart_ge {F : Nat → Fil} {k i : Nat} (h : ¬ i < k) : fpart F k i = F i := by simp [fpart, h]
theorem fpart_other {F : Nat → Fil} {k i : Nat} (h : i ≠ k) : fpart F (k + 1) i = fpart F k i := by
  unfold fpart
  by_cases h1 : i < k
  · rw [if_pos (by omega), if_pos h1]
  · rw [if_neg (by omega), if_neg h1]
theorem fpart_at (F : Nat → Fil) (k : Nat) : fpart F (k + 1) k = fmark F k := by simp [fpart]

section
variable {w w' : World} {b n B U k : Nat} {F : Nat → Fil} {G : Nat → Nat}
/-- File k is marked: its three cells and its bytes are written, all else of the box is as it was. -/
theorem FBox.mark (h : FBox w b n (fpart F k) G B U) (hk : k < n) (hs : w.heap.size ≤ w'.heap.size) (da : Option Addr) (dc : Nat)
    (c0 : w'.cell? ⟨b, k * 3, none⟩ = some (.string (fmark F k).nm)) (c1 : w'.cell? ⟨b, k * 3 + 1, none⟩ = some (.slice da (F k).len dc)) (c2 : w'.cell? ⟨b, k * 3 + 2, none⟩ = some (.int .i64 (fmark F k).sy))
    (hd : (F k).len = 0 ∨ da = some ⟨G k, 0, none⟩ ∧ Own w' (G k) 0 (F k).len (fmark F k).f)
    (hb : ∀ j, j ≠ k * 3 → j ≠ k * 3 + 1 → j ≠ k * 3 + 2 → w'.cell? ⟨b, j, none⟩ = w.cell? ⟨b, j, none⟩) (hf : ∀ j, w'.frozen? ⟨b, j, none⟩ = w.frozen? ⟨b, j, none⟩)
    (hx : ∀ g, g < w.heap.size → g ≠ b → ((F k).len ≠ 0 → g ≠ G k) → w'.heap[g]? = w.heap[g]?) : FBox w' b n (fpart F (k + 1)) G B U := by
  refine ⟨Nat.lt_of_lt_of_le h.lt hs, fun i hi => ?_, fun j hj => (hf j).trans (h.free j hj), fun i hi j => ?_, fun i hi => by rw [fpart_len]; have := h.self i hi; rwa [fpart_len] at this, fun i j hij hj => by rw [fpart_len, fpart_len]; have := h.apart i j hij hj; rwa [fpart_len, fpart_len] at this, h.range.1, h.range.2.1, fun i hi => by rw [fpart_len]; have := h.range.2.2 i hi; rwa [fpart_len] at this⟩
  · by_cases e : i = k
    · subst e
      rw [fpart_at]
      exact ⟨da, dc, c0, c1, c2, hd⟩
    · rw [fpart_other e]
      obtain ⟨da', dc', e0, e1, e2, hd'⟩ := h.cell i hi
      refine ⟨da', dc', by rw [hb _ (by omega) (by omega) (by omega)]; exact e0, by rw [hb _ (by omega) (by omega) (by omega)]; exact e1, by rw [hb _ (by omega) (by omega) (by omega)]; exact e2, ?_⟩
      rcases hd' with h0 | ⟨e3, ho⟩
      · exact .inl h0
      · by_cases hl : (fpart F k i).len = 0
        · exact .inl hl
        · refine .inr ⟨e3, ?_⟩
          have hne : (F k).len ≠ 0 → G i ≠ G k := fun hk0 => by
            rcases Nat.lt_or_ge i k with g | g
            · exact h.apart i k g hk hl (by rw [fpart_len]; exact hk0)
            · exact Ne.symm (h.apart k i (by omega) hi (by rw [fpart_len]; exact hk0) hl)
          have hblk := hx (G i) ho.lt (h.self i hi hl) hne
          exact ⟨ho.bd, Nat.lt_of_lt_of_le ho.lt hs, fun j hj => (World.cell?_of_block (w := w) (a := ⟨G i, 0 + j, none⟩) hblk).trans (ho.cell j hj), fun j hj => (World.frozen?_of_block (w := w) (a := ⟨G i, 0 + j, none⟩) hblk).trans (ho.free j hj)⟩
  · by_cases e : i = k
    · subst e; rw [fpart_at]; simp only [fmark]; omega
    · rw [fpart_other e]; exact h.bd i hi j
end

theorem markByteS_none (ao : Option Addr) (cap : Nat) (k : Int) (w : World) (hk : 0 ≤ k ∧ k ≤ 4194304) :
    Calls Tryz.prog 47 #[.slice ao 0 cap, .int .i64 k] w fun e w' => e = .returned (.int .i64 k) ∧ w' = w := by
  go_enter Tryz.func47, Tryz.ntmps47
  go_wp2
  go_loopw [1, 5] (fun q i wr => i = .int .i64 0 ∧ q = .int .i64 k ∧ wr = w) (fun _ _ _ => 0)
  case atStart => exact ⟨rfl, rfl, rfl⟩
  case round =>
    obtain ⟨rfl, rfl, rfl⟩ := hrel
    go_wp2
    go_ret
    exact ⟨rfl, rfl⟩
end Go.Proofs.YtapmbgmmonhdoaaGreatDoor
