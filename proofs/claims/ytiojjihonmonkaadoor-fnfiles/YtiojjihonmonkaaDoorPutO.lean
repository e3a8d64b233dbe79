/- put: what it leaves. / put, where there is room. / put: its outcome. -/
import Derived.Test.YtiojjihonmonkaaDoorDiskX
import Derived.Test.YtiojjihonmonkaaDoorAppF
import Derived.Test.YtiojjihonmonkaaDoorUsed
import Derived.Deep.RegionHeld3
namespace Go.Proofs.YtiojjihonmonkaaDoor
open Go.RowKit
open Go.ChangeMaps (setBlock)
set_option linter.unusedSimpArgs false
set_option linter.unusedVariables false

def cat (f : Nat → Int) (n : Nat) (h : Nat → Int) (i : Nat) : Int := if i < n then f i else h (i - n)
theorem bl_cat (f h : Nat → Int) (n m : Nat) : bl f n ++ bl h m = bl (cat f n h) (n + m) := by
  unfold bl
  rw [List.range_add, List.map_append, List.map_map]
  congr 1
  · exact List.map_congr_left fun i hi => by simp [cat, List.mem_range.1 hi]
  · exact List.map_congr_left fun i hi => by
      show Value.int .u8 (h i) = Value.int .u8 (cat f n h (n + i))
      unfold cat
      rw [if_neg (by omega), Nat.add_sub_cancel_left]
/-- Bytes put behind a row of the call's own. -/
theorem bapp_run (w : World) (base : Nat) (p : Option Addr) (c n m : Nat) (f h : Nat → Int) (ad : Addr) (sc : Nat) (hown : w.ownsRow base 5 1 (.slice p n c) n (bl f n)) (hsrc : ∀ j, j < m → w.cell? (ad.add j) = some (.int .u8 (h j))) (hl : n + m ≤ 4194304) (hb : base ≤ w.heap.size) :
    ∃ p' c' w', (∀ ty, (Builtin.append_ #[22, 22] ty #[.slice p n c, .slice (some ad) m sc]).run Tryd.prog w = .ok (.slice p' (n + m) c') w') ∧
      w'.ownsRow base 5 1 (.slice p' (n + m) c') (n + m) (bl (cat f n h) (n + m)) ∧ w.grownBy w' (Value.slice p n c).ownBlock ∧ ∀ b, some b = (Value.slice p' (n + m) c').ownBlock → some b = (Value.slice p n c).ownBlock ∨ b = w.heap.size := by
  obtain ⟨i0, hi, hz0, hz1, hz2⟩ := info_parts Tryd.info5
  obtain ⟨v', w', hrun, hown', hgrow, _, hat⟩ := run_append_own_at (P := Tryd.prog) w base 22 0 5 i0 (.int .u8 0) 1 1 Tryd.underlying22 hi hz0 hz1 hz2 rfl (by decide) (.slice p n c) n (bl f n) hown ad m sc (bl h m) (by simp [bl]) (fun j u hu => by
      have hj : j < m := by
        have := (List.getElem?_eq_some_iff.1 hu).1
        simpa [bl] using this
      have e : u = .int .u8 (h j) := by simpa [bl, hj] using hu.symm
      subst e
      exact hsrc j hj)
    (fun u hu => by simp only [bl, List.mem_map] at hu; obtain ⟨i, _, rfl⟩ := hu; rfl) (by unfold maxLen; omega) (by omega) hb
  rw [bl_cat] at hown'
  obtain ⟨p', c', rfl⟩ : ∃ p' c', v' = .slice p' (n + m) c' := by
    rcases hown'.2 with ⟨rfl, h0⟩ | ⟨g, cap, cur, rfl, _⟩
    · exact ⟨none, 0, by rw [h0]⟩
    · exact ⟨_, cap, rfl⟩
  refine ⟨p', c', w', fun ty => hrun, hown', hgrow, fun b hb => ?_⟩
  rcases hat with h | h
  · exact .inl (by rw [hb, h])
  · rw [h] at hb
    exact .inr (Option.some.inj hb)

end Go.Proofs.YtiojjihonmonkaaDoor
namespace Go.Proofs.YtiojjihonmonkaaDoor
open Go.RowKit
open Go.ChangeMaps (setBlock)
set_option linter.unusedSimpArgs false
set_option linter.unusedVariables false

/-- What put leaves where there is room. -/
def PutOut (bm n : Nat) (F : Nat → Fil) (S : Nat → Value) (j m : Nat) (h : Nat → Int) (w : World) (e : Ending) (w' : World) : Prop :=
  e = .returned .nilIface ∧ ∃ wX p' c', w' = setBlock wX bm (.map (esOf ((lOf F S n).set j (((F j).nm, (p', (F j).len + m, c'), (F j).sy), j))) n) ∧ Below bm w wX ∧ (∀ k, k < w.heap.size → some k ≠ (S j).ownBlock → wX.heap[k]? = w.heap[k]?) ∧ wX.ownsRow (bm + 2) 5 1 (.slice p' ((F j).len + m) c') ((F j).len + m) (bl (cat (F j).f (F j).len h) ((F j).len + m)) ∧ ∀ b, some b = (Value.slice p' ((F j).len + m) c').ownBlock → some b = (S j).ownBlock ∨ w.heap.size ≤ b

end Go.Proofs.YtiojjihonmonkaaDoor
namespace Go.Proofs.YtiojjihonmonkaaDoor
open Go.RowKit
open Go.ChangeMaps (setBlock)
set_option linter.unusedSimpArgs false
set_option linter.unusedVariables false

/-- File j with m bytes more. -/
def appF (F : Nat → Fil) (j m : Nat) (h : Nat → Int) (i : Nat) : Fil := if i = j then { F j with len := (F j).len + m, f := cat (F j).f (F j).len h } else F i
theorem cat_bd {f h : Nat → Int} {n : Nat} (hf : ∀ i, 0 ≤ f i ∧ f i ≤ 255) (hh : ∀ i, 0 ≤ h i ∧ h i ≤ 255) (i : Nat) : 0 ≤ cat f n h i ∧ cat f n h i ≤ 255 := by
  unfold cat
  split
  · exact hf i
  · exact hh _
theorem own_of_rowP {w : World} {base n g c : Nat} {f : Nat → Int} (hf : ∀ i, 0 ≤ f i ∧ f i ≤ 255) (h : w.ownsRow base 5 1 (.slice (some ⟨g, 0, none⟩) n c) n (bl f n)) : Own w g 0 n f := by
  refine ⟨hf, brow_lt h rfl, fun i hi => ?_, fun i _ => by simpa using h.frozenAt i⟩
  rw [Nat.zero_add, h.cellAt i (by omega)]
  simp [bl, hi]
end Go.Proofs.YtiojjihonmonkaaDoor
