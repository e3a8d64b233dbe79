/- Bytes that the call itself gathers by append. / Arrays of bytes: a slice cut out of one by a third index; a new one's cells. / l1In: chapter 2 tells it. / Numbers of fixed length: what PutFixed lays. -/
import Derived.Test.YtiojjihonmonkaaDoorFiles
import Derived.OpenShut
namespace Go.Proofs.YtiojjihonmonkaaDoor
open Go.RowKit

/-- The bytes f 0 .. f (n - 1) as cells. -/
def bcells (f : Nat → Int) (n : Nat) : List Value := (List.range n).map fun i => Value.int .u8 (f i)
theorem bcells_zero (f : Nat → Int) : bcells f 0 = [] := rfl
theorem bcells_succ (f : Nat → Int) (n : Nat) : bcells f n ++ [Value.int .u8 (f n)] = bcells f (n + 1) := by
  simp [bcells, List.range_succ]
theorem bcells_congr {f g : Nat → Int} {n : Nat} (h : ∀ i, i < n → f i = g i) : bcells f n = bcells g n := by
  unfold bcells
  refine List.map_congr_left fun i hi => ?_
  rw [h i (List.mem_range.1 hi)]

theorem own_of_row {w : World} {base n : Nat} {v : Value} {f : Nat → Int} (h : w.ownsRow base 5 1 v n (bcells f n)) (hn : 0 < n) (hb : ∀ i, 0 ≤ f i ∧ f i ≤ 255) :
    ∃ g cap, v = .slice (some ⟨g, 0, none⟩) n cap ∧ base ≤ g ∧ n ≤ cap ∧ Own w g 0 n f := by
  rcases h.2 with ⟨_, h0⟩ | ⟨g, cap, cur, rfl, hbg, hg, hnc, _⟩
  · omega
  · refine ⟨g, cap, rfl, hbg, hnc, hb, (Array.getElem?_eq_some_iff.1 hg).1, fun i hi => ?_, fun i _ => by simpa using h.frozenAt i⟩
    rw [Nat.zero_add, h.cellAt i (by omega)]
    simp [bcells, hi]

theorem below_append {B : Nat} {w wr w' : World} {base n : Nat} {v : Value} {xs : List Value} (hb : Below B w wr) (ho : wr.ownsRow base 5 1 v n xs) (hg : wr.grownBy w' v.ownBlock) (hB : B ≤ base) (hs : B ≤ wr.heap.size) : Below B w w' := by
  refine hb.grown hg hs fun k hk => ?_
  rcases ho.2 with ⟨rfl, _⟩ | ⟨g, cap, cur, rfl, hbg, _⟩
  · simp [Value.ownBlock] at hk
  · simp [Value.ownBlock] at hk; omega

end Go.Proofs.YtiojjihonmonkaaDoor
namespace Go.Proofs.YtiojjihonmonkaaDoor
open Go.RowKit
set_option linter.unusedSimpArgs false
set_option linter.unusedVariables false

theorem slice_arr_hm (t len : Nat) (ht : Tryd.prog.underlying t = some (.array len 5)) (a : Addr) (H : Int) (h : Nat) (eh : H = (h : Int)) (hl : h ≤ len) (w : World) :
    (Instr.sliceAt t (.pointer (some a)) none (some (.int .i64 H)) (some (.int .i64 H))).run Tryd.prog w = .ok (.slice (some a) h h) w := by
  obtain ⟨i0, hi, hz0, hz1, hz2⟩ := info_parts Tryd.info5
  subst eh
  have e1 : (0 : Int) ≤ (h : Int) := by omega
  have e2 : ¬ (len : Int) < (h : Int) := by omega
  simp [Instr.sliceAt, Instr.sureAddr, run_underlying ht, Instr.sliceBounds, run_sliceBound, sizeOf, typeInfo, hi, hz1, hl, e1, e2, Addr.add]
theorem slice_arr_lhm (t len : Nat) (ht : Tryd.prog.underlying t = some (.array len 5)) (a : Addr) (L H : Int) (l h : Nat) (el : L = (l : Int)) (eh : H = (h : Int)) (hlh : l < h) (hl : h ≤ len) (w : World) :
    (Instr.sliceAt t (.pointer (some a)) (some (.int .i64 L)) (some (.int .i64 H)) (some (.int .i64 H))).run Tryd.prog w = .ok (.slice (some (a.add l)) (h - l) (h - l)) w := by
  obtain ⟨i0, hi, hz0, hz1, hz2⟩ := info_parts Tryd.info5
  subst eh
  subst el
  have e0 : (0 : Int) ≤ (l : Int) := by omega
  have e1 : (0 : Int) ≤ (h : Int) := by omega
  have e2 : ¬ (len : Int) < (h : Int) := by omega
  have e3 : ¬ (h : Int) < (l : Int) := by omega
  have e4 : ¬ h = l := by omega
  simp [Instr.sliceAt, Instr.sureAddr, run_underlying ht, Instr.sliceBounds, run_sliceBound, sizeOf, typeInfo, hi, hz1, hl, e0, e1, e2, e3, e4, Nat.le_of_lt hlh]

theorem own_new (w : World) (n : Nat) (cs : Array Value) (T : Nat) (hs : cs.toList = List.replicate n (Value.int .u8 0)) : Own (w.alloc (.cells cs T)) w.heap.size 0 n (fun _ => 0) := by
  have hsz : cs.size = n := by rw [← Array.length_toList, hs]; simp
  have hh : (w.alloc (.cells cs T)).heap[w.heap.size]? = some (.cells cs T (0, 0)) := heap_alloc_new w _
  refine ⟨fun _ => by omega, by simp, fun i hi => ?_, fun i _ => frozen_of_row _ _ _ _ _ hh⟩
  rw [cell_of_row _ _ _ _ _ _ hh, Nat.zero_add, ← Array.getElem?_toList, hs]
  simp [hi]

end Go.Proofs.YtiojjihonmonkaaDoor
namespace Go.Proofs.YtiojjihonmonkaaDoor
end Go.Proofs.YtiojjihonmonkaaDoor
namespace Go.Proofs.YtiojjihonmonkaaDoor
open Go.RowKit
set_option linter.unusedSimpArgs false
set_option linter.unusedVariables false

/-- The byte at place i of m bytes of n. -/
def pf (n : Int) (m i : Nat) : Int := n / 2 ^ (8 * (m - 1 - i)) % 256
theorem pf_bd (n : Int) (m i : Nat) : 0 ≤ pf n m i ∧ pf n m i ≤ 255 := by unfold pf; omega
theorem pf_tail (n : Int) (m i : Nat) (hm : m ≤ 8) (hi : i < m) : pf n 8 (8 - m + i) = pf n m i := by
  unfold pf; rw [show 8 - 1 - (8 - m + i) = m - 1 - i from by omega]

/-- What PutFixed takes. -/
def PFGood (n a : Int) : Prop := 0 ≤ n ∧ 1 ≤ a ∧ a ≤ 8 ∧ n / 2 ^ (8 * a.toNat) = 0

def FixOut (n : Int) (m : Nat) (w : World) (e : Ending) (w' : World) : Prop :=
  ∃ g off cap, e = .returned (.tuple #[.slice (some ⟨g, off, none⟩) m cap, .bool true]) ∧ w.heap.size ≤ g ∧ m ≤ cap ∧ Own w' g off m (pf n m) ∧ Below w.heap.size w w'

theorem slice_arr_tail (t len : Nat) (ht : Tryd.prog.underlying t = some (.array len 5)) (b : Nat) (L H : Int) (l h : Nat) (el : L = (l : Int)) (eh : H = (h : Int)) (hlh : l < h) (hl : h ≤ len) (w : World) :
    (Instr.sliceAt t (.pointer (some ⟨b, 0, none⟩)) (some (.int .i64 L)) (some (.int .i64 H)) (some (.int .i64 H))).run Tryd.prog w = .ok (.slice (some ⟨b, l, none⟩) (h - l) (h - l)) w := by
  rw [slice_arr_lhm t len ht ⟨b, 0, none⟩ L H l h el eh hlh hl w]
  by_cases h0 : l = 0
  · subst h0; simp [Addr.add]
  · simp [Addr.add, h0]

end Go.Proofs.YtiojjihonmonkaaDoor
