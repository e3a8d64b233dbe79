/- Arrays of bytes: a slice cut out of one by a third index; a new one's cells. -/
import Derived.Test.YtpddodjecbcmlaaBytes
import Derived.OpenShut
namespace Go.Proofs.Ytpddodjecbcmlaa
open Go.RowKit
set_option linter.unusedSimpArgs false
set_option linter.unusedVariables false

theorem slice_arr_hm (t len : Nat) (ht : Try.prog.underlying t = some (.array len 5)) (a : Addr) (H : Int) (h : Nat) (eh : H = (h : Int)) (hl : h ≤ len) (w : World) :
    (Instr.sliceAt t (.pointer (some a)) none (some (.int .i64 H)) (some (.int .i64 H))).run Try.prog w = .ok (.slice (some a) h h) w := by
  obtain ⟨i0, hi, hz0, hz1, hz2⟩ := info_parts Try.info5
  subst eh
  have e1 : (0 : Int) ≤ (h : Int) := by omega
  have e2 : ¬ (len : Int) < (h : Int) := by omega
  simp [Instr.sliceAt, Instr.sureAddr, run_underlying ht, Instr.sliceBounds, run_sliceBound, sizeOf, typeInfo, hi, hz1, hl, e1, e2, Addr.add]
theorem slice_arr_lhm (t len : Nat) (ht : Try.prog.underlying t = some (.array len 5)) (a : Addr) (L H : Int) (l h : Nat) (el : L = (l : Int)) (eh : H = (h : Int)) (hlh : l < h) (hl : h ≤ len) (w : World) :
    (Instr.sliceAt t (.pointer (some a)) (some (.int .i64 L)) (some (.int .i64 H)) (some (.int .i64 H))).run Try.prog w = .ok (.slice (some (a.add l)) (h - l) (h - l)) w := by
  obtain ⟨i0, hi, hz0, hz1, hz2⟩ := info_parts Try.info5
  subst eh
  subst el
  have e0 : (0 : Int) ≤ (l : Int) := by omega
  have e1 : (0 : Int) ≤ (h : Int) := by omega
  have e2 : ¬ (len : Int) < (h : Int) := by omega
  have e3 : ¬ (h : Int) < (l : Int) := by omega
  have e4 : ¬ h = l := by omega
  simp [Instr.sliceAt, Instr.sureAddr, run_underlying ht, Instr.sliceBounds, run_sliceBound, sizeOf, typeInfo, hi, hz1, hl, e0, e1, e2, e3, e4, Nat.le_of_lt hlh]

theorem own_new (w : World) (n : Nat) (cs : Array Value) (T : Nat) (hs : cs.toList = List.replicate n (Value.int .u8 0)) : Own (w.alloc (.cells cs T)) w.heap.size 0 n (fun _ => 0) := by
  have hsz : cs.size = n := by rw [← Array.length_toList, hs]; simp
  have hh : (w.alloc (.cells cs T)).heap[w.heap.size]? = some (.cells cs T (0, 0)) := heap_alloc_new w _
  refine ⟨fun _ => by omega, by simp, fun i hi => ?_, fun i _ => frozen_of_row _ _ _ _ _ hh⟩
  rw [cell_of_row _ _ _ _ _ _ hh, Nat.zero_add, ← Array.getElem?_toList, hs]
  simp [hi]

end Go.Proofs.Ytpddodjecbcmlaa
