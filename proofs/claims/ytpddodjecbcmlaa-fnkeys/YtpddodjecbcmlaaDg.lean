/- A key drawn from bytes. -/
import Derived.Test.YtpddodjecbcmlaaDm
namespace Go.Proofs.Ytpddodjecbcmlaa
open Go.RowKit
set_option linter.unusedSimpArgs false
set_option linter.unusedVariables false

/-- What a drawn key is, to whoever asked for it. -/
def DgO (w : World) (e : Ending) (w' : World) : Prop :=
  ∃ (m : ByteArray) (va : Option Addr) (vc : Nat) (T : List (ByteArray × ByteArray)) (st : Int), e = .returned (.agg #[.string m, .slice va T.length vc, .int .i64 st]) ∧ TgL w' w.heap.size (.slice va T.length vc) T ∧ m.size ≤ 20 ∧ T.length ≤ 3 ∧ TSz T ∧ (-1 ≤ st ∧ st ≤ 1000000001) ∧ Below w.heap.size w w'
theorem tsz_T {T : List (ByteArray × ByteArray)} (h : TSz T) {z : Nat} (hz : 20 ≤ z) : TSize T.length (nmL T) (vlL T) z := by
  intro i hi
  have := h _ (List.getElem_mem hi)
  simp only [nmL, vlL, List.getD_eq_getElem?_getD, List.getElem?_eq_getElem hi, Option.getD_some]
  omega
theorem cu_new' (w : World) (cv : Value) (T : Nat) : Cu (w.alloc (.cells #[cv, .int .i64 0, .int .u64 0] T)) w.heap.size cv 0 0 := by
  have hh : (w.alloc (.cells #[cv, .int .i64 0, .int .u64 0] T)).heap[w.heap.size]? = some (.cells #[cv, .int .i64 0, .int .u64 0] T (0, 0)) := heap_alloc_new w _
  exact ⟨by simp, cell_of_row _ _ _ _ _ _ hh, cell_of_row _ _ _ _ _ _ hh, cell_of_row _ _ _ _ _ _ hh, fun i => frozen_of_row _ _ _ _ _ hh, by omega⟩
theorem cb_new' {w : World} {ao : Option Addr} {n : Nat} {f : Nat → Int} (hr : Row w ao n f) (o : Obj) : Cb (w.alloc o) w.heap.size ao n f :=
  ⟨hr.keep ((Below.refl _ _).alloc (Nat.le_refl _) _), fun b off e h0 => by
    obtain ⟨b', off', e', h1, _⟩ := hr.lies.resolve_left h0
    rw [e'] at e
    injection e with e
    injection e with e _ _
    omega⟩

end Go.Proofs.Ytpddodjecbcmlaa
