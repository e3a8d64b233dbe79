/- Rows put behind one another; rows as texts. -/
import Derived.Test.YtpddodjecbcmlaaLists
import Derived.Laws.BytesArg
import Derived.Laws.BytesString
namespace Go.Proofs.Ytpddodjecbcmlaa
open Go.RowKit
set_option linter.unusedSimpArgs false
set_option linter.unusedVariables false

theorem conv_row (w : World) (ao : Option Addr) (c : Nat) (L : List Int) (hr : Row w ao L.length (fl L)) : (convert 22 9 (.slice ao L.length c)).run Try.prog w = .ok (.string (strOfNums L)) w := by
  by_cases h0 : L.length = 0
  · have e : L = [] := List.eq_nil_of_length_eq_zero h0
    subst e
    cases ao with
    | none => exact run_convert_bytes_nil (P := Try.prog) w 22 5 Try.underlying22 Try.underlying5 0 c 9 Try.underlying9
    | some p =>
      show (convert 22 9 (.slice (some p) 0 c)).run Try.prog w = .ok (.string (strOfNums [])) w
      rw [run_convert_bytes_string w 22 9 5 (some p) 0 c Try.underlying22 Try.underlying5 Try.underlying9, run_bytesToString w p 0 c [] (by simp [loadCells, loadCellsFrom])]
      rfl
  · obtain ⟨b, off, rfl, hlt, hc⟩ := hr.lies.resolve_left h0
    exact run_convert_bytes_arg (P := Try.prog) w 22 5 Try.underlying22 Try.underlying5 b off L.length c L rfl (fun i hi => hc i hi) 9 Try.underlying9

/-- A row's bytes, as a list. -/
def lst (f : Nat → Int) (n : Nat) : List Int := (List.range n).map f
theorem lst_len (f : Nat → Int) (n : Nat) : (lst f n).length = n := by simp [lst]
theorem lst_get {f : Nat → Int} {n i : Nat} (h : i < n) : fl (lst f n) i = f i := by simp [fl, lst, h]
theorem lst_byt {f : Nat → Int} {n : Nat} (h : ∀ i, 0 ≤ f i ∧ f i ≤ 255) : Byt (lst f n) := fun x hx => by
  obtain ⟨i, _, rfl⟩ := List.mem_map.1 hx
  exact h i
theorem row_lst {w : World} {ao : Option Addr} {n : Nat} {f : Nat → Int} (h : Row w ao n f) : Row w ao (lst f n).length (fl (lst f n)) := by
  rw [lst_len]
  refine ⟨(lst_byt h.bd).fl, ?_⟩
  rcases h.lies with h0 | ⟨b, off, e, hlt, hc⟩
  · exact .inl h0
  · exact .inr ⟨b, off, e, hlt, fun i hi => by rw [lst_get hi]; exact hc i hi⟩
theorem at_lst {w : World} {b off n : Nat} {f : Nat → Int} (h : Own w b off n f) : At w b off (lst f n) :=
  ⟨lst_byt h.bd, h.lt, fun i hi => by rw [lst_len] at hi; rw [h.cell i hi, lst_get hi]⟩
theorem app0_run (w : World) (B0 : Nat) (da : Option Addr) (dc : Nat) (ty : TypeId) : (Builtin.append_ #[22, 22] ty #[.slice (some ⟨B0, 0, none⟩) 0 0, .slice da 0 dc]).run Try.prog w = .ok (.slice (some ⟨B0, 0, none⟩) 0 0) w := by
  obtain ⟨i0, hi, hz0, hz1, hz2⟩ := info_parts Try.info5
  cases da <;> simp [Builtin.append_, run_underlying Try.underlying22, sizeOf, typeInfo, hi, Builtin.lenOf, Builtin.firstCells, loadCells, loadCellsFrom, storeCells]
theorem wpList_append_eq {P : Program} (w : World) {ops : Array Oper} {rest : List Oper} {o : Oper} {a : Act} {Q : Exit → Act → World → Prop}
    (hg : o.guard = none) (s x : Operand) (t ty : TypeId) (hop : o.op = .call { callee := .builtin .append, args := #[s, x], argTypes := #[t, t] }) (hty : o.type = ty) (u v r : Value) (hs : a.eval s = u) (hx : a.eval x = v) (w' : World)
    (hrun : (Builtin.append_ #[t, t] ty #[u, v]).run P w = .ok r w') (hK : wpList P ops Q rest (a.put o.dst r) w') : wpList P ops Q (o :: rest) a w := by
  refine wpList_plain hg fun K' hK' => ?_
  subst hty
  unfold Oper.wp execOp
  simp only [hop, resolve, invoke, builtin, Sem.run_bind, Sem.run_pure, Result.andThen_ok, List.map_toArray, List.map_cons, List.map_nil, hs, hx, hrun]
  exact hK' _ _ hK
/-- A row that came in put behind an empty one of the call's own. -/
theorem wpList_app1 {w : World} {ops : Array Oper} {rest : List Oper} {o : Oper} {a : Act} {Q : Exit → Act → World → Prop} (hgd : o.guard = none) (s x : Operand)
    (ho : o.op = .call { callee := .builtin .append, args := #[s, x], argTypes := #[22, 22] }) (base B0 : Nat) (hs : a.eval s = .slice (some ⟨B0, 0, none⟩) 0 0) (hown : OwnL w base (.slice (some ⟨B0, 0, none⟩) 0 0) [])
    (bo : Option Addr) (m c : Nat) (f : Nat → Int) (hx : a.eval x = .slice bo m c) (hr : Row w bo m f) (hsz : m ≤ 4194304) (hbase : base ≤ w.heap.size)
    (h : ∀ v' w', OwnL w' base v' (lst f m) → w.grownBy w' (some B0) → (v'.ownBlock = some B0 ∨ v'.ownBlock = some w.heap.size) → wpList Try.prog ops Q rest (a.put o.dst v') w') :
    wpList Try.prog ops Q (o :: rest) a w := by
  by_cases h0 : m = 0
  · subst h0
    exact wpList_append_eq w hgd s x 22 _ ho rfl _ _ _ hs hx w (app0_run w B0 bo c _) (h _ w hown ⟨rfl, rfl, rfl, Nat.le_refl _, fun _ _ _ => rfl⟩ (.inl rfl))
  · obtain ⟨b, off, rfl, hlt, hc⟩ := hr.lies.resolve_left h0
    have hA : At w b off (lst f m) := ⟨lst_byt hr.bd, hlt, fun i hi => by rw [lst_len] at hi; rw [hc i hi, lst_get hi]⟩
    refine wpList_app hgd s x ho base _ [] hs hown b off m c (lst f m) hx (lst_len f m).symm hA (by simp [lst_len]; omega) hbase ?_
    intro v' w' h1 h2 h3
    exact h v' w' h1 h2 h3
end Go.Proofs.Ytpddodjecbcmlaa
