/- The model's cursor draws texts; rows of texts that the call itself makes. -/
import Derived.Test.YtoccfmkciacomaaCur
import Derived.Test.YtoccfmkciacomaaTx
import Derived.Maps.AppendAt
import Derived.OwnWalk
import Derived.Laws.Rows
namespace Go.Proofs.Ytoccfmkciacomaa
open Go.RowKit
set_option linter.unusedSimpArgs false
set_option linter.unusedVariables false

theorem ownsRow_keep {w w' : World} {base e size n : Nat} {v : Value} {xs : List Value} (h : w.ownsRow base e size v n xs) (hb : Below w.heap.size w w') : w'.ownsRow base e size v n xs := by
  refine ⟨h.1, ?_⟩
  rcases h.2 with ⟨rfl, h0⟩ | ⟨g, cap, cur, rfl, h1, h2, h3⟩
  · exact .inl ⟨rfl, h0⟩
  · exact .inr ⟨g, cap, cur, rfl, h1, (hb.block g (Array.getElem?_eq_some_iff.1 h2).1).trans h2, h3⟩
theorem ownsRow_mono {w : World} {base base' e size n : Nat} {v : Value} {xs : List Value} (h : w.ownsRow base e size v n xs) (hb : base' ≤ base) : w.ownsRow base' e size v n xs := by
  refine ⟨h.1, ?_⟩
  rcases h.2 with ⟨rfl, h0⟩ | ⟨g, cap, cur, rfl, h1, h2⟩
  · exact .inl ⟨rfl, h0⟩
  · exact .inr ⟨g, cap, cur, rfl, Nat.le_trans hb h1, h2⟩
theorem ownsRow_form {w : World} {base e size n : Nat} {v : Value} {xs : List Value} (h : w.ownsRow base e size v n xs) : ∃ ao cap, v = .slice ao n cap := by
  rcases h.2 with ⟨rfl, h0⟩ | ⟨g, cap, cur, rfl, _⟩
  · exact ⟨none, 0, by rw [h0]⟩
  · exact ⟨_, _, rfl⟩
theorem ownsRow_kept {w w' : World} {base e size n : Nat} {v : Value} {xs : List Value} {row : Option Nat} (h : w.ownsRow base e size v n xs) (hg : w.grownBy w' row) (hne : ∀ k, row = some k → v.ownBlock ≠ some k) : w'.ownsRow base e size v n xs := by
  refine h.kept hg ?_
  cases hr : v.ownBlock with
  | none => exact .inl rfl
  | some k => exact .inr fun e => hne k e.symm hr

theorem ownsRow_others {w w' : World} {base e size n d : Nat} {v : Value} {xs : List Value} (h : w.ownsRow base e size v n xs) (ho : Others d w w') (hne : v.ownBlock ≠ some d) : w'.ownsRow base e size v n xs :=
  ownsRow_kept (row := some d) h ⟨ho.os, ho.tape, ho.output, by rw [ho.size]; exact Nat.le_refl _, fun i _ hn => ho.block i (fun e => hn (by rw [e]))⟩ (fun k hk => by injection hk with hk; subst hk; exact hne)

theorem Try.infoStr' : (Try.prog.info? 9).map (fun i => (i.zero, i.size, i.bytes)) = some (some (.string ByteArray.empty), 1, 16) := by kernel_rfl
/-- The cells of texts. -/
def stl (L : List ByteArray) : List Value := L.map Value.string
/-- v is a slice of texts of the call's own. -/
def StL (w : World) (base : Nat) (v : Value) (L : List ByteArray) : Prop := w.ownsRow base 9 1 v L.length (stl L)
theorem stL_nil (w : World) (base : Nat) : StL w base (.slice none 0 0) [] := World.ownsRow_nil _ _ _ _
theorem StL.form {w : World} {base : Nat} {v : Value} {L : List ByteArray} (h : StL w base v L) : ∃ ao cap, v = .slice ao L.length cap := ownsRow_form h
theorem StL.at {w : World} {base : Nat} {v : Value} {L : List ByteArray} (h : StL w base v L) (hn : 0 < L.length) : ∃ g cap, v = .slice (some ⟨g, 0, none⟩) L.length cap ∧ base ≤ g ∧ g < w.heap.size ∧ L.length ≤ cap ∧ ∀ i (hi : i < L.length), w.cell? ⟨g, i, none⟩ = some (.string L[i]) := by
  have h' := id h
  rcases h.2 with ⟨_, h0⟩ | ⟨g, cap, cur, e, h1, h2, h3, _⟩
  · omega
  · subst e
    refine ⟨g, cap, rfl, h1, (Array.getElem?_eq_some_iff.1 h2).1, h3, fun i hi => ?_⟩
    rw [World.ownsRow.cellAt h' i (by omega)]
    simp [stl, hi]
/-- A text put behind the others. -/
theorem stL_push {w : World} {base : Nat} {v : Value} {L : List ByteArray} (h : StL w base v L) (B c : Nat) (x : ByteArray) (h0 : w.cell? ⟨B, 0, none⟩ = some (.string x)) (hn : L.length ≤ 4194304) (hb : base ≤ w.heap.size) (ty : TypeId) :
    ∃ ao' c' w', (Builtin.append_ #[23, 23] ty #[v, .slice (some ⟨B, 0, none⟩) 1 c]).run Try.prog w = .ok (.slice ao' (L.length + 1) c') w' ∧ StL w' base (.slice ao' (L.length + 1) c') (L ++ [x]) ∧ w.grownBy w' v.ownBlock ∧ ((Value.slice ao' (L.length + 1) c').ownBlock = v.ownBlock ∨ (Value.slice ao' (L.length + 1) c').ownBlock = some w.heap.size) := by
  obtain ⟨i0, hi, hz0, hz1, hz2⟩ := info_parts Try.infoStr'
  obtain ⟨v', w', hrun, hown, hg, _, hat⟩ := run_append_own_at (P := Try.prog) w base 23 ty 9 i0 _ 1 16 Try.underlying23 hi hz0 hz1 hz2 rfl (by decide) v L.length (stl L) h ⟨B, 0, none⟩ 1 c [.string x] rfl (fun j u hu => by
      rcases j with _ | j
      · simp at hu; subst hu; exact h0
      · simp at hu) (fun u hu => by simp at hu; subst hu; rfl) (by unfold maxLen; omega) (by omega) hb
  have e : StL w' base v' (L ++ [x]) := by
    unfold StL stl
    rw [List.map_append, List.length_append]
    exact hown
  obtain ⟨ao', c', rfl⟩ := e.form
  rw [List.length_append] at hrun e hat
  exact ⟨ao', c', w', hrun, e, hg, hat⟩
theorem among_any (q : Nat) (hq : 2 ≤ q ∧ q ≤ 200) (LB : Nat) (g : Nat → Int) (CB : Nat) (ao : Option Addr) (n cap a : Nat) (f : Nat → Int) (sd : Int) (w : World) (hC : Cu w CB (.slice ao n cap) a sd) (hB : Cb w CB ao n f) (hn : n ≤ 1048576) (ha : a ≤ 1000000000) (hL : LB < w.heap.size) (hne : LB ≠ CB) (hc : ∀ i, i < q → w.cell? ⟨LB, i, none⟩ = some (.int .i64 (g i))) :
    Calls Try.prog 12 #[.pointer (some ⟨CB, 0, none⟩), .slice (some ⟨LB, 0, none⟩) q q] w fun e w' => ∃ i, i < q ∧ e = .returned (.int .i64 (g i)) ∧ (∃ sd, Cu w' CB (.slice ao n cap) (a + 1) sd) ∧ w.grownBy w' (some CB) := by
  go_enter Try.func12, Try.ntmps12
  go_wp2_with fail
  refine (pick_any q hq CB ao n cap a f sd _ hC hB hn ha).mono ?_
  rintro e w1 ⟨x, rfl, x0, x1, hC1, g1⟩
  obtain ⟨i, rfl⟩ := Int.eq_ofNat_of_zero_le x0
  have hi : i < q := by omega
  have h1 := g1.cell (hc i hi) (fun e => hne (Option.some.inj e))
  clear hc
  go_wp2
  go_ret
  exact ⟨i, hi, rfl, hC1, g1⟩
/-- What a drawn text is. -/
def OfO (z CB : Nat) (cv : Value) (a : Nat) (w : World) (e : Ending) (w' : World) : Prop := ∃ s : ByteArray, s.size ≤ z ∧ e = .returned (.string s) ∧ (∃ sd, Cu w' CB cv (a + 1) sd) ∧ w.grownBy w' (some CB)
theorem of_any (q z : Nat) (hq : 2 ≤ q ∧ q ≤ 200) (LB : Nat) (g : Nat → ByteArray) (hz : ∀ i, i < q → (g i).size ≤ z) (CB : Nat) (ao : Option Addr) (n cap a : Nat) (f : Nat → Int) (sd : Int) (w : World) (hC : Cu w CB (.slice ao n cap) a sd) (hB : Cb w CB ao n f) (hn : n ≤ 1048576) (ha : a ≤ 1000000000) (hL : LB < w.heap.size) (hne : LB ≠ CB) (hc : ∀ i, i < q → w.cell? ⟨LB, i, none⟩ = some (.string (g i))) :
    Calls Try.prog 23 #[.pointer (some ⟨CB, 0, none⟩), .slice (some ⟨LB, 0, none⟩) q q] w fun e w' => OfO z CB (.slice ao n cap) a w e w' := by
  go_enter Try.func23, Try.ntmps23
  go_wp2_with fail
  refine (pick_any q hq CB ao n cap a f sd _ hC hB hn ha).mono ?_
  rintro e w1 ⟨x, rfl, x0, x1, hC1, g1⟩
  obtain ⟨i, rfl⟩ := Int.eq_ofNat_of_zero_le x0
  have hi : i < q := by omega
  have h1 := g1.cell (hc i hi) (fun e => hne (Option.some.inj e))
  clear hc
  go_wp2
  go_ret
  exact ⟨g i, hz i hi, rfl, hC1, g1⟩
/-- A list of texts lies in a block. -/
def LsAt (w : World) (LB : Nat) (l : List ByteArray) : Prop := LB < w.heap.size ∧ ∀ i, i < l.length → w.cell? ⟨LB, i, none⟩ = some (.string (l.getD i ⟨#[]⟩))
theorem LsAt.new (w : World) (l : List ByteArray) (T : Nat) : LsAt (w.alloc (.cells (l.map Value.string).toArray T)) w.heap.size l := by
  have hh : (w.alloc (.cells (l.map Value.string).toArray T)).heap[w.heap.size]? = some (.cells (l.map Value.string).toArray T (0, 0)) := heap_alloc_new w _
  refine ⟨by simp, fun i hi => ?_⟩
  rw [cell_of_row _ _ _ _ _ _ hh]
  simp [hi]
theorem LsAt.grown {w w' : World} {LB CB : Nat} {l : List ByteArray} (h : LsAt w LB l) (hg : w.grownBy w' (some CB)) (hne : LB ≠ CB) : LsAt w' LB l :=
  ⟨Nat.lt_of_lt_of_le h.1 hg.size, fun i hi => hg.cell (h.2 i hi) (fun e => hne (Option.some.inj e))⟩
theorem LsAt.keep {w w' : World} {LB : Nat} {l : List ByteArray} (h : LsAt w LB l) (hb : Below w.heap.size w w') : LsAt w' LB l :=
  ⟨Nat.lt_of_lt_of_le h.1 hb.size, fun i hi => (hb.cell (p := ⟨LB, i, none⟩) h.1).trans (h.2 i hi)⟩
theorem of_list (l : List ByteArray) (z : Nat) (hq : 2 ≤ l.length ∧ l.length ≤ 200) (hz : ∀ i, i < l.length → (l.getD i ⟨#[]⟩).size ≤ z) (LB CB : Nat) (ao : Option Addr) (n cap a : Nat) (f : Nat → Int) (sd : Int) (w : World) (hC : Cu w CB (.slice ao n cap) a sd) (hB : Cb w CB ao n f) (hn : n ≤ 1048576) (ha : a ≤ 1000000000) (hL : LsAt w LB l) (hne : LB ≠ CB) :
    Calls Try.prog 23 #[.pointer (some ⟨CB, 0, none⟩), .slice (some ⟨LB, 0, none⟩) l.length l.length] w fun e w' => OfO z CB (.slice ao n cap) a w e w' :=
  of_any l.length z hq LB (fun i => l.getD i ⟨#[]⟩) hz CB ao n cap a f sd w hC hB hn ha hL.1 hne hL.2

theorem wpList_append_eq {P : Program} (w : World) {ops : Array Oper} {rest : List Oper} {o : Oper} {a : Act} {Q : Exit → Act → World → Prop}
    (hg : o.guard = none) (s x : Operand) (t ty : TypeId) (hop : o.op = .call { callee := .builtin .append, args := #[s, x], argTypes := #[t, t] }) (hty : o.type = ty) (u v r : Value) (hs : a.eval s = u) (hx : a.eval x = v) (w' : World)
    (hrun : (Builtin.append_ #[t, t] ty #[u, v]).run P w = .ok r w') (hK : wpList P ops Q rest (a.put o.dst r) w') : wpList P ops Q (o :: rest) a w := by
  refine wpList_plain hg fun K' hK' => ?_
  subst hty
  unfold Oper.wp execOp
  simp only [hop, resolve, invoke, builtin, Sem.run_bind, Sem.run_pure, Result.andThen_ok, List.map_toArray, List.map_cons, List.map_nil, hs, hx, hrun]
  exact hK' _ _ hK


theorem Cu.blk {w w' : World} {CB : Nat} {cv : Value} {a : Nat} {sd : Int} (h : Cu w CB cv a sd) (hs : w.heap.size ≤ w'.heap.size) (hb : w'.heap[CB]? = w.heap[CB]?) : Cu w' CB cv a sd :=
  have k : ∀ i, w'.cell? ⟨CB, i, none⟩ = w.cell? ⟨CB, i, none⟩ := fun i => World.cell?_of_block (w := w) (a := ⟨CB, i, none⟩) hb
  ⟨Nat.lt_of_lt_of_le h.lt hs, (k 0).trans h.c0, (k 1).trans h.c1, (k 2).trans h.c2, fun i => (World.frozen?_of_block (w := w) (a := ⟨CB, i, none⟩) hb).trans (h.fz i), h.sb⟩
theorem grown_far {w u u' : World} {CB : Nat} {row : Option Nat} (h : w.grownBy u (some CB)) (g : u.grownBy u' row) (hr : ∀ k, row = some k → w.heap.size ≤ k) : w.grownBy u' (some CB) :=
  ⟨g.os.trans h.os, g.tape.trans h.tape, g.output.trans h.output, Nat.le_trans h.size g.size, fun k hk hne => (g.block k (Nat.lt_of_lt_of_le hk h.size) (fun e => by have := hr k e.symm; omega)).trans (h.block k hk hne)⟩
theorem StL.row {w : World} {base : Nat} {ao : Option Addr} {n cap : Nat} {L : List ByteArray} (h : StL w base (.slice ao n cap) L) : n = L.length ∧ TRow w ao L.length (fun i => L.getD i ⟨#[]⟩) := by
  obtain ⟨ao', cap', e⟩ := h.form
  injection e with e1 e2 e3
  subst e1 e2 e3
  refine ⟨rfl, ?_⟩
  by_cases h0 : L.length = 0
  · exact ⟨.inl h0⟩
  · obtain ⟨g, cap, e, _, hg, _, hc⟩ := h.at (by omega)
    injection e with e1 _ _
    subst e1
    refine ⟨.inr ⟨g, 0, rfl, hg, fun i hi => ?_⟩⟩
    rw [Nat.zero_add, hc i hi]
    simp [hi]
end Go.Proofs.Ytoccfmkciacomaa
