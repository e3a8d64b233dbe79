/- The model's cursor draws texts; rows of texts that the call itself makes. -/
import Derived.Test.YtiojjihonmonkaaDoorCur
import Derived.Test.YtiojjihonmonkaaDoorDrw
import Derived.Maps.AppendAt
import Derived.OwnWalk
import Derived.Laws.Rows
namespace Go.Proofs.YtiojjihonmonkaaDoor
open Go.RowKit
set_option linter.unusedSimpArgs false
set_option linter.unusedVariables false

theorem ownsRow_keep {w w' : World} {base e size n : Nat} {v : Value} {xs : List Value} (h : w.ownsRow base e size v n xs) (hb : Below w.heap.size w w') : w'.ownsRow base e size v n xs := by
  refine ⟨h.1, ?_⟩
  rcases h.2 with ⟨rfl, h0⟩ | ⟨g, cap, cur, rfl, h1, h2, h3⟩
  · exact .inl ⟨rfl, h0⟩
  · exact .inr ⟨g, cap, cur, rfl, h1, (hb.block g (Array.getElem?_eq_some_iff.1 h2).1).trans h2, h3⟩
theorem ownsRow_mono {w : World} {base base' e size n : Nat} {v : Value} {xs : List Value} (h : w.ownsRow base e size v n xs) (hb : base' ≤ base) : w.ownsRow base' e size v n xs := by
  refine ⟨h.1, ?_⟩
  rcases h.2 with ⟨rfl, h0⟩ | ⟨g, cap, cur, rfl, h1, h2⟩
  · exact .inl ⟨rfl, h0⟩
  · exact .inr ⟨g, cap, cur, rfl, Nat.le_trans hb h1, h2⟩
theorem ownsRow_form {w : World} {base e size n : Nat} {v : Value} {xs : List Value} (h : w.ownsRow base e size v n xs) : ∃ ao cap, v = .slice ao n cap := by
  rcases h.2 with ⟨rfl, h0⟩ | ⟨g, cap, cur, rfl, _⟩
  · exact ⟨none, 0, by rw [h0]⟩
  · exact ⟨_, _, rfl⟩
theorem ownsRow_kept {w w' : World} {base e size n : Nat} {v : Value} {xs : List Value} {row : Option Nat} (h : w.ownsRow base e size v n xs) (hg : w.grownBy w' row) (hne : ∀ k, row = some k → v.ownBlock ≠ some k) : w'.ownsRow base e size v n xs := by
  refine h.kept hg ?_
  cases hr : v.ownBlock with
  | none => exact .inl rfl
  | some k => exact .inr fun e => hne k e.symm hr

theorem wpList_append_eq {P : Program} (w : World) {ops : Array Oper} {rest : List Oper} {o : Oper} {a : Act} {Q : Exit → Act → World → Prop}
    (hg : o.guard = none) (s x : Operand) (t ty : TypeId) (hop : o.op = .call { callee := .builtin .append, args := #[s, x], argTypes := #[t, t] }) (hty : o.type = ty) (u v r : Value) (hs : a.eval s = u) (hx : a.eval x = v) (w' : World)
    (hrun : (Builtin.append_ #[t, t] ty #[u, v]).run P w = .ok r w') (hK : wpList P ops Q rest (a.put o.dst r) w') : wpList P ops Q (o :: rest) a w := by
  refine wpList_plain hg fun K' hK' => ?_
  subst hty
  unfold Oper.wp execOp
  simp only [hop, resolve, invoke, builtin, Sem.run_bind, Sem.run_pure, Result.andThen_ok, List.map_toArray, List.map_cons, List.map_nil, hs, hx, hrun]
  exact hK' _ _ hK


theorem ownsRow_others {w w' : World} {base e size n d : Nat} {v : Value} {xs : List Value} (h : w.ownsRow base e size v n xs) (ho : Others d w w') (hne : v.ownBlock ≠ some d) : w'.ownsRow base e size v n xs :=
  ownsRow_kept (row := some d) h ⟨ho.os, ho.tape, ho.output, by rw [ho.size]; exact Nat.le_refl _, fun i _ hn => ho.block i (fun e => hn (by rw [e]))⟩ (fun k hk => by injection hk with hk; subst hk; exact hne)

theorem among_any (q : Nat) (hq : 2 ≤ q ∧ q ≤ 200) (LB : Nat) (g : Nat → Int) (CB : Nat) (ao : Option Addr) (n cap a : Nat) (f : Nat → Int) (sd : Int) (w : World) (hC : Cu w CB (.slice ao n cap) a sd) (hB : Cb w CB ao n f) (hn : n ≤ 1048576) (ha : a ≤ 1000000000) (hL : LB < w.heap.size) (hne : LB ≠ CB) (hc : ∀ i, i < q → w.cell? ⟨LB, i, none⟩ = some (.int .i64 (g i))) :
    Calls Tryd.prog 27 #[.pointer (some ⟨CB, 0, none⟩), .slice (some ⟨LB, 0, none⟩) q q] w fun e w' => ∃ i, i < q ∧ e = .returned (.int .i64 (g i)) ∧ (∃ sd, Cu w' CB (.slice ao n cap) (a + 1) sd) ∧ w.grownBy w' (some CB) := by
  go_enter Tryd.func27, Tryd.ntmps27
  go_wp2_with fail
  refine (pick_any q hq CB ao n cap a f sd _ hC hB hn ha).mono ?_
  rintro e w1 ⟨x, rfl, x0, x1, hC1, g1⟩
  obtain ⟨i, rfl⟩ := Int.eq_ofNat_of_zero_le x0
  have hi : i < q := by omega
  have h1 := g1.cell (hc i hi) (fun e => hne (Option.some.inj e))
  clear hc
  go_wp2
  go_ret
  exact ⟨i, hi, rfl, hC1, g1⟩
/-- What a drawn text is. -/
def OfO (z CB : Nat) (cv : Value) (a : Nat) (w : World) (e : Ending) (w' : World) : Prop := ∃ s : ByteArray, s.size ≤ z ∧ e = .returned (.string s) ∧ (∃ sd, Cu w' CB cv (a + 1) sd) ∧ w.grownBy w' (some CB)
theorem of_any (q z : Nat) (hq : 2 ≤ q ∧ q ≤ 200) (LB : Nat) (g : Nat → ByteArray) (hz : ∀ i, i < q → (g i).size ≤ z) (CB : Nat) (ao : Option Addr) (n cap a : Nat) (f : Nat → Int) (sd : Int) (w : World) (hC : Cu w CB (.slice ao n cap) a sd) (hB : Cb w CB ao n f) (hn : n ≤ 1048576) (ha : a ≤ 1000000000) (hL : LB < w.heap.size) (hne : LB ≠ CB) (hc : ∀ i, i < q → w.cell? ⟨LB, i, none⟩ = some (.string (g i))) :
    Calls Tryd.prog 28 #[.pointer (some ⟨CB, 0, none⟩), .slice (some ⟨LB, 0, none⟩) q q] w fun e w' => OfO z CB (.slice ao n cap) a w e w' := by
  go_enter Tryd.func28, Tryd.ntmps28
  go_wp2_with fail
  refine (pick_any q hq CB ao n cap a f sd _ hC hB hn ha).mono ?_
  rintro e w1 ⟨x, rfl, x0, x1, hC1, g1⟩
  obtain ⟨i, rfl⟩ := Int.eq_ofNat_of_zero_le x0
  have hi : i < q := by omega
  have h1 := g1.cell (hc i hi) (fun e => hne (Option.some.inj e))
  clear hc
  go_wp2
  go_ret
  exact ⟨g i, hz i hi, rfl, hC1, g1⟩
/-- A list of texts lies in a block. -/
def LsAt (w : World) (LB : Nat) (l : List ByteArray) : Prop := LB < w.heap.size ∧ ∀ i, i < l.length → w.cell? ⟨LB, i, none⟩ = some (.string (l.getD i ⟨#[]⟩))
theorem LsAt.new (w : World) (l : List ByteArray) (T : Nat) : LsAt (w.alloc (.cells (l.map Value.string).toArray T)) w.heap.size l := by
  have hh : (w.alloc (.cells (l.map Value.string).toArray T)).heap[w.heap.size]? = some (.cells (l.map Value.string).toArray T (0, 0)) := heap_alloc_new w _
  refine ⟨by simp, fun i hi => ?_⟩
  rw [cell_of_row _ _ _ _ _ _ hh]
  simp [hi]
theorem LsAt.grown {w w' : World} {LB CB : Nat} {l : List ByteArray} (h : LsAt w LB l) (hg : w.grownBy w' (some CB)) (hne : LB ≠ CB) : LsAt w' LB l :=
  ⟨Nat.lt_of_lt_of_le h.1 hg.size, fun i hi => hg.cell (h.2 i hi) (fun e => hne (Option.some.inj e))⟩
theorem LsAt.keep {w w' : World} {LB : Nat} {l : List ByteArray} (h : LsAt w LB l) (hb : Below w.heap.size w w') : LsAt w' LB l :=
  ⟨Nat.lt_of_lt_of_le h.1 hb.size, fun i hi => (hb.cell (p := ⟨LB, i, none⟩) h.1).trans (h.2 i hi)⟩
theorem of_list (l : List ByteArray) (z : Nat) (hq : 2 ≤ l.length ∧ l.length ≤ 200) (hz : ∀ i, i < l.length → (l.getD i ⟨#[]⟩).size ≤ z) (LB CB : Nat) (ao : Option Addr) (n cap a : Nat) (f : Nat → Int) (sd : Int) (w : World) (hC : Cu w CB (.slice ao n cap) a sd) (hB : Cb w CB ao n f) (hn : n ≤ 1048576) (ha : a ≤ 1000000000) (hL : LsAt w LB l) (hne : LB ≠ CB) :
    Calls Tryd.prog 28 #[.pointer (some ⟨CB, 0, none⟩), .slice (some ⟨LB, 0, none⟩) l.length l.length] w fun e w' => OfO z CB (.slice ao n cap) a w e w' :=
  of_any l.length z hq LB (fun i => l.getD i ⟨#[]⟩) hz CB ao n cap a f sd w hC hB hn ha hL.1 hne hL.2

theorem Cu.blk {w w' : World} {CB : Nat} {cv : Value} {a : Nat} {sd : Int} (h : Cu w CB cv a sd) (hs : w.heap.size ≤ w'.heap.size) (hb : w'.heap[CB]? = w.heap[CB]?) : Cu w' CB cv a sd :=
  have k : ∀ i, w'.cell? ⟨CB, i, none⟩ = w.cell? ⟨CB, i, none⟩ := fun i => World.cell?_of_block (w := w) (a := ⟨CB, i, none⟩) hb
  ⟨Nat.lt_of_lt_of_le h.lt hs, (k 0).trans h.c0, (k 1).trans h.c1, (k 2).trans h.c2, fun i => (World.frozen?_of_block (w := w) (a := ⟨CB, i, none⟩) hb).trans (h.fz i), h.sb⟩
theorem grown_far {w u u' : World} {CB : Nat} {row : Option Nat} (h : w.grownBy u (some CB)) (g : u.grownBy u' row) (hr : ∀ k, row = some k → w.heap.size ≤ k) : w.grownBy u' (some CB) :=
  ⟨g.os.trans h.os, g.tape.trans h.tape, g.output.trans h.output, Nat.le_trans h.size g.size, fun k hk hne => (g.block k (Nat.lt_of_lt_of_le hk h.size) (fun e => by have := hr k e.symm; omega)).trans (h.block k hk hne)⟩
/-- A cursor at work since w0; at most A draws. -/
structure CS (w0 w : World) (CB : Nat) (ao : Option Addr) (n cap : Nat) (f : Nat → Int) (A : Nat) : Prop where
  cu : ∃ a sd, a ≤ A ∧ Cu w CB (.slice ao n cap) a sd
  cb0 : Cb w0 CB ao n f
  gr : w0.grownBy w (some CB)
  lt : CB < w0.heap.size
  sz : n ≤ 1048576
section
variable {w0 w w' : World} {CB : Nat} {ao : Option Addr} {n cap : Nat} {f : Nat → Int} {A A' : Nat}
theorem CS.cb (h : CS w0 w CB ao n cap f A) : Cb w CB ao n f := h.cb0.grown h.gr
theorem CS.ltw (h : CS w0 w CB ao n cap f A) : CB < w.heap.size := Nat.lt_of_lt_of_le h.lt h.gr.size
theorem CS.self (h : CS w0 w CB ao n cap f A) : CS w w CB ao n cap f A := ⟨h.cu, h.cb, grown_refl _ _, h.ltw, h.sz⟩
theorem CS.trans (h : CS w0 w CB ao n cap f A) (k : CS w w' CB ao n cap f A') : CS w0 w' CB ao n cap f A' := ⟨k.cu, h.cb0, h.gr.trans k.gr, h.lt, h.sz⟩
theorem CS.mono (h : CS w0 w CB ao n cap f A) (hA : A ≤ A') : CS w0 w CB ao n cap f A' := ⟨by obtain ⟨a, sd, h1, h2⟩ := h.cu; exact ⟨a, sd, by omega, h2⟩, h.cb0, h.gr, h.lt, h.sz⟩
theorem CS.keep (h : CS w0 w CB ao n cap f A) (hb : Below w.heap.size w w') : CS w0 w' CB ao n cap f A := ⟨by obtain ⟨a, sd, h1, h2⟩ := h.cu; exact ⟨a, sd, h1, h2.keep hb⟩, h.cb0, h.gr.trans (grown_of_below hb _), h.lt, h.sz⟩
theorem CS.far {row : Option Nat} (h : CS w0 w CB ao n cap f A) (g : w.grownBy w' row) (hr : ∀ k, row = some k → w0.heap.size ≤ k) : CS w0 w' CB ao n cap f A :=
  ⟨by
    obtain ⟨a, sd, h1, h2⟩ := h.cu
    exact ⟨a, sd, h1, h2.blk g.size (g.block CB h.ltw (fun e => by have := hr CB e.symm; have := h.lt; omega))⟩, h.cb0, grown_far h.gr g hr, h.lt, h.sz⟩
theorem CS.others {d : Nat} (h : CS w0 w CB ao n cap f A) (ho : Others d w w') (hd : w0.heap.size ≤ d) : CS w0 w' CB ao n cap f A :=
  h.far (row := some d) ⟨ho.os, ho.tape, ho.output, by rw [ho.size]; exact Nat.le_refl _, fun i _ hn => ho.block i (fun e => hn (by rw [e]))⟩ (fun k e => by injection e with e; omega)
theorem CS.below (h : CS w0 w CB ao n cap f A) {base : Nat} (hb : base ≤ CB) : Below base w0 w := (Below.refl base w0).grown h.gr (Nat.le_of_lt (Nat.lt_of_le_of_lt hb h.lt)) (fun k e => by injection e with e; omega)

theorem pick_s (q : Nat) (hq : 2 ≤ q ∧ q ≤ 200) (h : CS w w CB ao n cap f A) (hA : A ≤ 1000000) :
    Calls Tryd.prog 10 #[.pointer (some ⟨CB, 0, none⟩), .int .i64 q] w fun e w' => ∃ x, e = .returned (.int .i64 x) ∧ 0 ≤ x ∧ x < q ∧ CS w w' CB ao n cap f (A + 1) := by
  obtain ⟨a, sd, ha, hC⟩ := h.cu
  refine (pick_any q hq CB ao n cap a f sd w hC h.cb h.sz (by omega)).mono ?_
  rintro e w' ⟨x, rfl, x0, x1, ⟨sd', C'⟩, g⟩
  exact ⟨x, rfl, x0, x1, ⟨a + 1, sd', by omega, C'⟩, h.cb0, g, h.lt, h.sz⟩
theorem one_s (q : Nat) (hq : 2 ≤ q ∧ q ≤ 200) (h : CS w w CB ao n cap f A) (hA : A ≤ 1000000) :
    Calls Tryd.prog 20 #[.pointer (some ⟨CB, 0, none⟩), .int .i64 q] w fun e w' => ∃ b, e = .returned (.bool b) ∧ CS w w' CB ao n cap f (A + 1) := by
  obtain ⟨a, sd, ha, hC⟩ := h.cu
  refine (one_any q hq CB ao n cap a f sd w hC h.cb h.sz (by omega)).mono ?_
  rintro e w' ⟨b, rfl, ⟨sd', C'⟩, g⟩
  exact ⟨b, rfl, ⟨a + 1, sd', by omega, C'⟩, h.cb0, g, h.lt, h.sz⟩
/-- A list of ints lies in a block. -/
def LiAt (w : World) (LB : Nat) (l : List Int) : Prop := LB < w.heap.size ∧ ∀ i, i < l.length → w.cell? ⟨LB, i, none⟩ = some (.int .i64 (l.getD i 0))
theorem LiAt.new (w : World) (l : List Int) (T : Nat) : LiAt (w.alloc (.cells (l.map (Value.int .i64)).toArray T)) w.heap.size l := by
  have hh : (w.alloc (.cells (l.map (Value.int .i64)).toArray T)).heap[w.heap.size]? = some (.cells (l.map (Value.int .i64)).toArray T (0, 0)) := heap_alloc_new w _
  refine ⟨by simp, fun i hi => ?_⟩
  rw [cell_of_row _ _ _ _ _ _ hh]
  simp [hi]
theorem among_s (l : List Int) (hq : 2 ≤ l.length ∧ l.length ≤ 200) (LB : Nat) (hL : LiAt w LB l) (hne : LB ≠ CB) (h : CS w w CB ao n cap f A) (hA : A ≤ 1000000) :
    Calls Tryd.prog 27 #[.pointer (some ⟨CB, 0, none⟩), .slice (some ⟨LB, 0, none⟩) l.length l.length] w fun e w' => ∃ x, x ∈ l ∧ e = .returned (.int .i64 x) ∧ CS w w' CB ao n cap f (A + 1) := by
  obtain ⟨a, sd, ha, hC⟩ := h.cu
  refine (among_any l.length hq LB (fun i => l.getD i 0) CB ao n cap a f sd w hC h.cb h.sz (by omega) hL.1 hne hL.2).mono ?_
  rintro e w' ⟨i, hi, rfl, ⟨sd', C'⟩, g⟩
  have e : l.getD i 0 ∈ l := by
    have e : l.getD i 0 = l[i] := by simp [hi]
    rw [e]; exact List.getElem_mem hi
  exact ⟨_, e, rfl, ⟨a + 1, sd', by omega, C'⟩, h.cb0, g, h.lt, h.sz⟩
theorem of_s (l : List ByteArray) (z : Nat) (hq : 2 ≤ l.length ∧ l.length ≤ 200) (hz : ∀ i, i < l.length → (l.getD i ⟨#[]⟩).size ≤ z) (LB : Nat) (hL : LsAt w LB l) (hne : LB ≠ CB) (h : CS w w CB ao n cap f A) (hA : A ≤ 1000000) :
    Calls Tryd.prog 28 #[.pointer (some ⟨CB, 0, none⟩), .slice (some ⟨LB, 0, none⟩) l.length l.length] w fun e w' => ∃ s : ByteArray, s.size ≤ z ∧ e = .returned (.string s) ∧ CS w w' CB ao n cap f (A + 1) := by
  obtain ⟨a, sd, ha, hC⟩ := h.cu
  refine (of_list l z hq hz LB CB ao n cap a f sd w hC h.cb h.sz (by omega) hL hne).mono ?_
  rintro e w' ⟨s, hs, rfl, ⟨sd', C'⟩, g⟩
  exact ⟨s, hs, rfl, ⟨a + 1, sd', by omega, C'⟩, h.cb0, g, h.lt, h.sz⟩
theorem sized_s (h : CS w w CB ao n cap f A) (hA : A ≤ 1000) :
    Calls Tryd.prog 11 #[.pointer (some ⟨CB, 0, none⟩)] w fun e w' => ∃ x, e = .returned (.int .i64 x) ∧ (-9223372036854775808 ≤ x ∧ x ≤ 9223372036854775807) ∧ CS w w' CB ao n cap f (A + 100) := by
  obtain ⟨a, sd, ha, hC⟩ := h.cu
  refine (sized_any CB ao n cap a f sd w hC h.cb h.sz (by omega)).mono ?_
  rintro e w' ⟨x, rfl, hx, ⟨a', sd', ha', C'⟩, g⟩
  exact ⟨x, rfl, hx, ⟨a', sd', by omega, C'⟩, h.cb0, g, h.lt, h.sz⟩
end
end Go.Proofs.YtiojjihonmonkaaDoor
