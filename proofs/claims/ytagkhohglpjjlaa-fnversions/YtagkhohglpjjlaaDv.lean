/- Small facts on memory that rows of structs need. / The model's cursor draws texts; rows of texts that the call itself makes. -/
import Derived.Test.YtagkhohglpjjlaaGd
import Derived.Test.YtagkhohglpjjlaaInts
import Derived.Maps.AppendAt
import Derived.OwnWalk
import Derived.Laws.Rows
namespace Go.Proofs.Ytagkhohglpjjlaa
open Go.RowKit
set_option linter.unusedSimpArgs false
set_option linter.unusedVariables false

/-- What an exact measure leaves: d is taken away, or it says no. -/
def SzX (left : Int) (d : Int) (w : World) (e : Ending) (w' : World) : Prop :=
  ∃ v : Int, e = .returned (.int .i64 v) ∧ -1 ≤ v ∧ (0 ≤ v → v = left - d) ∧ Below w.heap.size w w'

theorem setCells_others (b : Nat) : ∀ (vs : List Value) (o : Nat) (w : World), Others b w (w.setCells b o vs)
  | [], _, _ => Others.refl _ _
  | v :: r, o, w => (Others.setCell w b o v).trans (setCells_others b r (o + 1) _)
theorem made_cell {d : Array Value} {k n i q : Nat} (hd : d.size = k) (hi : i < n) (hq : q < k) : (madeCells d (n * k)).toList[i * k + q]? = d[q]? := by
  have h1 : i * k + q < n * k := by
    have := Nat.mul_le_mul_right k (show i + 1 ≤ n by omega)
    rw [Nat.succ_mul] at this
    omega
  have h2 : (i * k + q) % k = q := by rw [Nat.mul_comm, Nat.mul_add_mod, Nat.mod_eq_of_lt hq]
  simp [madeCells, h1, hd, h2, hq]

/-- Only block b, and what is new, has been written. -/
structure Only (b : Nat) (w w' : World) : Prop where
  os : w'.os = w.os
  tape : w'.tape = w.tape
  output : w'.output = w.output
  size : w.heap.size ≤ w'.heap.size
  block : ∀ c, c < w.heap.size → c ≠ b → w'.heap[c]? = w.heap[c]?
theorem Only.refl (b : Nat) (w : World) : Only b w w := ⟨rfl, rfl, rfl, Nat.le_refl _, fun _ _ _ => rfl⟩
theorem Only.trans {b : Nat} {u v w : World} (h : Only b u v) (k : Only b v w) : Only b u w :=
  ⟨k.os.trans h.os, k.tape.trans h.tape, k.output.trans h.output, Nat.le_trans h.size k.size, fun c hc hd => (k.block c (Nat.lt_of_lt_of_le hc h.size) hd).trans (h.block c hc hd)⟩
theorem Only.of_below {b : Nat} {w w' : World} (h : Below w.heap.size w w') : Only b w w' := ⟨h.os, h.tape, h.output, h.size, fun c hc _ => h.block c hc⟩
theorem Only.of_others {b : Nat} {w w' : World} (h : Others b w w') : Only b w w' := ⟨h.os, h.tape, h.output, by rw [h.size]; exact Nat.le_refl _, fun c _ hd => h.block c hd⟩
/-- Only blocks from lo on and below hi have been written. -/
structure Rng (lo hi : Nat) (w w' : World) : Prop where
  os : w'.os = w.os
  tape : w'.tape = w.tape
  output : w'.output = w.output
  size : w.heap.size ≤ w'.heap.size
  block : ∀ c, c < w.heap.size → (c < lo ∨ hi ≤ c) → w'.heap[c]? = w.heap[c]?
theorem Rng.refl (lo hi : Nat) (w : World) : Rng lo hi w w := ⟨rfl, rfl, rfl, Nat.le_refl _, fun _ _ _ => rfl⟩
theorem Rng.trans {lo hi : Nat} {u v w : World} (h : Rng lo hi u v) (k : Rng lo hi v w) : Rng lo hi u w :=
  ⟨k.os.trans h.os, k.tape.trans h.tape, k.output.trans h.output, Nat.le_trans h.size k.size, fun c hc hd => (k.block c (Nat.lt_of_lt_of_le hc h.size) hd).trans (h.block c hc hd)⟩
theorem Rng.below {lo hi B : Nat} {w w' : World} (h : Rng lo hi w w') (hB : B ≤ lo) (hs : B ≤ w.heap.size) : Below B w w' :=
  ⟨h.os, h.tape, h.output, h.size, fun c hc => h.block c (by omega) (.inl (by omega))⟩
theorem Rng.of_below {lo hi : Nat} {w w' : World} (h : Below w.heap.size w w') : Rng lo hi w w' := ⟨h.os, h.tape, h.output, h.size, fun c hc _ => h.block c hc⟩
theorem Rng.of_only {lo hi b : Nat} {w w' : World} (h : Only b w w') (h1 : lo ≤ b) (h2 : b < hi) : Rng lo hi w w' := ⟨h.os, h.tape, h.output, h.size, fun c hc hd => h.block c hc (by omega)⟩
theorem Rng.wide {lo hi lo' hi' : Nat} {w w' : World} (h : Rng lo hi w w') (h1 : lo' ≤ lo) (h2 : hi ≤ hi') : Rng lo' hi' w w' := ⟨h.os, h.tape, h.output, h.size, fun c hc hd => h.block c hc (by omega)⟩
end Go.Proofs.Ytagkhohglpjjlaa
namespace Go.Proofs.Ytagkhohglpjjlaa
open Go.RowKit
set_option linter.unusedSimpArgs false
set_option linter.unusedVariables false

theorem ownsRow_keep {w w' : World} {base e size n : Nat} {v : Value} {xs : List Value} (h : w.ownsRow base e size v n xs) (hb : Below w.heap.size w w') : w'.ownsRow base e size v n xs := by
  refine ⟨h.1, ?_⟩
  rcases h.2 with ⟨rfl, h0⟩ | ⟨g, cap, cur, rfl, h1, h2, h3⟩
  · exact .inl ⟨rfl, h0⟩
  · exact .inr ⟨g, cap, cur, rfl, h1, (hb.block g (Array.getElem?_eq_some_iff.1 h2).1).trans h2, h3⟩
theorem ownsRow_mono {w : World} {base base' e size n : Nat} {v : Value} {xs : List Value} (h : w.ownsRow base e size v n xs) (hb : base' ≤ base) : w.ownsRow base' e size v n xs := by
  refine ⟨h.1, ?_⟩
  rcases h.2 with ⟨rfl, h0⟩ | ⟨g, cap, cur, rfl, h1, h2⟩
  · exact .inl ⟨rfl, h0⟩
  · exact .inr ⟨g, cap, cur, rfl, Nat.le_trans hb h1, h2⟩
theorem ownsRow_form {w : World} {base e size n : Nat} {v : Value} {xs : List Value} (h : w.ownsRow base e size v n xs) : ∃ ao cap, v = .slice ao n cap := by
  rcases h.2 with ⟨rfl, h0⟩ | ⟨g, cap, cur, rfl, _⟩
  · exact ⟨none, 0, by rw [h0]⟩
  · exact ⟨_, _, rfl⟩
theorem ownsRow_kept {w w' : World} {base e size n : Nat} {v : Value} {xs : List Value} {row : Option Nat} (h : w.ownsRow base e size v n xs) (hg : w.grownBy w' row) (hne : ∀ k, row = some k → v.ownBlock ≠ some k) : w'.ownsRow base e size v n xs := by
  refine h.kept hg ?_
  cases hr : v.ownBlock with
  | none => exact .inl rfl
  | some k => exact .inr fun e => hne k e.symm hr

theorem wpList_append_eq {P : Program} (w : World) {ops : Array Oper} {rest : List Oper} {o : Oper} {a : Act} {Q : Exit → Act → World → Prop}
    (hg : o.guard = none) (s x : Operand) (t ty : TypeId) (hop : o.op = .call { callee := .builtin .append, args := #[s, x], argTypes := #[t, t] }) (hty : o.type = ty) (u v r : Value) (hs : a.eval s = u) (hx : a.eval x = v) (w' : World)
    (hrun : (Builtin.append_ #[t, t] ty #[u, v]).run P w = .ok r w') (hK : wpList P ops Q rest (a.put o.dst r) w') : wpList P ops Q (o :: rest) a w := by
  refine wpList_plain hg fun K' hK' => ?_
  subst hty
  unfold Oper.wp execOp
  simp only [hop, resolve, invoke, builtin, Sem.run_bind, Sem.run_pure, Result.andThen_ok, List.map_toArray, List.map_cons, List.map_nil, hs, hx, hrun]
  exact hK' _ _ hK


theorem ownsRow_others {w w' : World} {base e size n d : Nat} {v : Value} {xs : List Value} (h : w.ownsRow base e size v n xs) (ho : Others d w w') (hne : v.ownBlock ≠ some d) : w'.ownsRow base e size v n xs :=
  ownsRow_kept (row := some d) h ⟨ho.os, ho.tape, ho.output, by rw [ho.size]; exact Nat.le_refl _, fun i _ hn => ho.block i (fun e => hn (by rw [e]))⟩ (fun k hk => by injection hk with hk; subst hk; exact hne)

theorem among_any (q : Nat) (hq : 2 ≤ q ∧ q ≤ 200) (LB : Nat) (g : Nat → Int) (CB : Nat) (ao : Option Addr) (n cap a : Nat) (f : Nat → Int) (sd : Int) (w : World) (hC : Cu w CB (.slice ao n cap) a sd) (hB : Cb w CB ao n f) (hn : n ≤ 1048576) (ha : a ≤ 1000000000) (hL : LB < w.heap.size) (hne : LB ≠ CB) (hc : ∀ i, i < q → w.cell? ⟨LB, i, none⟩ = some (.int .i64 (g i))) :
    Calls Try.prog 32 #[.pointer (some ⟨CB, 0, none⟩), .slice (some ⟨LB, 0, none⟩) q q] w fun e w' => ∃ i, i < q ∧ e = .returned (.int .i64 (g i)) ∧ (∃ sd, Cu w' CB (.slice ao n cap) (a + 1) sd) ∧ w.grownBy w' (some CB) := by
  go_enter Try.func32, Try.ntmps32
  go_wp2_with fail
  refine (pick_any q hq CB ao n cap a f sd _ hC hB hn ha).mono ?_
  rintro e w1 ⟨x, rfl, x0, x1, hC1, g1⟩
  obtain ⟨i, rfl⟩ := Int.eq_ofNat_of_zero_le x0
  have hi : i < q := by omega
  have h1 := g1.cell (hc i hi) (fun e => hne (Option.some.inj e))
  clear hc
  go_wp2
  go_ret
  exact ⟨i, hi, rfl, hC1, g1⟩
/-- What a drawn text is. -/
def OfO (z CB : Nat) (cv : Value) (a : Nat) (w : World) (e : Ending) (w' : World) : Prop := ∃ s : ByteArray, s.size ≤ z ∧ e = .returned (.string s) ∧ (∃ sd, Cu w' CB cv (a + 1) sd) ∧ w.grownBy w' (some CB)
theorem of_any (q z : Nat) (hq : 2 ≤ q ∧ q ≤ 200) (LB : Nat) (g : Nat → ByteArray) (hz : ∀ i, i < q → (g i).size ≤ z) (CB : Nat) (ao : Option Addr) (n cap a : Nat) (f : Nat → Int) (sd : Int) (w : World) (hC : Cu w CB (.slice ao n cap) a sd) (hB : Cb w CB ao n f) (hn : n ≤ 1048576) (ha : a ≤ 1000000000) (hL : LB < w.heap.size) (hne : LB ≠ CB) (hc : ∀ i, i < q → w.cell? ⟨LB, i, none⟩ = some (.string (g i))) :
    Calls Try.prog 55 #[.pointer (some ⟨CB, 0, none⟩), .slice (some ⟨LB, 0, none⟩) q q] w fun e w' => OfO z CB (.slice ao n cap) a w e w' := by
  go_enter Try.func55, Try.ntmps55
  go_wp2_with fail
  refine (pick_any q hq CB ao n cap a f sd _ hC hB hn ha).mono ?_
  rintro e w1 ⟨x, rfl, x0, x1, hC1, g1⟩
  obtain ⟨i, rfl⟩ := Int.eq_ofNat_of_zero_le x0
  have hi : i < q := by omega
  have h1 := g1.cell (hc i hi) (fun e => hne (Option.some.inj e))
  clear hc
  go_wp2
  go_ret
  exact ⟨g i, hz i hi, rfl, hC1, g1⟩
/-- A list of texts lies in a block. -/
def LsAt (w : World) (LB : Nat) (l : List ByteArray) : Prop := LB < w.heap.size ∧ ∀ i, i < l.length → w.cell? ⟨LB, i, none⟩ = some (.string (l.getD i ⟨#[]⟩))
theorem LsAt.new (w : World) (l : List ByteArray) (T : Nat) : LsAt (w.alloc (.cells (l.map Value.string).toArray T)) w.heap.size l := by
  have hh : (w.alloc (.cells (l.map Value.string).toArray T)).heap[w.heap.size]? = some (.cells (l.map Value.string).toArray T (0, 0)) := heap_alloc_new w _
  refine ⟨by simp, fun i hi => ?_⟩
  rw [cell_of_row _ _ _ _ _ _ hh]
  simp [hi]
theorem LsAt.grown {w w' : World} {LB CB : Nat} {l : List ByteArray} (h : LsAt w LB l) (hg : w.grownBy w' (some CB)) (hne : LB ≠ CB) : LsAt w' LB l :=
  ⟨Nat.lt_of_lt_of_le h.1 hg.size, fun i hi => hg.cell (h.2 i hi) (fun e => hne (Option.some.inj e))⟩
theorem LsAt.keep {w w' : World} {LB : Nat} {l : List ByteArray} (h : LsAt w LB l) (hb : Below w.heap.size w w') : LsAt w' LB l :=
  ⟨Nat.lt_of_lt_of_le h.1 hb.size, fun i hi => (hb.cell (p := ⟨LB, i, none⟩) h.1).trans (h.2 i hi)⟩
theorem of_list (l : List ByteArray) (z : Nat) (hq : 2 ≤ l.length ∧ l.length ≤ 200) (hz : ∀ i, i < l.length → (l.getD i ⟨#[]⟩).size ≤ z) (LB CB : Nat) (ao : Option Addr) (n cap a : Nat) (f : Nat → Int) (sd : Int) (w : World) (hC : Cu w CB (.slice ao n cap) a sd) (hB : Cb w CB ao n f) (hn : n ≤ 1048576) (ha : a ≤ 1000000000) (hL : LsAt w LB l) (hne : LB ≠ CB) :
    Calls Try.prog 55 #[.pointer (some ⟨CB, 0, none⟩), .slice (some ⟨LB, 0, none⟩) l.length l.length] w fun e w' => OfO z CB (.slice ao n cap) a w e w' :=
  of_any l.length z hq LB (fun i => l.getD i ⟨#[]⟩) hz CB ao n cap a f sd w hC hB hn ha hL.1 hne hL.2

theorem Cu.blk {w w' : World} {CB : Nat} {cv : Value} {a : Nat} {sd : Int} (h : Cu w CB cv a sd) (hs : w.heap.size ≤ w'.heap.size) (hb : w'.heap[CB]? = w.heap[CB]?) : Cu w' CB cv a sd :=
  have k : ∀ i, w'.cell? ⟨CB, i, none⟩ = w.cell? ⟨CB, i, none⟩ := fun i => World.cell?_of_block (w := w) (a := ⟨CB, i, none⟩) hb
  ⟨Nat.lt_of_lt_of_le h.lt hs, (k 0).trans h.c0, (k 1).trans h.c1, (k 2).trans h.c2, fun i => (World.frozen?_of_block (w := w) (a := ⟨CB, i, none⟩) hb).trans (h.fz i), h.sb⟩
theorem grown_far {w u u' : World} {CB : Nat} {row : Option Nat} (h : w.grownBy u (some CB)) (g : u.grownBy u' row) (hr : ∀ k, row = some k → w.heap.size ≤ k) : w.grownBy u' (some CB) :=
  ⟨g.os.trans h.os, g.tape.trans h.tape, g.output.trans h.output, Nat.le_trans h.size g.size, fun k hk hne => (g.block k (Nat.lt_of_lt_of_le hk h.size) (fun e => by have := hr k e.symm; omega)).trans (h.block k hk hne)⟩
theorem keyText_any (CB : Nat) (ao : Option Addr) (n cap a : Nat) (f : Nat → Int) (sd : Int) (w : World) (hC : Cu w CB (.slice ao n cap) a sd) (hB : Cb w CB ao n f) (hn : n ≤ 1048576) (ha : a ≤ 1000000000) :
    Calls Try.prog 54 #[.pointer (some ⟨CB, 0, none⟩)] w fun e w' => OfO 3 CB (.slice ao n cap) a w e w' := by
  have b1 := below_new w (.cells #[.string ⟨#[97]⟩, .string ⟨#[97, 98]⟩, .string ⟨#[98]⟩, .string ⟨#[98, 97]⟩, .string ⟨#[99]⟩, .string ⟨#[99, 112, 117]⟩, .string ⟨#[100]⟩, .string ⟨#[109]⟩] 9)
  have C1 := hC.keep b1
  have B1 := hB.keep b1
  have L1 : LsAt (w.alloc (.cells #[.string ⟨#[97]⟩, .string ⟨#[97, 98]⟩, .string ⟨#[98]⟩, .string ⟨#[98, 97]⟩, .string ⟨#[99]⟩, .string ⟨#[99, 112, 117]⟩, .string ⟨#[100]⟩, .string ⟨#[109]⟩] 9)) w.heap.size [(⟨#[97]⟩ : ByteArray), ⟨#[97, 98]⟩, ⟨#[98]⟩, ⟨#[98, 97]⟩, ⟨#[99]⟩, ⟨#[99, 112, 117]⟩, ⟨#[100]⟩, ⟨#[109]⟩] := LsAt.new w [(⟨#[97]⟩ : ByteArray), ⟨#[97, 98]⟩, ⟨#[98]⟩, ⟨#[98, 97]⟩, ⟨#[99]⟩, ⟨#[99, 112, 117]⟩, ⟨#[100]⟩, ⟨#[109]⟩] 9
  have hlt := hC.lt
  go_enter Try.func54, Try.ntmps54
  go_wp2_with fail
  refine (of_list [(⟨#[97]⟩ : ByteArray), ⟨#[97, 98]⟩, ⟨#[98]⟩, ⟨#[98, 97]⟩, ⟨#[99]⟩, ⟨#[99, 112, 117]⟩, ⟨#[100]⟩, ⟨#[109]⟩] 3 (by decide) (by decide) w.heap.size CB ao n cap a f sd _ C1 B1 hn ha L1 (by omega)).mono ?_
  rintro e w2 ⟨s, hs, rfl, C2, g2⟩
  have g := (grown_ofC b1 (some CB)).trans g2
  clear C1 B1 L1 b1 g2
  go_wp2
  go_ret
  exact ⟨s, hs, rfl, C2, g⟩

theorem cu_new (w : World) (cv : Value) (T : Nat) : Cu (w.alloc (.cells #[cv, .int .i64 0, .int .u64 0] T)) w.heap.size cv 0 0 := by
  have hh : (w.alloc (.cells #[cv, .int .i64 0, .int .u64 0] T)).heap[w.heap.size]? = some (.cells #[cv, .int .i64 0, .int .u64 0] T (0, 0)) := heap_alloc_new w _
  exact ⟨by simp, cell_of_row _ _ _ _ _ _ hh, cell_of_row _ _ _ _ _ _ hh, cell_of_row _ _ _ _ _ _ hh, fun i => frozen_of_row _ _ _ _ _ hh, by omega⟩
theorem cb_new {w : World} {ao : Option Addr} {n : Nat} {f : Nat → Int} (hr : Row w ao n f) (o : Obj) : Cb (w.alloc o) w.heap.size ao n f :=
  ⟨hr.keep (below_new w o), fun b off e h0 => by
    obtain ⟨b', off', e', h1, _⟩ := hr.lies.resolve_left h0
    rw [e'] at e
    injection e with e
    injection e with e _ _
    omega⟩
theorem below_cur {w w' : World} {o : Obj} (hg : (w.alloc o).grownBy w' (some w.heap.size)) : Below w.heap.size w w' :=
  (below_new w o).grown hg (by simp) (fun k e => by injection e with e; omega)


/-- A cursor at work since w0; at most A draws. -/
structure CS (w0 w : World) (CB : Nat) (ao : Option Addr) (n cap : Nat) (f : Nat → Int) (A : Nat) : Prop where
  cu : ∃ a sd, a ≤ A ∧ Cu w CB (.slice ao n cap) a sd
  cb0 : Cb w0 CB ao n f
  gr : w0.grownBy w (some CB)
  lt : CB < w0.heap.size
  sz : n ≤ 1048576
section
variable {w0 w w' : World} {CB : Nat} {ao : Option Addr} {n cap : Nat} {f : Nat → Int} {A A' : Nat}
theorem CS.cb (h : CS w0 w CB ao n cap f A) : Cb w CB ao n f := h.cb0.grown h.gr
theorem CS.ltw (h : CS w0 w CB ao n cap f A) : CB < w.heap.size := Nat.lt_of_lt_of_le h.lt h.gr.size
theorem CS.self (h : CS w0 w CB ao n cap f A) : CS w w CB ao n cap f A := ⟨h.cu, h.cb, grown_refl _ _, h.ltw, h.sz⟩
theorem CS.trans (h : CS w0 w CB ao n cap f A) (k : CS w w' CB ao n cap f A') : CS w0 w' CB ao n cap f A' := ⟨k.cu, h.cb0, h.gr.trans k.gr, h.lt, h.sz⟩
theorem CS.mono (h : CS w0 w CB ao n cap f A) (hA : A ≤ A') : CS w0 w CB ao n cap f A' := ⟨by obtain ⟨a, sd, h1, h2⟩ := h.cu; exact ⟨a, sd, by omega, h2⟩, h.cb0, h.gr, h.lt, h.sz⟩
theorem CS.keep (h : CS w0 w CB ao n cap f A) (hb : Below w.heap.size w w') : CS w0 w' CB ao n cap f A := ⟨by obtain ⟨a, sd, h1, h2⟩ := h.cu; exact ⟨a, sd, h1, h2.keep hb⟩, h.cb0, h.gr.trans (grown_ofC hb _), h.lt, h.sz⟩
theorem CS.far {row : Option Nat} (h : CS w0 w CB ao n cap f A) (g : w.grownBy w' row) (hr : ∀ k, row = some k → w0.heap.size ≤ k) : CS w0 w' CB ao n cap f A :=
  ⟨by
    obtain ⟨a, sd, h1, h2⟩ := h.cu
    exact ⟨a, sd, h1, h2.blk g.size (g.block CB h.ltw (fun e => by have := hr CB e.symm; have := h.lt; omega))⟩, h.cb0, grown_far h.gr g hr, h.lt, h.sz⟩
theorem CS.others {d : Nat} (h : CS w0 w CB ao n cap f A) (ho : Others d w w') (hd : w0.heap.size ≤ d) : CS w0 w' CB ao n cap f A :=
  h.far (row := some d) ⟨ho.os, ho.tape, ho.output, by rw [ho.size]; exact Nat.le_refl _, fun i _ hn => ho.block i (fun e => hn (by rw [e]))⟩ (fun k e => by injection e with e; omega)
theorem CS.below (h : CS w0 w CB ao n cap f A) {base : Nat} (hb : base ≤ CB) : Below base w0 w := (Below.refl base w0).grown h.gr (Nat.le_of_lt (Nat.lt_of_le_of_lt hb h.lt)) (fun k e => by injection e with e; omega)

theorem pick_s (q : Nat) (hq : 2 ≤ q ∧ q ≤ 200) (h : CS w w CB ao n cap f A) (hA : A ≤ 1000000) :
    Calls Try.prog 31 #[.pointer (some ⟨CB, 0, none⟩), .int .i64 q] w fun e w' => ∃ x, e = .returned (.int .i64 x) ∧ 0 ≤ x ∧ x < q ∧ CS w w' CB ao n cap f (A + 1) := by
  obtain ⟨a, sd, ha, hC⟩ := h.cu
  refine (pick_any q hq CB ao n cap a f sd w hC h.cb h.sz (by omega)).mono ?_
  rintro e w' ⟨x, rfl, x0, x1, ⟨sd', C'⟩, g⟩
  exact ⟨x, rfl, x0, x1, ⟨a + 1, sd', by omega, C'⟩, h.cb0, g, h.lt, h.sz⟩
theorem one_s (q : Nat) (hq : 2 ≤ q ∧ q ≤ 200) (h : CS w w CB ao n cap f A) (hA : A ≤ 1000000) :
    Calls Try.prog 34 #[.pointer (some ⟨CB, 0, none⟩), .int .i64 q] w fun e w' => ∃ b, e = .returned (.bool b) ∧ CS w w' CB ao n cap f (A + 1) := by
  obtain ⟨a, sd, ha, hC⟩ := h.cu
  refine (one_any q hq CB ao n cap a f sd w hC h.cb h.sz (by omega)).mono ?_
  rintro e w' ⟨b, rfl, ⟨sd', C'⟩, g⟩
  exact ⟨b, rfl, ⟨a + 1, sd', by omega, C'⟩, h.cb0, g, h.lt, h.sz⟩
/-- A list of ints lies in a block. -/
def LiAt (w : World) (LB : Nat) (l : List Int) : Prop := LB < w.heap.size ∧ ∀ i, i < l.length → w.cell? ⟨LB, i, none⟩ = some (.int .i64 (l.getD i 0))
theorem LiAt.new (w : World) (l : List Int) (T : Nat) : LiAt (w.alloc (.cells (l.map (Value.int .i64)).toArray T)) w.heap.size l := by
  have hh : (w.alloc (.cells (l.map (Value.int .i64)).toArray T)).heap[w.heap.size]? = some (.cells (l.map (Value.int .i64)).toArray T (0, 0)) := heap_alloc_new w _
  refine ⟨by simp, fun i hi => ?_⟩
  rw [cell_of_row _ _ _ _ _ _ hh]
  simp [hi]
theorem among_s (l : List Int) (hq : 2 ≤ l.length ∧ l.length ≤ 200) (LB : Nat) (hL : LiAt w LB l) (hne : LB ≠ CB) (h : CS w w CB ao n cap f A) (hA : A ≤ 1000000) :
    Calls Try.prog 32 #[.pointer (some ⟨CB, 0, none⟩), .slice (some ⟨LB, 0, none⟩) l.length l.length] w fun e w' => ∃ x, x ∈ l ∧ e = .returned (.int .i64 x) ∧ CS w w' CB ao n cap f (A + 1) := by
  obtain ⟨a, sd, ha, hC⟩ := h.cu
  refine (among_any l.length hq LB (fun i => l.getD i 0) CB ao n cap a f sd w hC h.cb h.sz (by omega) hL.1 hne hL.2).mono ?_
  rintro e w' ⟨i, hi, rfl, ⟨sd', C'⟩, g⟩
  have e : l.getD i 0 ∈ l := by
    have e : l.getD i 0 = l[i] := by simp [hi]
    rw [e]; exact List.getElem_mem hi
  exact ⟨_, e, rfl, ⟨a + 1, sd', by omega, C'⟩, h.cb0, g, h.lt, h.sz⟩
theorem of_s (l : List ByteArray) (z : Nat) (hq : 2 ≤ l.length ∧ l.length ≤ 200) (hz : ∀ i, i < l.length → (l.getD i ⟨#[]⟩).size ≤ z) (LB : Nat) (hL : LsAt w LB l) (hne : LB ≠ CB) (h : CS w w CB ao n cap f A) (hA : A ≤ 1000000) :
    Calls Try.prog 55 #[.pointer (some ⟨CB, 0, none⟩), .slice (some ⟨LB, 0, none⟩) l.length l.length] w fun e w' => ∃ s : ByteArray, s.size ≤ z ∧ e = .returned (.string s) ∧ CS w w' CB ao n cap f (A + 1) := by
  obtain ⟨a, sd, ha, hC⟩ := h.cu
  refine (of_list l z hq hz LB CB ao n cap a f sd w hC h.cb h.sz (by omega) hL hne).mono ?_
  rintro e w' ⟨s, hs, rfl, ⟨sd', C'⟩, g⟩
  exact ⟨s, hs, rfl, ⟨a + 1, sd', by omega, C'⟩, h.cb0, g, h.lt, h.sz⟩
theorem keyText_s (h : CS w w CB ao n cap f A) (hA : A ≤ 1000000) :
    Calls Try.prog 54 #[.pointer (some ⟨CB, 0, none⟩)] w fun e w' => ∃ s : ByteArray, s.size ≤ 3 ∧ e = .returned (.string s) ∧ CS w w' CB ao n cap f (A + 1) := by
  obtain ⟨a, sd, ha, hC⟩ := h.cu
  refine (keyText_any CB ao n cap a f sd w hC h.cb h.sz (by omega)).mono ?_
  rintro e w' ⟨s, hs, rfl, ⟨sd', C'⟩, g⟩
  exact ⟨s, hs, rfl, ⟨a + 1, sd', by omega, C'⟩, h.cb0, g, h.lt, h.sz⟩
end
end Go.Proofs.Ytagkhohglpjjlaa
