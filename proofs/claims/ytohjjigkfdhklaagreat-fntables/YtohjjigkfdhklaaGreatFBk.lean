/- The next one on a way, and the path over all ways, as functions; the next one in the program. / The model's cursor draws texts; rows of texts that the call itself makes. / The bucket of a value, in the program and in the model. -/
import Derived.Test.YtohjjigkfdhklaaGreatBef
import Derived.Test.YtohjjigkfdhklaaGreatIL
import Derived.Test.YtohjjigkfdhklaaGreatGe
import Derived.Laws.EntriesVeiled
import Derived.Test.YtohjjigkfdhklaaGreatTx
import Derived.Test.YtohjjigkfdhklaaGreatFCur
import Derived.Test.YtohjjigkfdhklaaGreatOe
import Derived.Maps.AppendAt
import Derived.OwnWalk
import Derived.Laws.Rows
namespace Go.Proofs.YtohjjigkfdhklaaGreat
set_option maxRecDepth 100000
open Go.RowKit
set_option linter.unusedSimpArgs false
set_option linter.unusedVariables false

def nxF (t : Nat → Int) (n : Nat) (y : Int) : Nat → Nat → Nat
  | 0, q => q
  | f + 1, q => if q < n ∧ t q < y then nxF t n y f (q + 1) else q
/-- The first from q on whose tower reaches the way y. -/
def nx (t : Nat → Int) (n : Nat) (y : Int) (q : Nat) : Nat := nxF t n y (n - q) q
section
variable {t : Nat → Int} {n : Nat} {y : Int} {q : Nat}
theorem nx_end (h : n ≤ q) : nx t n y q = q := by unfold nx; rw [Nat.sub_eq_zero_of_le h]; rfl
theorem nx_stop (h : q < n) (h2 : ¬ t q < y) : nx t n y q = q := by
  unfold nx
  obtain ⟨f, hf⟩ : ∃ f, n - q = f + 1 := ⟨n - q - 1, by omega⟩
  rw [hf]
  simp [nxF, h2]
theorem nx_step (h : q < n) (h2 : t q < y) : nx t n y q = nx t n y (q + 1) := by
  unfold nx
  obtain ⟨f, hf⟩ : ∃ f, n - q = f + 1 := ⟨n - q - 1, by omega⟩
  rw [hf, show n - (q + 1) = f by omega]
  simp [nxF, h, h2]
theorem nxF_le (t : Nat → Int) (n : Nat) (y : Int) : ∀ f q, q ≤ n → q ≤ nxF t n y f q ∧ nxF t n y f q ≤ n
  | 0, q, h => ⟨Nat.le_refl _, h⟩
  | f + 1, q, h => by
    unfold nxF
    split
    · rename_i hc
      have := nxF_le t n y f (q + 1) (by omega)
      omega
    · omega
theorem nx_le (h : q ≤ n) : q ≤ nx t n y q ∧ nx t n y q ≤ n := nxF_le t n y _ q h
end
/-- On the way y, from a place on, as long as the next one is less. -/
def goW (t : Nat → Int) (n : Nat) (K : Nat → ByteArray) (key : ByteArray) (y : Int) : Nat → Nat × List Int → Nat × List Int
  | 0, s => s
  | f + 1, s => if nx t n y s.1 < n ∧ cB (K (nx t n y s.1)) key < 0 then goW t n K key y f (nx t n y s.1 + 1, s.2 ++ [(nx t n y s.1 : Int)]) else s
/-- All ways from y down. -/
def pathF (t : Nat → Int) (n : Nat) (K : Nat → ByteArray) (key : ByteArray) : Nat → Nat × List Int → Nat × List Int
  | 0, s => s
  | y + 1, s => pathF t n K key y (goW t n K key ((y + 1 : Nat) : Int) (n + 1) s)
section
variable {t : Nat → Int} {n : Nat} {K : Nat → ByteArray} {key : ByteArray} {y : Int} {f p : Nat} {L : List Int}
theorem goW_stop (h : ¬ (nx t n y p < n ∧ cB (K (nx t n y p)) key < 0)) : goW t n K key y f (p, L) = (p, L) := by
  cases f with
  | zero => rfl
  | succ f => unfold goW; rw [if_neg h]
theorem goW_step (hf : 0 < f) (h : nx t n y p < n ∧ cB (K (nx t n y p)) key < 0) : ∃ f', f = f' + 1 ∧ goW t n K key y f (p, L) = goW t n K key y f' (nx t n y p + 1, L ++ [(nx t n y p : Int)]) := by
  obtain ⟨f', rfl⟩ : ∃ f', f = f' + 1 := ⟨f - 1, by omega⟩
  refine ⟨f', rfl, ?_⟩
  conv => lhs; unfold goW
  rw [if_pos h]
end

end Go.Proofs.YtohjjigkfdhklaaGreat
namespace Go.Proofs.YtohjjigkfdhklaaGreat
set_option maxRecDepth 100000
open Go.RowKit
set_option linter.unusedSimpArgs false
set_option linter.unusedVariables false

theorem ownsRow_others {w w' : World} {base e size n d : Nat} {v : Value} {xs : List Value} (h : w.ownsRow base e size v n xs) (ho : Others d w w') (hne : v.ownBlock ≠ some d) : w'.ownsRow base e size v n xs :=
  ownsRow_kept (row := some d) h ⟨ho.os, ho.tape, ho.output, by rw [ho.size]; exact Nat.le_refl _, fun i _ hn => ho.block i (fun e => hn (by rw [e]))⟩ (fun k hk => by injection hk with hk; subst hk; exact hne)

theorem Tryz.infoStr' : (Tryz.prog.info? 9).map (fun i => (i.zero, i.size, i.bytes)) = some (some (.string ByteArray.empty), 1, 16) := by kernel_rfl
/-- The cells of texts. -/
def stl (L : List ByteArray) : List Value := L.map Value.string
/-- v is a slice of texts of the call's own. -/
def StL (w : World) (base : Nat) (v : Value) (L : List ByteArray) : Prop := w.ownsRow base 9 1 v L.length (stl L)
theorem stL_nil (w : World) (base : Nat) : StL w base (.slice none 0 0) [] := World.ownsRow_nil _ _ _ _
theorem StL.form {w : World} {base : Nat} {v : Value} {L : List ByteArray} (h : StL w base v L) : ∃ ao cap, v = .slice ao L.length cap := ownsRow_form h
theorem StL.at {w : World} {base : Nat} {v : Value} {L : List ByteArray} (h : StL w base v L) (hn : 0 < L.length) : ∃ g cap, v = .slice (some ⟨g, 0, none⟩) L.length cap ∧ base ≤ g ∧ g < w.heap.size ∧ L.length ≤ cap ∧ ∀ i (hi : i < L.length), w.cell? ⟨g, i, none⟩ = some (.string L[i]) := by
  have h' := id h
  rcases h.2 with ⟨_, h0⟩ | ⟨g, cap, cur, e, h1, h2, h3, _⟩
  · omega
  · subst e
    refine ⟨g, cap, rfl, h1, (Array.getElem?_eq_some_iff.1 h2).1, h3, fun i hi => ?_⟩
    rw [World.ownsRow.cellAt h' i (by omega)]
    simp [stl, hi]
/-- A text put behind the others. -/
theorem stL_push {w : World} {base : Nat} {v : Value} {L : List ByteArray} (h : StL w base v L) (B c : Nat) (x : ByteArray) (h0 : w.cell? ⟨B, 0, none⟩ = some (.string x)) (hn : L.length ≤ 4194304) (hb : base ≤ w.heap.size) (ty : TypeId) :
    ∃ ao' c' w', (Builtin.append_ #[58, 58] ty #[v, .slice (some ⟨B, 0, none⟩) 1 c]).run Tryz.prog w = .ok (.slice ao' (L.length + 1) c') w' ∧ StL w' base (.slice ao' (L.length + 1) c') (L ++ [x]) ∧ w.grownBy w' v.ownBlock ∧ ((Value.slice ao' (L.length + 1) c').ownBlock = v.ownBlock ∨ (Value.slice ao' (L.length + 1) c').ownBlock = some w.heap.size) := by
  obtain ⟨i0, hi, hz0, hz1, hz2⟩ := info_parts Tryz.infoStr'
  obtain ⟨v', w', hrun, hown, hg, _, hat⟩ := run_append_own_at (P := Tryz.prog) w base 58 ty 9 i0 _ 1 16 Tryz.underlying58 hi hz0 hz1 hz2 rfl (by decide) v L.length (stl L) h ⟨B, 0, none⟩ 1 c [.string x] rfl (fun j u hu => by
      rcases j with _ | j
      · simp at hu; subst hu; exact h0
      · simp at hu) (fun u hu => by simp at hu; subst hu; rfl) (by unfold maxLen; omega) (by omega) hb
  have e : StL w' base v' (L ++ [x]) := by
    unfold StL stl
    rw [List.map_append, List.length_append]
    exact hown
  obtain ⟨ao', c', rfl⟩ := e.form
  rw [List.length_append] at hrun e hat
  exact ⟨ao', c', w', hrun, e, hg, hat⟩
theorem among_any (q : Nat) (hq : 2 ≤ q ∧ q ≤ 200) (LB : Nat) (g : Nat → Int) (CB : Nat) (ao : Option Addr) (n cap a : Nat) (f : Nat → Int) (sd : Int) (w : World) (hC : Cu w CB (.slice ao n cap) a sd) (hB : Cb w CB ao n f) (hn : n ≤ 1048576) (ha : a ≤ 1000000000) (hL : LB < w.heap.size) (hne : LB ≠ CB) (hc : ∀ i, i < q → w.cell? ⟨LB, i, none⟩ = some (.int .i64 (g i))) :
    Calls Tryz.prog 46 #[.pointer (some ⟨CB, 0, none⟩), .slice (some ⟨LB, 0, none⟩) q q] w fun e w' => ∃ i, i < q ∧ e = .returned (.int .i64 (g i)) ∧ (∃ sd, Cu w' CB (.slice ao n cap) (a + 1) sd) ∧ w.grownBy w' (some CB) := by
  go_enter Tryz.func46, Tryz.ntmps46
  go_wp2_with fail
  refine (pick_any q hq CB ao n cap a f sd _ hC hB hn ha).mono ?_
  rintro e w1 ⟨x, rfl, x0, x1, hC1, g1⟩
  obtain ⟨i, rfl⟩ := Int.eq_ofNat_of_zero_le x0
  have hi : i < q := by omega
  have h1 := g1.cell (hc i hi) (fun e => hne (Option.some.inj e))
  clear hc
  go_wp2
  go_ret
  exact ⟨i, hi, rfl, hC1, g1⟩
/-- What a drawn text is. -/
def OfO (z CB : Nat) (cv : Value) (a : Nat) (w : World) (e : Ending) (w' : World) : Prop := ∃ s : ByteArray, s.size ≤ z ∧ e = .returned (.string s) ∧ (∃ sd, Cu w' CB cv (a + 1) sd) ∧ w.grownBy w' (some CB)
theorem of_any (q z : Nat) (hq : 2 ≤ q ∧ q ≤ 200) (LB : Nat) (g : Nat → ByteArray) (hz : ∀ i, i < q → (g i).size ≤ z) (CB : Nat) (ao : Option Addr) (n cap a : Nat) (f : Nat → Int) (sd : Int) (w : World) (hC : Cu w CB (.slice ao n cap) a sd) (hB : Cb w CB ao n f) (hn : n ≤ 1048576) (ha : a ≤ 1000000000) (hL : LB < w.heap.size) (hne : LB ≠ CB) (hc : ∀ i, i < q → w.cell? ⟨LB, i, none⟩ = some (.string (g i))) :
    Calls Tryz.prog 104 #[.pointer (some ⟨CB, 0, none⟩), .slice (some ⟨LB, 0, none⟩) q q] w fun e w' => OfO z CB (.slice ao n cap) a w e w' := by
  go_enter Tryz.func104, Tryz.ntmps104
  go_wp2_with fail
  refine (pick_any q hq CB ao n cap a f sd _ hC hB hn ha).mono ?_
  rintro e w1 ⟨x, rfl, x0, x1, hC1, g1⟩
  obtain ⟨i, rfl⟩ := Int.eq_ofNat_of_zero_le x0
  have hi : i < q := by omega
  have h1 := g1.cell (hc i hi) (fun e => hne (Option.some.inj e))
  clear hc
  go_wp2
  go_ret
  exact ⟨g i, hz i hi, rfl, hC1, g1⟩
/-- A list of texts lies in a block. -/
def LsAt (w : World) (LB : Nat) (l : List ByteArray) : Prop := LB < w.heap.size ∧ ∀ i, i < l.length → w.cell? ⟨LB, i, none⟩ = some (.string (l.getD i ⟨#[]⟩))
theorem LsAt.new (w : World) (l : List ByteArray) (T : Nat) : LsAt (w.alloc (.cells (l.map Value.string).toArray T)) w.heap.size l := by
  have hh : (w.alloc (.cells (l.map Value.string).toArray T)).heap[w.heap.size]? = some (.cells (l.map Value.string).toArray T (0, 0)) := heap_alloc_new w _
  refine ⟨by simp, fun i hi => ?_⟩
  rw [cell_of_row _ _ _ _ _ _ hh]
  simp [hi]
theorem LsAt.grown {w w' : World} {LB CB : Nat} {l : List ByteArray} (h : LsAt w LB l) (hg : w.grownBy w' (some CB)) (hne : LB ≠ CB) : LsAt w' LB l :=
  ⟨Nat.lt_of_lt_of_le h.1 hg.size, fun i hi => hg.cell (h.2 i hi) (fun e => hne (Option.some.inj e))⟩
theorem LsAt.keep {w w' : World} {LB : Nat} {l : List ByteArray} (h : LsAt w LB l) (hb : Below w.heap.size w w') : LsAt w' LB l :=
  ⟨Nat.lt_of_lt_of_le h.1 hb.size, fun i hi => (hb.cell (p := ⟨LB, i, none⟩) h.1).trans (h.2 i hi)⟩
theorem of_list (l : List ByteArray) (z : Nat) (hq : 2 ≤ l.length ∧ l.length ≤ 200) (hz : ∀ i, i < l.length → (l.getD i ⟨#[]⟩).size ≤ z) (LB CB : Nat) (ao : Option Addr) (n cap a : Nat) (f : Nat → Int) (sd : Int) (w : World) (hC : Cu w CB (.slice ao n cap) a sd) (hB : Cb w CB ao n f) (hn : n ≤ 1048576) (ha : a ≤ 1000000000) (hL : LsAt w LB l) (hne : LB ≠ CB) :
    Calls Tryz.prog 104 #[.pointer (some ⟨CB, 0, none⟩), .slice (some ⟨LB, 0, none⟩) l.length l.length] w fun e w' => OfO z CB (.slice ao n cap) a w e w' :=
  of_any l.length z hq LB (fun i => l.getD i ⟨#[]⟩) hz CB ao n cap a f sd w hC hB hn ha hL.1 hne hL.2

theorem Cu.blk {w w' : World} {CB : Nat} {cv : Value} {a : Nat} {sd : Int} (h : Cu w CB cv a sd) (hs : w.heap.size ≤ w'.heap.size) (hb : w'.heap[CB]? = w.heap[CB]?) : Cu w' CB cv a sd :=
  have k : ∀ i, w'.cell? ⟨CB, i, none⟩ = w.cell? ⟨CB, i, none⟩ := fun i => World.cell?_of_block (w := w) (a := ⟨CB, i, none⟩) hb
  ⟨Nat.lt_of_lt_of_le h.lt hs, (k 0).trans h.c0, (k 1).trans h.c1, (k 2).trans h.c2, fun i => (World.frozen?_of_block (w := w) (a := ⟨CB, i, none⟩) hb).trans (h.fz i), h.sb⟩
theorem grown_far {w u u' : World} {CB : Nat} {row : Option Nat} (h : w.grownBy u (some CB)) (g : u.grownBy u' row) (hr : ∀ k, row = some k → w.heap.size ≤ k) : w.grownBy u' (some CB) :=
  ⟨g.os.trans h.os, g.tape.trans h.tape, g.output.trans h.output, Nat.le_trans h.size g.size, fun k hk hne => (g.block k (Nat.lt_of_lt_of_le hk h.size) (fun e => by have := hr k e.symm; omega)).trans (h.block k hk hne)⟩
theorem StL.row {w : World} {base : Nat} {ao : Option Addr} {n cap : Nat} {L : List ByteArray} (h : StL w base (.slice ao n cap) L) : n = L.length ∧ TRow w ao L.length (fun i => L.getD i ⟨#[]⟩) := by
  obtain ⟨ao', cap', e⟩ := h.form
  injection e with e1 e2 e3
  subst e1 e2 e3
  refine ⟨rfl, ?_⟩
  by_cases h0 : L.length = 0
  · exact ⟨.inl h0⟩
  · obtain ⟨g, cap, e, _, hg, _, hc⟩ := h.at (by omega)
    injection e with e1 _ _
    subst e1
    refine ⟨.inr ⟨g, 0, rfl, hg, fun i hi => ?_⟩⟩
    rw [Nat.zero_add, hc i hi]
    simp [hi]
theorem keyText_any (CB : Nat) (ao : Option Addr) (n cap a : Nat) (f : Nat → Int) (sd : Int) (w : World) (hC : Cu w CB (.slice ao n cap) a sd) (hB : Cb w CB ao n f) (hn : n ≤ 1048576) (ha : a ≤ 1000000000) :
    Calls Tryz.prog 102 #[.pointer (some ⟨CB, 0, none⟩)] w fun e w' => OfO 3 CB (.slice ao n cap) a w e w' := by
  have b1 := below_new w (.cells #[.string ⟨#[97]⟩, .string ⟨#[97, 98]⟩, .string ⟨#[98]⟩, .string ⟨#[98, 97]⟩, .string ⟨#[99]⟩, .string ⟨#[99, 112, 117]⟩, .string ⟨#[100]⟩, .string ⟨#[109]⟩] 9)
  have C1 := hC.keep b1
  have B1 := hB.keep b1
  have L1 : LsAt (w.alloc (.cells #[.string ⟨#[97]⟩, .string ⟨#[97, 98]⟩, .string ⟨#[98]⟩, .string ⟨#[98, 97]⟩, .string ⟨#[99]⟩, .string ⟨#[99, 112, 117]⟩, .string ⟨#[100]⟩, .string ⟨#[109]⟩] 9)) w.heap.size [(⟨#[97]⟩ : ByteArray), ⟨#[97, 98]⟩, ⟨#[98]⟩, ⟨#[98, 97]⟩, ⟨#[99]⟩, ⟨#[99, 112, 117]⟩, ⟨#[100]⟩, ⟨#[109]⟩] := LsAt.new w [(⟨#[97]⟩ : ByteArray), ⟨#[97, 98]⟩, ⟨#[98]⟩, ⟨#[98, 97]⟩, ⟨#[99]⟩, ⟨#[99, 112, 117]⟩, ⟨#[100]⟩, ⟨#[109]⟩] 9
  have hlt := hC.lt
  go_enter Tryz.func102, Tryz.ntmps102
  go_wp2_with fail
  refine (of_list [(⟨#[97]⟩ : ByteArray), ⟨#[97, 98]⟩, ⟨#[98]⟩, ⟨#[98, 97]⟩, ⟨#[99]⟩, ⟨#[99, 112, 117]⟩, ⟨#[100]⟩, ⟨#[109]⟩] 3 (by decide) (by decide) w.heap.size CB ao n cap a f sd _ C1 B1 hn ha L1 (by omega)).mono ?_
  rintro e w2 ⟨s, hs, rfl, C2, g2⟩
  have g := (grown_of_below b1 (some CB)).trans g2
  clear C1 B1 L1 b1 g2
  go_wp2
  go_ret
  exact ⟨s, hs, rfl, C2, g⟩

theorem cu_new (w : World) (cv : Value) (T : Nat) : Cu (w.alloc (.cells #[cv, .int .i64 0, .int .u64 0] T)) w.heap.size cv 0 0 := by
  have hh : (w.alloc (.cells #[cv, .int .i64 0, .int .u64 0] T)).heap[w.heap.size]? = some (.cells #[cv, .int .i64 0, .int .u64 0] T (0, 0)) := heap_alloc_new w _
  exact ⟨by simp, cell_of_row _ _ _ _ _ _ hh, cell_of_row _ _ _ _ _ _ hh, cell_of_row _ _ _ _ _ _ hh, fun i => frozen_of_row _ _ _ _ _ hh, by omega⟩
theorem cb_new {w : World} {ao : Option Addr} {n : Nat} {f : Nat → Int} (hr : Row w ao n f) (o : Obj) : Cb (w.alloc o) w.heap.size ao n f :=
  ⟨hr.keep (below_new w o), fun b off e h0 => by
    obtain ⟨b', off', e', h1, _⟩ := hr.lies.resolve_left h0
    rw [e'] at e
    injection e with e
    injection e with e _ _
    omega⟩
theorem below_cur {w w' : World} {o : Obj} (hg : (w.alloc o).grownBy w' (some w.heap.size)) : Below w.heap.size w w' :=
  (below_new w o).grown hg (by simp) (fun k e => by injection e with e; omega)


/-- A cursor at work since w0; at most A draws. -/
structure CS (w0 w : World) (CB : Nat) (ao : Option Addr) (n cap : Nat) (f : Nat → Int) (A : Nat) : Prop where
  cu : ∃ a sd, a ≤ A ∧ Cu w CB (.slice ao n cap) a sd
  cb0 : Cb w0 CB ao n f
  gr : w0.grownBy w (some CB)
  lt : CB < w0.heap.size
  sz : n ≤ 1048576
section
variable {w0 w w' : World} {CB : Nat} {ao : Option Addr} {n cap : Nat} {f : Nat → Int} {A A' : Nat}
theorem CS.cb (h : CS w0 w CB ao n cap f A) : Cb w CB ao n f := h.cb0.grown h.gr
theorem CS.ltw (h : CS w0 w CB ao n cap f A) : CB < w.heap.size := Nat.lt_of_lt_of_le h.lt h.gr.size
theorem CS.self (h : CS w0 w CB ao n cap f A) : CS w w CB ao n cap f A := ⟨h.cu, h.cb, grown_refl _ _, h.ltw, h.sz⟩
theorem CS.trans (h : CS w0 w CB ao n cap f A) (k : CS w w' CB ao n cap f A') : CS w0 w' CB ao n cap f A' := ⟨k.cu, h.cb0, h.gr.trans k.gr, h.lt, h.sz⟩
theorem CS.mono (h : CS w0 w CB ao n cap f A) (hA : A ≤ A') : CS w0 w CB ao n cap f A' := ⟨by obtain ⟨a, sd, h1, h2⟩ := h.cu; exact ⟨a, sd, by omega, h2⟩, h.cb0, h.gr, h.lt, h.sz⟩
theorem CS.keep (h : CS w0 w CB ao n cap f A) (hb : Below w.heap.size w w') : CS w0 w' CB ao n cap f A := ⟨by obtain ⟨a, sd, h1, h2⟩ := h.cu; exact ⟨a, sd, h1, h2.keep hb⟩, h.cb0, h.gr.trans (grown_of_below hb _), h.lt, h.sz⟩
theorem CS.far {row : Option Nat} (h : CS w0 w CB ao n cap f A) (g : w.grownBy w' row) (hr : ∀ k, row = some k → w0.heap.size ≤ k) : CS w0 w' CB ao n cap f A :=
  ⟨by
    obtain ⟨a, sd, h1, h2⟩ := h.cu
    exact ⟨a, sd, h1, h2.blk g.size (g.block CB h.ltw (fun e => by have := hr CB e.symm; have := h.lt; omega))⟩, h.cb0, grown_far h.gr g hr, h.lt, h.sz⟩
theorem CS.others {d : Nat} (h : CS w0 w CB ao n cap f A) (ho : Others d w w') (hd : w0.heap.size ≤ d) : CS w0 w' CB ao n cap f A :=
  h.far (row := some d) ⟨ho.os, ho.tape, ho.output, by rw [ho.size]; exact Nat.le_refl _, fun i _ hn => ho.block i (fun e => hn (by rw [e]))⟩ (fun k e => by injection e with e; omega)
theorem CS.below (h : CS w0 w CB ao n cap f A) {base : Nat} (hb : base ≤ CB) : Below base w0 w := (Below.refl base w0).grown h.gr (Nat.le_of_lt (Nat.lt_of_le_of_lt hb h.lt)) (fun k e => by injection e with e; omega)

theorem pick_s (q : Nat) (hq : 2 ≤ q ∧ q ≤ 200) (h : CS w w CB ao n cap f A) (hA : A ≤ 1000000) :
    Calls Tryz.prog 45 #[.pointer (some ⟨CB, 0, none⟩), .int .i64 q] w fun e w' => ∃ x, e = .returned (.int .i64 x) ∧ 0 ≤ x ∧ x < q ∧ CS w w' CB ao n cap f (A + 1) := by
  obtain ⟨a, sd, ha, hC⟩ := h.cu
  refine (pick_any q hq CB ao n cap a f sd w hC h.cb h.sz (by omega)).mono ?_
  rintro e w' ⟨x, rfl, x0, x1, ⟨sd', C'⟩, g⟩
  exact ⟨x, rfl, x0, x1, ⟨a + 1, sd', by omega, C'⟩, h.cb0, g, h.lt, h.sz⟩
theorem one_s (q : Nat) (hq : 2 ≤ q ∧ q ≤ 200) (h : CS w w CB ao n cap f A) (hA : A ≤ 1000000) :
    Calls Tryz.prog 44 #[.pointer (some ⟨CB, 0, none⟩), .int .i64 q] w fun e w' => ∃ b, e = .returned (.bool b) ∧ CS w w' CB ao n cap f (A + 1) := by
  obtain ⟨a, sd, ha, hC⟩ := h.cu
  refine (one_any q hq CB ao n cap a f sd w hC h.cb h.sz (by omega)).mono ?_
  rintro e w' ⟨b, rfl, ⟨sd', C'⟩, g⟩
  exact ⟨b, rfl, ⟨a + 1, sd', by omega, C'⟩, h.cb0, g, h.lt, h.sz⟩
/-- A list of ints lies in a block. -/
def LiAt (w : World) (LB : Nat) (l : List Int) : Prop := LB < w.heap.size ∧ ∀ i, i < l.length → w.cell? ⟨LB, i, none⟩ = some (.int .i64 (l.getD i 0))
theorem LiAt.new (w : World) (l : List Int) (T : Nat) : LiAt (w.alloc (.cells (l.map (Value.int .i64)).toArray T)) w.heap.size l := by
  have hh : (w.alloc (.cells (l.map (Value.int .i64)).toArray T)).heap[w.heap.size]? = some (.cells (l.map (Value.int .i64)).toArray T (0, 0)) := heap_alloc_new w _
  refine ⟨by simp, fun i hi => ?_⟩
  rw [cell_of_row _ _ _ _ _ _ hh]
  simp [hi]
theorem among_s (l : List Int) (hq : 2 ≤ l.length ∧ l.length ≤ 200) (LB : Nat) (hL : LiAt w LB l) (hne : LB ≠ CB) (h : CS w w CB ao n cap f A) (hA : A ≤ 1000000) :
    Calls Tryz.prog 46 #[.pointer (some ⟨CB, 0, none⟩), .slice (some ⟨LB, 0, none⟩) l.length l.length] w fun e w' => ∃ x, x ∈ l ∧ e = .returned (.int .i64 x) ∧ CS w w' CB ao n cap f (A + 1) := by
  obtain ⟨a, sd, ha, hC⟩ := h.cu
  refine (among_any l.length hq LB (fun i => l.getD i 0) CB ao n cap a f sd w hC h.cb h.sz (by omega) hL.1 hne hL.2).mono ?_
  rintro e w' ⟨i, hi, rfl, ⟨sd', C'⟩, g⟩
  have e : l.getD i 0 ∈ l := by
    have e : l.getD i 0 = l[i] := by simp [hi]
    rw [e]; exact List.getElem_mem hi
  exact ⟨_, e, rfl, ⟨a + 1, sd', by omega, C'⟩, h.cb0, g, h.lt, h.sz⟩
theorem of_s (l : List ByteArray) (z : Nat) (hq : 2 ≤ l.length ∧ l.length ≤ 200) (hz : ∀ i, i < l.length → (l.getD i ⟨#[]⟩).size ≤ z) (LB : Nat) (hL : LsAt w LB l) (hne : LB ≠ CB) (h : CS w w CB ao n cap f A) (hA : A ≤ 1000000) :
    Calls Tryz.prog 104 #[.pointer (some ⟨CB, 0, none⟩), .slice (some ⟨LB, 0, none⟩) l.length l.length] w fun e w' => ∃ s : ByteArray, s.size ≤ z ∧ e = .returned (.string s) ∧ CS w w' CB ao n cap f (A + 1) := by
  obtain ⟨a, sd, ha, hC⟩ := h.cu
  refine (of_list l z hq hz LB CB ao n cap a f sd w hC h.cb h.sz (by omega) hL hne).mono ?_
  rintro e w' ⟨s, hs, rfl, ⟨sd', C'⟩, g⟩
  exact ⟨s, hs, rfl, ⟨a + 1, sd', by omega, C'⟩, h.cb0, g, h.lt, h.sz⟩
theorem keyText_s (h : CS w w CB ao n cap f A) (hA : A ≤ 1000000) :
    Calls Tryz.prog 102 #[.pointer (some ⟨CB, 0, none⟩)] w fun e w' => ∃ s : ByteArray, s.size ≤ 3 ∧ e = .returned (.string s) ∧ CS w w' CB ao n cap f (A + 1) := by
  obtain ⟨a, sd, ha, hC⟩ := h.cu
  refine (keyText_any CB ao n cap a f sd w hC h.cb h.sz (by omega)).mono ?_
  rintro e w' ⟨s, hs, rfl, ⟨sd', C'⟩, g⟩
  exact ⟨s, hs, rfl, ⟨a + 1, sd', by omega, C'⟩, h.cb0, g, h.lt, h.sz⟩
end
end Go.Proofs.YtohjjigkfdhklaaGreat
namespace Go.Proofs.YtohjjigkfdhklaaGreat
set_option maxRecDepth 100000
open Go.RowKit
set_option linter.unusedSimpArgs false
set_option linter.unusedVariables false

/-- The bucket of a value. -/
def bk (v : Int) : Int :=
  if v < 0 then 0 else if v < 1 then 1 else if v < 10 then 2 else if v < 100 then 3 else if v < 1000 then 4 else if v < 10000 then 5 else if v < 100000 then 6 else 7
def bkAll (v : Int) : Int := if isV v then bk v else -1

def tenTo : Nat → Int
  | 0 => 1
  | k + 1 => tenTo k * 10
theorem tenTo_bd (k : Nat) (h : k ≤ 6) : 1 ≤ tenTo k ∧ tenTo k ≤ 1000000 := by
  have : k = 0 ∨ k = 1 ∨ k = 2 ∨ k = 3 ∨ k = 4 ∨ k = 5 ∨ k = 6 := by omega
  rcases this with rfl | rfl | rfl | rfl | rfl | rfl | rfl <;> simp [tenTo]

set_option maxHeartbeats 800000 in
theorem l4Bucket_any (v : Int) (w : World) (hv : isV v = true) :
    Calls Tryz.prog 131 #[.int .i64 v] w fun e w' => e = .returned (.int .i64 (bk v)) ∧ w' = w := by
  have hb : -1000000000 ≤ v ∧ v ≤ 1000000000 := by simpa [isV, btw] using hv
  by_cases h0 : v < 0
  · go_enter Tryz.func131, Tryz.ntmps131
    go_wp2
    go_ret
    exact ⟨by simp [bk, h0], rfl⟩
  · go_enter Tryz.func131, Tryz.ntmps131
    go_wp2
    go_loopw [3, 4] (fun q t wr => ∃ k : Nat, k ≤ 6 ∧ q = .int .i64 ((k + 1 : Nat) : Int) ∧ t = .int .i64 (tenTo k) ∧ (∀ j, j < k → tenTo j ≤ v) ∧ wr = w) (fun q _ _ => 7 - (intOf q).toNat)
    case atStart => exact ⟨0, by omega, rfl, rfl, by omega, rfl⟩
    case round =>
      obtain ⟨k, hk, rfl, rfl, hle, rfl⟩ := hrel
      have ht := tenTo_bd k hk
      have hfin : ¬ (k < 6 ∧ tenTo k ≤ v) → bk v = ((k + 1 : Nat) : Int) := by
        intro hn
        have hc : k = 0 ∨ k = 1 ∨ k = 2 ∨ k = 3 ∨ k = 4 ∨ k = 5 ∨ k = 6 := by omega
        rcases hc with rfl | rfl | rfl | rfl | rfl | rfl | rfl
        · simp [tenTo] at hn; simp only [bk]; repeat' split
          all_goals omega
        · have := hle 0 (by omega); simp [tenTo] at hn this; simp only [bk]; repeat' split
          all_goals omega
        · have := hle 1 (by omega); simp [tenTo] at hn this; simp only [bk]; repeat' split
          all_goals omega
        · have := hle 2 (by omega); simp [tenTo] at hn this; simp only [bk]; repeat' split
          all_goals omega
        · have := hle 3 (by omega); simp [tenTo] at hn this; simp only [bk]; repeat' split
          all_goals omega
        · have := hle 4 (by omega); simp [tenTo] at hn this; simp only [bk]; repeat' split
          all_goals omega
        · have := hle 5 (by omega); simp [tenTo] at this; simp only [bk]; repeat' split
          all_goals omega
      by_cases h6 : k < 6
      · by_cases hlt : tenTo k ≤ v
        · clear hfin
          go_wp2
          go_roundw
          case rel =>
            refine ⟨k + 1, by omega, by go_num, by go_num, fun j hj => ?_, trivial⟩
            rcases Nat.lt_succ_iff_lt_or_eq.1 hj with h | rfl
            · exact hle j h
            · exact hlt
          case measure => simp [intOf]; omega
        · have e := hfin (by omega)
          clear hfin
          go_wp2
          go_ret
          exact ⟨rfl, rfl⟩
      · have e := hfin (by omega)
        clear hfin
        go_wp2
        go_ret
        exact ⟨rfl, rfl⟩
end Go.Proofs.YtohjjigkfdhklaaGreat
