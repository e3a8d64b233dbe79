/- Ints that the call itself gathers by append. / Files and draws for a crash, drawn. -/
import Derived.Test.YtiojjihonmonkaaDoorInts
import Derived.Test.YtiojjihonmonkaaDoorLists
import Derived.Test.YtiojjihonmonkaaDoorDr
namespace Go.Proofs.YtiojjihonmonkaaDoor
open Go.RowKit
set_option linter.unusedSimpArgs false
set_option linter.unusedVariables false


/-- Ints as cells. -/
def vi (L : List Int) : List Value := L.map fun x => Value.int .i64 x
/-- Ints, each an int. -/
def Ib (L : List Int) : Prop := ∀ x ∈ L, -9223372036854775808 ≤ x ∧ x ≤ 9223372036854775807
def fi (L : List Int) (i : Nat) : Int := L.getD i 0
theorem vi_get {L : List Int} {i : Nat} (h : i < L.length) : (vi L)[i]? = some (.int .i64 (fi L i)) := by
  simp [vi, fi, List.getElem?_eq_getElem h]
theorem Ib.fi {L : List Int} (h : Ib L) (i : Nat) : -9223372036854775808 ≤ fi L i ∧ fi L i ≤ 9223372036854775807 := by
  unfold Go.Proofs.YtiojjihonmonkaaDoor.fi
  by_cases hi : i < L.length
  · have := h (L[i]) (List.getElem_mem hi)
    simpa [hi] using this
  · simp [hi]
theorem Ib.push {L : List Int} (h : Ib L) {x : Int} (hx : -9223372036854775808 ≤ x ∧ x ≤ 9223372036854775807) : Ib (L ++ [x]) := fun y hy => by
  rcases List.mem_append.1 hy with hy | hy
  · exact h y hy
  · rw [List.mem_singleton.1 hy]; exact hx
theorem ib_nil : Ib [] := fun x hx => by cases hx

/-- v is a slice of the call's own (all of it lies in a block from base on) that holds L. -/
structure OwnI (w : World) (base : Nat) (v : Value) (L : List Int) : Prop where
  bd : Ib L
  own : w.ownsRow base 3 1 v L.length (vi L)
theorem ownI_nil (w : World) (base : Nat) : OwnI w base (.slice none 0 0) [] := ⟨ib_nil, World.ownsRow_nil _ _ _ _⟩
section
variable {w w' : World} {base : Nat} {v : Value} {L : List Int}
theorem OwnI.form (h : OwnI w base v L) : ∃ ao cap, v = .slice ao L.length cap ∧ L.length ≤ cap ∧ IRow w ao L.length (fi L) := by
  have ho := h.own
  rcases ho.2 with ⟨rfl, h0⟩ | ⟨g, cap, cur, rfl, hbg, hg, hnc, _⟩
  · exact ⟨none, 0, by rw [h0], by omega, h.bd.fi, .inl h0⟩
  · refine ⟨some ⟨g, 0, none⟩, cap, rfl, hnc, h.bd.fi, .inr ⟨g, 0, rfl, (Array.getElem?_eq_some_iff.1 hg).1, fun i hi => ?_⟩⟩
    rw [Nat.zero_add, ho.cellAt i (by omega), vi_get hi]
theorem OwnI.own' (h : OwnI w base v L) (hn : 0 < L.length) : ∃ g cap, v = .slice (some ⟨g, 0, none⟩) L.length cap ∧ base ≤ g ∧ L.length ≤ cap ∧ IOwn w g 0 L.length (fi L) := by
  have ho := h.own
  rcases ho.2 with ⟨_, h0⟩ | ⟨g, cap, cur, rfl, hbg, hg, hnc, _⟩
  · omega
  · refine ⟨g, cap, rfl, hbg, hnc, h.bd.fi, (Array.getElem?_eq_some_iff.1 hg).1, fun i hi => ?_, fun i _ => by simpa using ho.frozenAt i⟩
    rw [Nat.zero_add, ho.cellAt i (by omega), vi_get hi]
theorem OwnI.nil_of (h : OwnI w base v L) (h0 : v = .slice none 0 0) : L = [] := by
  rcases h.own.2 with ⟨_, h1⟩ | ⟨g, cap, cur, e, _⟩
  · exact List.eq_nil_of_length_eq_zero h1
  · rw [h0] at e; simp at e
theorem OwnI.keep (h : OwnI w base v L) (hb : Below w.heap.size w w') : OwnI w' base v L := by
  refine ⟨h.bd, h.own.1, ?_⟩
  rcases h.own.2 with ⟨rfl, h0⟩ | ⟨g, cap, cur, rfl, h1, h2, h3⟩
  · exact .inl ⟨rfl, h0⟩
  · exact .inr ⟨g, cap, cur, rfl, h1, (hb.block g (Array.getElem?_eq_some_iff.1 h2).1).trans h2, h3⟩
theorem OwnI.below {B : Nat} {wr : World} (ho : OwnI wr base v L) (hb : Below B w wr) (hg : wr.grownBy w' v.ownBlock) (hB : B ≤ base) (hs : B ≤ wr.heap.size) : Below B w w' := by
  refine hb.grown hg hs fun k hk => ?_
  have := (ho.own.lt k hk).1
  omega
end
theorem cell_one_at (w : World) (y : Int) (T : Nat) : ∀ j u, [Value.int .i64 y][j]? = some u → (w.alloc (.cells #[.int .i64 y] T)).cell? ((⟨w.heap.size, 0, none⟩ : Addr).add j) = some u := by
  intro j u hj
  match j with
  | 0 => simp at hj; subst hj; simp [go_sem, Addr.add]
  | j + 1 => simp at hj

theorem OwnI.kept {w w' : World} {base : Nat} {v : Value} {L : List Int} {row : Option Nat} (h : OwnI w base v L) (hg : w.grownBy w' row) (hne : ∀ k, row = some k → v.ownBlock ≠ some k) : OwnI w' base v L := by
  refine ⟨h.bd, h.own.kept hg ?_⟩
  cases hr : v.ownBlock with
  | none => exact .inl rfl
  | some k => exact .inr fun e => hne k e.symm hr
/-- One int put behind. -/
theorem wpList_pushI {w : World} {ops : Array Oper} {rest : List Oper} {o : Oper} {a : Act} {Q : Exit → Act → World → Prop} (hgd : o.guard = none) (s y : Operand)
    (ho : o.op = .call { callee := .builtin .append, args := #[s, y], argTypes := #[26, 26] })
    (base : Nat) (v : Value) (L : List Int) (x : Int) (hs : a.eval s = v) (h : OwnI w base v L) (hx : -9223372036854775808 ≤ x ∧ x ≤ 9223372036854775807)
    (hy : a.eval y = .slice (some ⟨w.heap.size, 0, none⟩) 1 1) (hn : L.length ≤ 1048576) (hbase : base ≤ w.heap.size)
    (hk : ∀ v' w', OwnI w' base v' (L ++ [x]) → (w.alloc (.cells #[.int .i64 x] 3)).grownBy w' v.ownBlock → wpList Tryd.prog ops Q rest (a.put o.dst v') w') :
    wpList Tryd.prog ops Q (o :: rest) a (w.alloc (.cells #[.int .i64 x] 3)) := by
  obtain ⟨i0, hi, hz0, hz1, hz2⟩ := info_parts Tryd.infoInt
  refine wpList_append_own (w := w.alloc (.cells #[.int .i64 x] 3)) hgd s y 26 ho base 3 i0 (.int .i64 0) 1 8 Tryd.underlying26 hi hz0 hz1 hz2 rfl (by decide) v L.length (vi L) hs (h.keep (below_new w _)).own ⟨w.heap.size, 0, none⟩ 1 1 [.int .i64 x] hy rfl (cell_one_at _ _ _) (fun u hu => by rw [List.mem_singleton.1 hu]; rfl) (by unfold maxLen; omega) (by omega) (by simp; omega) ?_
  intro v' w' h1 h2 _
  refine hk v' w' ⟨h.bd.push hx, ?_⟩ h2
  have e : (L ++ [x]).length = L.length + 1 := by simp
  rw [e]
  simpa [vi] using h1
end Go.Proofs.YtiojjihonmonkaaDoor
namespace Go.Proofs.YtiojjihonmonkaaDoor
open Go.RowKit
set_option linter.unusedSimpArgs false
set_option linter.unusedVariables false

/-- Drawn files and drawn ints. -/
def DcO (w : World) (e : Ending) (w' : World) : Prop :=
  ∃ (Q : Int) (p : Option Addr) (m c : Nat) (F : Nat → Fil) (lo : Option Addr) (lc : Nat) (L : List Int), e = .returned (.tuple #[.agg #[.int .i64 Q, .slice p m c], .slice lo L.length lc]) ∧ (-1 ≤ Q ∧ Q ≤ 60001) ∧ Dw m F ∧ SRow w' w.heap.size (.slice p m c) m F ∧ L.length ≤ 3 ∧ L.length ≤ lc ∧ IRow w' lo L.length (fi L) ∧ Below w.heap.size w w'

set_option maxRecDepth 100000 in
set_option maxHeartbeats 8000000 in
theorem drawCrash_any (ao : Option Addr) (n cap : Nat) (f : Nat → Int) (w : World) (hr : Row w ao n f) (hn : n ≤ 1048576) :
    Calls Tryd.prog 4 #[.slice ao n cap] w fun e w' => DcO w e w' := by
  have b1 := below_new w (.cells #[.int .i64 0, .slice none 0 0] 25)
  have R1 := QAt.new w 0 (.slice none 0 0) 25
  have RF1 : ∀ j, (w.alloc (.cells #[.int .i64 0, .slice none 0 0] 25)).frozen? ⟨w.heap.size, j, none⟩ = false := fun j => by simp [go_sem]
  have s1 : (w.alloc (.cells #[.int .i64 0, .slice none 0 0] 25)).heap.size = w.heap.size + 1 := by simp
  go_enter Tryd.func4, Tryd.ntmps4
  go_wp2_with fail
  generalize w.alloc (.cells #[.int .i64 0, .slice none 0 0] 25) = w1 at *
  have b2 := below_new w1 (.cells #[.slice ao n cap, .int .i64 0, .int .u64 0] 40)
  have C2 : CS (w1.alloc (.cells #[.slice ao n cap, .int .i64 0, .int .u64 0] 40)) (w1.alloc (.cells #[.slice ao n cap, .int .i64 0, .int .u64 0] 40)) w1.heap.size ao n cap f 0 := ⟨⟨0, 0, Nat.le_refl _, cu_new w1 _ 40⟩, cb_new (hr.keep b1) _, grown_refl _ _, by simp, hn⟩
  have s2 : (w1.alloc (.cells #[.slice ao n cap, .int .i64 0, .int .u64 0] 40)).heap.size = w.heap.size + 2 := by simp [s1]
  have R2 := R1.keep b2
  have RF2 : ∀ j, (w1.alloc (.cells #[.slice ao n cap, .int .i64 0, .int .u64 0] 40)).frozen? ⟨w.heap.size, j, none⟩ = false := fun j => (b2.frozen (p := ⟨w.heap.size, j, none⟩) R1.lt).trans (RF1 j)
  have bw2 := b1.trans (b2.mono b1.size)
  clear R1 RF1 b1 b2
  generalize w1.alloc (.cells #[.slice ao n cap, .int .i64 0, .int .u64 0] 40) = w2 at *
  rw [s1] at C2
  have l1 : w.heap.size < w.heap.size + 1 := by omega
  have l2 : w.heap.size + 1 < w2.heap.size := by omega
  clear s1 s2
  generalize w.heap.size + 1 = CB at *
  refine (files_any C2 (by omega)).mono ?_
  rintro e w3 ⟨Q, p, m, c, F, rfl, hQ, hD, hS, K3⟩
  have R3 := qat_grown R2 K3.gr (by omega)
  have RF3 := fz_grown RF2 R2.lt K3.gr (by omega)
  have z3 := K3.gr.size
  have bw3 : Below w.heap.size w w3 := bw2.grown K3.gr (by omega) (fun k e => by injection e with e; omega)
  have b4 := below_new w3 (.cells #[.int .i64 Q, .slice p m c] 25)
  have B4 := QAt.new w3 Q (.slice p m c) 25
  have hS4 := hS.keep b4
  have R4 := R3.keep b4
  have RF4 : ∀ j, (w3.alloc (.cells #[.int .i64 Q, .slice p m c] 25)).frozen? ⟨w.heap.size, j, none⟩ = false := fun j => (b4.frozen (p := ⟨w.heap.size, j, none⟩) R3.lt).trans (RF3 j)
  have C4 := K3.keep b4
  have bw4 := bw3.trans (b4.mono bw3.size)
  clear R2 RF2 R3 RF3 K3 C2 bw2 bw3 b4 hS
  go_wp2_with fail
  generalize w3.alloc (.cells #[.int .i64 Q, .slice p m c] 25) = w4 at *
  have l3 : w2.heap.size ≤ w3.heap.size := z3
  clear z3
  generalize w3.heap.size = fb at *
  refine (pick_s 4 (by omega) C4.self (by omega)).mono ?_
  rintro e w5 ⟨x, rfl, x0, x1, K5⟩
  have z5 := K5.gr.size
  have hl4 := B4.lt
  have C5 := C4.trans K5
  have B5 := qat_grown B4 K5.gr (by omega)
  have R5 := qat_grown R4 K5.gr (by omega)
  have RF5 := fz_grown RF4 R4.lt K5.gr (by omega)
  have hS5 := srow_grown hS4 K5.gr (by omega)
  have bw5 : Below w.heap.size w w5 := bw4.grown K5.gr (by omega) (fun k e => by injection e with e; omega)
  obtain ⟨q, rfl⟩ := Int.eq_ofNat_of_zero_le x0
  clear B4 R4 RF4 hS4 bw4 C4 K5
  have hl5 := B5.lt
  go_wp2_with fail
  go_loopw [6, 7] (fun v i wr => ∃ (k : Nat) (L : List Int), k ≤ q ∧ i = .int .i64 k ∧ L.length + k = q ∧ OwnI wr w5.heap.size v L ∧ CS w5 wr CB ao n cap f (601 + (q - k) * 100)) (fun _ i _ => (intOf i).toNat)
  case atStart => exact ⟨q, [], Nat.le_refl _, rfl, by simp, ownI_nil _ _, C5.self.mono (by omega)⟩
  case round =>
    obtain ⟨k, L, hk, rfl, hL, hown, hK⟩ := hrel
    by_cases h0 : 0 < k
    · go_wp2_with fail
      refine (sized_s hK.self (by omega)).mono ?_
      rintro e w6 ⟨y, rfl, hy, K6⟩
      have hK6 := hK.trans K6
      have z6 := hK6.gr.size
      have ho6 := hown.kept K6.gr (fun c e e2 => by injection e with e; have := (hown.own.lt _ e2).1; omega)
      have hK7 := hK6.keep (below_new w6 (.cells #[.int .i64 y] 3))
      clear K6 hown hK
      go_wp2_with (at_builtin; refine wpList_pushI rfl (.tmp 19) (.tmp 22) rfl w5.heap.size _ L y rfl ho6 hy rfl (by omega) (by omega) ?_; intro v8 w8 ho8 hg8)
      have hK8 := hK7.far hg8 (fun c e => (ho6.own.lt _ e).1)
      go_roundw
      case rel => exact ⟨k - 1, _, by omega, by go_num, by simp; omega, ho8, hK8.mono (by omega)⟩
      case measure => simp [intOf]; omega
    · obtain rfl : k = 0 := by omega
      obtain ⟨lo, lc, rfl, hlc, hI⟩ := hown.form
      have B6 := qat_grown B5 hK.gr (by omega)
      have R6 := qat_grown R5 hK.gr (by omega)
      have RF6 := fz_grown RF5 R5.lt hK.gr (by omega)
      have hS6 := srow_grown hS5 hK.gr (by omega)
      have bw6 : Below w.heap.size w wr := bw5.grown hK.gr (by omega) (fun k e => by injection e with e; omega)
      obtain ⟨_, b0, b1⟩ := id B6
      obtain ⟨_, r0, r1⟩ := id R6
      have o := oth2 wr w.heap.size (.int .i64 Q) (.slice p m c)
      have hS7 := (srow_others hS6 o (by omega)).base (show w.heap.size ≤ w2.heap.size by omega)
      have hI7 : IRow ((wr.setCell ⟨w.heap.size, 0, none⟩ (.int .i64 Q)).setCell ⟨w.heap.size, 1, none⟩ (.slice p m c)) lo L.length (fi L) := by
        have ho7 : OwnI ((wr.setCell ⟨w.heap.size, 0, none⟩ (.int .i64 Q)).setCell ⟨w.heap.size, 1, none⟩ (.slice p m c)) w5.heap.size (.slice lo L.length lc) L := hown.kept (row := some w.heap.size) ⟨o.os, o.tape, o.output, by rw [o.size]; exact Nat.le_refl _, fun i _ hn => o.block i (fun e => hn (by rw [e]))⟩ (fun k e e2 => by injection e with e; have := (hown.own.lt _ e2).1; omega)
        obtain ⟨lo', lc', e, _, h2⟩ := ho7.form
        injection e with e1 _ _
        subst e1
        exact h2
      have bw7 := (bw6.setCell (p := ⟨w.heap.size, 0, none⟩) (Nat.le_refl _) (.int .i64 Q)).setCell (p := ⟨w.heap.size, 1, none⟩) (Nat.le_refl _) (.slice p m c)
      clear B5 R5 RF5 hS5 bw5 hS6 hI bw6 B6 R6 hown hK
      go_wp2
      refine bodyPost_ret (v := .tuple #[.agg #[.int .i64 Q, .slice p m c], .slice lo L.length lc]) (by simp [results, Tryd.results4, go_sem, r0, r1]) rfl ⟨Q, p, m, c, F, lo, lc, L, rfl, hQ, hD, hS7, by omega, hlc, hI7, bw7⟩
end Go.Proofs.YtiojjihonmonkaaDoor
