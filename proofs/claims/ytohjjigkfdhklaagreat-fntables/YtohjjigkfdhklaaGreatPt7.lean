/- The writer of a table: a part is put. -/
import Derived.Test.YtohjjigkfdhklaaGreatXp
import Derived.Test.YtohjjigkfdhklaaGreatAd
import Derived.Maps.AppendAt
import Derived.Deep.RegionHeld3
import Derived.Deep.RegionLaw
import Derived.Deep.CutRange
import Derived.Deep.DeepCutAuto
namespace Go.Proofs.YtohjjigkfdhklaaGreat
set_option maxRecDepth 100000
open Go.RowKit
set_option linter.unusedSimpArgs false
set_option linter.unusedVariables false

/-- The cells of rows of an index. -/
def xcells (K : Nat → ByteArray) (A B : Nat → Int) (i : Nat) : List Value := [.string (K i), .int .i64 (A i), .int .i64 (B i)]
def xrows (K : Nat → ByteArray) (A B : Nat → Int) : Nat → List Value
  | 0 => []
  | j + 1 => xrows K A B j ++ xcells K A B j
theorem xrows_len (K : Nat → ByteArray) (A B : Nat → Int) (j : Nat) : (xrows K A B j).length = j * 3 := by
  induction j with
  | zero => rfl
  | succ j ih => simp only [xrows, List.length_append, ih, xcells, List.length_cons, List.length_nil]; omega
theorem xrows_get (K : Nat → ByteArray) (A B : Nat → Int) (j i k : Nat) (hi : i < j) (hk : k < 3) : (xrows K A B j)[i * 3 + k]? = (xcells K A B i)[k]? := by
  induction j with
  | zero => omega
  | succ j ih =>
    rw [xrows]
    by_cases h : i < j
    · rw [List.getElem?_append_left (by rw [xrows_len]; omega)]
      exact ih h
    · obtain rfl : i = j := by omega
      rw [List.getElem?_append_right (by rw [xrows_len]; omega), xrows_len]
      congr 1
      omega

/-- The writer in block W: its bytes v, its index iv, the three numbers of the end. -/
structure WAt (w : World) (W : Nat) (v iv : Value) (fa ia en : Int) : Prop where
  lt : W < w.heap.size
  c0 : w.cell? ⟨W, 0, none⟩ = some v
  c1 : w.cell? ⟨W, 1, none⟩ = some iv
  c2 : w.cell? ⟨W, 2, none⟩ = some (.int .i64 fa)
  c3 : w.cell? ⟨W, 3, none⟩ = some (.int .i64 ia)
  c4 : w.cell? ⟨W, 4, none⟩ = some (.int .i64 en)
  fz : ∀ j, w.frozen? ⟨W, j, none⟩ = false
theorem WAt.block {w w' : World} {W : Nat} {v iv : Value} {fa ia en : Int} (h : WAt w W v iv fa ia en) (hs : w.heap.size ≤ w'.heap.size) (hb : w'.heap[W]? = w.heap[W]?) : WAt w' W v iv fa ia en :=
  have cl : ∀ j, w'.cell? ⟨W, j, none⟩ = w.cell? ⟨W, j, none⟩ := fun j => World.cell?_of_block (w := w) (a := ⟨W, j, none⟩) hb
  ⟨Nat.lt_of_lt_of_le h.lt hs, (cl _).trans h.c0, (cl _).trans h.c1, (cl _).trans h.c2, (cl _).trans h.c3, (cl _).trans h.c4, fun j => (World.frozen?_of_block (w := w) (a := ⟨W, j, none⟩) hb).trans (h.fz j)⟩
theorem WAt.grown {w w' : World} {W : Nat} {v iv : Value} {fa ia en : Int} {row : Option Nat} (h : WAt w W v iv fa ia en) (hg : w.grownBy w' row) (hne : row ≠ some W) : WAt w' W v iv fa ia en := h.block hg.size (hg.block W h.lt (fun e => hne e.symm))
theorem WAt.keep {w w' : World} {W : Nat} {v iv : Value} {fa ia en : Int} (h : WAt w W v iv fa ia en) (hb : Below w.heap.size w w') : WAt w' W v iv fa ia en := h.block hb.size (hb.block W h.lt)
theorem WAt.drew {w : World} {W : Nat} {v iv : Value} {fa ia en : Int} (h : WAt w W v iv fa ia en) : WAt w.drew W v iv fa ia en := h.keep (Below.refl _ _).drew
section
variable {w : World} {W : Nat} {v iv : Value} {fa ia en : Int}
theorem WAt.set0 (h : WAt w W v iv fa ia en) (x : Value) : WAt (w.setCell ⟨W, 0, none⟩ x) W x iv fa ia en :=
  ⟨by simpa using h.lt, World.cell?_setCell_same _ _ _ h.c0, (World.cell?_setCell_other _ _ _ _ (by simp)).trans h.c1, (World.cell?_setCell_other _ _ _ _ (by simp)).trans h.c2, (World.cell?_setCell_other _ _ _ _ (by simp)).trans h.c3, (World.cell?_setCell_other _ _ _ _ (by simp)).trans h.c4, fun j => by simpa using h.fz j⟩
theorem WAt.set1 (h : WAt w W v iv fa ia en) (x : Value) : WAt (w.setCell ⟨W, 1, none⟩ x) W v x fa ia en :=
  ⟨by simpa using h.lt, (World.cell?_setCell_other _ _ _ _ (by simp)).trans h.c0, World.cell?_setCell_same _ _ _ h.c1, (World.cell?_setCell_other _ _ _ _ (by simp)).trans h.c2, (World.cell?_setCell_other _ _ _ _ (by simp)).trans h.c3, (World.cell?_setCell_other _ _ _ _ (by simp)).trans h.c4, fun j => by simpa using h.fz j⟩
theorem WAt.set2 (h : WAt w W v iv fa ia en) (x : Int) : WAt (w.setCell ⟨W, 2, none⟩ (.int .i64 x)) W v iv x ia en :=
  ⟨by simpa using h.lt, (World.cell?_setCell_other _ _ _ _ (by simp)).trans h.c0, (World.cell?_setCell_other _ _ _ _ (by simp)).trans h.c1, World.cell?_setCell_same _ _ _ h.c2, (World.cell?_setCell_other _ _ _ _ (by simp)).trans h.c3, (World.cell?_setCell_other _ _ _ _ (by simp)).trans h.c4, fun j => by simpa using h.fz j⟩
theorem WAt.set3 (h : WAt w W v iv fa ia en) (x : Int) : WAt (w.setCell ⟨W, 3, none⟩ (.int .i64 x)) W v iv fa x en :=
  ⟨by simpa using h.lt, (World.cell?_setCell_other _ _ _ _ (by simp)).trans h.c0, (World.cell?_setCell_other _ _ _ _ (by simp)).trans h.c1, (World.cell?_setCell_other _ _ _ _ (by simp)).trans h.c2, World.cell?_setCell_same _ _ _ h.c3, (World.cell?_setCell_other _ _ _ _ (by simp)).trans h.c4, fun j => by simpa using h.fz j⟩
theorem WAt.set4 (h : WAt w W v iv fa ia en) (x : Int) : WAt (w.setCell ⟨W, 4, none⟩ (.int .i64 x)) W v iv fa ia x :=
  ⟨by simpa using h.lt, (World.cell?_setCell_other _ _ _ _ (by simp)).trans h.c0, (World.cell?_setCell_other _ _ _ _ (by simp)).trans h.c1, (World.cell?_setCell_other _ _ _ _ (by simp)).trans h.c2, (World.cell?_setCell_other _ _ _ _ (by simp)).trans h.c3, World.cell?_setCell_same _ _ _ h.c4, fun j => by simpa using h.fz j⟩
end
/-- The writer and what it holds. -/
structure TS (base : Nat) (w : World) (W : Nat) (v : Value) (L : List Int) (iv : Value) (K : Nat → ByteArray) (A B : Nat → Int) (J : Nat) (fa ia en : Int) : Prop where
  at' : WAt w W v iv fa ia en
  own : OwnL w base v L
  idx : w.ownsRow base 127 3 iv J (xrows K A B J)
  hb : base ≤ W
  nv : v.ownBlock ≠ some W
  ni : iv.ownBlock ≠ some W
  dis : ∀ g, v.ownBlock = some g → iv.ownBlock ≠ some g

/-- What a put leaves of the rest. -/
structure Md (W : Nat) (w : World) (v iv : Value) (w' : World) (v' iv' : Value) : Prop where
  os : w'.os = w.os
  tape : w'.tape = w.tape
  output : w'.output = w.output
  size : w.heap.size ≤ w'.heap.size
  block : ∀ k, k < w.heap.size → k ≠ W → v.ownBlock ≠ some k → iv.ownBlock ≠ some k → w'.heap[k]? = w.heap[k]?
  nv : NB w v v'
  ni : NB w iv iv'

theorem step_append_ty {P : Program} {w : World} {ops : Array Oper} {o : Oper} {a : Act} {K : Act → World → Prop} {Q : Exit → Act → World → Prop} {E : Prop} (hgd : o.guard = none) (s x : Operand) (t ty : TypeId)
    (ho : o.op = .call { callee := .builtin .append, args := #[s, x], argTypes := #[t, t] }) (hty : o.type = ty) (u v r : Value) (hs : a.eval s = u) (hx : a.eval x = v) (w' : World) (hrun : (Builtin.append_ #[t, t] ty #[u, v]).run P w = .ok r w') (h : K (a.put o.dst r) w') :
    if Region.wanted o (yielded ops a.tmps) = true then Oper.wp P o a w K Q else E := by
  have hw : Region.wanted o (yielded ops a.tmps) = true := by simp [Region.wanted, hgd]
  rw [if_pos hw]
  unfold Oper.wp execOp
  simp only [ho, hty, resolve, invoke, builtin, Sem.run_bind, Sem.run_pure, Result.andThen_ok, List.map_toArray, List.map_cons, List.map_nil, hs, hx, hrun]
  exact h

/-- The call of last, as one step of a statement whose order is open. -/
theorem step_last {w : World} {ops : Array Oper} {o : Oper} {a : Act} {K : Act → World → Prop} {Q : Exit → Act → World → Prop} {E : Prop} (hgd : o.guard = none)
    (ho : o.op = .call { callee := .value (.func 67), args := #[.tmp 34], argTypes := #[94] }) (v r : Value) (hx : a.eval (.tmp 34) = v) (hc : Calls Tryz.prog 67 #[v] w fun e w' => e = .returned r ∧ w' = w) (h : K (a.put o.dst r) w) :
    if Region.wanted o (yielded ops a.tmps) = true then Oper.wp Tryz.prog o a w K Q else E := by
  have hw : Region.wanted o (yielded ops a.tmps) = true := by simp [Region.wanted, hgd]
  rw [if_pos hw]
  have hx' : a.tmps.getD 34 undef = v := hx
  unfold Oper.wp execOp
  simp only [ho, resolve, Act.eval, hx']
  go_simp
  refine hc.mono ?_
  rintro e w' ⟨rfl, rfl⟩
  exact h
theorem Tryz.infoIx : (Tryz.prog.info? 127).map (fun i => (i.zero, i.size, i.bytes)) = some (some (.agg #[.string ByteArray.empty, .int .i64 0, .int .i64 0]), 3, 32) := by kernel_rfl
theorem as_block (a : Option Addr) (n c : Nat) (w : World) : (Instr.typeAssert (.iface 94 (.slice a n c)) 125 94 true).run Tryz.prog w = .ok (.tuple #[.slice a n c, .bool true]) w := by kernel_rfl
theorem as_index1 (a : Option Addr) (n c : Nat) (w : World) : (Instr.typeAssert (.iface 85 (.slice a n c)) 125 94 true).run Tryz.prog w = .ok (.tuple #[.slice none 0 0, .bool false]) w := by kernel_rfl
theorem as_index2 (a : Option Addr) (n c : Nat) (w : World) : (Instr.typeAssert (.iface 85 (.slice a n c)) 125 96 true).run Tryz.prog w = .ok (.tuple #[.agg #[.int .i64 0, .slice none 0 0], .bool false]) w := by kernel_rfl
theorem as_index3 (a : Option Addr) (n c : Nat) (w : World) : (Instr.typeAssert (.iface 85 (.slice a n c)) 125 85 true).run Tryz.prog w = .ok (.tuple #[.slice a n c, .bool true]) w := by kernel_rfl
theorem as_filter1 (y : Int) (a : Option Addr) (n c : Nat) (w : World) : (Instr.typeAssert (.iface 96 (.agg #[.int .i64 y, .slice a n c])) 125 94 true).run Tryz.prog w = .ok (.tuple #[.slice none 0 0, .bool false]) w := by kernel_rfl
theorem as_filter2 (y : Int) (a : Option Addr) (n c : Nat) (w : World) : (Instr.typeAssert (.iface 96 (.agg #[.int .i64 y, .slice a n c])) 125 96 true).run Tryz.prog w = .ok (.tuple #[.agg #[.int .i64 y, .slice a n c], .bool true]) w := by kernel_rfl
theorem as_end1 (p q r : Int) (w : World) : (Instr.typeAssert (.iface 87 (.agg #[.int .i64 p, .int .i64 q, .int .i64 r])) 125 94 true).run Tryz.prog w = .ok (.tuple #[.slice none 0 0, .bool false]) w := by kernel_rfl
theorem as_end2 (p q r : Int) (w : World) : (Instr.typeAssert (.iface 87 (.agg #[.int .i64 p, .int .i64 q, .int .i64 r])) 125 96 true).run Tryz.prog w = .ok (.tuple #[.agg #[.int .i64 0, .slice none 0 0], .bool false]) w := by kernel_rfl
theorem as_end3 (p q r : Int) (w : World) : (Instr.typeAssert (.iface 87 (.agg #[.int .i64 p, .int .i64 q, .int .i64 r])) 125 85 true).run Tryz.prog w = .ok (.tuple #[.slice none 0 0, .bool false]) w := by kernel_rfl
theorem nil_block (a : Option Addr) (n c : Nat) (w : World) : (nilAhead 317 94 (.slice a n c) "loop.example/g00150/impl.appendTo").run Tryz.prog w = .ok (some false) w := by kernel_rfl
theorem mth_block (a : Option Addr) (n c : Nat) (w : World) : (method 317 94 (.slice a n c) "loop.example/g00150/impl.appendTo").run Tryz.prog w = .ok (192, .slice a n c) w := by kernel_rfl
theorem nil_index (a : Option Addr) (n c : Nat) (w : World) : (nilAhead 317 85 (.slice a n c) "loop.example/g00150/impl.appendTo").run Tryz.prog w = .ok (some false) w := by kernel_rfl
theorem mth_index (a : Option Addr) (n c : Nat) (w : World) : (method 317 85 (.slice a n c) "loop.example/g00150/impl.appendTo").run Tryz.prog w = .ok (186, .slice a n c) w := by kernel_rfl
theorem nil_filter (y : Int) (a : Option Addr) (n c : Nat) (w : World) : (nilAhead 317 96 (.agg #[.int .i64 y, .slice a n c]) "loop.example/g00150/impl.appendTo").run Tryz.prog w = .ok (some false) w := by kernel_rfl
theorem mth_filter (y : Int) (a : Option Addr) (n c : Nat) (w : World) : (method 317 96 (.agg #[.int .i64 y, .slice a n c]) "loop.example/g00150/impl.appendTo").run Tryz.prog w = .ok (196, .agg #[.int .i64 y, .slice a n c]) w := by kernel_rfl
theorem nil_end (p q r : Int) (w : World) : (nilAhead 317 87 (.agg #[.int .i64 p, .int .i64 q, .int .i64 r]) "loop.example/g00150/impl.appendTo").run Tryz.prog w = .ok (some false) w := by kernel_rfl
theorem mth_end (p q r : Int) (w : World) : (method 317 87 (.agg #[.int .i64 p, .int .i64 q, .int .i64 r]) "loop.example/g00150/impl.appendTo").run Tryz.prog w = .ok (189, .agg #[.int .i64 p, .int .i64 q, .int .i64 r]) w := by kernel_rfl

set_option maxHeartbeats 800000 in
theorem last_any (b off m bc : Nat) (Y : Nat → Ent) (w : World) (hr : ERow w (some ⟨b, off, none⟩) m Y) (hm : 1 ≤ m ∧ m ≤ 1048576) :
    Calls Tryz.prog 67 #[.slice (some ⟨b, off, none⟩) m bc] w fun e w' => e = .returned (.string (Y (m - 1)).key) ∧ w' = w := by
  obtain ⟨b', off', e, hblt, hc⟩ := hr.lies.resolve_left (by omega)
  injection e with e
  injection e with e1 e2 _
  subst e1 e2
  obtain ⟨da, dc, hE, _⟩ := hc (m - 1) (by omega)
  have h0 := hE.c0
  obtain ⟨j, rfl⟩ : ∃ j, m = j + 1 := ⟨m - 1, by omega⟩
  rw [Nat.add_sub_cancel] at h0 ⊢
  have hjb : j ≤ 1048576 := by omega
  have hlt : j < j + 1 := by omega
  clear hr hc hE hm
  go_enter Tryz.func67, Tryz.ntmps67
  go_wp2
  go_ret
  exact ⟨rfl, rfl⟩

theorem Md.refl (W : Nat) (w : World) (v iv : Value) : Md W w v iv w v iv := ⟨rfl, rfl, rfl, Nat.le_refl _, fun _ _ _ _ _ => rfl, nb_self _ _, nb_self _ _⟩
theorem Md.set {W j : Nat} {w w' : World} {v iv v' iv' : Value} (h : Md W w v iv w' v' iv') (x : Value) : Md W w v iv (w'.setCell ⟨W, j, none⟩ x) v' iv' :=
  have o := Others.setCell w' W j x
  ⟨o.os.trans h.os, o.tape.trans h.tape, o.output.trans h.output, by rw [o.size]; exact h.size, fun k hk h1 h2 h3 => (o.block k h1).trans (h.block k hk h1 h2 h3), h.nv, h.ni⟩
theorem Md.keep {W : Nat} {w w' w2 : World} {v iv v' iv' : Value} (h : Md W w v iv w' v' iv') (hb : Below w'.heap.size w' w2) : Md W w v iv w2 v' iv' :=
  ⟨hb.os.trans h.os, hb.tape.trans h.tape, hb.output.trans h.output, Nat.le_trans h.size hb.size, fun k hk h1 h2 h3 => (hb.block k (Nat.lt_of_lt_of_le hk h.size)).trans (h.block k hk h1 h2 h3), h.nv, h.ni⟩
theorem Md.growV {W : Nat} {w w' w2 : World} {v iv v' iv' v2 : Value} (h : Md W w v iv w' v' iv') (hg : w'.grownBy w2 v'.ownBlock) (hn : NB w' v' v2) : Md W w v iv w2 v2 iv' :=
  ⟨hg.os.trans h.os, hg.tape.trans h.tape, hg.output.trans h.output, Nat.le_trans h.size hg.size, fun k hk h1 h2 h3 => (hg.block k (Nat.lt_of_lt_of_le hk h.size) (fun e => h.nv.ne h2 hk e.symm)).trans (h.block k hk h1 h2 h3), h.nv.trans hn h.size, h.ni⟩
theorem Md.growI {W : Nat} {w w' w2 : World} {v iv v' iv' v2 : Value} (h : Md W w v iv w' v' iv') (hg : w'.grownBy w2 iv'.ownBlock) (hn : NB w' iv' v2) : Md W w v iv w2 v' v2 :=
  ⟨hg.os.trans h.os, hg.tape.trans h.tape, hg.output.trans h.output, Nat.le_trans h.size hg.size, fun k hk h1 h2 h3 => (hg.block k (Nat.lt_of_lt_of_le hk h.size) (fun e => h.ni.ne h3 hk e.symm)).trans (h.block k hk h1 h2 h3), h.nv, h.ni.trans hn h.size⟩
section
variable {base : Nat} {w w2 : World} {W : Nat} {v iv : Value} {L M : List Int} {K : Nat → ByteArray} {A B : Nat → Int} {J : Nat} {fa ia en : Int}
theorem TS.keep (h : TS base w W v L iv K A B J fa ia en) (hb : Below w.heap.size w w2) : TS base w2 W v L iv K A B J fa ia en :=
  ⟨h.at'.keep hb, h.own.keep hb, ownsRow_keep h.idx hb, h.hb, h.nv, h.ni, h.dis⟩
/-- Bytes are put behind, and the writer holds them. -/
theorem TS.put {v1 : Value} (h : TS base w W v L iv K A B J fa ia en) (ho : OwnL w2 base v1 M) (hg : w.grownBy w2 v.ownBlock) (hn : NB w v v1) : TS base (w2.setCell ⟨W, 0, none⟩ v1) W v1 M iv K A B J fa ia en := by
  have hnv := hn.ne h.nv h.at'.lt
  have hOt := Others.setCell w2 W 0 v1
  refine ⟨(h.at'.grown hg h.nv).set0 v1, ho.kept (others_grown hOt) (fun k e => by injection e with e; subst e; exact hnv), ?_, h.hb, hnv, h.ni, fun g e1 e2 => ?_⟩
  · refine ownsRow_kept (ownsRow_kept h.idx hg (fun k e e' => h.dis k e e')) (others_grown hOt) (fun k e => by injection e with e; subst e; exact h.ni)
  · rcases hn with hn | ⟨G, hn, hG⟩
    · exact h.dis g (hn.symm.trans e1) e2
    · have := (h.idx.lt g e2).2
      rw [hn] at e1
      injection e1 with e1
      omega
/-- A row is put behind the index, and the writer holds it. -/
theorem TS.push {iv2 : Value} (h : TS base w W v L iv K A B J fa ia en) (ho : w2.ownsRow base 127 3 iv2 (J + 1) (xrows K A B (J + 1))) (hg : w.grownBy w2 iv.ownBlock) (hn : NB w iv iv2) : TS base (w2.setCell ⟨W, 1, none⟩ iv2) W v L iv2 K A B (J + 1) fa ia en := by
  have hni := hn.ne h.ni h.at'.lt
  have hOt := Others.setCell w2 W 1 iv2
  refine ⟨(h.at'.grown hg h.ni).set1 iv2, (h.own.kept hg (fun k e e' => h.dis k e' e)).kept (others_grown hOt) (fun k e => by injection e with e; subst e; exact h.nv), ownsRow_kept ho (others_grown hOt) (fun k e => by injection e with e; subst e; exact hni), h.hb, h.nv, hni, fun g e1 e2 => ?_⟩
  rcases hn with hn | ⟨G, hn, hG⟩
  · exact h.dis g e1 (hn.symm.trans e2)
  · have := (h.own.lt g e1).2
    rw [hn] at e2
    injection e2 with e2
    omega
theorem TS.moved {j : Nat} {x : Value} (h : TS base w W v L iv K A B J fa ia en) {fa' ia' en' : Int} (ha : WAt (w.setCell ⟨W, j, none⟩ x) W v iv fa' ia' en') : TS base (w.setCell ⟨W, j, none⟩ x) W v L iv K A B J fa' ia' en' := by
  have hOt := Others.setCell w W j x
  exact ⟨ha, h.own.kept (others_grown hOt) (fun k e => by injection e with e; subst e; exact h.nv), ownsRow_kept h.idx (others_grown hOt) (fun k e => by injection e with e; subst e; exact h.ni), h.hb, h.nv, h.ni, h.dis⟩
end
/-- Behind the first statement: the part's bytes lie behind, and the writer holds them. -/
def Put1 (base W : Nat) (w : World) (v iv : Value) (fa ia en : Int) (M : List Int) (wx : World) : Prop :=
  ∃ w1 a1 q1, wx = w1.setCell ⟨W, 0, none⟩ (.slice a1 M.length q1) ∧ OwnL w1 base (.slice a1 M.length q1) M ∧ w.drew.grownBy w1 v.ownBlock ∧ NB w.drew v (.slice a1 M.length q1) ∧ WAt w1 W v iv fa ia en

end Go.Proofs.YtohjjigkfdhklaaGreat
