/- addEntries of one entry, in the program. / The zero agg, in both texts. -/
import Derived.Test.YtiigpmhaicfocaaOe
import Derived.Test.YtiigpmhaicfocaaFd
import Derived.OwnWalk
namespace Go.Proofs.Ytiigpmhaicfocaa
open Go.RowKit
set_option linter.unusedSimpArgs false
set_option linter.unusedVariables false

theorem HOwn.kept {w w' : World} {base : Nat} {hv : Value} {x : Ent} {row : Option Nat} (h : HOwn w base hv x) (hg : w.grownBy w' row) (hne : ∀ k, row = some k → hv.ownBlock ≠ some k) : HOwn w' base hv x := ⟨h.bd, ownsRow_kept h.own hg hne⟩
theorem HOwn.mono {w : World} {base base' : Nat} {hv : Value} {x : Ent} (h : HOwn w base hv x) (hb : base' ≤ base) : HOwn w base' hv x := ⟨h.bd, ownsRow_mono h.own hb⟩
theorem OutE.kept {w w' : World} {base : Nat} {v : Value} {n : Nat} {X : Nat → Ent} {V : Nat → Value} {c : Nat} (h : OutE w base v n X V) (hg : w.grownBy w' (some c)) (h1 : v.ownBlock ≠ some c) (h2 : ∀ i, i < n → (V i).ownBlock ≠ some c) : OutE w' base v n X V :=
  ⟨ownsRow_kept h.own hg (fun k hk e => h1 (by rw [e, ← hk])), fun i hi => (h.row i hi).kept hg (fun k hk e => h2 i hi (by rw [e, ← hk])), h.dis, h.apart⟩
theorem OutE.congr {w : World} {base : Nat} {v : Value} {n : Nat} {X X' : Nat → Ent} {V : Nat → Value} (h : OutE w base v n X V) (e : ∀ i, i < n → X i = X' i) : OutE w base v n X' V := by
  refine ⟨?_, fun i hi => by rw [← e i hi]; exact h.row i hi, h.dis, h.apart⟩
  have e2 : ((List.range n).flatMap fun i => ecells (X' i) (V i)) = ((List.range n).flatMap fun i => ecells (X i) (V i)) := by
    unfold List.flatMap
    congr 1
    exact List.map_congr_left fun i hi => by rw [e i (List.mem_range.1 hi)]
  rw [e2]; exact h.own
theorem others_grown {b : Nat} {w w' : World} (h : Others b w w') : w.grownBy w' (some b) := ⟨h.os, h.tape, h.output, by rw [h.size]; exact Nat.le_refl _, fun i _ hne => h.block i (fun e => hne (by rw [e]))⟩

/-- What one entry put behind leaves. -/
def AddO (base n : Nat) (X : Nat → Ent) (x : Ent) (w : World) (e : Ending) (w' : World) : Prop :=
  ∃ v' V', e = .returned v' ∧ OutE w' base v' (n + 1) (fun i => if i = n then x else X i) V' ∧ Below base w w'

set_option maxRecDepth 100000 in
set_option maxHeartbeats 4000000 in
theorem addOne_any (lo : Option Addr) (lc base n : Nat) (X : Nat → Ent) (V : Nat → Value) (b off cap : Nat) (x : Ent) (ao : Option Addr) (hc : Nat) (w : World) (hO : OutE w base (.slice lo n lc) n X V) (ea : EAt w b off x ao hc) (ir : IRow w ao x.n x.f) (hx : x.n ≤ 1048576) (hn : n ≤ 1048576) (hb : base ≤ w.heap.size) :
    Calls Try.prog 22 #[.slice lo n lc, .slice (some ⟨b, off, none⟩) 1 cap] w fun e w' => AddO base n X x w e w' := by
  have hB1 := below_new w (.cells #[.string x.key, .int .i64 x.seq, .int .i64 x.kind, .int .i64 x.c, .int .i64 x.s, .int .i64 x.lo, .int .i64 x.hi, .slice ao x.n hc, .bool x.fu] 28)
  obtain ⟨hv, w2, hrun, hH, hb2⟩ := hist_run (w.alloc (.cells #[.string x.key, .int .i64 x.seq, .int .i64 x.kind, .int .i64 x.c, .int .i64 x.s, .int .i64 x.lo, .int .i64 x.hi, .slice ao x.n hc, .bool x.fu] 28)) ao hc x (ir.keep hB1) hx 24
  obtain ⟨ho, hoc, rfl, _⟩ := hH.row
  have N2 := (EAt.new w x ao hc 28).keep hb2
  have F2 : ∀ j, w2.frozen? ⟨w.heap.size, j, none⟩ = false := fun j => (hb2.frozen (p := ⟨w.heap.size, j, none⟩) (by simp)).trans (by simp [go_sem])
  have O2 := (hO.keep hB1).keep hb2
  have ltv := hO.own.lt
  have lth := hH.own.lt
  have ltV := fun i hi => (hO.row i hi).own.lt
  have s2 := hb2.size
  simp at s2
  have B2 : Below base w w2 := (hB1.mono hb).trans (hb2.mono (by simp; omega))
  have ot3 : Others w.heap.size w2 (w2.setCell ⟨w.heap.size, 7, none⟩ (.slice ho x.n hoc)) := Others.setCell _ _ _ _
  have O3 : OutE (w2.setCell ⟨w.heap.size, 7, none⟩ (.slice ho x.n hoc)) base (.slice lo n lc) n X V := O2.kept (others_grown ot3) (fun e => by have := (ltv _ e).2; omega) (fun i hi e => by have := (ltV i hi _ e).2; omega)
  have H3 : HOwn (w2.setCell ⟨w.heap.size, 7, none⟩ (.slice ho x.n hoc)) base (.slice ho x.n hoc) x := (hH.kept (others_grown ot3) (fun k hk e => by injection hk with hk; have := (lth k e).1; simp at this; omega)).mono (by simp; omega)
  have B3 : Below base w (w2.setCell ⟨w.heap.size, 7, none⟩ (.slice ho x.n hoc)) := B2.trans (ot3.below hb)
  have s3 := ot3.size
  have hdis : ∀ k, (Value.slice ho x.n hoc).ownBlock = some k → (Value.slice lo n lc).ownBlock ≠ some k ∧ ∀ i, i < n → (V i).ownBlock ≠ some k := fun k hk => by
    have h1 := (lth k hk).1
    simp at h1
    exact ⟨fun e => by have := (ltv k e).2; omega, fun i hi e => by have := (ltV i hi k e).2; omega⟩
  obtain ⟨n0, n1, n2, n3, n4, n5, n6, n7, n8, n9⟩ := N2.z
  obtain ⟨_, a0, a1, a2, a3, a4, a5, a6, a7, a8⟩ := ea
  have b3 : base ≤ (w2.setCell ⟨w.heap.size, 7, none⟩ (.slice ho x.n hoc)).heap.size := by rw [s3]; omega
  have hgv : ∀ k, (Value.slice lo n lc).ownBlock = some k → base ≤ k := fun k hk => (ltv k hk).1
  clear hO hB1 hH hb2 O2 B2 ltv lth ltV ot3 N2
  go_enter Try.func22, Try.ntmps22
  go_wp2
  go_loopw [0, 9] (fun u i wr => (i = .int .i64 0 ∧ u = .slice lo n lc ∧ wr = w) ∨ (i = .int .i64 1 ∧ ∃ V', OutE wr base u (n + 1) (fun i => if i = n then x else X i) V' ∧ Below base w wr)) (fun _ i _ => 1 - (intOf i).toNat)
  case atStart => exact .inl ⟨rfl, rfl, rfl⟩
  case round =>
    rcases hrel with ⟨rfl, rfl, hw0⟩ | ⟨rfl, V', hO', hB'⟩
    · have hw1 := hw0.symm
      clear hw0
      subst hw1
      have t1 : True := trivial
      have t2 : True := trivial
      go_wp2_with (first | (at_builtin; clear t1; refine wpList_append_eq _ rfl (.const (.slice none 0 0)) (.tmp 15) 24 24 rfl rfl (.slice none 0 0) (.slice ao x.n hc) (.slice ho x.n hoc) rfl rfl w2 hrun ?_) | (at_builtin; clear t2; refine wpList_pushE2 (w := (w2.setCell ⟨w.heap.size, 7, none⟩ (.slice ho x.n hoc))) w2.heap.size s3 rfl (.tmp 19) (.tmp 21) rfl base (.slice lo n lc) (.slice ho x.n hoc) n X V x rfl O3 H3 hdis rfl hn b3 rfl ?_; intro v8 w8 O8 g8))
      have B8 : Below base w w8 := (B3.alloc b3 _).grown g8 (by simp; omega) (fun k hk => hgv k hk)
      go_roundw
      case rel => exact .inr ⟨by first | rfl | go_num, _, O8, B8⟩
      case measure => simp [intOf]
    · go_wp2
      go_ret
      exact ⟨_, V', rfl, hO', hB'⟩
end Go.Proofs.Ytiigpmhaicfocaa
namespace Go.Proofs.Ytiigpmhaicfocaa
open Go.RowKit
set_option linter.unusedSimpArgs false
set_option linter.unusedVariables false

/-- The zero agg made anew. -/
def NewZ (w : World) (e : Ending) (w' : World) : Prop :=
  ∃ g, e = .returned (.agg #[.int .i64 0, .int .i64 0, .int .i64 0, .int .i64 0, .slice (some ⟨g, 0, none⟩) 8 8, .bool false]) ∧ w.heap.size ≤ g ∧ IOwn w' g 0 8 (fun _ => 0) ∧ Below w.heap.size w w'
theorem iown_others {d : Nat} {w w' : World} {g n : Nat} {f : Nat → Int} (h : IOwn w g 0 n f) (ho : Others d w w') (hne : g ≠ d) : IOwn w' g 0 n f := ho.irow h hne

set_option maxRecDepth 100000 in
set_option maxHeartbeats 1000000 in
theorem l4Zero_any (w : World) : Calls Try.prog 54 #[] w fun e w' => NewZ w e w' := by
  obtain ⟨i0, hi, hz0, hz1, hz2⟩ := info_parts Try.infoInt
  have hB := below_new w (.cells #[.int .i64 0, .int .i64 0, .int .i64 0, .int .i64 0, .slice none 0 0, .bool false] 26)
  have N0 := AAt.new w 0 0 0 0 (.slice none 0 0) false 26
  have F0 : ∀ j, (w.alloc (.cells #[.int .i64 0, .int .i64 0, .int .i64 0, .int .i64 0, .slice none 0 0, .bool false] 26)).frozen? ⟨w.heap.size, j, none⟩ = false := fun j => by simp [go_sem]
  go_enter Try.func54, Try.ntmps54
  go_wp2_with (at_make; generalize w.alloc (.cells #[.int .i64 0, .int .i64 0, .int .i64 0, .int .i64 0, .slice none 0 0, .bool false] 26) = w0 at hB N0 F0 ⊢; refine wpList_make_full _ rfl (.const (.int .i64 8)) (.const (.int .i64 8)) 24 rfl w0.heap.size 3 i0 (.int .i64 0) 1 Try.underlying24 hi hz0 hz1 .i64 .i64 _ _ 8 rfl rfl rfl rfl (by rw [hz2]; omega) (by unfold maxLen; omega) (Nat.le_refl _) ?_; intro w1 hown hgrow; have hb1 : Below w0.heap.size w0 w1 := (Below.refl _ _).grown hgrow (Nat.le_refl _) (fun k h => by simp at h); have N1 := N0.keep hb1; have F1 : ∀ j, w1.frozen? ⟨w.heap.size, j, none⟩ = false := fun j => (hb1.frozen (p := ⟨w.heap.size, j, none⟩) N0.lt).trans (F0 j); obtain ⟨_, n0, n1, n2, n3, n4, n5⟩ := N1)
  have hlt1 : w0.heap.size < w1.heap.size := by
    rcases hown.2 with ⟨h, _⟩ | ⟨g', cap', cur, h, _, hg, _⟩
    · simp at h
    · simp at h; obtain ⟨rfl, _⟩ := h
      exact (Array.getElem?_eq_some_iff.1 hg).1
  have ho := iown_of_made hown hlt1
  have hl0 := N0.lt
  clear hown hgrow
  refine bodyPost_ret (v := .agg #[.int .i64 0, .int .i64 0, .int .i64 0, .int .i64 0, .slice (some ⟨w0.heap.size, 0, none⟩) 8 8, .bool false]) (by simp [results, Try.results54, go_sem, n0, n1, n2, n3, n4, n5]) rfl ⟨w0.heap.size, rfl, hB.size, ?_, ?_⟩
  · repeat' refine iown_others ?_ (Others.setCell _ _ _ _) (by omega)
    exact ho
  · repeat' refine Below.setCell ?_ (by first | (simp; done) | (simp; omega)) _
    exact hB.trans (hb1.mono hB.size)
end Go.Proofs.Ytiigpmhaicfocaa
