/- addEntries of one entry, in the program. -/
import Derived.Test.YtohjjigkfdhklaaGreatOe
namespace Go.Proofs.YtohjjigkfdhklaaGreat
set_option maxRecDepth 100000
open Go.RowKit
set_option linter.unusedSimpArgs false
set_option linter.unusedVariables false

theorem HOwn.kept {w w' : World} {base : Nat} {hv : Value} {x : Ent} {row : Option Nat} (h : HOwn w base hv x) (hg : w.grownBy w' row) (hne : ∀ k, row = some k → hv.ownBlock ≠ some k) : HOwn w' base hv x := ⟨h.bd, ownsRow_kept h.own hg hne⟩
theorem HOwn.mono {w : World} {base base' : Nat} {hv : Value} {x : Ent} (h : HOwn w base hv x) (hb : base' ≤ base) : HOwn w base' hv x := ⟨h.bd, ownsRow_mono h.own hb⟩
theorem OutE.kept {w w' : World} {base : Nat} {v : Value} {n : Nat} {X : Nat → Ent} {V : Nat → Value} {c : Nat} (h : OutE w base v n X V) (hg : w.grownBy w' (some c)) (h1 : v.ownBlock ≠ some c) (h2 : ∀ i, i < n → (V i).ownBlock ≠ some c) : OutE w' base v n X V :=
  ⟨ownsRow_kept h.own hg (fun k hk e => h1 (by rw [e, ← hk])), fun i hi => (h.row i hi).kept hg (fun k hk e => h2 i hi (by rw [e, ← hk])), h.dis, h.apart⟩
theorem OutE.congr {w : World} {base : Nat} {v : Value} {n : Nat} {X X' : Nat → Ent} {V : Nat → Value} (h : OutE w base v n X V) (e : ∀ i, i < n → X i = X' i) : OutE w base v n X' V := by
  refine ⟨?_, fun i hi => by rw [← e i hi]; exact h.row i hi, h.dis, h.apart⟩
  have e2 : ((List.range n).flatMap fun i => ecells (X' i) (V i)) = ((List.range n).flatMap fun i => ecells (X i) (V i)) := by
    unfold List.flatMap
    congr 1
    exact List.map_congr_left fun i hi => by rw [e i (List.mem_range.1 hi)]
  rw [e2]; exact h.own
theorem others_grown {b : Nat} {w w' : World} (h : Others b w w') : w.grownBy w' (some b) := ⟨h.os, h.tape, h.output, by rw [h.size]; exact Nat.le_refl _, fun i _ hne => h.block i (fun e => hne (by rw [e]))⟩

/-- What one entry put behind leaves. -/
def AddO (base n : Nat) (X : Nat → Ent) (x : Ent) (w : World) (e : Ending) (w' : World) : Prop :=
  ∃ v' V', e = .returned v' ∧ OutE w' base v' (n + 1) (fun i => if i = n then x else X i) V' ∧ Below base w w'

set_option maxRecDepth 100000 in
set_option maxHeartbeats 4000000 in
theorem addOne_any (lo : Option Addr) (lc base n : Nat) (X : Nat → Ent) (V : Nat → Value) (b off cap : Nat) (x : Ent) (ao : Option Addr) (hc : Nat) (w : World) (hO : OutE w base (.slice lo n lc) n X V) (ea : EAt w b off x ao hc) (ir : IRow w ao x.n x.f) (hx : x.n ≤ 1048576) (hn : n ≤ 1048576) (hb : base ≤ w.heap.size) :
    Calls Tryz.prog 95 #[.slice lo n lc, .slice (some ⟨b, off, none⟩) 1 cap] w fun e w' => AddO base n X x w e w' := by
  have hB1 := below_new w (.cells #[.string x.key, .int .i64 x.seq, .int .i64 x.kind, .int .i64 x.c, .int .i64 x.s, .int .i64 x.lo, .int .i64 x.hi, .slice ao x.n hc, .bool x.fu] 35)
  obtain ⟨hv, w2, hrun, hH, hb2⟩ := hist_run (w.alloc (.cells #[.string x.key, .int .i64 x.seq, .int .i64 x.kind, .int .i64 x.c, .int .i64 x.s, .int .i64 x.lo, .int .i64 x.hi, .slice ao x.n hc, .bool x.fu] 35)) ao hc x (ir.keep hB1) hx 31
  obtain ⟨ho, hoc, rfl, _⟩ := hH.row
  have N2 := (EAt.new w x ao hc 35).keep hb2
  have F2 : ∀ j, w2.frozen? ⟨w.heap.size, j, none⟩ = false := fun j => (hb2.frozen (p := ⟨w.heap.size, j, none⟩) (by simp)).trans (by simp [go_sem])
  have O2 := (hO.keep hB1).keep hb2
  have ltv := hO.own.lt
  have lth := hH.own.lt
  have ltV := fun i hi => (hO.row i hi).own.lt
  have s2 := hb2.size
  simp at s2
  have B2 : Below base w w2 := (hB1.mono hb).trans (hb2.mono (by simp; omega))
  have ot3 : Others w.heap.size w2 (w2.setCell ⟨w.heap.size, 7, none⟩ (.slice ho x.n hoc)) := Others.setCell _ _ _ _
  have O3 : OutE (w2.setCell ⟨w.heap.size, 7, none⟩ (.slice ho x.n hoc)) base (.slice lo n lc) n X V := O2.kept (others_grown ot3) (fun e => by have := (ltv _ e).2; omega) (fun i hi e => by have := (ltV i hi _ e).2; omega)
  have H3 : HOwn (w2.setCell ⟨w.heap.size, 7, none⟩ (.slice ho x.n hoc)) base (.slice ho x.n hoc) x := (hH.kept (others_grown ot3) (fun k hk e => by injection hk with hk; have := (lth k e).1; simp at this; omega)).mono (by simp; omega)
  have B3 : Below base w (w2.setCell ⟨w.heap.size, 7, none⟩ (.slice ho x.n hoc)) := B2.trans (ot3.below hb)
  have s3 := ot3.size
  have hdis : ∀ k, (Value.slice ho x.n hoc).ownBlock = some k → (Value.slice lo n lc).ownBlock ≠ some k ∧ ∀ i, i < n → (V i).ownBlock ≠ some k := fun k hk => by
    have h1 := (lth k hk).1
    simp at h1
    exact ⟨fun e => by have := (ltv k e).2; omega, fun i hi e => by have := (ltV i hi k e).2; omega⟩
  obtain ⟨n0, n1, n2, n3, n4, n5, n6, n7, n8, n9⟩ := N2.z
  obtain ⟨_, a0, a1, a2, a3, a4, a5, a6, a7, a8⟩ := ea
  have b3 : base ≤ (w2.setCell ⟨w.heap.size, 7, none⟩ (.slice ho x.n hoc)).heap.size := by rw [s3]; omega
  have hgv : ∀ k, (Value.slice lo n lc).ownBlock = some k → base ≤ k := fun k hk => (ltv k hk).1
  clear hO hB1 hH hb2 O2 B2 ltv lth ltV ot3 N2
  go_enter Tryz.func95, Tryz.ntmps95
  go_wp2
  go_loopw [0, 9] (fun u i wr => (i = .int .i64 0 ∧ u = .slice lo n lc ∧ wr = w) ∨ (i = .int .i64 1 ∧ ∃ V', OutE wr base u (n + 1) (fun i => if i = n then x else X i) V' ∧ Below base w wr)) (fun _ i _ => 1 - (intOf i).toNat)
  case atStart => exact .inl ⟨rfl, rfl, rfl⟩
  case round =>
    rcases hrel with ⟨rfl, rfl, hw0⟩ | ⟨rfl, V', hO', hB'⟩
    · have hw1 := hw0.symm
      clear hw0
      subst hw1
      have t1 : True := trivial
      have t2 : True := trivial
      go_wp2_with (first | (at_builtin; clear t1; refine wpList_append_eq _ rfl (.const (.slice none 0 0)) (.tmp 15) 31 31 rfl rfl (.slice none 0 0) (.slice ao x.n hc) (.slice ho x.n hoc) rfl rfl w2 hrun ?_) | (at_builtin; clear t2; refine wpList_pushE2 (w := (w2.setCell ⟨w.heap.size, 7, none⟩ (.slice ho x.n hoc))) w2.heap.size s3 rfl (.tmp 19) (.tmp 21) rfl base (.slice lo n lc) (.slice ho x.n hoc) n X V x rfl O3 H3 hdis rfl hn b3 rfl ?_; intro v8 w8 O8 g8))
      have B8 : Below base w w8 := (B3.alloc b3 _).grown g8 (by simp; omega) (fun k hk => hgv k hk)
      go_roundw
      case rel => exact .inr ⟨by first | rfl | go_num, _, O8, B8⟩
      case measure => simp [intOf]
    · go_wp2
      go_ret
      exact ⟨_, V', rfl, hO', hB'⟩
end Go.Proofs.YtohjjigkfdhklaaGreat
