/- A board opened: windows with the set of the dirty ones, in the program. / Told windows: where they lie, measured, copied, compared. (What one holds is told by a window's record, whose last field is not looked at.) -/
import Derived.Test.YtflmbcgokiiedaaCm
import Derived.Test.YtflmbcgokiiedaaCn
import Derived.Deep.RegionHeld3
import Derived.Deep.RegionLaw
import Derived.Test.YtflmbcgokiiedaaWr
namespace Go.Proofs.Ytflmbcgokiiedaa
open Go.RowKit
set_option linter.unusedSimpArgs false
set_option linter.unusedVariables false

theorem step_append_run {P : Program} {w : World} {ops : Array Oper} {o : Oper} {a : Act} {K : Act → World → Prop} {Q : Exit → Act → World → Prop} {E : Prop} (hgd : o.guard = none) (s x : Operand) (t : TypeId)
    (ho : o.op = .call { callee := .builtin .append, args := #[s, x], argTypes := #[t, t] }) (u v r : Value) (hs : a.eval s = u) (hx : a.eval x = v) (w' : World) (hrun : ∀ ty, (Builtin.append_ #[t, t] ty #[u, v]).run P w = .ok r w') (h : K (a.put o.dst r) w') :
    if Region.wanted o (yielded ops a.tmps) = true then Oper.wp P o a w K Q else E := by
  have hw : Region.wanted o (yielded ops a.tmps) = true := by simp [Region.wanted, hgd]
  rw [if_pos hw]
  unfold Oper.wp execOp
  simp only [ho, resolve, invoke, builtin, Sem.run_bind, Sem.run_pure, Result.andThen_ok, List.map_toArray, List.map_cons, List.map_nil, hs, hx, hrun]
  exact h


/-- Windows at work: in block p, the set of the dirty ones in block r, the windows themselves from base on. -/
structure WSt (w : World) (base p r : Nat) (z h mk : Int) (v : Value) (n : Nat) (Y : Nat → Wn) (V : Nat → Value) (S : ByteArray → Prop) : Prop where
  box : BdAt w p z h mk v
  c4 : w.cell? ⟨p, 4, none⟩ = some (.map (some r))
  fz : ∀ j, w.frozen? ⟨p, j, none⟩ = false
  set : KSet w r S
  out : OutW w base v n Y V
  pr : p ≠ r
  pb : p < base
  rb : r < base
section
variable {w w' : World} {base p r n : Nat} {z h mk : Int} {v v' : Value} {Y : Nat → Wn} {V V' : Nat → Value} {S S' : ByteArray → Prop}
theorem WSt.keep (H : WSt w base p r z h mk v n Y V S) (hb : Below w.heap.size w w') : WSt w' base p r z h mk v n Y V S :=
  ⟨H.box.keep hb, (hb.cell (p := ⟨p, 4, none⟩) H.box.lt).trans H.c4, fun j => (hb.frozen (p := ⟨p, j, none⟩) H.box.lt).trans (H.fz j), H.set.keep hb, H.out.keep hb, H.pr, H.pb, H.rb⟩
theorem OutW.thru {d : Nat} (H : OutW w base v n Y V) (ht : Thru d w w') (hd : d < base) : OutW w' base v n Y V := by
  have hg : w.grownBy w' (some d) := ⟨ht.os, ht.tape, ht.output, ht.size, fun i hi hne => ht.block i hi (fun e => hne (by rw [e]))⟩
  have ne : ∀ (u : Value) (e size m : Nat) (xs : List Value), w.ownsRow base e size u m xs → ∀ k, some d = some k → u.ownBlock ≠ some k := fun u e size m xs hu k hk hh => by injection hk with hk; subst hk; have := (hu.lt d hh).1; omega
  exact ⟨ownsRow_kept H.own hg (ne _ _ _ _ _ H.own), fun i hi => ownsRow_kept (H.r0 i hi) hg (ne _ _ _ _ _ (H.r0 i hi)), fun i hi => ownsRow_kept (H.r1 i hi) hg (ne _ _ _ _ _ (H.r1 i hi)), H.dis, H.apart⟩
theorem WSt.reset (H : WSt w base p r z h mk v n Y V S) (ht : Thru r w w') (hs : KSet w' r S') : WSt w' base p r z h mk v n Y V S' := by
  have hb := ht.block p H.box.lt H.pr
  have kc : ∀ j, w'.cell? ⟨p, j, none⟩ = w.cell? ⟨p, j, none⟩ := fun j => World.cell?_of_block (w := w) (a := ⟨p, j, none⟩) hb
  exact ⟨⟨Nat.lt_of_lt_of_le H.box.lt ht.size, (kc _).trans H.box.c0, (kc _).trans H.box.c1, (kc _).trans H.box.c2, (kc _).trans H.box.c3⟩, (kc _).trans H.c4, fun j => (World.frozen?_of_block (w := w) (a := ⟨p, j, none⟩) hb).trans (H.fz j), hs, H.out.thru ht H.rb, H.pr, H.pb, H.rb⟩
/-- The windows put otherwise, by new memory alone, and told in their box. -/
theorem WSt.put (H : WSt w base p r z h mk v n Y V S) {m : Nat} (hg : Below base w w') (ho : OutW w' base v' m Y V') : WSt (w'.setCell ⟨p, 3, none⟩ v') base p r z h mk v' m Y V' S := by
  have pb := H.pb
  have rb := H.rb
  have oth := Others.setCell w' p 3 v'
  have kc : ∀ j, w'.cell? ⟨p, j, none⟩ = w.cell? ⟨p, j, none⟩ := fun j => hg.cell (p := ⟨p, j, none⟩) pb
  have nc : ∀ j, j ≠ 3 → (w'.setCell ⟨p, 3, none⟩ v').cell? ⟨p, j, none⟩ = w.cell? ⟨p, j, none⟩ := fun j hj => (World.cell?_setCell_other _ _ _ _ (by intro hh; injection hh with _ h2 _; omega)).trans (kc j)
  refine ⟨⟨by rw [oth.size]; exact Nat.lt_of_lt_of_le H.box.lt hg.size, (nc 0 (by omega)).trans H.box.c0, (nc 1 (by omega)).trans H.box.c1, (nc 2 (by omega)).trans H.box.c2, World.cell?_setCell_same _ _ _ ((kc 3).trans H.box.c3)⟩, (nc 4 (by omega)).trans H.c4, fun j => by rw [World.frozen?_setCell]; exact (hg.frozen (p := ⟨p, j, none⟩) pb).trans (H.fz j), ?_, ho.others oth pb, H.pr, pb, rb⟩
  exact (H.set.same (hg.block r rb)).same (oth.block r (Ne.symm H.pr))
end

/-- A call of copyKey in a region that draws. -/
theorem step_copyKey {w : World} {ops : Array Oper} {o : Oper} {a : Act} {K : Act → World → Prop} {Q : Exit → Act → World → Prop} {E : Prop} (hgd : o.guard = none) (k : Nat)
    (ho : o.op = .call { callee := .value (.func 70), args := #[.tmp k], argTypes := #[49] }) (x : Wn) (ao : Option Addr) (c : Nat) (hx : a.eval (.tmp k) = .agg #[.string x.m, .slice ao x.tn c, .int .i64 x.st]) (hr : TRow w ao x.tn x.nm x.vl) (hn : x.tn ≤ 1048576)
    (h : ∀ (ha : Option Addr) (hc : Nat) (w' : World), w'.ownsRow w.heap.size 114 2 (.slice ha x.tn hc) x.tn (tcells x.nm x.vl x.tn) → Below w.heap.size w w' → K (a.put o.dst (.agg #[.string x.m, .slice ha x.tn hc, .int .i64 x.st])) w') :
    if Region.wanted o (yielded ops a.tmps) = true then Oper.wp Try.prog o a w K Q else E := by
  have hw : Region.wanted o (yielded ops a.tmps) = true := by simp [Region.wanted, hgd]
  rw [if_pos hw]
  have hx' : a.tmps.getD k undef = .agg #[.string x.m, .slice ao x.tn c, .int .i64 x.st] := hx
  unfold Oper.wp execOp
  simp only [ho, resolve, Act.eval, hx']
  go_simp
  refine (copyKey_any x.m x.st ao x.tn c x.nm x.vl w hr hn).mono ?_
  rintro e w' ⟨hv, rfl, h1, h2⟩
  obtain ⟨ha, hc, rfl⟩ := ownsRow_form h1
  exact h ha hc w' h1 h2
/-- A call of copyAgg in a region that draws. -/
theorem step_copyAgg {w : World} {ops : Array Oper} {o : Oper} {a : Act} {K : Act → World → Prop} {Q : Exit → Act → World → Prop} {E : Prop} (hgd : o.guard = none) (k : Nat)
    (ho : o.op = .call { callee := .value (.func 71), args := #[.tmp k], argTypes := #[52] }) (x : Wn) (ao : Option Addr) (c : Nat) (hx : a.eval (.tmp k) = .agg #[.int .i64 x.c, .int .i64 x.s, .int .i64 x.lo, .int .i64 x.hi, .slice ao x.n c, .bool x.fu]) (hr : IRow w ao x.n x.f) (hn : x.n ≤ 1048576)
    (h : ∀ (ha : Option Addr) (hc : Nat) (w' : World), w'.ownsRow w.heap.size 3 1 (.slice ha x.n hc) x.n (icells x.f x.n) → Below w.heap.size w w' → K (a.put o.dst (.agg #[.int .i64 x.c, .int .i64 x.s, .int .i64 x.lo, .int .i64 x.hi, .slice ha x.n hc, .bool x.fu])) w') :
    if Region.wanted o (yielded ops a.tmps) = true then Oper.wp Try.prog o a w K Q else E := by
  have hw : Region.wanted o (yielded ops a.tmps) = true := by simp [Region.wanted, hgd]
  rw [if_pos hw]
  have hx' : a.tmps.getD k undef = .agg #[.int .i64 x.c, .int .i64 x.s, .int .i64 x.lo, .int .i64 x.hi, .slice ao x.n c, .bool x.fu] := hx
  unfold Oper.wp execOp
  simp only [ho, resolve, Act.eval, hx']
  go_simp
  refine (copyAgg_any x.c x.s x.lo x.hi ao x.n c x.f x.fu w hr hn).mono ?_
  rintro e w' ⟨hv, rfl, h1, h2⟩
  obtain ⟨ha, hc, rfl⟩ := ownsRow_form h1
  exact h ha hc w' h1 h2
end Go.Proofs.Ytflmbcgokiiedaa
namespace Go.Proofs.Ytflmbcgokiiedaa
open Go.RowKit
set_option linter.unusedSimpArgs false
set_option linter.unusedVariables false

/-- A told one in the ten cells from off on. -/
structure ToAt (w : World) (b off : Nat) (x : Wn) (a0 a1 : Option Addr) (k0 k1 : Nat) : Prop where
  lt : b < w.heap.size
  c0 : w.cell? ⟨b, off, none⟩ = some (.string x.m)
  c1 : w.cell? ⟨b, off + 1, none⟩ = some (.slice a0 x.tn k0)
  c2 : w.cell? ⟨b, off + 2, none⟩ = some (.int .i64 x.st)
  c3 : w.cell? ⟨b, off + 3, none⟩ = some (.int .i64 x.ver)
  c4 : w.cell? ⟨b, off + 4, none⟩ = some (.int .i64 x.c)
  c5 : w.cell? ⟨b, off + 5, none⟩ = some (.int .i64 x.s)
  c6 : w.cell? ⟨b, off + 6, none⟩ = some (.int .i64 x.lo)
  c7 : w.cell? ⟨b, off + 7, none⟩ = some (.int .i64 x.hi)
  c8 : w.cell? ⟨b, off + 8, none⟩ = some (.slice a1 x.n k1)
  c9 : w.cell? ⟨b, off + 9, none⟩ = some (.bool x.fu)
section
variable {w w' : World} {b off k0 k1 : Nat} {x : Wn} {a0 a1 : Option Addr}
theorem ToAt.move (h : ToAt w b off x a0 a1 k0 k1) (lt : b < w'.heap.size) (k : ∀ j, w'.cell? ⟨b, j, none⟩ = w.cell? ⟨b, j, none⟩) : ToAt w' b off x a0 a1 k0 k1 :=
  ⟨lt, (k _).trans h.c0, (k _).trans h.c1, (k _).trans h.c2, (k _).trans h.c3, (k _).trans h.c4, (k _).trans h.c5, (k _).trans h.c6, (k _).trans h.c7, (k _).trans h.c8, (k _).trans h.c9⟩
theorem ToAt.keep (h : ToAt w b off x a0 a1 k0 k1) (hb : Below w.heap.size w w') : ToAt w' b off x a0 a1 k0 k1 :=
  h.move (Nat.lt_of_lt_of_le h.lt hb.size) fun j => hb.cell (p := ⟨b, j, none⟩) h.lt
theorem ToAt.others {d : Nat} (h : ToAt w b off x a0 a1 k0 k1) (ho : Others d w w') (hne : b ≠ d) : ToAt w' b off x a0 a1 k0 k1 :=
  h.move (by rw [ho.size]; exact h.lt) fun j => World.cell?_of_block (w := w) (a := ⟨b, j, none⟩) (ho.block b hne)
end
theorem ToAt.new (w : World) (x : Wn) (a0 a1 : Option Addr) (k0 k1 : Nat) (T : Nat) : ToAt (w.alloc (.cells #[.string x.m, .slice a0 x.tn k0, .int .i64 x.st, .int .i64 x.ver, .int .i64 x.c, .int .i64 x.s, .int .i64 x.lo, .int .i64 x.hi, .slice a1 x.n k1, .bool x.fu] T)) w.heap.size 0 x a0 a1 k0 k1 := by
  refine ⟨by simp, ?_, ?_, ?_, ?_, ?_, ?_, ?_, ?_, ?_, ?_⟩ <;> simp [go_sem]

/-- What its type says of a told window. -/
def TlB (x : Wn) : Prop := WiB x
/-- One that is no greater than what is measured. -/
def ToS (x : Wn) : Prop := WiS x

set_option maxHeartbeats 1600000 in
theorem eqTold_same (x : Wn) (a0 a1 e0 e1 : Option Addr) (c0 c1 h0 h1 : Nat) (w : World) (r0 : TRow w a0 x.tn x.nm x.vl) (r1 : IRow w a1 x.n x.f) (s0 : TRow w e0 x.tn x.nm x.vl) (s1 : IRow w e1 x.n x.f) (hS : ToS x) :
    Calls Try.prog 42 #[.agg #[.string x.m, .slice a0 x.tn c0, .int .i64 x.st, .int .i64 x.ver, .int .i64 x.c, .int .i64 x.s, .int .i64 x.lo, .int .i64 x.hi, .slice a1 x.n c1, .bool x.fu], .agg #[.string x.m, .slice e0 x.tn h0, .int .i64 x.st, .int .i64 x.ver, .int .i64 x.c, .int .i64 x.s, .int .i64 x.lo, .int .i64 x.hi, .slice e1 x.n h1, .bool x.fu]] w fun e w' => e = .returned (.bool true) ∧ Below w.heap.size w w' := by
  have hB : Below w.heap.size w ((w.alloc (.cells #[.string x.m, .slice a0 x.tn c0, .int .i64 x.st, .int .i64 x.ver, .int .i64 x.c, .int .i64 x.s, .int .i64 x.lo, .int .i64 x.hi, .slice a1 x.n c1, .bool x.fu] 69)).alloc (.cells #[.string x.m, .slice e0 x.tn h0, .int .i64 x.st, .int .i64 x.ver, .int .i64 x.c, .int .i64 x.s, .int .i64 x.lo, .int .i64 x.hi, .slice e1 x.n h1, .bool x.fu] 69)) := (below_new w _).alloc (by simp) _
  have A := (ToAt.new w x a0 a1 c0 c1 69).keep (below_new _ (.cells #[.string x.m, .slice e0 x.tn h0, .int .i64 x.st, .int .i64 x.ver, .int .i64 x.c, .int .i64 x.s, .int .i64 x.lo, .int .i64 x.hi, .slice e1 x.n h1, .bool x.fu] 69))
  have B := ToAt.new (w.alloc (.cells #[.string x.m, .slice a0 x.tn c0, .int .i64 x.st, .int .i64 x.ver, .int .i64 x.c, .int .i64 x.s, .int .i64 x.lo, .int .i64 x.hi, .slice a1 x.n c1, .bool x.fu] 69)) x e0 e1 h0 h1 69
  rw [World.size_alloc] at B
  go_enter Try.func42, Try.ntmps42
  go_wp2_with fail
  refine (eqKey_same x.m x.st a0 e0 x.tn c0 h0 x.nm x.vl _ (r0.keep hB) (s0.keep hB) (show WiS x from hS).tn).mono ?_
  rintro e w1 ⟨rfl, hb⟩
  have bw : Below w.heap.size w w1 := hB.trans (hb.mono (by simp; omega))
  have A1 := A.keep hb
  have B1 := B.keep hb
  clear hb hB A B
  obtain ⟨_, d0, d1, d2, d3, d4, d5, d6, d7, d8, d9⟩ := id A1
  obtain ⟨_, t0, t1, t2, t3, t4, t5, t6, t7, t8, t9⟩ := id B1
  simp only [Nat.zero_add] at d1 d2 d3 d4 d5 d6 d7 d8 d9 t1 t2 t3 t4 t5 t6 t7 t8 t9
  go_wp2_with fail
  refine (eqAgg_same _ _ _ _ a1 e1 _ c1 h1 x.f _ _ (r1.keep bw) (s1.keep bw) (show WiS x from hS).n).mono ?_
  rintro e w2 ⟨rfl, hb⟩
  have bw2 : Below w.heap.size w w2 := bw.trans (hb.mono bw.size)
  have A2 := A1.keep hb
  have B2 := B1.keep hb
  clear hb A1 B1 d0 d1 d2 d3 d4 d5 d6 d7 d8 d9 t0 t1 t2 t3 t4 t5 t6 t7 t8 t9
  obtain ⟨_, d0, d1, d2, d3, d4, d5, d6, d7, d8, d9⟩ := A2
  obtain ⟨_, t0, t1, t2, t3, t4, t5, t6, t7, t8, t9⟩ := B2
  simp only [Nat.zero_add] at d1 d2 d3 d4 d5 d6 d7 d8 d9 t1 t2 t3 t4 t5 t6 t7 t8 t9
  go_wp2
  go_ret
  exact ⟨rfl, bw2⟩
end Go.Proofs.Ytflmbcgokiiedaa
