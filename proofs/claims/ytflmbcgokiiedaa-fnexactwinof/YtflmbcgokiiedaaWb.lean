/- A board opened: windows with the set of the dirty ones, in the program. -/
import Derived.Test.YtflmbcgokiiedaaKs
import Derived.Test.YtflmbcgokiiedaaCn
import Derived.Deep.RegionHeld3
import Derived.Deep.RegionLaw
namespace Go.Proofs.Ytflmbcgokiiedaa
open Go.RowKit
set_option linter.unusedSimpArgs false
set_option linter.unusedVariables false

theorem step_append_run {P : Program} {w : World} {ops : Array Oper} {o : Oper} {a : Act} {K : Act → World → Prop} {Q : Exit → Act → World → Prop} {E : Prop} (hgd : o.guard = none) (s x : Operand) (t : TypeId)
    (ho : o.op = .call { callee := .builtin .append, args := #[s, x], argTypes := #[t, t] }) (u v r : Value) (hs : a.eval s = u) (hx : a.eval x = v) (w' : World) (hrun : ∀ ty, (Builtin.append_ #[t, t] ty #[u, v]).run P w = .ok r w') (h : K (a.put o.dst r) w') :
    if Region.wanted o (yielded ops a.tmps) = true then Oper.wp P o a w K Q else E := by
  have hw : Region.wanted o (yielded ops a.tmps) = true := by simp [Region.wanted, hgd]
  rw [if_pos hw]
  unfold Oper.wp execOp
  simp only [ho, resolve, invoke, builtin, Sem.run_bind, Sem.run_pure, Result.andThen_ok, List.map_toArray, List.map_cons, List.map_nil, hs, hx, hrun]
  exact h


/-- Windows at work: in block p, the set of the dirty ones in block r, the windows themselves from base on. -/
structure WSt (w : World) (base p r : Nat) (z h mk : Int) (v : Value) (n : Nat) (Y : Nat → Wn) (V : Nat → Value) (S : ByteArray → Prop) : Prop where
  box : BdAt w p z h mk v
  c4 : w.cell? ⟨p, 4, none⟩ = some (.map (some r))
  fz : ∀ j, w.frozen? ⟨p, j, none⟩ = false
  set : KSet w r S
  out : OutW w base v n Y V
  pr : p ≠ r
  pb : p < base
  rb : r < base
section
variable {w w' : World} {base p r n : Nat} {z h mk : Int} {v v' : Value} {Y : Nat → Wn} {V V' : Nat → Value} {S S' : ByteArray → Prop}
theorem WSt.keep (H : WSt w base p r z h mk v n Y V S) (hb : Below w.heap.size w w') : WSt w' base p r z h mk v n Y V S :=
  ⟨H.box.keep hb, (hb.cell (p := ⟨p, 4, none⟩) H.box.lt).trans H.c4, fun j => (hb.frozen (p := ⟨p, j, none⟩) H.box.lt).trans (H.fz j), H.set.keep hb, H.out.keep hb, H.pr, H.pb, H.rb⟩
theorem OutW.thru {d : Nat} (H : OutW w base v n Y V) (ht : Thru d w w') (hd : d < base) : OutW w' base v n Y V := by
  have hg : w.grownBy w' (some d) := ⟨ht.os, ht.tape, ht.output, ht.size, fun i hi hne => ht.block i hi (fun e => hne (by rw [e]))⟩
  have ne : ∀ (u : Value) (e size m : Nat) (xs : List Value), w.ownsRow base e size u m xs → ∀ k, some d = some k → u.ownBlock ≠ some k := fun u e size m xs hu k hk hh => by injection hk with hk; subst hk; have := (hu.lt d hh).1; omega
  exact ⟨ownsRow_kept H.own hg (ne _ _ _ _ _ H.own), fun i hi => ownsRow_kept (H.r0 i hi) hg (ne _ _ _ _ _ (H.r0 i hi)), fun i hi => ownsRow_kept (H.r1 i hi) hg (ne _ _ _ _ _ (H.r1 i hi)), H.dis, H.apart⟩
theorem WSt.reset (H : WSt w base p r z h mk v n Y V S) (ht : Thru r w w') (hs : KSet w' r S') : WSt w' base p r z h mk v n Y V S' := by
  have hb := ht.block p H.box.lt H.pr
  have kc : ∀ j, w'.cell? ⟨p, j, none⟩ = w.cell? ⟨p, j, none⟩ := fun j => World.cell?_of_block (w := w) (a := ⟨p, j, none⟩) hb
  exact ⟨⟨Nat.lt_of_lt_of_le H.box.lt ht.size, (kc _).trans H.box.c0, (kc _).trans H.box.c1, (kc _).trans H.box.c2, (kc _).trans H.box.c3⟩, (kc _).trans H.c4, fun j => (World.frozen?_of_block (w := w) (a := ⟨p, j, none⟩) hb).trans (H.fz j), hs, H.out.thru ht H.rb, H.pr, H.pb, H.rb⟩
/-- The windows put otherwise, by new memory alone, and told in their box. -/
theorem WSt.put (H : WSt w base p r z h mk v n Y V S) {m : Nat} (hg : Below base w w') (ho : OutW w' base v' m Y V') : WSt (w'.setCell ⟨p, 3, none⟩ v') base p r z h mk v' m Y V' S := by
  have pb := H.pb
  have rb := H.rb
  have oth := Others.setCell w' p 3 v'
  have kc : ∀ j, w'.cell? ⟨p, j, none⟩ = w.cell? ⟨p, j, none⟩ := fun j => hg.cell (p := ⟨p, j, none⟩) pb
  have nc : ∀ j, j ≠ 3 → (w'.setCell ⟨p, 3, none⟩ v').cell? ⟨p, j, none⟩ = w.cell? ⟨p, j, none⟩ := fun j hj => (World.cell?_setCell_other _ _ _ _ (by intro hh; injection hh with _ h2 _; omega)).trans (kc j)
  refine ⟨⟨by rw [oth.size]; exact Nat.lt_of_lt_of_le H.box.lt hg.size, (nc 0 (by omega)).trans H.box.c0, (nc 1 (by omega)).trans H.box.c1, (nc 2 (by omega)).trans H.box.c2, World.cell?_setCell_same _ _ _ ((kc 3).trans H.box.c3)⟩, (nc 4 (by omega)).trans H.c4, fun j => by rw [World.frozen?_setCell]; exact (hg.frozen (p := ⟨p, j, none⟩) pb).trans (H.fz j), ?_, ho.others oth pb, H.pr, pb, rb⟩
  exact (H.set.same (hg.block r rb)).same (oth.block r (Ne.symm H.pr))
end

/-- A call of copyKey in a region that draws. -/
theorem step_copyKey {w : World} {ops : Array Oper} {o : Oper} {a : Act} {K : Act → World → Prop} {Q : Exit → Act → World → Prop} {E : Prop} (hgd : o.guard = none) (k : Nat)
    (ho : o.op = .call { callee := .value (.func 70), args := #[.tmp k], argTypes := #[49] }) (x : Wn) (ao : Option Addr) (c : Nat) (hx : a.eval (.tmp k) = .agg #[.string x.m, .slice ao x.tn c, .int .i64 x.st]) (hr : TRow w ao x.tn x.nm x.vl) (hn : x.tn ≤ 1048576)
    (h : ∀ (ha : Option Addr) (hc : Nat) (w' : World), w'.ownsRow w.heap.size 114 2 (.slice ha x.tn hc) x.tn (tcells x.nm x.vl x.tn) → Below w.heap.size w w' → K (a.put o.dst (.agg #[.string x.m, .slice ha x.tn hc, .int .i64 x.st])) w') :
    if Region.wanted o (yielded ops a.tmps) = true then Oper.wp Try.prog o a w K Q else E := by
  have hw : Region.wanted o (yielded ops a.tmps) = true := by simp [Region.wanted, hgd]
  rw [if_pos hw]
  have hx' : a.tmps.getD k undef = .agg #[.string x.m, .slice ao x.tn c, .int .i64 x.st] := hx
  unfold Oper.wp execOp
  simp only [ho, resolve, Act.eval, hx']
  go_simp
  refine (copyKey_any x.m x.st ao x.tn c x.nm x.vl w hr hn).mono ?_
  rintro e w' ⟨hv, rfl, h1, h2⟩
  obtain ⟨ha, hc, rfl⟩ := ownsRow_form h1
  exact h ha hc w' h1 h2
/-- A call of copyAgg in a region that draws. -/
theorem step_copyAgg {w : World} {ops : Array Oper} {o : Oper} {a : Act} {K : Act → World → Prop} {Q : Exit → Act → World → Prop} {E : Prop} (hgd : o.guard = none) (k : Nat)
    (ho : o.op = .call { callee := .value (.func 71), args := #[.tmp k], argTypes := #[52] }) (x : Wn) (ao : Option Addr) (c : Nat) (hx : a.eval (.tmp k) = .agg #[.int .i64 x.c, .int .i64 x.s, .int .i64 x.lo, .int .i64 x.hi, .slice ao x.n c, .bool x.fu]) (hr : IRow w ao x.n x.f) (hn : x.n ≤ 1048576)
    (h : ∀ (ha : Option Addr) (hc : Nat) (w' : World), w'.ownsRow w.heap.size 3 1 (.slice ha x.n hc) x.n (icells x.f x.n) → Below w.heap.size w w' → K (a.put o.dst (.agg #[.int .i64 x.c, .int .i64 x.s, .int .i64 x.lo, .int .i64 x.hi, .slice ha x.n hc, .bool x.fu])) w') :
    if Region.wanted o (yielded ops a.tmps) = true then Oper.wp Try.prog o a w K Q else E := by
  have hw : Region.wanted o (yielded ops a.tmps) = true := by simp [Region.wanted, hgd]
  rw [if_pos hw]
  have hx' : a.tmps.getD k undef = .agg #[.int .i64 x.c, .int .i64 x.s, .int .i64 x.lo, .int .i64 x.hi, .slice ao x.n c, .bool x.fu] := hx
  unfold Oper.wp execOp
  simp only [ho, resolve, Act.eval, hx']
  go_simp
  refine (copyAgg_any x.c x.s x.lo x.hi ao x.n c x.f x.fu w hr hn).mono ?_
  rintro e w' ⟨hv, rfl, h1, h2⟩
  obtain ⟨ha, hc, rfl⟩ := ownsRow_form h1
  exact h ha hc w' h1 h2
end Go.Proofs.Ytflmbcgokiiedaa
