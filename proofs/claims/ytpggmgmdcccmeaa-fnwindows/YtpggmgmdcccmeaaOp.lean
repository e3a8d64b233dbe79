/- openBoard. -/
import Derived.Test.YtpggmgmdcccmeaaOh
namespace Go.Proofs.Ytpggmgmdcccmeaa
open Go.RowKit
set_option linter.unusedSimpArgs false
set_option linter.unusedVariables false

/-- A window that is not dirty. -/
def cln (X : Nat → Wn) (i : Nat) : Wn := (X i).w_di false
/-- The texts of the first k's dirty keys. -/
def dS (X : Nat → Wn) (k : Nat) (t : ByteArray) : Prop := ∃ i, i < k ∧ (X i).di = true ∧ t = kS (X i)
theorem dS_more {X : Nat → Wn} {k : Nat} (h : (X k).di = true) (t : ByteArray) : (dS X k t ∨ t = kS (X k)) ↔ dS X (k + 1) t := by
  constructor
  · rintro (⟨i, h1, h2, h3⟩ | e)
    · exact ⟨i, by omega, h2, h3⟩
    · exact ⟨k, by omega, h, e⟩
  · rintro ⟨i, h1, h2, h3⟩
    by_cases e : i = k
    · subst e; exact .inr h3
    · exact .inl ⟨i, by omega, h2, h3⟩
theorem dS_less {X : Nat → Wn} {k : Nat} (h : (X k).di = false) (t : ByteArray) : dS X k t ↔ dS X (k + 1) t := by
  constructor
  · rintro ⟨i, h1, h2, h3⟩
    exact ⟨i, by omega, h2, h3⟩
  · rintro ⟨i, h1, h2, h3⟩
    refine ⟨i, ?_, h2, h3⟩
    by_cases e : i = k
    · subst e; rw [h] at h2; cases h2
    · omega
theorem dS_new {z : Int} {X : Nat → Wn} {n k : Nat} (h : GWs z X n) (hk : k < n) : ¬ dS X k (kS (X k)) := by
  rintro ⟨i, h1, h2, h3⟩
  exact kS_ne h hk (show i < n by omega) (by omega) h3

/-- An append in a region that draws, by its run's equation. -/
theorem step_append_ty {P : Program} {w : World} {ops : Array Oper} {o : Oper} {a : Act} {K : Act → World → Prop} {Q : Exit → Act → World → Prop} {E : Prop} (hgd : o.guard = none) (s x : Operand) (t ty : TypeId)
    (ho : o.op = .call { callee := .builtin .append, args := #[s, x], argTypes := #[t, t] }) (hty : o.type = ty) (u v r : Value) (hs : a.eval s = u) (hx : a.eval x = v) (w' : World) (hrun : (Builtin.append_ #[t, t] ty #[u, v]).run P w = .ok r w') (h : K (a.put o.dst r) w') :
    if Region.wanted o (yielded ops a.tmps) = true then Oper.wp P o a w K Q else E := by
  have hw : Region.wanted o (yielded ops a.tmps) = true := by simp [Region.wanted, hgd]
  rw [if_pos hw]
  subst hty
  unfold Oper.wp execOp
  simp only [ho, resolve, invoke, builtin, Sem.run_bind, Sem.run_pure, Result.andThen_ok, List.map_toArray, List.map_cons, List.map_nil, hs, hx, hrun]
  exact h
/-- A window put behind the others, its key and its agg copied just now. -/
theorem opPush {ud u1 u2 : World} {base p r k : Nat} {z h mk : Int} {va ha0 ha1 : Option Addr} {vc hc0 hc1 : Nat} {X : Nat → Wn} {V : Nat → Value} {S : ByteArray → Prop} (W2 : WSt u2 base p r z h mk (.slice va k vc) k (cln X) V S) (O0 : OutW ud base (.slice va k vc) k (cln X) V)
    (T0 : u1.ownsRow ud.heap.size 92 2 (.slice ha0 (X k).tn hc0) (X k).tn (tcells (X k).nm (X k).vl (X k).tn)) (T1 : u2.ownsRow u1.heap.size 3 1 (.slice ha1 (X k).n hc1) (X k).n (icells (X k).f (X k).n)) (q1 : Below ud.heap.size ud u1) (q2 : Below u1.heap.size u1 u2) (hn : k ≤ 1048576) (hbase : base ≤ ud.heap.size) :
    ∃ vb vd V2 u3, (Builtin.append_ #[23, 23] 23 #[.slice va k vc, .slice (some ⟨u2.heap.size, 0, none⟩) 1 1]).run Try.prog (u2.alloc (.cells #[.string (X k).m, .slice ha0 (X k).tn hc0, .int .i64 (X k).st, .int .i64 (X k).c, .int .i64 (X k).s, .int .i64 (X k).lo, .int .i64 (X k).hi, .slice ha1 (X k).n hc1, .bool (X k).fu, .int .i64 (X k).ver, .bool false] 39)) = .ok (.slice vb (k + 1) vd) u3 ∧ OutW u3 base (.slice vb (k + 1) vd) (k + 1) (cln X) V2 ∧ Below base u2 u3 ∧ ∀ c, c < u2.heap.size → (Value.slice va k vc).ownBlock ≠ some c → u3.heap[c]? = u2.heap[c]? := by
  have s1 := q1.size
  have s2 := q2.size
  have T0s := ownsRow_keep T0 q2
  have vl : ∀ q, (Value.slice va k vc).ownBlock = some q → base ≤ q ∧ q < ud.heap.size := fun q hq => O0.own.lt q hq
  have Vl : ∀ p q, p < k * 2 → (V p).ownBlock = some q → q < ud.heap.size := fun p q hp hq => (O0.lt hp hq).2
  have l0 : ∀ q, (Value.slice ha0 (X k).tn hc0).ownBlock = some q → ud.heap.size ≤ q ∧ q < u1.heap.size := fun q hq => T0.lt q hq
  have l1 : ∀ q, (Value.slice ha1 (X k).n hc1).ownBlock = some q → u1.heap.size ≤ q := fun q hq => (T1.lt q hq).1
  obtain ⟨v', u3, hrun, O3, G3⟩ := pushW_run (x := cln X k) W2.out (h0 := .slice ha0 (X k).tn hc0) (h1 := .slice ha1 (X k).n hc1) (show TV u2 base (.slice ha0 (X k).tn hc0) (cln X k) from ownsRow_mono T0s hbase) (show HV u2 base (.slice ha1 (X k).n hc1) (cln X k) from ownsRow_mono T1 (by omega))
    (fun q hq => ⟨fun hh => by have := l0 q hq; have := vl q hh; omega, fun p hp hh => by have := l0 q hq; have := Vl p q hp hh; omega⟩)
    (fun q hq => ⟨fun hh => by have := l1 q hq; have := vl q hh; omega, fun p hp hh => by have := l1 q hq; have := Vl p q hp hh; omega, fun hh => by have := l1 q hq; have := l0 q hh; omega⟩) hn (by omega) 23
  rw [show upWi (cln X) k (cln X k) = cln X from upWi_same _ _] at O3
  obtain ⟨vb, vd, rfl⟩ := ownsRow_form O3.own
  refine ⟨vb, vd, _, u3, hrun, O3, ?_⟩
  refine ⟨((below_new u2 _).mono (by omega) |>.grown G3 (by simp; omega) (fun q hq => (vl q hq).1)), fun c h1 h2 => ?_⟩
  exact (G3.block c (by simp; omega) (fun e => h2 e.symm)).trans ((below_new u2 _).block c h1)

/-- A slice of one window made in a region that draws. -/
theorem step_buildW {w : World} {ops : Array Oper} {o : Oper} {a : Act} {K : Act → World → Prop} {Q : Exit → Act → World → Prop} {E : Prop} (hgd : o.guard = none) (k : Nat)
    (ho : o.op = .buildSlice 23 1 #[(0, .tmp k)]) (x : Wn) (h0 h1 : Value) (di : Bool) (hf0 : ∃ a n c, h0 = .slice a n c) (hf1 : ∃ a n c, h1 = .slice a n c) (hx : a.eval (.tmp k) = .agg #[.string x.m, h0, .int .i64 x.st, .int .i64 x.c, .int .i64 x.s, .int .i64 x.lo, .int .i64 x.hi, h1, .bool x.fu, .int .i64 x.ver, .bool di]) (h : K (a.put o.dst (.slice (some ⟨w.heap.size, 0, none⟩) 1 1)) (w.alloc (.cells #[.string x.m, h0, .int .i64 x.st, .int .i64 x.c, .int .i64 x.s, .int .i64 x.lo, .int .i64 x.hi, h1, .bool x.fu, .int .i64 x.ver, .bool di] 39))) :
    if Region.wanted o (yielded ops a.tmps) = true then Oper.wp Try.prog o a w K Q else E := by
  have hw : Region.wanted o (yielded ops a.tmps) = true := by simp [Region.wanted, hgd]
  rw [if_pos hw]
  have hx' : a.tmps.getD k undef = .agg #[.string x.m, h0, .int .i64 x.st, .int .i64 x.c, .int .i64 x.s, .int .i64 x.lo, .int .i64 x.hi, h1, .bool x.fu, .int .i64 x.ver, .bool di] := hx
  obtain ⟨_, _, _, rfl⟩ := hf0
  obtain ⟨_, _, _, rfl⟩ := hf1
  unfold Oper.wp execOp
  simp only [ho, Act.eval, hx', List.map_toArray, List.map_cons, List.map_nil]
  go_simp
  exact h
/-- A slice stored in a region that draws. -/
theorem step_storeS {w : World} {ops : Array Oper} {o : Oper} {a : Act} {K : Act → World → Prop} {Q : Exit → Act → World → Prop} {E : Prop} (hgd : o.guard = none) (k j : Nat)
    (ho : o.op = .store 23 (.tmp k) (.tmp j)) (b q : Nat) (va : Option Addr) (n c : Nat) (u : Value) (hx : a.eval (.tmp k) = .pointer (some ⟨b, q, none⟩)) (hv : a.eval (.tmp j) = .slice va n c) (hc : w.cell? ⟨b, q, none⟩ = some u) (hf : w.frozen? ⟨b, q, none⟩ = false) (h : K (a.put o.dst undef) (w.setCell ⟨b, q, none⟩ (.slice va n c))) :
    if Region.wanted o (yielded ops a.tmps) = true then Oper.wp Try.prog o a w K Q else E := by
  have hw : Region.wanted o (yielded ops a.tmps) = true := by simp [Region.wanted, hgd]
  rw [if_pos hw]
  have hx' : a.tmps.getD k undef = .pointer (some ⟨b, q, none⟩) := hx
  have hv' : a.tmps.getD j undef = .slice va n c := hv
  unfold Oper.wp execOp
  simp only [ho, Act.eval, hx', hv']
  go_simp
  exact h

theorem step_nil {w : World} {ops : Array Oper} {o : Oper} {a : Act} {K : Act → World → Prop} {Q : Exit → Act → World → Prop} {E : Prop} (hgd : o.guard = none) (k : Nat)
    (ho : o.op = .nilCheck (.tmp k)) (b q : Nat) (hx : a.eval (.tmp k) = .pointer (some ⟨b, q, none⟩)) (h : K (a.put o.dst (.pointer (some ⟨b, q, none⟩))) w) :
    if Region.wanted o (yielded ops a.tmps) = true then Oper.wp Try.prog o a w K Q else E := by
  have hw : Region.wanted o (yielded ops a.tmps) = true := by simp [Region.wanted, hgd]
  rw [if_pos hw]
  have hx' : a.tmps.getD k undef = .pointer (some ⟨b, q, none⟩) := hx
  unfold Oper.wp execOp
  simp only [ho, Act.eval, hx']
  go_simp
  exact h
theorem step_f0 {w : World} {ops : Array Oper} {o : Oper} {a : Act} {K : Act → World → Prop} {Q : Exit → Act → World → Prop} {E : Prop} (hgd : o.guard = none) (k : Nat)
    (ho : o.op = .fieldAddr 58 (.tmp k) 0) (b q : Nat) (hx : a.eval (.tmp k) = .pointer (some ⟨b, q, none⟩)) (h : K (a.put o.dst (.pointer (some ⟨b, q, none⟩))) w) :
    if Region.wanted o (yielded ops a.tmps) = true then Oper.wp Try.prog o a w K Q else E := by
  have hw : Region.wanted o (yielded ops a.tmps) = true := by simp [Region.wanted, hgd]
  rw [if_pos hw]
  have hx' : a.tmps.getD k undef = .pointer (some ⟨b, q, none⟩) := hx
  unfold Oper.wp execOp
  simp only [ho, Act.eval, hx']
  go_simp
  exact h
theorem step_f3 {w : World} {ops : Array Oper} {o : Oper} {a : Act} {K : Act → World → Prop} {Q : Exit → Act → World → Prop} {E : Prop} (hgd : o.guard = none) (k : Nat)
    (ho : o.op = .fieldAddr 25 (.tmp k) 3) (b q : Nat) (hx : a.eval (.tmp k) = .pointer (some ⟨b, q, none⟩)) (h : K (a.put o.dst (.pointer (some ⟨b, q + 3, none⟩))) w) :
    if Region.wanted o (yielded ops a.tmps) = true then Oper.wp Try.prog o a w K Q else E := by
  have hw : Region.wanted o (yielded ops a.tmps) = true := by simp [Region.wanted, hgd]
  rw [if_pos hw]
  have hx' : a.tmps.getD k undef = .pointer (some ⟨b, q, none⟩) := hx
  unfold Oper.wp execOp
  simp only [ho, Act.eval, hx']
  go_simp
  exact h

/-- What openBoard leaves of a good board. -/
def OpB (z h mk : Int) (n : Nat) (X : Nat → Wn) (w : World) (e : Ending) (w' : World) : Prop :=
  ∃ base p r v V, e = .returned (.tuple #[.pointer (some ⟨p, 0, none⟩), .bool true]) ∧ w.heap.size ≤ p ∧ w.heap.size ≤ r ∧ base = p + 1 ∧ WSt w' base p r z h mk v n (cln X) V (dS X n) ∧ Below w.heap.size w w'

set_option maxHeartbeats 1600000 in
theorem openBoard_bad (z h mk : Int) (ao : Option Addr) (n cap : Nat) (X : Nat → Wn) (w : World) (hr : WiRow w ao n X) (hn : n ≤ 1048576) (hz : WiSize n X) (hG : Hid (¬ GBd z h mk n X)) :
    Calls Try.prog 15 #[.agg #[.int .i64 z, .int .i64 h, .int .i64 mk, .slice ao n cap]] w fun e w' => e = .returned (.tuple #[.pointer none, .bool false]) ∧ Below w.heap.size w w' := by
  have hB := below_new w (.cells #[.int .i64 z, .int .i64 h, .int .i64 mk, .slice ao n cap] 25)
  go_enter Try.func15, Try.ntmps15
  go_wp2_with fail
  refine (goodBoard_impl z h mk ao n cap X _ (hr.keep hB) hn hz).mono ?_
  rintro e w1 ⟨b1, rfl, h1, q1⟩
  have bw : Below w.heap.size w w1 := hB.trans (q1.mono (by simp))
  have e1 : b1 = false := by
    cases b1 with
    | false => rfl
    | true => exact absurd (h1.1 rfl) hG.out
  subst e1
  clear h1 q1
  go_wp2
  go_ret2
  exact ⟨rfl, bw⟩

set_option maxRecDepth 100000 in
set_option maxHeartbeats 16000000 in
theorem openBoard_good (z h mk : Int) (ao : Option Addr) (n cap : Nat) (X : Nat → Wn) (w : World) (hr : WiRow w ao n X) (hn : n ≤ 1048576) (hz : WiSize n X) (hG : Hid (GBd z h mk n X)) :
    Calls Try.prog 15 #[.agg #[.int .i64 z, .int .i64 h, .int .i64 mk, .slice ao n cap]] w fun e w' => OpB z h mk n X w e w' := by
  have hB := below_new w (.cells #[.int .i64 z, .int .i64 h, .int .i64 mk, .slice ao n cap] 25)
  have A := BdAt.new w z h mk (.slice ao n cap) 25
  go_enter Try.func15, Try.ntmps15
  go_wp2_with fail
  refine (goodBoard_impl z h mk ao n cap X _ (hr.keep hB) hn hz).mono ?_
  rintro e w1 ⟨b1, rfl, h1, q1⟩
  have bw1 : Below w.heap.size w w1 := hB.trans (q1.mono (by simp))
  have A1 := A.keep q1
  have e1 : b1 = true := h1.2 hG.out
  subst e1
  clear h1 q1 A hB
  obtain ⟨la, a0, a1, a2, a3⟩ := id A1
  have hmm := @run_makeMap Try.prog
  obtain ⟨hbd, hlies⟩ := hr
  have hW0 : WSt ((w1.alloc (.map #[] 0)).alloc (.cells #[.int .i64 z, .int .i64 h, .int .i64 mk, .slice none 0 0, .map (some w1.heap.size)] 58)) (w1.heap.size + 2) (w1.heap.size + 1) w1.heap.size z h mk (.slice none 0 0) 0 (cln X) (fun _ => .slice none 0 0) (dS X 0) := by
    refine ⟨⟨by simp, ?_, ?_, ?_, ?_⟩, ?_, fun j => ?_, ⟨#[], 0, ?_, fun y hy => by simp at hy, fun y hy => by simp at hy, fun t => ⟨fun ⟨y, hy, _⟩ => by simp at hy, fun ⟨i, hi, _⟩ => by omega⟩⟩, outW_nil _ _ _, by omega, by omega, by omega⟩
    · simp [go_sem]
    · simp [go_sem]
    · simp [go_sem]
    · simp [go_sem]
    · simp [go_sem]
    · simp [go_sem]
    · exact ((below_new (w1.alloc (.map #[] 0)) _).block w1.heap.size (by simp)).trans (heap_alloc_new w1 _)
  have bw0 : Below w.heap.size w ((w1.alloc (.map #[] 0)).alloc (.cells #[.int .i64 z, .int .i64 h, .int .i64 mk, .slice none 0 0, .map (some w1.heap.size)] 58)) := bw1.trans (((Below.refl _ _).alloc bw1.size _).alloc (by have := bw1.size; simp; omega) _)
  have hs1 := bw1.size
  go_wp2
  generalize (w1.alloc (.map #[] 0)).alloc (.cells #[.int .i64 z, .int .i64 h, .int .i64 mk, .slice none 0 0, .map (some w1.heap.size)] 58) = W0 at *
  go_loopw [21] (fun i wr => ∃ (k : Nat) (v : Value) (V : Nat → Value), k ≤ n ∧ i = .int .i64 k ∧ WSt wr (w1.heap.size + 2) (w1.heap.size + 1) w1.heap.size z h mk v k (cln X) V (dS X k) ∧ Below w.heap.size w wr) (fun i _ => n - (intOf i).toNat)
  case atStart => exact ⟨0, _, _, Nat.zero_le _, rfl, hW0, bw0⟩
  case round =>
    clear hW0 bw0 A1 a0 a1 a2 a3 la
    obtain ⟨k, v, V, hk, rfl, hW, hbk⟩ := hrel
    by_cases hlt : k < n
    rotate_left
    · have e : k = n := by omega
      subst e
      go_wp2
      go_ret2
      exact ⟨_, _, _, v, V, rfl, by omega, hs1, rfl, hW, hbk⟩
    obtain ⟨b, off, rfl, hblt, hc⟩ := hlies.resolve_left (by omega)
    obtain ⟨a0, a1, c0, c1, ea, r0, r1⟩ := hc k hlt
    have ea1 := ea.keep hbk
    obtain ⟨_, d0, d1, d2, d3, d4, d5, d6, d7, d8, d9, d10⟩ := ea1
    obtain ⟨W1, hW1⟩ : ∃ W1, W1 = wr.alloc (.cells #[.string (X k).m, .slice a0 (X k).tn c0, .int .i64 (X k).st, .int .i64 (X k).c, .int .i64 (X k).s, .int .i64 (X k).lo, .int .i64 (X k).hi, .slice a1 (X k).n c1, .bool (X k).fu, .int .i64 (X k).ver, .bool (X k).di] 39) := ⟨_, rfl⟩
    have hB1 : Below wr.heap.size wr W1 := by rw [hW1]; exact below_new _ _
    have AW : WiAt W1 wr.heap.size 0 (X k) a0 a1 c0 c1 := by rw [hW1]; exact WiAt.new wr (X k) a0 a1 c0 c1 39
    have WW := hW.keep hB1
    have r0W := (r0.keep hbk).keep hB1
    have r1W := (r1.keep hbk).keep hB1
    have bwW := hbk.trans (hB1.mono hbk.size)
    have zk := hz k hlt
    have gk := (hG.out.wins.each k hlt).key
    have hnew := dS_new hG.out.wins hlt
    have hszr := hW.box.lt
    have hvl : ∀ q, v.ownBlock = some q → q < wr.heap.size := fun q hq => (hW.out.own.lt q hq).2
    have szW : w1.heap.size + 2 ≤ W1.heap.size := by have := hB1.size; omega
    clear hc hlies ea hW hbk hB1
    obtain ⟨_, y0, y1, y2, y3, y4, y5, y6, y7, y8, y9, y10⟩ := id AW
    simp only [Nat.zero_add] at y1 y2 y3 y4 y5 y6 y7 y8 y9 y10
    cases hdi : (X k).di
    · rw [hdi] at y10 d10 hW1
      have WSu := { WW with set := WW.set.congr (dS_less hdi) }
      obtain ⟨u, hu⟩ : ∃ u, u = W1 := ⟨_, rfl⟩
      go_wp2
      rw [← hW1, ← hu]
      rw [← hu] at WSu AW r0W r1W bwW szW
      clear hW1 hu WW
      have Au := AW
      have r0u := r0W
      have r1u := r1W
      have bwu := bwW
      have szu := szW
      clear AW r0W r1W bwW szW y0 y1 y2 y3 y4 y5 y6 y7 y8 y9 y10 d0 d1 d2 d3 d4 d5 d6 d7 d8 d9 d10
      have WSd := WSu.keep (Below.refl _ u).drew
      have Ad := Au.keep (Below.refl _ u).drew
      have r0d := r0u.keep (Below.refl _ u).drew
      have r1d := r1u.keep (Below.refl _ u).drew
      obtain ⟨va, vc, hva⟩ := ownsRow_form WSu.out.own
      subst hva
      have e3 := WSd.box.c3
      obtain ⟨_, y0, y1, y2, y3, y4, y5, y6, y7, y8, y9, y10⟩ := id Ad
      simp only [Nat.zero_add] at y1 y2 y3 y4 y5 y6 y7 y8 y9 y10
      have szd : u.drew.heap.size = u.heap.size := rfl
      have szq : wr.heap.size < u.heap.size := Au.lt
      go_wp2
      refine wp_region_w (fun w' => w'.cell? ⟨w1.heap.size + 1, 3, none⟩ = some (.slice va k vc) ∧ w'.cell? ⟨wr.heap.size, 0, none⟩ = some (.string (X k).m) ∧ w'.cell? ⟨wr.heap.size, 1, none⟩ = some (.slice a0 (X k).tn c0) ∧ w'.cell? ⟨wr.heap.size, 2, none⟩ = some (.int .i64 (X k).st) ∧ w'.cell? ⟨wr.heap.size, 3, none⟩ = some (.int .i64 (X k).c) ∧ w'.cell? ⟨wr.heap.size, 4, none⟩ = some (.int .i64 (X k).s) ∧ w'.cell? ⟨wr.heap.size, 5, none⟩ = some (.int .i64 (X k).lo) ∧ w'.cell? ⟨wr.heap.size, 6, none⟩ = some (.int .i64 (X k).hi) ∧ w'.cell? ⟨wr.heap.size, 7, none⟩ = some (.slice a1 (X k).n c1) ∧ w'.cell? ⟨wr.heap.size, 8, none⟩ = some (.bool (X k).fu) ∧ w'.cell? ⟨wr.heap.size, 9, none⟩ = some (.int .i64 (X k).ver)) (fun j => j != 20) (by kernel_rfl) ?_
      change wpW _ _ _ _ _ _ 21 _ _ u.drew
      have hS0 := (⟨e3, y0, y1, y2, y3, y4, y5, y6, y7, y8, y9⟩ : (fun w' : World => w'.cell? ⟨w1.heap.size + 1, 3, none⟩ = some (.slice va k vc) ∧ w'.cell? ⟨wr.heap.size, 0, none⟩ = some (.string (X k).m) ∧ w'.cell? ⟨wr.heap.size, 1, none⟩ = some (.slice a0 (X k).tn c0) ∧ w'.cell? ⟨wr.heap.size, 2, none⟩ = some (.int .i64 (X k).st) ∧ w'.cell? ⟨wr.heap.size, 3, none⟩ = some (.int .i64 (X k).c) ∧ w'.cell? ⟨wr.heap.size, 4, none⟩ = some (.int .i64 (X k).s) ∧ w'.cell? ⟨wr.heap.size, 5, none⟩ = some (.int .i64 (X k).lo) ∧ w'.cell? ⟨wr.heap.size, 6, none⟩ = some (.int .i64 (X k).hi) ∧ w'.cell? ⟨wr.heap.size, 7, none⟩ = some (.slice a1 (X k).n c1) ∧ w'.cell? ⟨wr.heap.size, 8, none⟩ = some (.bool (X k).fu) ∧ w'.cell? ⟨wr.heap.size, 9, none⟩ = some (.int .i64 (X k).ver)) u.drew)
      refine wpW_take 0 _ (.pointer (some ⟨w1.heap.size + 1, 0, none⟩)) rfl (by kernel_rfl) (by kernel_rfl) (by kernel_rfl) (fun _ _ _ h => h) (by kernel_rfl) (.inl ⟨rfl, fun w' hS' => by obtain ⟨s0, s1, s2, s3, s4, s5, s6, s7, s8, s9, s10⟩ := hS'; go_simp⟩) hS0 ?_
      refine wpW_take 1 _ (.pointer (some ⟨w1.heap.size + 1, 0, none⟩)) rfl (by kernel_rfl) (by kernel_rfl) (by kernel_rfl) (fun _ _ _ h => h) (by kernel_rfl) (.inl ⟨rfl, fun w' hS' => by obtain ⟨s0, s1, s2, s3, s4, s5, s6, s7, s8, s9, s10⟩ := hS'; go_simp⟩) hS0 ?_
      refine wpW_take 2 _ (.pointer (some ⟨w1.heap.size + 1, 0, none⟩)) rfl (by kernel_rfl) (by kernel_rfl) (by kernel_rfl) (fun _ _ _ h => h) (by kernel_rfl) (.inl ⟨rfl, fun w' hS' => by obtain ⟨s0, s1, s2, s3, s4, s5, s6, s7, s8, s9, s10⟩ := hS'; go_simp⟩) hS0 ?_
      refine wpW_take 3 _ (.pointer (some ⟨w1.heap.size + 1, 0, none⟩)) rfl (by kernel_rfl) (by kernel_rfl) (by kernel_rfl) (fun _ _ _ h => h) (by kernel_rfl) (.inl ⟨rfl, fun w' hS' => by obtain ⟨s0, s1, s2, s3, s4, s5, s6, s7, s8, s9, s10⟩ := hS'; go_simp⟩) hS0 ?_
      refine wpW_take 4 _ (.pointer (some ⟨w1.heap.size + 1, 3, none⟩)) rfl (by kernel_rfl) (by kernel_rfl) (by kernel_rfl) (fun _ _ _ h => h) (by kernel_rfl) (.inl ⟨rfl, fun w' hS' => by obtain ⟨s0, s1, s2, s3, s4, s5, s6, s7, s8, s9, s10⟩ := hS'; go_simp⟩) hS0 ?_
      refine wpW_take 5 _ (.slice va k vc) rfl (by kernel_rfl) (by kernel_rfl) (by kernel_rfl) (fun _ _ _ h => h) (by kernel_rfl) (.inl ⟨rfl, fun w' hS' => by obtain ⟨s0, s1, s2, s3, s4, s5, s6, s7, s8, s9, s10⟩ := hS'; go_simp⟩) hS0 ?_
      refine wpW_take 6 _ (.pointer (some ⟨wr.heap.size, 0, none⟩)) rfl (by kernel_rfl) (by kernel_rfl) (by kernel_rfl) (fun _ _ _ h => h) (by kernel_rfl) (.inl ⟨rfl, fun w' hS' => by obtain ⟨s0, s1, s2, s3, s4, s5, s6, s7, s8, s9, s10⟩ := hS'; go_simp⟩) hS0 ?_
      refine wpW_take 7 _ (.agg #[.string (X k).m, .slice a0 (X k).tn c0, .int .i64 (X k).st]) rfl (by kernel_rfl) (by kernel_rfl) (by kernel_rfl) (fun _ _ _ h => h) (by kernel_rfl) (.inl ⟨rfl, fun w' hS' => by obtain ⟨s0, s1, s2, s3, s4, s5, s6, s7, s8, s9, s10⟩ := hS'; go_simp⟩) hS0 ?_
      refine wpW_take 9 _ (.pointer (some ⟨wr.heap.size, 3, none⟩)) rfl (by kernel_rfl) (by kernel_rfl) (by kernel_rfl) (fun _ _ _ h => h) (by kernel_rfl) (.inl ⟨rfl, fun w' hS' => by obtain ⟨s0, s1, s2, s3, s4, s5, s6, s7, s8, s9, s10⟩ := hS'; go_simp⟩) hS0 ?_
      refine wpW_take 10 _ (.agg #[.int .i64 (X k).c, .int .i64 (X k).s, .int .i64 (X k).lo, .int .i64 (X k).hi, .slice a1 (X k).n c1, .bool (X k).fu]) rfl (by kernel_rfl) (by kernel_rfl) (by kernel_rfl) (fun _ _ _ h => h) (by kernel_rfl) (.inl ⟨rfl, fun w' hS' => by obtain ⟨s0, s1, s2, s3, s4, s5, s6, s7, s8, s9, s10⟩ := hS'; go_simp⟩) hS0 ?_
      refine wpW_take 12 _ (.pointer (some ⟨wr.heap.size, 9, none⟩)) rfl (by kernel_rfl) (by kernel_rfl) (by kernel_rfl) (fun _ _ _ h => h) (by kernel_rfl) (.inl ⟨rfl, fun w' hS' => by obtain ⟨s0, s1, s2, s3, s4, s5, s6, s7, s8, s9, s10⟩ := hS'; go_simp⟩) hS0 ?_
      refine wpW_take 13 _ (.int .i64 (X k).ver) rfl (by kernel_rfl) (by kernel_rfl) (by kernel_rfl) (fun _ _ _ h => h) (by kernel_rfl) (.inl ⟨rfl, fun w' hS' => by obtain ⟨s0, s1, s2, s3, s4, s5, s6, s7, s8, s9, s10⟩ := hS'; go_simp⟩) hS0 ?_
      simp only [Act.put, List.getElem_toArray, List.getElem_cons_succ, List.getElem_cons_zero, List.setIfInBounds_toArray, List.set_cons_zero, List.set_cons_succ]
      refine wpW_one 8 _ rfl (by kernel_rfl) (step_copyKey rfl 41 rfl (X k) a0 c0 (by simp [Act.eval, Act.put]) r0d zk.tn ?_)
      intro ha0 hc0 u1 T0 q1
      have W1s := WSd.keep q1
      have A1s := Ad.keep q1
      have r1s := r1d.keep q1
      have e3 := W1s.box.c3
      obtain ⟨_, y0, y1, y2, y3, y4, y5, y6, y7, y8, y9, y10⟩ := id A1s
      simp only [Nat.zero_add] at y1 y2 y3 y4 y5 y6 y7 y8 y9 y10
      refine ⟨fun _ => ⟨e3, y0, y1, y2, y3, y4, y5, y6, y7, y8, y9⟩, ?_⟩
      simp only [Act.put, List.getElem_toArray, List.getElem_cons_succ, List.getElem_cons_zero, List.setIfInBounds_toArray, List.set_cons_zero, List.set_cons_succ]
      refine wpW_one 11 _ rfl (by kernel_rfl) (step_copyAgg rfl 44 rfl (X k) a1 c1 (by simp [Act.eval, Act.put]) r1s zk.n ?_)
      intro ha1 hc1 u2 T1 q2
      have W2s := W1s.keep q2
      have A2s := A1s.keep q2
      have e3 := W2s.box.c3
      obtain ⟨_, y0, y1, y2, y3, y4, y5, y6, y7, y8, y9, y10⟩ := id A2s
      simp only [Nat.zero_add] at y1 y2 y3 y4 y5 y6 y7 y8 y9 y10
      have hS2 := (⟨e3, y0, y1, y2, y3, y4, y5, y6, y7, y8, y9⟩ : (fun w' : World => w'.cell? ⟨w1.heap.size + 1, 3, none⟩ = some (.slice va k vc) ∧ w'.cell? ⟨wr.heap.size, 0, none⟩ = some (.string (X k).m) ∧ w'.cell? ⟨wr.heap.size, 1, none⟩ = some (.slice a0 (X k).tn c0) ∧ w'.cell? ⟨wr.heap.size, 2, none⟩ = some (.int .i64 (X k).st) ∧ w'.cell? ⟨wr.heap.size, 3, none⟩ = some (.int .i64 (X k).c) ∧ w'.cell? ⟨wr.heap.size, 4, none⟩ = some (.int .i64 (X k).s) ∧ w'.cell? ⟨wr.heap.size, 5, none⟩ = some (.int .i64 (X k).lo) ∧ w'.cell? ⟨wr.heap.size, 6, none⟩ = some (.int .i64 (X k).hi) ∧ w'.cell? ⟨wr.heap.size, 7, none⟩ = some (.slice a1 (X k).n c1) ∧ w'.cell? ⟨wr.heap.size, 8, none⟩ = some (.bool (X k).fu) ∧ w'.cell? ⟨wr.heap.size, 9, none⟩ = some (.int .i64 (X k).ver)) u2)
      refine ⟨fun _ => hS2, ?_⟩
      refine wpW_take 14 _ (.agg #[.string (X k).m, .slice ha0 (X k).tn hc0, .int .i64 (X k).st, .int .i64 (X k).c, .int .i64 (X k).s, .int .i64 (X k).lo, .int .i64 (X k).hi, .slice ha1 (X k).n hc1, .bool (X k).fu, .int .i64 (X k).ver, .bool false]) rfl (by kernel_rfl) (by kernel_rfl) (by kernel_rfl) (fun _ _ _ h => h) (by kernel_rfl) (.inl ⟨rfl, fun w' hS' => by obtain ⟨s0, s1, s2, s3, s4, s5, s6, s7, s8, s9, s10⟩ := hS'; go_simp⟩) hS2 ?_
      obtain ⟨vb, vd, V2, u3, hrun, O3, hbn, hbx⟩ := opPush W2s WSd.out T0 T1 q1 q2 (by omega) (by omega)
      have bX := below_new u2 (.cells #[.string (X k).m, .slice ha0 (X k).tn hc0, .int .i64 (X k).st, .int .i64 (X k).c, .int .i64 (X k).s, .int .i64 (X k).lo, .int .i64 (X k).hi, .slice ha1 (X k).n hc1, .bool (X k).fu, .int .i64 (X k).ver, .bool false] 39)
      have e3' := (W2s.keep bX).box.c3
      obtain ⟨_, y0', y1', y2', y3', y4', y5', y6', y7', y8', y9', y10'⟩ := A2s.keep bX
      simp only [Nat.zero_add] at y1' y2' y3' y4' y5' y6' y7' y8' y9' y10'
      simp only [Act.put, List.getElem_toArray, List.getElem_cons_succ, List.getElem_cons_zero, List.setIfInBounds_toArray, List.set_cons_zero, List.set_cons_succ]
      refine wpW_one 15 _ rfl (by kernel_rfl) (step_buildW rfl 48 rfl (X k) (.slice ha0 (X k).tn hc0) (.slice ha1 (X k).n hc1) false ⟨_, _, _, rfl⟩ ⟨_, _, _, rfl⟩ (by simp [Act.eval, Act.put]) ?_)
      refine ⟨fun _ => ⟨e3', y0', y1', y2', y3', y4', y5', y6', y7', y8', y9'⟩, ?_⟩
      have s12 := q1.size
      have s22 := q2.size
      have hb3 : ∀ j, u3.cell? ⟨wr.heap.size, j, none⟩ = u2.cell? ⟨wr.heap.size, j, none⟩ := fun j => World.cell?_of_block (w := u2) (a := ⟨wr.heap.size, j, none⟩) (hbx wr.heap.size (by omega) (fun e => by have := hvl _ e; omega))
      have k3 := (hbn.cell (p := ⟨w1.heap.size + 1, 3, none⟩) (by show w1.heap.size + 1 < w1.heap.size + 2; omega)).trans e3
      have kf := (hbn.frozen (p := ⟨w1.heap.size + 1, 3, none⟩) (by show w1.heap.size + 1 < w1.heap.size + 2; omega)).trans (W2s.fz 3)
      have hS3 := (⟨k3, (hb3 _).trans y0, (hb3 _).trans y1, (hb3 _).trans y2, (hb3 _).trans y3, (hb3 _).trans y4, (hb3 _).trans y5, (hb3 _).trans y6, (hb3 _).trans y7, (hb3 _).trans y8, (hb3 _).trans y9⟩ : (fun w' : World => w'.cell? ⟨w1.heap.size + 1, 3, none⟩ = some (.slice va k vc) ∧ w'.cell? ⟨wr.heap.size, 0, none⟩ = some (.string (X k).m) ∧ w'.cell? ⟨wr.heap.size, 1, none⟩ = some (.slice a0 (X k).tn c0) ∧ w'.cell? ⟨wr.heap.size, 2, none⟩ = some (.int .i64 (X k).st) ∧ w'.cell? ⟨wr.heap.size, 3, none⟩ = some (.int .i64 (X k).c) ∧ w'.cell? ⟨wr.heap.size, 4, none⟩ = some (.int .i64 (X k).s) ∧ w'.cell? ⟨wr.heap.size, 5, none⟩ = some (.int .i64 (X k).lo) ∧ w'.cell? ⟨wr.heap.size, 6, none⟩ = some (.int .i64 (X k).hi) ∧ w'.cell? ⟨wr.heap.size, 7, none⟩ = some (.slice a1 (X k).n c1) ∧ w'.cell? ⟨wr.heap.size, 8, none⟩ = some (.bool (X k).fu) ∧ w'.cell? ⟨wr.heap.size, 9, none⟩ = some (.int .i64 (X k).ver)) u3)
      refine wpW_one 16 _ rfl (by kernel_rfl) (step_append_ty rfl (.tmp 39) (.tmp 49) 23 23 rfl rfl (.slice va k vc) (.slice (some ⟨u2.heap.size, 0, none⟩) 1 1) (.slice vb (k + 1) vd) (by simp [Act.eval, Act.put]) (by simp [Act.eval, Act.put]) u3 hrun ?_)
      refine ⟨fun _ => hS3, ?_⟩
      simp only [Act.put, List.getElem_toArray, List.getElem_cons_succ, List.getElem_cons_zero, List.setIfInBounds_toArray, List.set_cons_zero, List.set_cons_succ]
      refine wpW_one 17 _ rfl (by kernel_rfl) (step_nil rfl 34 rfl (w1.heap.size + 1) 0 rfl ?_)
      refine ⟨fun _ => hS3, ?_⟩
      simp only [Act.put, List.getElem_toArray, List.getElem_cons_succ, List.getElem_cons_zero, List.setIfInBounds_toArray, List.set_cons_zero, List.set_cons_succ]
      refine wpW_one 18 _ rfl (by kernel_rfl) (step_f0 rfl 51 rfl (w1.heap.size + 1) 0 rfl ?_)
      refine ⟨fun _ => hS3, ?_⟩
      simp only [Act.put, List.getElem_toArray, List.getElem_cons_succ, List.getElem_cons_zero, List.setIfInBounds_toArray, List.set_cons_zero, List.set_cons_succ]
      refine wpW_one 19 _ rfl (by kernel_rfl) (step_f3 rfl 52 rfl (w1.heap.size + 1) 0 rfl ?_)
      refine ⟨fun _ => hS3, ?_⟩
      simp only [Act.put, List.getElem_toArray, List.getElem_cons_succ, List.getElem_cons_zero, List.setIfInBounds_toArray, List.set_cons_zero, List.set_cons_succ]
      refine wpW_one 20 _ rfl (by kernel_rfl) (step_storeS rfl 53 50 rfl (w1.heap.size + 1) 3 vb (k + 1) vd _ rfl rfl k3 kf ?_)
      refine ⟨fun h => absurd h (by decide), ?_⟩
      refine wpW_done (by kernel_rfl) ?_
      simp only [Act.put, List.getElem_toArray, List.getElem_cons_succ, List.getElem_cons_zero, List.setIfInBounds_toArray, List.set_cons_zero, List.set_cons_succ]
      have WF := W2s.put hbn O3
      have bwF : Below w.heap.size w (u3.setCell ⟨w1.heap.size + 1, 3, none⟩ (.slice vb (k + 1) vd)) := ((((bwu.trans ((Below.refl _ u).drew.mono (by omega))).trans (q1.mono (by omega))).trans (q2.mono (by omega))).trans (hbn.mono (by omega))).setCell (p := ⟨w1.heap.size + 1, 3, none⟩) (by show w.heap.size ≤ w1.heap.size + 1; omega) _
      go_wp2
      go_roundw
      case rel => exact ⟨k + 1, _, _, by omega, by go_num, WF, bwF⟩
      case measure => simp [intOf]; omega
    · rw [hdi] at y10 d10 hW1
      have g4 := WW.c4
      go_wp2
      rw [← hW1]
      clear hW1
      have r0d := r0W.keep (Below.refl _ W1).drew
      have Sd := WW.set.keep (Below.refl _ W1).drew
      go_region_held3 (fun w' => w'.cell? ⟨w1.heap.size + 1, 4, none⟩ = some (.map (some w1.heap.size)) ∧ w'.cell? ⟨wr.heap.size, 0, none⟩ = some (.string (X k).m) ∧ w'.cell? ⟨wr.heap.size, 1, none⟩ = some (.slice a0 (X k).tn c0) ∧ w'.cell? ⟨wr.heap.size, 2, none⟩ = some (.int .i64 (X k).st)) (go_keep) (first | (go_at_call 42; refine (add_any (X k) w1.heap.size _ a0 c0 _ r0d gk Sd hnew).mono ?_; rintro e u ⟨rfl, hset, ht⟩; have ht' := (Thru.of_below (g := w1.heap.size) (Below.refl _ W1).drew).trans ht; have WSu := (WW.reset ht' (hset.congr (dS_more hdi))); have q4 := WSu.c4; have bd0 := ht'.block wr.heap.size AW.lt (by omega); have Au : WiAt u wr.heap.size 0 (X k) a0 a1 c0 c1 := AW.move (Nat.lt_of_lt_of_le AW.lt ht'.size) (fun j => World.cell?_of_block (w := W1) (a := ⟨wr.heap.size, j, none⟩) bd0); obtain ⟨_, p0, p1, p2, _⟩ := id Au; simp only [Nat.zero_add] at p1 p2))
      have bwu : Below w.heap.size w u := bwW.trans (ht'.below hs1 (by omega))
      have r0u : TRow u a0 (X k).tn (X k).nm (X k).vl := r0.keep bwu
      have r1u : IRow u a1 (X k).n (X k).f := r1.keep bwu
      have szu : w1.heap.size + 2 ≤ u.heap.size := by have := ht'.size; omega
      clear AW r0W r1W bwW WW y0 y1 y2 y3 y4 y5 y6 y7 y8 y9 y10 d0 d1 d2 d3 d4 d5 d6 d7 d8 d9 d10 p0 p1 p2 q4 g4 r0d Sd ht ht' bd0 hset szW
      have WSd := WSu.keep (Below.refl _ u).drew
      have Ad := Au.keep (Below.refl _ u).drew
      have r0d := r0u.keep (Below.refl _ u).drew
      have r1d := r1u.keep (Below.refl _ u).drew
      obtain ⟨va, vc, hva⟩ := ownsRow_form WSu.out.own
      subst hva
      have e3 := WSd.box.c3
      obtain ⟨_, y0, y1, y2, y3, y4, y5, y6, y7, y8, y9, y10⟩ := id Ad
      simp only [Nat.zero_add] at y1 y2 y3 y4 y5 y6 y7 y8 y9 y10
      have szd : u.drew.heap.size = u.heap.size := rfl
      have szq : wr.heap.size < u.heap.size := Au.lt
      go_wp2
      refine wp_region_w (fun w' => w'.cell? ⟨w1.heap.size + 1, 3, none⟩ = some (.slice va k vc) ∧ w'.cell? ⟨wr.heap.size, 0, none⟩ = some (.string (X k).m) ∧ w'.cell? ⟨wr.heap.size, 1, none⟩ = some (.slice a0 (X k).tn c0) ∧ w'.cell? ⟨wr.heap.size, 2, none⟩ = some (.int .i64 (X k).st) ∧ w'.cell? ⟨wr.heap.size, 3, none⟩ = some (.int .i64 (X k).c) ∧ w'.cell? ⟨wr.heap.size, 4, none⟩ = some (.int .i64 (X k).s) ∧ w'.cell? ⟨wr.heap.size, 5, none⟩ = some (.int .i64 (X k).lo) ∧ w'.cell? ⟨wr.heap.size, 6, none⟩ = some (.int .i64 (X k).hi) ∧ w'.cell? ⟨wr.heap.size, 7, none⟩ = some (.slice a1 (X k).n c1) ∧ w'.cell? ⟨wr.heap.size, 8, none⟩ = some (.bool (X k).fu) ∧ w'.cell? ⟨wr.heap.size, 9, none⟩ = some (.int .i64 (X k).ver)) (fun j => j != 20) (by kernel_rfl) ?_
      change wpW _ _ _ _ _ _ 21 _ _ u.drew
      have hS0 := (⟨e3, y0, y1, y2, y3, y4, y5, y6, y7, y8, y9⟩ : (fun w' : World => w'.cell? ⟨w1.heap.size + 1, 3, none⟩ = some (.slice va k vc) ∧ w'.cell? ⟨wr.heap.size, 0, none⟩ = some (.string (X k).m) ∧ w'.cell? ⟨wr.heap.size, 1, none⟩ = some (.slice a0 (X k).tn c0) ∧ w'.cell? ⟨wr.heap.size, 2, none⟩ = some (.int .i64 (X k).st) ∧ w'.cell? ⟨wr.heap.size, 3, none⟩ = some (.int .i64 (X k).c) ∧ w'.cell? ⟨wr.heap.size, 4, none⟩ = some (.int .i64 (X k).s) ∧ w'.cell? ⟨wr.heap.size, 5, none⟩ = some (.int .i64 (X k).lo) ∧ w'.cell? ⟨wr.heap.size, 6, none⟩ = some (.int .i64 (X k).hi) ∧ w'.cell? ⟨wr.heap.size, 7, none⟩ = some (.slice a1 (X k).n c1) ∧ w'.cell? ⟨wr.heap.size, 8, none⟩ = some (.bool (X k).fu) ∧ w'.cell? ⟨wr.heap.size, 9, none⟩ = some (.int .i64 (X k).ver)) u.drew)
      refine wpW_take 0 _ (.pointer (some ⟨w1.heap.size + 1, 0, none⟩)) rfl (by kernel_rfl) (by kernel_rfl) (by kernel_rfl) (fun _ _ _ h => h) (by kernel_rfl) (.inl ⟨rfl, fun w' hS' => by obtain ⟨s0, s1, s2, s3, s4, s5, s6, s7, s8, s9, s10⟩ := hS'; go_simp⟩) hS0 ?_
      refine wpW_take 1 _ (.pointer (some ⟨w1.heap.size + 1, 0, none⟩)) rfl (by kernel_rfl) (by kernel_rfl) (by kernel_rfl) (fun _ _ _ h => h) (by kernel_rfl) (.inl ⟨rfl, fun w' hS' => by obtain ⟨s0, s1, s2, s3, s4, s5, s6, s7, s8, s9, s10⟩ := hS'; go_simp⟩) hS0 ?_
      refine wpW_take 2 _ (.pointer (some ⟨w1.heap.size + 1, 0, none⟩)) rfl (by kernel_rfl) (by kernel_rfl) (by kernel_rfl) (fun _ _ _ h => h) (by kernel_rfl) (.inl ⟨rfl, fun w' hS' => by obtain ⟨s0, s1, s2, s3, s4, s5, s6, s7, s8, s9, s10⟩ := hS'; go_simp⟩) hS0 ?_
      refine wpW_take 3 _ (.pointer (some ⟨w1.heap.size + 1, 0, none⟩)) rfl (by kernel_rfl) (by kernel_rfl) (by kernel_rfl) (fun _ _ _ h => h) (by kernel_rfl) (.inl ⟨rfl, fun w' hS' => by obtain ⟨s0, s1, s2, s3, s4, s5, s6, s7, s8, s9, s10⟩ := hS'; go_simp⟩) hS0 ?_
      refine wpW_take 4 _ (.pointer (some ⟨w1.heap.size + 1, 3, none⟩)) rfl (by kernel_rfl) (by kernel_rfl) (by kernel_rfl) (fun _ _ _ h => h) (by kernel_rfl) (.inl ⟨rfl, fun w' hS' => by obtain ⟨s0, s1, s2, s3, s4, s5, s6, s7, s8, s9, s10⟩ := hS'; go_simp⟩) hS0 ?_
      refine wpW_take 5 _ (.slice va k vc) rfl (by kernel_rfl) (by kernel_rfl) (by kernel_rfl) (fun _ _ _ h => h) (by kernel_rfl) (.inl ⟨rfl, fun w' hS' => by obtain ⟨s0, s1, s2, s3, s4, s5, s6, s7, s8, s9, s10⟩ := hS'; go_simp⟩) hS0 ?_
      refine wpW_take 6 _ (.pointer (some ⟨wr.heap.size, 0, none⟩)) rfl (by kernel_rfl) (by kernel_rfl) (by kernel_rfl) (fun _ _ _ h => h) (by kernel_rfl) (.inl ⟨rfl, fun w' hS' => by obtain ⟨s0, s1, s2, s3, s4, s5, s6, s7, s8, s9, s10⟩ := hS'; go_simp⟩) hS0 ?_
      refine wpW_take 7 _ (.agg #[.string (X k).m, .slice a0 (X k).tn c0, .int .i64 (X k).st]) rfl (by kernel_rfl) (by kernel_rfl) (by kernel_rfl) (fun _ _ _ h => h) (by kernel_rfl) (.inl ⟨rfl, fun w' hS' => by obtain ⟨s0, s1, s2, s3, s4, s5, s6, s7, s8, s9, s10⟩ := hS'; go_simp⟩) hS0 ?_
      refine wpW_take 9 _ (.pointer (some ⟨wr.heap.size, 3, none⟩)) rfl (by kernel_rfl) (by kernel_rfl) (by kernel_rfl) (fun _ _ _ h => h) (by kernel_rfl) (.inl ⟨rfl, fun w' hS' => by obtain ⟨s0, s1, s2, s3, s4, s5, s6, s7, s8, s9, s10⟩ := hS'; go_simp⟩) hS0 ?_
      refine wpW_take 10 _ (.agg #[.int .i64 (X k).c, .int .i64 (X k).s, .int .i64 (X k).lo, .int .i64 (X k).hi, .slice a1 (X k).n c1, .bool (X k).fu]) rfl (by kernel_rfl) (by kernel_rfl) (by kernel_rfl) (fun _ _ _ h => h) (by kernel_rfl) (.inl ⟨rfl, fun w' hS' => by obtain ⟨s0, s1, s2, s3, s4, s5, s6, s7, s8, s9, s10⟩ := hS'; go_simp⟩) hS0 ?_
      refine wpW_take 12 _ (.pointer (some ⟨wr.heap.size, 9, none⟩)) rfl (by kernel_rfl) (by kernel_rfl) (by kernel_rfl) (fun _ _ _ h => h) (by kernel_rfl) (.inl ⟨rfl, fun w' hS' => by obtain ⟨s0, s1, s2, s3, s4, s5, s6, s7, s8, s9, s10⟩ := hS'; go_simp⟩) hS0 ?_
      refine wpW_take 13 _ (.int .i64 (X k).ver) rfl (by kernel_rfl) (by kernel_rfl) (by kernel_rfl) (fun _ _ _ h => h) (by kernel_rfl) (.inl ⟨rfl, fun w' hS' => by obtain ⟨s0, s1, s2, s3, s4, s5, s6, s7, s8, s9, s10⟩ := hS'; go_simp⟩) hS0 ?_
      simp only [Act.put, List.getElem_toArray, List.getElem_cons_succ, List.getElem_cons_zero, List.setIfInBounds_toArray, List.set_cons_zero, List.set_cons_succ]
      refine wpW_one 8 _ rfl (by kernel_rfl) (step_copyKey rfl 41 rfl (X k) a0 c0 (by simp [Act.eval, Act.put]) r0d zk.tn ?_)
      intro ha0 hc0 u1 T0 q1
      have W1s := WSd.keep q1
      have A1s := Ad.keep q1
      have r1s := r1d.keep q1
      have e3 := W1s.box.c3
      obtain ⟨_, y0, y1, y2, y3, y4, y5, y6, y7, y8, y9, y10⟩ := id A1s
      simp only [Nat.zero_add] at y1 y2 y3 y4 y5 y6 y7 y8 y9 y10
      refine ⟨fun _ => ⟨e3, y0, y1, y2, y3, y4, y5, y6, y7, y8, y9⟩, ?_⟩
      simp only [Act.put, List.getElem_toArray, List.getElem_cons_succ, List.getElem_cons_zero, List.setIfInBounds_toArray, List.set_cons_zero, List.set_cons_succ]
      refine wpW_one 11 _ rfl (by kernel_rfl) (step_copyAgg rfl 44 rfl (X k) a1 c1 (by simp [Act.eval, Act.put]) r1s zk.n ?_)
      intro ha1 hc1 u2 T1 q2
      have W2s := W1s.keep q2
      have A2s := A1s.keep q2
      have e3 := W2s.box.c3
      obtain ⟨_, y0, y1, y2, y3, y4, y5, y6, y7, y8, y9, y10⟩ := id A2s
      simp only [Nat.zero_add] at y1 y2 y3 y4 y5 y6 y7 y8 y9 y10
      have hS2 := (⟨e3, y0, y1, y2, y3, y4, y5, y6, y7, y8, y9⟩ : (fun w' : World => w'.cell? ⟨w1.heap.size + 1, 3, none⟩ = some (.slice va k vc) ∧ w'.cell? ⟨wr.heap.size, 0, none⟩ = some (.string (X k).m) ∧ w'.cell? ⟨wr.heap.size, 1, none⟩ = some (.slice a0 (X k).tn c0) ∧ w'.cell? ⟨wr.heap.size, 2, none⟩ = some (.int .i64 (X k).st) ∧ w'.cell? ⟨wr.heap.size, 3, none⟩ = some (.int .i64 (X k).c) ∧ w'.cell? ⟨wr.heap.size, 4, none⟩ = some (.int .i64 (X k).s) ∧ w'.cell? ⟨wr.heap.size, 5, none⟩ = some (.int .i64 (X k).lo) ∧ w'.cell? ⟨wr.heap.size, 6, none⟩ = some (.int .i64 (X k).hi) ∧ w'.cell? ⟨wr.heap.size, 7, none⟩ = some (.slice a1 (X k).n c1) ∧ w'.cell? ⟨wr.heap.size, 8, none⟩ = some (.bool (X k).fu) ∧ w'.cell? ⟨wr.heap.size, 9, none⟩ = some (.int .i64 (X k).ver)) u2)
      refine ⟨fun _ => hS2, ?_⟩
      refine wpW_take 14 _ (.agg #[.string (X k).m, .slice ha0 (X k).tn hc0, .int .i64 (X k).st, .int .i64 (X k).c, .int .i64 (X k).s, .int .i64 (X k).lo, .int .i64 (X k).hi, .slice ha1 (X k).n hc1, .bool (X k).fu, .int .i64 (X k).ver, .bool false]) rfl (by kernel_rfl) (by kernel_rfl) (by kernel_rfl) (fun _ _ _ h => h) (by kernel_rfl) (.inl ⟨rfl, fun w' hS' => by obtain ⟨s0, s1, s2, s3, s4, s5, s6, s7, s8, s9, s10⟩ := hS'; go_simp⟩) hS2 ?_
      obtain ⟨vb, vd, V2, u3, hrun, O3, hbn, hbx⟩ := opPush W2s WSd.out T0 T1 q1 q2 (by omega) (by omega)
      have bX := below_new u2 (.cells #[.string (X k).m, .slice ha0 (X k).tn hc0, .int .i64 (X k).st, .int .i64 (X k).c, .int .i64 (X k).s, .int .i64 (X k).lo, .int .i64 (X k).hi, .slice ha1 (X k).n hc1, .bool (X k).fu, .int .i64 (X k).ver, .bool false] 39)
      have e3' := (W2s.keep bX).box.c3
      obtain ⟨_, y0', y1', y2', y3', y4', y5', y6', y7', y8', y9', y10'⟩ := A2s.keep bX
      simp only [Nat.zero_add] at y1' y2' y3' y4' y5' y6' y7' y8' y9' y10'
      simp only [Act.put, List.getElem_toArray, List.getElem_cons_succ, List.getElem_cons_zero, List.setIfInBounds_toArray, List.set_cons_zero, List.set_cons_succ]
      refine wpW_one 15 _ rfl (by kernel_rfl) (step_buildW rfl 48 rfl (X k) (.slice ha0 (X k).tn hc0) (.slice ha1 (X k).n hc1) false ⟨_, _, _, rfl⟩ ⟨_, _, _, rfl⟩ (by simp [Act.eval, Act.put]) ?_)
      refine ⟨fun _ => ⟨e3', y0', y1', y2', y3', y4', y5', y6', y7', y8', y9'⟩, ?_⟩
      have s12 := q1.size
      have s22 := q2.size
      have hb3 : ∀ j, u3.cell? ⟨wr.heap.size, j, none⟩ = u2.cell? ⟨wr.heap.size, j, none⟩ := fun j => World.cell?_of_block (w := u2) (a := ⟨wr.heap.size, j, none⟩) (hbx wr.heap.size (by omega) (fun e => by have := hvl _ e; omega))
      have k3 := (hbn.cell (p := ⟨w1.heap.size + 1, 3, none⟩) (by show w1.heap.size + 1 < w1.heap.size + 2; omega)).trans e3
      have kf := (hbn.frozen (p := ⟨w1.heap.size + 1, 3, none⟩) (by show w1.heap.size + 1 < w1.heap.size + 2; omega)).trans (W2s.fz 3)
      have hS3 := (⟨k3, (hb3 _).trans y0, (hb3 _).trans y1, (hb3 _).trans y2, (hb3 _).trans y3, (hb3 _).trans y4, (hb3 _).trans y5, (hb3 _).trans y6, (hb3 _).trans y7, (hb3 _).trans y8, (hb3 _).trans y9⟩ : (fun w' : World => w'.cell? ⟨w1.heap.size + 1, 3, none⟩ = some (.slice va k vc) ∧ w'.cell? ⟨wr.heap.size, 0, none⟩ = some (.string (X k).m) ∧ w'.cell? ⟨wr.heap.size, 1, none⟩ = some (.slice a0 (X k).tn c0) ∧ w'.cell? ⟨wr.heap.size, 2, none⟩ = some (.int .i64 (X k).st) ∧ w'.cell? ⟨wr.heap.size, 3, none⟩ = some (.int .i64 (X k).c) ∧ w'.cell? ⟨wr.heap.size, 4, none⟩ = some (.int .i64 (X k).s) ∧ w'.cell? ⟨wr.heap.size, 5, none⟩ = some (.int .i64 (X k).lo) ∧ w'.cell? ⟨wr.heap.size, 6, none⟩ = some (.int .i64 (X k).hi) ∧ w'.cell? ⟨wr.heap.size, 7, none⟩ = some (.slice a1 (X k).n c1) ∧ w'.cell? ⟨wr.heap.size, 8, none⟩ = some (.bool (X k).fu) ∧ w'.cell? ⟨wr.heap.size, 9, none⟩ = some (.int .i64 (X k).ver)) u3)
      refine wpW_one 16 _ rfl (by kernel_rfl) (step_append_ty rfl (.tmp 39) (.tmp 49) 23 23 rfl rfl (.slice va k vc) (.slice (some ⟨u2.heap.size, 0, none⟩) 1 1) (.slice vb (k + 1) vd) (by simp [Act.eval, Act.put]) (by simp [Act.eval, Act.put]) u3 hrun ?_)
      refine ⟨fun _ => hS3, ?_⟩
      simp only [Act.put, List.getElem_toArray, List.getElem_cons_succ, List.getElem_cons_zero, List.setIfInBounds_toArray, List.set_cons_zero, List.set_cons_succ]
      refine wpW_one 17 _ rfl (by kernel_rfl) (step_nil rfl 34 rfl (w1.heap.size + 1) 0 rfl ?_)
      refine ⟨fun _ => hS3, ?_⟩
      simp only [Act.put, List.getElem_toArray, List.getElem_cons_succ, List.getElem_cons_zero, List.setIfInBounds_toArray, List.set_cons_zero, List.set_cons_succ]
      refine wpW_one 18 _ rfl (by kernel_rfl) (step_f0 rfl 51 rfl (w1.heap.size + 1) 0 rfl ?_)
      refine ⟨fun _ => hS3, ?_⟩
      simp only [Act.put, List.getElem_toArray, List.getElem_cons_succ, List.getElem_cons_zero, List.setIfInBounds_toArray, List.set_cons_zero, List.set_cons_succ]
      refine wpW_one 19 _ rfl (by kernel_rfl) (step_f3 rfl 52 rfl (w1.heap.size + 1) 0 rfl ?_)
      refine ⟨fun _ => hS3, ?_⟩
      simp only [Act.put, List.getElem_toArray, List.getElem_cons_succ, List.getElem_cons_zero, List.setIfInBounds_toArray, List.set_cons_zero, List.set_cons_succ]
      refine wpW_one 20 _ rfl (by kernel_rfl) (step_storeS rfl 53 50 rfl (w1.heap.size + 1) 3 vb (k + 1) vd _ rfl rfl k3 kf ?_)
      refine ⟨fun h => absurd h (by decide), ?_⟩
      refine wpW_done (by kernel_rfl) ?_
      simp only [Act.put, List.getElem_toArray, List.getElem_cons_succ, List.getElem_cons_zero, List.setIfInBounds_toArray, List.set_cons_zero, List.set_cons_succ]
      have WF := W2s.put hbn O3
      have bwF : Below w.heap.size w (u3.setCell ⟨w1.heap.size + 1, 3, none⟩ (.slice vb (k + 1) vd)) := ((((bwu.trans ((Below.refl _ u).drew.mono (by omega))).trans (q1.mono (by omega))).trans (q2.mono (by omega))).trans (hbn.mono (by omega))).setCell (p := ⟨w1.heap.size + 1, 3, none⟩) (by show w.heap.size ≤ w1.heap.size + 1; omega) _
      go_wp2
      go_roundw
      case rel => exact ⟨k + 1, _, _, by omega, by go_num, WF, bwF⟩
      case measure => simp [intOf]; omega
end Go.Proofs.Ytpggmgmdcccmeaa
