/- tell: which of the windows are dirty is told of the set. / tell, where the windows are told by what an answer is told by (their own memory between base and top). / wornOut: whether a dirty window has the last version, in the program. / TellDirty, in numbers: versions risen, what is told; one told window put behind the others. -/
import Derived.Test.YtjdijikmdlklkaaWb
import Derived.Laws.EntriesVeiled
import Derived.Test.YtjdijikmdlklkaaCt
namespace Go.Proofs.Ytjdijikmdlklkaa
open Go.RowKit
set_option linter.unusedSimpArgs false
set_option linter.unusedVariables false

/-- Windows told: b tells which are dirty. -/
def tldB (Y : Nat → Wn) (b : Nat → Bool) (m : Nat) : Nat → Wn := fun i => if i < m then (Y i).w_di (b i) else Y i
theorem tldB_zero (Y : Nat → Wn) (b : Nat → Bool) : tldB Y b 0 = Y := by funext i; simp [tldB]
theorem tldB_at (Y : Nat → Wn) (b : Nat → Bool) (k : Nat) : tldB Y b k k = Y k := by simp [tldB]
theorem tldB_up (Y : Nat → Wn) (b : Nat → Bool) (k : Nat) : upWi (tldB Y b k) k ((Y k).w_di (b k)) = tldB Y b (k + 1) := by
  funext i
  unfold upWi tldB
  by_cases e : i = k
  · subst e; simp
  · by_cases e2 : i < k
    · simp [e, e2, show i < k + 1 by omega]
    · simp [e, e2, show ¬ i < k + 1 by omega]
theorem tldB_key (Y : Nat → Wn) (b : Nat → Bool) (m i : Nat) : (tldB Y b m i).m = (Y i).m ∧ (tldB Y b m i).tn = (Y i).tn ∧ (tldB Y b m i).st = (Y i).st ∧ (tldB Y b m i).nm = (Y i).nm ∧ (tldB Y b m i).vl = (Y i).vl ∧ (tldB Y b m i).n = (Y i).n := by
  unfold tldB
  split <;> exact ⟨rfl, rfl, rfl, rfl, rfl, rfl⟩

theorem set_blk (w : World) (b o : Nat) (v : Value) (c : Nat) (h : c ≠ b) : (w.setCell ⟨b, o, none⟩ v).heap[c]? = w.heap[c]? := (Others.setCell w b o v).block c h
theorem tldB_same (Y : Nat → Wn) (b : Nat → Bool) (k : Nat) : upWi (tldB Y b k) k (Y k) = tldB Y b k := by
  have := upWi_same (tldB Y b k) k
  rw [tldB_at] at this
  exact this
/-- What tell leaves. -/
def TlO (base z : Nat) (zz h mk : Int) (n : Nat) (Y : Nat → Wn) (S : ByteArray → Prop) (w : World) (e : Ending) (w' : World) : Prop :=
  ∃ v b, e = .returned (.agg #[.int .i64 zz, .int .i64 h, .int .i64 mk, v]) ∧ (∀ i, i < n → (b i = true ↔ S (kS (Y i)))) ∧ BA w' base w.heap.size v n (tldB Y b n) ∧ Below base w w'

theorem tlS {u : World} {p g k n vc r : Nat} {x : Wn} {a0 : Option Addr} {c0 : Nat} (bb : Bool) (hgp : g ≠ p) (x3 : u.cell? ⟨p, 3, none⟩ = some (.slice (some ⟨g, 0, none⟩) n vc)) (x4 : u.cell? ⟨p, 4, none⟩ = some (.map (some r))) (v0 : u.cell? ⟨g, k * 11, none⟩ = some (.string x.m)) (v1 : u.cell? ⟨g, k * 11 + 1, none⟩ = some (.slice a0 x.tn c0)) (v2 : u.cell? ⟨g, k * 11 + 2, none⟩ = some (.int .i64 x.st)) :
    (u.setCell ⟨g, k * 11 + 10, none⟩ (.bool bb)).cell? ⟨p, 3, none⟩ = some (.slice (some ⟨g, 0, none⟩) n vc) ∧ (u.setCell ⟨g, k * 11 + 10, none⟩ (.bool bb)).cell? ⟨p, 4, none⟩ = some (.map (some r)) ∧ (u.setCell ⟨g, k * 11 + 10, none⟩ (.bool bb)).cell? ⟨g, k * 11, none⟩ = some (.string x.m) ∧ (u.setCell ⟨g, k * 11 + 10, none⟩ (.bool bb)).cell? ⟨g, k * 11 + 1, none⟩ = some (.slice a0 x.tn c0) ∧ (u.setCell ⟨g, k * 11 + 10, none⟩ (.bool bb)).cell? ⟨g, k * 11 + 2, none⟩ = some (.int .i64 x.st) := by
  refine ⟨?_, ?_, ?_, ?_, ?_⟩
  all_goals rw [World.cell?_setCell_other _ _ _ _ (by intro hh; injection hh with h1 h2 _; omega)]
  all_goals assumption

end Go.Proofs.Ytjdijikmdlklkaa
namespace Go.Proofs.Ytjdijikmdlklkaa
open Go.RowKit
set_option linter.unusedSimpArgs false
set_option linter.unusedVariables false

/-- Windows at work: in block p, the set of the dirty ones in block r, the windows themselves from base on and below top. -/
structure WSb (w : World) (base top p r : Nat) (z h mk : Int) (v : Value) (n : Nat) (Y : Nat → Wn) (S : ByteArray → Prop) : Prop where
  box : BdAt w p z h mk v
  c4 : w.cell? ⟨p, 4, none⟩ = some (.map (some r))
  fz : ∀ j, w.frozen? ⟨p, j, none⟩ = false
  set : KSet w r S
  out : BA w base top v n Y
  pr : p ≠ r
  pb : p < base
  rb : r < base
section
variable {w w' : World} {base top p r n : Nat} {z h mk : Int} {v : Value} {Y : Nat → Wn} {V : Nat → Value} {S S' : ByteArray → Prop}
theorem WSb.keep (H : WSb w base top p r z h mk v n Y S) (hb : Below w.heap.size w w') : WSb w' base top p r z h mk v n Y S :=
  ⟨H.box.keep hb, (hb.cell (p := ⟨p, 4, none⟩) H.box.lt).trans H.c4, fun j => (hb.frozen (p := ⟨p, j, none⟩) H.box.lt).trans (H.fz j), H.set.keep hb, H.out.keep hb, H.pr, H.pb, H.rb⟩
/-- Others than its own blocks are written: those below base and those from base on below top are kept. -/
theorem WSb.same (H : WSb w base top p r z h mk v n Y S) (hs : w.heap.size ≤ w'.heap.size) (hb : ∀ c, c < top → w'.heap[c]? = w.heap[c]?) (ht : base ≤ top) : WSb w' base top p r z h mk v n Y S := by
  have pb := H.pb
  have rb := H.rb
  have kb := hb p (by omega)
  have kc : ∀ j, w'.cell? ⟨p, j, none⟩ = w.cell? ⟨p, j, none⟩ := fun j => World.cell?_of_block (w := w) (a := ⟨p, j, none⟩) kb
  exact ⟨⟨Nat.lt_of_lt_of_le H.box.lt hs, (kc _).trans H.box.c0, (kc _).trans H.box.c1, (kc _).trans H.box.c2, (kc _).trans H.box.c3⟩, (kc _).trans H.c4, fun j => (World.frozen?_of_block (w := w) (a := ⟨p, j, none⟩) kb).trans (H.fz j), H.set.same (hb r (by omega)), H.out.same hs (fun c _ hc => hb c hc), H.pr, H.pb, H.rb⟩
/-- The set is written alone. -/
theorem WSb.reset (H : WSb w base top p r z h mk v n Y S) (ho : Others r w w') (hs : KSet w' r S') : WSb w' base top p r z h mk v n Y S' := by
  have rb := H.rb
  have kb := ho.block p H.pr
  have kc : ∀ j, w'.cell? ⟨p, j, none⟩ = w.cell? ⟨p, j, none⟩ := fun j => World.cell?_of_block (w := w) (a := ⟨p, j, none⟩) kb
  exact ⟨⟨by rw [ho.size]; exact H.box.lt, (kc _).trans H.box.c0, (kc _).trans H.box.c1, (kc _).trans H.box.c2, (kc _).trans H.box.c3⟩, (kc _).trans H.c4, fun j => (World.frozen?_of_block (w := w) (a := ⟨p, j, none⟩) kb).trans (H.fz j), hs, H.out.same (by rw [ho.size]; exact Nat.le_refl _) (fun c h1 _ => ho.block c (by omega)), H.pr, H.pb, H.rb⟩
end

/-- What tell leaves. -/
def TlW (base top : Nat) (zz h mk : Int) (n : Nat) (Y : Nat → Wn) (S : ByteArray → Prop) (w : World) (e : Ending) (w' : World) : Prop :=
  ∃ v b, e = .returned (.agg #[.int .i64 zz, .int .i64 h, .int .i64 mk, v]) ∧ (∀ i, i < n → (b i = true ↔ S (kS (Y i)))) ∧ BA w' base top v n (tldB Y b n) ∧ (∀ c, c < w.heap.size → (c < base ∨ top ≤ c) → w'.heap[c]? = w.heap[c]?) ∧ Below base w w'

end Go.Proofs.Ytjdijikmdlklkaa
namespace Go.Proofs.Ytjdijikmdlklkaa
open Go.RowKit
set_option linter.unusedSimpArgs false
set_option linter.unusedVariables false

/-- Of the first n windows one that is told in S has the last version. -/
def Worn (Y : Nat → Wn) (n : Nat) (S : ByteArray → Prop) : Prop := ∃ i, i < n ∧ (Y i).ver = 1000000 ∧ S (kS (Y i))

end Go.Proofs.Ytjdijikmdlklkaa
namespace Go.Proofs.Ytjdijikmdlklkaa
open Go.RowKit
set_option linter.unusedSimpArgs false
set_option linter.unusedVariables false

/-- Its version risen by one. -/
def vInc (x : Wn) : Wn := x.w_ver (x.ver + 1)
/-- The versions of the first k's dirty ones risen. -/
def vUp (Y : Nat → Wn) (b : Nat → Bool) (k : Nat) : Nat → Wn := fun i => if i < k ∧ b i = true then vInc (Y i) else Y i
theorem vUp_zero (Y : Nat → Wn) (b : Nat → Bool) : vUp Y b 0 = Y := by funext i; simp [vUp]
theorem vUp_at (Y : Nat → Wn) (b : Nat → Bool) (k : Nat) : vUp Y b k k = Y k := by simp [vUp]
theorem vUp_yes (Y : Nat → Wn) (b : Nat → Bool) (k : Nat) (h : b k = true) : upWi (vUp Y b k) k (vInc (Y k)) = vUp Y b (k + 1) := by
  funext i
  unfold upWi vUp
  by_cases e : i = k
  · subst e; simp [h]
  · by_cases e2 : i < k
    · simp [e, e2, show i < k + 1 by omega]
    · simp [e, e2, show ¬ i < k + 1 by omega]
theorem vUp_no (Y : Nat → Wn) (b : Nat → Bool) (k : Nat) (h : b k = false) : vUp Y b k = vUp Y b (k + 1) := by
  funext i
  unfold vUp
  by_cases e : i = k
  · subst e; simp [h]
  · by_cases e2 : i < k
    · simp [e2, show i < k + 1 by omega]
    · simp [e2, show ¬ i < k + 1 by omega]
/-- How many of the first k are dirty. -/
def tN (b : Nat → Bool) : Nat → Nat
  | 0 => 0
  | k + 1 => if b k = true then tN b k + 1 else tN b k
theorem tN_le (b : Nat → Bool) : ∀ k, tN b k ≤ k
  | 0 => Nat.le_refl _
  | k + 1 => by have := tN_le b k; unfold tN; split <;> omega
/-- What is told of the first k. -/
def tL (Y : Nat → Wn) (b : Nat → Bool) : Nat → Nat → Wn
  | 0 => Y
  | k + 1 => if b k = true then upTo (tL Y b k) (tN b k) (vInc (Y k)) else tL Y b k
theorem tL_of (Y : Nat → Wn) (b : Nat → Bool) : ∀ k j, j < tN b k → ∃ i, i < k ∧ b i = true ∧ tL Y b k j = vInc (Y i)
  | 0, j, h => absurd h (Nat.not_lt_zero _)
  | k + 1, j, h => by
    unfold tN at h
    unfold tL
    cases hb : b k with
    | false =>
      simp only [hb] at h ⊢
      obtain ⟨i, h1, h2, h3⟩ := tL_of Y b k j h
      exact ⟨i, by omega, h2, h3⟩
    | true =>
      simp only [hb, if_true] at h ⊢
      by_cases e : j = tN b k
      · subst e; exact ⟨k, by omega, hb, upTo_at _ _ _⟩
      · rw [upTo_ne _ _ _ e]
        obtain ⟨i, h1, h2, h3⟩ := tL_of Y b k j (by omega)
        exact ⟨i, by omega, h2, h3⟩
theorem dS_iff {z : Int} {X : Nat → Wn} {n i : Nat} (hG : GWs z X n) (hi : i < n) : dS X n (kS (cln X i)) ↔ (X i).di = true := by
  constructor
  · rintro ⟨j, hj, h2, h3⟩
    by_cases e : i = j
    · subst e; exact h2
    · exact absurd h3 (kS_ne hG hi hj e)
  · intro h
    exact ⟨i, hi, h, rfl⟩
theorem worn_iff {z : Int} {X : Nat → Wn} {n : Nat} (hG : GWs z X n) : Worn (cln X) n (dS X n) ↔ ∃ i, i < n ∧ (X i).ver = 1000000 ∧ (X i).di = true := by
  constructor
  · rintro ⟨i, hi, h1, h2⟩; exact ⟨i, hi, h1, (dS_iff hG hi).1 h2⟩
  · rintro ⟨i, hi, h1, h2⟩; exact ⟨i, hi, h1, (dS_iff hG hi).2 h2⟩

/-- A told window put behind the others, its lists made just now. -/
theorem tdPush {ud u : World} {base m : Nat} {va ha0 ha1 : Option Addr} {vc hc0 hc1 : Nat} {T : Nat → Wn} {V : Nat → Value} {x : Wn} (O0 : OutT ud base (.slice va m vc) m T V) (q : Below ud.heap.size ud u)
    (T0 : TV u ud.heap.size (.slice ha0 x.tn hc0) x) (T1 : HV u ud.heap.size (.slice ha1 x.n hc1) x) (hd : ∀ k, (Value.slice ha1 x.n hc1).ownBlock = some k → (Value.slice ha0 x.tn hc0).ownBlock ≠ some k) (hn : m ≤ 1048576) (hbase : base ≤ ud.heap.size) :
    ∃ vb vd V2 u3, (Builtin.append_ #[24, 24] 24 #[.slice va m vc, .slice (some ⟨u.heap.size, 0, none⟩) 1 1]).run Try.prog (u.alloc (.cells #[.string x.m, .slice ha0 x.tn hc0, .int .i64 x.st, .int .i64 x.ver, .int .i64 x.c, .int .i64 x.s, .int .i64 x.lo, .int .i64 x.hi, .slice ha1 x.n hc1, .bool x.fu] 45)) = .ok (.slice vb (m + 1) vd) u3 ∧ OutT u3 base (.slice vb (m + 1) vd) (m + 1) (upTo T m x) V2 ∧ Below base u u3 := by
  have s1 := q.size
  have O1 := O0.keep q
  have vl : ∀ c, (Value.slice va m vc).ownBlock = some c → base ≤ c ∧ c < ud.heap.size := fun c hc => O0.own.lt c hc
  have Vl : ∀ p c, p < m * 2 → (V p).ownBlock = some c → c < ud.heap.size := fun p c hp hc => (O0.lt hp hc).2
  have l0 : ∀ c, (Value.slice ha0 x.tn hc0).ownBlock = some c → ud.heap.size ≤ c := fun c hc => (T0.lt c hc).1
  have l1 : ∀ c, (Value.slice ha1 x.n hc1).ownBlock = some c → ud.heap.size ≤ c := fun c hc => (T1.lt c hc).1
  obtain ⟨v', u3, hrun, O3, G3⟩ := pushT_run (x := x) O1 (h0 := .slice ha0 x.tn hc0) (h1 := .slice ha1 x.n hc1) (show TV u base (.slice ha0 x.tn hc0) x from ownsRow_mono T0 hbase) (show HV u base (.slice ha1 x.n hc1) x from ownsRow_mono T1 hbase)
    (fun c hc => ⟨fun hh => by have := l0 c hc; have := vl c hh; omega, fun p hp hh => by have := l0 c hc; have := Vl p c hp hh; omega⟩)
    (fun c hc => ⟨fun hh => by have := l1 c hc; have := vl c hh; omega, fun p hp hh => by have := l1 c hc; have := Vl p c hp hh; omega, hd c hc⟩) hn (by omega) 24
  obtain ⟨vb, vd, rfl⟩ := ownsRow_form O3.own
  exact ⟨vb, vd, _, u3, hrun, O3, (below_new u _).mono (by omega) |>.grown G3 (by simp; omega) (fun c hc => (vl c hc).1)⟩
/-- A call of copyTold in a region that draws. -/
theorem step_copyTold {w : World} {ops : Array Oper} {o : Oper} {a : Act} {K : Act → World → Prop} {Q : Exit → Act → World → Prop} {E : Prop} (hgd : o.guard = none) (k : Nat)
    (ho : o.op = .call { callee := .value (.func 21), args := #[.tmp k], argTypes := #[45] }) (x : Wn) (a0 a1 : Option Addr) (c0 c1 : Nat) (hx : a.eval (.tmp k) = .agg #[.string x.m, .slice a0 x.tn c0, .int .i64 x.st, .int .i64 x.ver, .int .i64 x.c, .int .i64 x.s, .int .i64 x.lo, .int .i64 x.hi, .slice a1 x.n c1, .bool x.fu]) (r0 : TRow w a0 x.tn x.nm x.vl) (r1 : IRow w a1 x.n x.f) (ht : x.tn ≤ 1048576) (hn : x.n ≤ 1048576)
    (h : ∀ (ha0 ha1 : Option Addr) (hc0 hc1 : Nat) (w' : World), TV w' w.heap.size (.slice ha0 x.tn hc0) x → HV w' w.heap.size (.slice ha1 x.n hc1) x → (∀ k, (Value.slice ha1 x.n hc1).ownBlock = some k → (Value.slice ha0 x.tn hc0).ownBlock ≠ some k) → Below w.heap.size w w' → K (a.put o.dst (.agg #[.string x.m, .slice ha0 x.tn hc0, .int .i64 x.st, .int .i64 x.ver, .int .i64 x.c, .int .i64 x.s, .int .i64 x.lo, .int .i64 x.hi, .slice ha1 x.n hc1, .bool x.fu])) w') :
    if Region.wanted o (yielded ops a.tmps) = true then Oper.wp Try.prog o a w K Q else E := by
  have hw : Region.wanted o (yielded ops a.tmps) = true := by simp [Region.wanted, hgd]
  rw [if_pos hw]
  have hx' : a.tmps.getD k undef = .agg #[.string x.m, .slice a0 x.tn c0, .int .i64 x.st, .int .i64 x.ver, .int .i64 x.c, .int .i64 x.s, .int .i64 x.lo, .int .i64 x.hi, .slice a1 x.n c1, .bool x.fu] := hx
  unfold Oper.wp execOp
  simp only [ho, resolve, Act.eval, hx']
  go_simp
  refine (copyTold_any x a0 a1 c0 c1 w r0 r1 ht hn).mono ?_
  rintro e w' ⟨ha0, hc0, ha1, hc1, rfl, h1, h2, h3, h4⟩
  exact h ha0 ha1 hc0 hc1 w' h1 h2 h3 h4
/-- A slice of one told window made in a region that draws. -/
theorem step_buildT {w : World} {ops : Array Oper} {o : Oper} {a : Act} {K : Act → World → Prop} {Q : Exit → Act → World → Prop} {E : Prop} (hgd : o.guard = none) (k : Nat)
    (ho : o.op = .buildSlice 24 1 #[(0, .tmp k)]) (x : Wn) (a0 a1 : Option Addr) (c0 c1 : Nat) (hx : a.eval (.tmp k) = .agg #[.string x.m, .slice a0 x.tn c0, .int .i64 x.st, .int .i64 x.ver, .int .i64 x.c, .int .i64 x.s, .int .i64 x.lo, .int .i64 x.hi, .slice a1 x.n c1, .bool x.fu]) (h : K (a.put o.dst (.slice (some ⟨w.heap.size, 0, none⟩) 1 1)) (w.alloc (.cells #[.string x.m, .slice a0 x.tn c0, .int .i64 x.st, .int .i64 x.ver, .int .i64 x.c, .int .i64 x.s, .int .i64 x.lo, .int .i64 x.hi, .slice a1 x.n c1, .bool x.fu] 45))) :
    if Region.wanted o (yielded ops a.tmps) = true then Oper.wp Try.prog o a w K Q else E := by
  have hw : Region.wanted o (yielded ops a.tmps) = true := by simp [Region.wanted, hgd]
  rw [if_pos hw]
  have hx' : a.tmps.getD k undef = .agg #[.string x.m, .slice a0 x.tn c0, .int .i64 x.st, .int .i64 x.ver, .int .i64 x.c, .int .i64 x.s, .int .i64 x.lo, .int .i64 x.hi, .slice a1 x.n c1, .bool x.fu] := hx
  unfold Oper.wp execOp
  simp only [ho, Act.eval, hx', List.map_toArray, List.map_cons, List.map_nil]
  go_simp
  exact h
end Go.Proofs.Ytjdijikmdlklkaa
