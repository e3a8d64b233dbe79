/- GoodAgg, in the model. / Good boards, in the model. / RaiseMark, in both texts. / TellDirty, in the program. / TellDirty at a bad board and at one that is worn out, in the program; at a bad one, in the model. / TellDirty of a good board, in the model (made by mkts.py). -/
import Derived.Test.YtjdijikmdlklkaaGdI
import Derived.Test.YtjdijikmdlklkaaKl
import Derived.Deep.RegionHeld3
import Derived.Test.YtjdijikmdlklkaaOp
import Derived.Test.YtjdijikmdlklkaaTv
namespace Go.Proofs.Ytjdijikmdlklkaa
open Go.RowKit
set_option linter.unusedSimpArgs false
set_option linter.unusedVariables false

end Go.Proofs.Ytjdijikmdlklkaa
namespace Go.Proofs.Ytjdijikmdlklkaa
open Go.RowKit
set_option linter.unusedSimpArgs false
set_option linter.unusedVariables false

end Go.Proofs.Ytjdijikmdlklkaa
namespace Go.Proofs.Ytjdijikmdlklkaa
open Go.RowKit
set_option linter.unusedSimpArgs false
set_option linter.unusedVariables false

theorem WiC.congr {w : World} {b n : Nat} {X X' : Nat → Wn} {A0 A1 : Nat → Option Addr} {K0 K1 G : Nat → Nat} (h : WiC w b n X A0 A1 K0 K1 G) (e : ∀ i, i < n → X i = X' i) : WiC w b n X' A0 A1 K0 K1 G :=
  ⟨h.lt, fun i hi => by rw [← e i hi]; exact h.ent i hi, h.free, fun i hi => by rw [← e i hi]; exact h.l0 i hi, fun i hi => by rw [← e i hi]; exact h.l1 i hi, h.dis⟩
theorem BA.congr {w : World} {base top n : Nat} {v : Value} {X X' : Nat → Wn} (h : BA w base top v n X) (e : ∀ i, i < n → X i = X' i) : BA w base top v n X' := by
  refine ⟨h.1, ?_⟩
  rcases h.2 with h0 | ⟨g, cap, A0, A1, K0, K1, G, e1, h1, h2, h3, h4, h5⟩
  · exact .inl h0
  · exact .inr ⟨g, cap, A0, A1, K0, K1, G, e1, h1, h2, h3.congr e, fun i hi hp => h4 i hi (by rw [e i hi]; exact hp), fun i hi hp => h5 i hi (by rw [e i hi]; exact hp)⟩
/-- A board opened and told is what it was. -/
theorem told_back {z : Int} {X : Nat → Wn} {n : Nat} (hG : GWs z X n) {b : Nat → Bool} (hb : ∀ i, i < n → (b i = true ↔ dS X n (kS (cln X i)))) : ∀ i, i < n → tldB (cln X) b n i = X i := by
  intro i hi
  have e : b i = (X i).di := by
    have h1 := hb i hi
    rw [show kS (cln X i) = kS (X i) from rfl] at h1
    cases hd : (X i).di with
    | true => exact h1.2 ⟨i, hi, hd, rfl⟩
    | false =>
      cases hx : b i with
      | false => rfl
      | true =>
        obtain ⟨j, hj, h2, h3⟩ := h1.1 hx
        by_cases ej : i = j
        · subst ej; rw [hd] at h2; cases h2
        · exact absurd h3 (kS_ne hG hi hj ej)
  simp only [tldB, hi, if_true, e]
  rfl
/-- An answer: a board whose memory is its own, and a code. -/
def BAns (z h mk : Int) (n : Nat) (X : Nat → Wn) (c : Int) (w : World) (e : Ending) (w' : World) : Prop :=
  ∃ v, e = .returned (.tuple #[.agg #[.int .i64 z, .int .i64 h, .int .i64 mk, v], .int .i64 c]) ∧ BA w' w.heap.size w'.heap.size v n X ∧ Below w.heap.size w w'

/-- Whether a mark may be raised to t. -/
def RmOk (mk t : Int) : Prop := isTm t = true ∧ mk ≤ t

end Go.Proofs.Ytjdijikmdlklkaa
namespace Go.Proofs.Ytjdijikmdlklkaa
open Go.RowKit
set_option linter.unusedSimpArgs false
set_option linter.unusedVariables false

/-- An answer: a board and told windows whose memory is their own, and a code. -/
def TAns (z h mk : Int) (n : Nat) (X : Nat → Wn) (m : Nat) (T : Nat → Wn) (c : Int) (w : World) (e : Ending) (w' : World) : Prop :=
  ∃ v t s, e = .returned (.tuple #[.agg #[.int .i64 z, .int .i64 h, .int .i64 mk, v], t, .int .i64 c]) ∧ w.heap.size ≤ s ∧ BA w' w.heap.size s v n X ∧ TA w' s w'.heap.size t m T ∧ Below w.heap.size w w'
theorem bool_iff {a b : Bool} (h : a = true ↔ b = true) : a = b := by cases a <;> cases b <;> simp_all
/-- Windows behind TellDirty. -/
def tdX (X : Nat → Wn) (i : Nat) : Wn := if (X i).di = true then (vInc (X i)).w_di false else X i

theorem step_assign {P : Program} {w : World} {ops : Array Oper} {o : Oper} {a : Act} {K : Act → World → Prop} {Q : Exit → Act → World → Prop} {E : Prop} (hgd : o.guard = none) (k : Nat)
    (ho : o.op = .assign (.tmp k)) (va : Option Addr) (n c : Nat) (hx : a.eval (.tmp k) = .slice va n c) (h : K (a.put o.dst (.slice va n c)) w) :
    if Region.wanted o (yielded ops a.tmps) = true then Oper.wp P o a w K Q else E := by
  have hw : Region.wanted o (yielded ops a.tmps) = true := by simp [Region.wanted, hgd]
  rw [if_pos hw]
  have hx' : a.tmps.getD k undef = .slice va n c := hx
  unfold Oper.wp execOp
  simp only [ho, Act.eval, hx']
  go_simp
  exact h
theorem tdX_back {X : Nat → Wn} {b b' : Nat → Bool} {k : Nat} (hb : b = fun i => (X i).di) (hb' : ∀ i, i < k → (b' i = true ↔ False)) : ∀ i, i < k → tldB (vUp (cln X) b k) b' k i = tdX X i := by
  intro i hi
  have e : b' i = false := by cases h : b' i with | false => rfl | true => exact ((hb' i hi).1 h).elim
  subst hb
  simp only [tldB, hi, if_true, e, vUp, true_and, tdX]
  cases hd : (X i).di with
  | true => simp [vInc, cln, Wn.w_di, Wn.w_ver]
  | false =>
    simp only [Bool.false_eq_true, if_false, cln, Wn.w_di]
    cases hx : X i
    rw [hx] at hd
    simp at hd
    simp [hd]
theorem tL_fb {Y : Nat → Wn} {b : Nat → Bool} {k n : Nat} (h : FBw n Y) (hk : k ≤ n) : FBw (tN b k) (tL Y b k) := fun j hj => by
  obtain ⟨i, h1, _, h3⟩ := tL_of Y b k j hj
  rw [h3]
  exact h i (by omega)
theorem Rng.more {lo hi : Nat} {w w' w'' : World} (h : Rng lo hi w w') (hb : Below w.heap.size w' w'') : Rng lo hi w w'' :=
  ⟨hb.os.trans h.os, hb.tape.trans h.tape, hb.output.trans h.output, Nat.le_trans h.size hb.size, fun c hc hh => (hb.block c hc).trans (h.block c hc hh)⟩
theorem vUp_len (Y : Nat → Wn) (b : Nat → Bool) (k i : Nat) : (vUp Y b k i).tn = (Y i).tn ∧ (vUp Y b k i).n = (Y i).n := by
  unfold vUp
  split <;> exact ⟨rfl, rfl⟩

end Go.Proofs.Ytjdijikmdlklkaa
namespace Go.Proofs.Ytjdijikmdlklkaa
open Go.RowKit
set_option linter.unusedSimpArgs false
set_option linter.unusedVariables false

theorem tans_nil {w : World} {T : Nat → Wn} : TA w w.heap.size w.heap.size (.slice none 0 0) 0 T := ⟨Nat.le_refl _, .inl ⟨rfl, none, 0, rfl⟩⟩

end Go.Proofs.Ytjdijikmdlklkaa
namespace Go.Proofs.Ytjdijikmdlklkaa
open Go.RowKit
set_option linter.unusedSimpArgs false
set_option linter.unusedVariables false

/-- A call of l11OwnKey in a region that draws. -/
theorem step_ownKey {w : World} {ops : Array Oper} {o : Oper} {a : Act} {K : Act → World → Prop} {Q : Exit → Act → World → Prop} {E : Prop} (hgd : o.guard = none) (k : Nat)
    (ho : o.op = .call { callee := .value (.func 13), args := #[.tmp k], argTypes := #[42] }) (x : Wn) (ao : Option Addr) (c : Nat) (hx : a.eval (.tmp k) = .agg #[.string x.m, .slice ao x.tn c, .int .i64 x.st]) (hr : TRow w ao x.tn x.nm x.vl) (hn : x.tn ≤ 1048576)
    (h : ∀ (ha : Option Addr) (hc : Nat) (w' : World), w'.ownsRow w.heap.size 63 2 (.slice ha x.tn hc) x.tn (tcells x.nm x.vl x.tn) → Below w.heap.size w w' → K (a.put o.dst (.agg #[.string x.m, .slice ha x.tn hc, .int .i64 x.st])) w') :
    if Region.wanted o (yielded ops a.tmps) = true then Oper.wp Try.prog o a w K Q else E := by
  have hw : Region.wanted o (yielded ops a.tmps) = true := by simp [Region.wanted, hgd]
  rw [if_pos hw]
  have hx' : a.tmps.getD k undef = .agg #[.string x.m, .slice ao x.tn c, .int .i64 x.st] := hx
  unfold Oper.wp execOp
  simp only [ho, resolve, Act.eval, hx']
  go_simp
  refine (l11OwnKey_any x.m x.st ao x.tn c x.nm x.vl w hr hn).mono ?_
  rintro e w' ⟨hv, rfl, h1, h2⟩
  obtain ⟨ha, hc, rfl⟩ := ownsRow_form h1
  exact h ha hc w' h1 h2
/-- A told window put behind the others, its lists made just now. -/
theorem tdPush2 {ud u : World} {base m : Nat} {va ha0 ha1 : Option Addr} {vc hc0 hc1 : Nat} {T : Nat → Wn} {V : Nat → Value} {x : Wn} (O0 : OutT ud base (.slice va m vc) m T V) (q : Below ud.heap.size ud u)
    (T0 : TV u ud.heap.size (.slice ha0 x.tn hc0) x) (T1 : HV u ud.heap.size (.slice ha1 x.n hc1) x) (hd : ∀ k, (Value.slice ha1 x.n hc1).ownBlock = some k → (Value.slice ha0 x.tn hc0).ownBlock ≠ some k) (hn : m ≤ 1048576) (hbase : base ≤ ud.heap.size) :
    ∃ vb vd V2 u3, (Builtin.append_ #[24, 24] 24 #[.slice va m vc, .slice (some ⟨u.heap.size, 0, none⟩) 1 1]).run Try.prog (u.alloc (.cells #[.string x.m, .slice ha0 x.tn hc0, .int .i64 x.st, .int .i64 x.ver, .int .i64 x.c, .int .i64 x.s, .int .i64 x.lo, .int .i64 x.hi, .slice ha1 x.n hc1, .bool x.fu] 45)) = .ok (.slice vb (m + 1) vd) u3 ∧ OutT u3 base (.slice vb (m + 1) vd) (m + 1) (upTo T m x) V2 ∧ Below base u u3 ∧ ∀ c, c < u.heap.size → (Value.slice va m vc).ownBlock ≠ some c → u3.heap[c]? = u.heap[c]? := by
  have s1 := q.size
  have O1 := O0.keep q
  have vl : ∀ c, (Value.slice va m vc).ownBlock = some c → base ≤ c ∧ c < ud.heap.size := fun c hc => O0.own.lt c hc
  have Vl : ∀ p c, p < m * 2 → (V p).ownBlock = some c → c < ud.heap.size := fun p c hp hc => (O0.lt hp hc).2
  have l0 : ∀ c, (Value.slice ha0 x.tn hc0).ownBlock = some c → ud.heap.size ≤ c := fun c hc => (T0.lt c hc).1
  have l1 : ∀ c, (Value.slice ha1 x.n hc1).ownBlock = some c → ud.heap.size ≤ c := fun c hc => (T1.lt c hc).1
  obtain ⟨v', u3, hrun, O3, G3⟩ := pushT_run (x := x) O1 (h0 := .slice ha0 x.tn hc0) (h1 := .slice ha1 x.n hc1) (show TV u base (.slice ha0 x.tn hc0) x from ownsRow_mono T0 hbase) (show HV u base (.slice ha1 x.n hc1) x from ownsRow_mono T1 hbase)
    (fun c hc => ⟨fun hh => by have := l0 c hc; have := vl c hh; omega, fun p hp hh => by have := l0 c hc; have := Vl p c hp hh; omega⟩)
    (fun c hc => ⟨fun hh => by have := l1 c hc; have := vl c hh; omega, fun p hp hh => by have := l1 c hc; have := Vl p c hp hh; omega, hd c hc⟩) hn (by omega) 24
  obtain ⟨vb, vd, rfl⟩ := ownsRow_form O3.own
  exact ⟨vb, vd, _, u3, hrun, O3, (below_new u _).mono (by omega) |>.grown G3 (by simp; omega) (fun c hc => (vl c hc).1), fun c h1 h2 => (G3.block c (by simp; omega) (fun e => h2 e.symm)).trans ((below_new u _).block c h1)⟩
/-- The first k of the windows told. -/
def tdU (X : Nat → Wn) (k : Nat) (i : Nat) : Wn := if i < k then tdX X i else X i
theorem tdU_zero (X : Nat → Wn) : tdU X 0 = X := by funext i; simp [tdU]
theorem tdU_at (X : Nat → Wn) (k : Nat) : tdU X k k = X k := by simp [tdU]
theorem tdU_yes (X : Nat → Wn) (k : Nat) (h : (X k).di = true) : upWi (tdU X k) k ((vInc (X k)).w_di false) = tdU X (k + 1) := by
  funext i
  unfold upWi tdU
  by_cases e : i = k
  · subst e; simp [tdX, h]
  · by_cases e2 : i < k
    · simp [e, e2, show i < k + 1 by omega]
    · simp [e, e2, show ¬ i < k + 1 by omega]
theorem tdU_no (X : Nat → Wn) (k : Nat) (h : (X k).di = false) : tdU X k = tdU X (k + 1) := by
  funext i
  unfold tdU
  by_cases e : i = k
  · subst e; simp [tdX, h]
  · by_cases e2 : i < k
    · simp [e2, show i < k + 1 by omega]
    · simp [e2, show ¬ i < k + 1 by omega]
theorem tdX_len (X : Nat → Wn) (i : Nat) : (tdX X i).tn = (X i).tn ∧ (tdX X i).n = (X i).n := by unfold tdX; split <;> exact ⟨rfl, rfl⟩
theorem tdU_len (X : Nat → Wn) (k i : Nat) : (tdU X k i).tn = (X i).tn ∧ (tdU X k i).n = (X i).n := by
  unfold tdU
  split
  · exact tdX_len X i
  · exact ⟨rfl, rfl⟩
theorem tdU_all (X : Nat → Wn) (n : Nat) : ∀ i, i < n → tdU X n i = tdX X i := fun i hi => by simp [tdU, hi]

end Go.Proofs.Ytjdijikmdlklkaa
