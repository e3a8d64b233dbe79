/- TellDirty of a good board, in the model (made by mkts.py). -/
import Derived.Test.YtpggmgmdcccmeaaTd2
namespace Go.Proofs.Ytpggmgmdcccmeaa
open Go.RowKit
set_option linter.unusedSimpArgs false
set_option linter.unusedVariables false

/-- A call of l11OwnKey in a region that draws. -/
theorem step_ownKey {w : World} {ops : Array Oper} {o : Oper} {a : Act} {K : Act → World → Prop} {Q : Exit → Act → World → Prop} {E : Prop} (hgd : o.guard = none) (k : Nat)
    (ho : o.op = .call { callee := .value (.func 22), args := #[.tmp k], argTypes := #[32] }) (x : Wn) (ao : Option Addr) (c : Nat) (hx : a.eval (.tmp k) = .agg #[.string x.m, .slice ao x.tn c, .int .i64 x.st]) (hr : TRow w ao x.tn x.nm x.vl) (hn : x.tn ≤ 1048576)
    (h : ∀ (ha : Option Addr) (hc : Nat) (w' : World), w'.ownsRow w.heap.size 92 2 (.slice ha x.tn hc) x.tn (tcells x.nm x.vl x.tn) → Below w.heap.size w w' → K (a.put o.dst (.agg #[.string x.m, .slice ha x.tn hc, .int .i64 x.st])) w') :
    if Region.wanted o (yielded ops a.tmps) = true then Oper.wp Try.prog o a w K Q else E := by
  have hw : Region.wanted o (yielded ops a.tmps) = true := by simp [Region.wanted, hgd]
  rw [if_pos hw]
  have hx' : a.tmps.getD k undef = .agg #[.string x.m, .slice ao x.tn c, .int .i64 x.st] := hx
  unfold Oper.wp execOp
  simp only [ho, resolve, Act.eval, hx']
  go_simp
  refine (l11OwnKey_any x.m x.st ao x.tn c x.nm x.vl w hr hn).mono ?_
  rintro e w' ⟨hv, rfl, h1, h2⟩
  obtain ⟨ha, hc, rfl⟩ := ownsRow_form h1
  exact h ha hc w' h1 h2
/-- A call of l4Own in a region that draws. -/
theorem step_ownAgg {w : World} {ops : Array Oper} {o : Oper} {a : Act} {K : Act → World → Prop} {Q : Exit → Act → World → Prop} {E : Prop} (hgd : o.guard = none) (k : Nat)
    (ho : o.op = .call { callee := .value (.func 23), args := #[.tmp k], argTypes := #[35] }) (x : Wn) (ao : Option Addr) (c : Nat) (hx : a.eval (.tmp k) = .agg #[.int .i64 x.c, .int .i64 x.s, .int .i64 x.lo, .int .i64 x.hi, .slice ao x.n c, .bool x.fu]) (hr : IRow w ao x.n x.f) (hn : x.n ≤ 1048576)
    (h : ∀ (ha : Option Addr) (hc : Nat) (w' : World), w'.ownsRow w.heap.size 3 1 (.slice ha x.n hc) x.n (icells x.f x.n) → Below w.heap.size w w' → K (a.put o.dst (.agg #[.int .i64 x.c, .int .i64 x.s, .int .i64 x.lo, .int .i64 x.hi, .slice ha x.n hc, .bool x.fu])) w') :
    if Region.wanted o (yielded ops a.tmps) = true then Oper.wp Try.prog o a w K Q else E := by
  have hw : Region.wanted o (yielded ops a.tmps) = true := by simp [Region.wanted, hgd]
  rw [if_pos hw]
  have hx' : a.tmps.getD k undef = .agg #[.int .i64 x.c, .int .i64 x.s, .int .i64 x.lo, .int .i64 x.hi, .slice ao x.n c, .bool x.fu] := hx
  unfold Oper.wp execOp
  simp only [ho, resolve, Act.eval, hx']
  go_simp
  refine (l4Own_any x.c x.s x.lo x.hi ao x.n c x.f x.fu w hr hn).mono ?_
  rintro e w' ⟨hv, rfl, h1, h2⟩
  obtain ⟨ha, hc, rfl⟩ := ownsRow_form h1
  exact h ha hc w' h1 h2
/-- A told window put behind the others, its lists made just now. -/
theorem tdPush2 {ud u : World} {base m : Nat} {va ha0 ha1 : Option Addr} {vc hc0 hc1 : Nat} {T : Nat → Wn} {V : Nat → Value} {x : Wn} (O0 : OutT ud base (.slice va m vc) m T V) (q : Below ud.heap.size ud u)
    (T0 : TV u ud.heap.size (.slice ha0 x.tn hc0) x) (T1 : HV u ud.heap.size (.slice ha1 x.n hc1) x) (hd : ∀ k, (Value.slice ha1 x.n hc1).ownBlock = some k → (Value.slice ha0 x.tn hc0).ownBlock ≠ some k) (hn : m ≤ 1048576) (hbase : base ≤ ud.heap.size) :
    ∃ vb vd V2 u3, (Builtin.append_ #[27, 27] 27 #[.slice va m vc, .slice (some ⟨u.heap.size, 0, none⟩) 1 1]).run Try.prog (u.alloc (.cells #[.string x.m, .slice ha0 x.tn hc0, .int .i64 x.st, .int .i64 x.ver, .int .i64 x.c, .int .i64 x.s, .int .i64 x.lo, .int .i64 x.hi, .slice ha1 x.n hc1, .bool x.fu] 37)) = .ok (.slice vb (m + 1) vd) u3 ∧ OutT u3 base (.slice vb (m + 1) vd) (m + 1) (upTo T m x) V2 ∧ Below base u u3 ∧ ∀ c, c < u.heap.size → (Value.slice va m vc).ownBlock ≠ some c → u3.heap[c]? = u.heap[c]? := by
  have s1 := q.size
  have O1 := O0.keep q
  have vl : ∀ c, (Value.slice va m vc).ownBlock = some c → base ≤ c ∧ c < ud.heap.size := fun c hc => O0.own.lt c hc
  have Vl : ∀ p c, p < m * 2 → (V p).ownBlock = some c → c < ud.heap.size := fun p c hp hc => (O0.lt hp hc).2
  have l0 : ∀ c, (Value.slice ha0 x.tn hc0).ownBlock = some c → ud.heap.size ≤ c := fun c hc => (T0.lt c hc).1
  have l1 : ∀ c, (Value.slice ha1 x.n hc1).ownBlock = some c → ud.heap.size ≤ c := fun c hc => (T1.lt c hc).1
  obtain ⟨v', u3, hrun, O3, G3⟩ := pushT_run (x := x) O1 (h0 := .slice ha0 x.tn hc0) (h1 := .slice ha1 x.n hc1) (show TV u base (.slice ha0 x.tn hc0) x from ownsRow_mono T0 hbase) (show HV u base (.slice ha1 x.n hc1) x from ownsRow_mono T1 hbase)
    (fun c hc => ⟨fun hh => by have := l0 c hc; have := vl c hh; omega, fun p hp hh => by have := l0 c hc; have := Vl p c hp hh; omega⟩)
    (fun c hc => ⟨fun hh => by have := l1 c hc; have := vl c hh; omega, fun p hp hh => by have := l1 c hc; have := Vl p c hp hh; omega, hd c hc⟩) hn (by omega) 27
  obtain ⟨vb, vd, rfl⟩ := ownsRow_form O3.own
  exact ⟨vb, vd, _, u3, hrun, O3, (below_new u _).mono (by omega) |>.grown G3 (by simp; omega) (fun c hc => (vl c hc).1), fun c h1 h2 => (G3.block c (by simp; omega) (fun e => h2 e.symm)).trans ((below_new u _).block c h1)⟩
/-- The first k of the windows told. -/
def tdU (X : Nat → Wn) (k : Nat) (i : Nat) : Wn := if i < k then tdX X i else X i
theorem tdU_zero (X : Nat → Wn) : tdU X 0 = X := by funext i; simp [tdU]
theorem tdU_at (X : Nat → Wn) (k : Nat) : tdU X k k = X k := by simp [tdU]
theorem tdU_yes (X : Nat → Wn) (k : Nat) (h : (X k).di = true) : upWi (tdU X k) k ((vInc (X k)).w_di false) = tdU X (k + 1) := by
  funext i
  unfold upWi tdU
  by_cases e : i = k
  · subst e; simp [tdX, h]
  · by_cases e2 : i < k
    · simp [e, e2, show i < k + 1 by omega]
    · simp [e, e2, show ¬ i < k + 1 by omega]
theorem tdU_no (X : Nat → Wn) (k : Nat) (h : (X k).di = false) : tdU X k = tdU X (k + 1) := by
  funext i
  unfold tdU
  by_cases e : i = k
  · subst e; simp [tdX, h]
  · by_cases e2 : i < k
    · simp [e2, show i < k + 1 by omega]
    · simp [e2, show ¬ i < k + 1 by omega]
theorem tdX_len (X : Nat → Wn) (i : Nat) : (tdX X i).tn = (X i).tn ∧ (tdX X i).n = (X i).n := by unfold tdX; split <;> exact ⟨rfl, rfl⟩
theorem tdU_len (X : Nat → Wn) (k i : Nat) : (tdU X k i).tn = (X i).tn ∧ (tdU X k i).n = (X i).n := by
  unfold tdU
  split
  · exact tdX_len X i
  · exact ⟨rfl, rfl⟩
theorem tdU_all (X : Nat → Wn) (n : Nat) : ∀ i, i < n → tdU X n i = tdX X i := fun i hi => by simp [tdU, hi]

set_option maxRecDepth 100000 in
set_option maxHeartbeats 16000000 in
theorem tellDirty_spec_good (z h mk : Int) (ao : Option Addr) (n cap : Nat) (X T : Nat → Wn) (w : World) (hr : WiRow w ao n X) (hn : n ≤ 1048576) (hz : WiSize n X) (hG : Hid (GBd z h mk n X)) (b : Nat → Bool) (Hb : Hid (b = fun i => (X i).di)) :
    Calls Try.prog 6 #[.agg #[.int .i64 z, .int .i64 h, .int .i64 mk, .slice ao n cap]] w fun e w' => (Worn (cln X) n (dS X n) → TAns z h mk n X 0 T 1 w e w') ∧ (¬ Worn (cln X) n (dS X n) → TAns z h mk n (tdX X) (tN b n) (tL (cln X) b n) 0 w e w') := by
  have hB : ∀ o o', Below w.heap.size w ((w.alloc o).alloc o') := fun o o' => (below_new w o).alloc (by simp) _
  have hfX := hr.fb
  go_enter Try.func6, Try.ntmps6
  go_wp2_with fail
  refine (goodBoard_spec z h mk ao n cap X _ (hr.keep (hB _ _)) hn hz).mono ?_
  rintro e w1 ⟨b1, rfl, h1, q1⟩
  have bw : Below w.heap.size w w1 := (hB _ _).trans (q1.mono (by simp; omega))
  have c0 := q1.cell (p := ⟨w.heap.size, 0, none⟩) (by simp; omega)
  have c1 := q1.cell (p := ⟨w.heap.size, 1, none⟩) (by simp; omega)
  have c2 := q1.cell (p := ⟨w.heap.size, 2, none⟩) (by simp; omega)
  have c3 := q1.cell (p := ⟨w.heap.size, 3, none⟩) (by simp; omega)
  have cf : ∀ j, w1.frozen? ⟨w.heap.size, j, none⟩ = false := fun j => (q1.frozen (p := ⟨w.heap.size, j, none⟩) (by simp; omega)).trans (by simp [go_sem])
  have d0 := q1.cell (p := ⟨w.heap.size + 1, 0, none⟩) (by simp)
  have d1 := q1.cell (p := ⟨w.heap.size + 1, 1, none⟩) (by simp)
  have d2 := q1.cell (p := ⟨w.heap.size + 1, 2, none⟩) (by simp)
  have d3 := q1.cell (p := ⟨w.heap.size + 1, 3, none⟩) (by simp)
  have df : ∀ j, w1.frozen? ⟨w.heap.size + 1, j, none⟩ = false := fun j => (q1.frozen (p := ⟨w.heap.size + 1, j, none⟩) (by simp)).trans (by simp [go_sem])
  simp [go_sem] at c0 c1 c2 c3 d0 d1 d2 d3
  have sz1 : w.heap.size + 2 ≤ w1.heap.size := by have := q1.size; simp at this; omega
  have e1 : b1 = true := h1.2 hG.out
  subst e1
  clear h1 q1 hB
  go_wp2_with fail
  refine (l11Own_any z h mk ao n cap X _ (hr.keep bw) hn hz).mono ?_
  rintro e w2 ⟨v, V, rfl, hO, q2⟩
  have hA := ba_of hO hfX
  obtain ⟨va, vc, rfl⟩ := ownsRow_form hO.own
  have c0 := (q2.cell (p := ⟨w.heap.size, 0, none⟩) (by show w.heap.size < w1.heap.size; omega)).trans c0
  have c1 := (q2.cell (p := ⟨w.heap.size, 1, none⟩) (by show w.heap.size < w1.heap.size; omega)).trans c1
  have c2 := (q2.cell (p := ⟨w.heap.size, 2, none⟩) (by show w.heap.size < w1.heap.size; omega)).trans c2
  have c3 := (q2.cell (p := ⟨w.heap.size, 3, none⟩) (by show w.heap.size < w1.heap.size; omega)).trans c3
  have cf : ∀ j, w2.frozen? ⟨w.heap.size, j, none⟩ = false := fun j => (q2.frozen (p := ⟨w.heap.size, j, none⟩) (by show w.heap.size < w1.heap.size; omega)).trans (cf j)
  have bw2 : Below w.heap.size w w2 := bw.trans (q2.mono (by omega))
  have s2 := q2.size
  obtain ⟨w4, hw4⟩ : ∃ u, u = (((w2.setCell ⟨w.heap.size, 0, none⟩ (.int .i64 z)).setCell ⟨w.heap.size, 1, none⟩ (.int .i64 h)).setCell ⟨w.heap.size, 2, none⟩ (.int .i64 mk)).setCell ⟨w.heap.size, 3, none⟩ (.slice va n vc) := ⟨_, rfl⟩
  have oth : Others w.heap.size w2 w4 := by rw [hw4]; exact (((Others.setCell _ _ _ _).trans (Others.setCell _ _ _ _)).trans (Others.setCell _ _ _ _)).trans (Others.setCell _ _ _ _)
  have s4 := oth.size
  have Bb : BdAt w4 w.heap.size z h mk (.slice va n vc) := by
    rw [hw4]
    refine ⟨by simp; omega, ?_, ?_, ?_, ?_⟩ <;> simp [go_sem, c0, c1, c2, c3]
  have Rb : BdAt w4 (w.heap.size + 1) 0 0 0 (.slice none 0 0) := by
    have ol : ∀ j, w4.cell? ⟨w.heap.size + 1, j, none⟩ = w1.cell? ⟨w.heap.size + 1, j, none⟩ := fun j => (World.cell?_of_block (w := w2) (a := ⟨w.heap.size + 1, j, none⟩) (oth.block (w.heap.size + 1) (by omega))).trans (q2.cell (p := ⟨w.heap.size + 1, j, none⟩) (by show w.heap.size + 1 < w1.heap.size; omega))
    exact ⟨by omega, (ol 0).trans d0, (ol 1).trans d1, (ol 2).trans d2, (ol 3).trans d3⟩
  have Rf : ∀ j, w4.frozen? ⟨w.heap.size + 1, j, none⟩ = false := fun j => ((World.frozen?_of_block (w := w2) (a := ⟨w.heap.size + 1, j, none⟩) (oth.block (w.heap.size + 1) (by omega))).trans (q2.frozen (p := ⟨w.heap.size + 1, j, none⟩) (by show w.heap.size + 1 < w1.heap.size; omega))).trans (df j)
  have hA := hA.same (w' := w4) (by rw [oth.size]; exact Nat.le_refl _) (fun c h1 h2 => oth.block c (by omega))
  have bw4 : Below w.heap.size w w4 := bw2.trans (oth.below (Nat.le_refl _))
  clear q2 hO bw bw2 df
  have b3 := Bb.c3
  obtain ⟨lo, hlo⟩ : ∃ l, l = w1.heap.size := ⟨_, rfl⟩
  obtain ⟨hi, hhi⟩ : ∃ l, l = w2.heap.size := ⟨_, rfl⟩
  rw [← hlo, ← hhi] at hA
  have HBd : Hid (∀ i, i < n → WiB (X i)) := hr.bd
  clear hr
  go_wp2
  rw [← hw4]
  clear hw4 oth c0 c1 c2 c3 cf d0 d1 d2 d3
  go_loopw [19] (fun i wr => ∃ k : Nat, k ≤ n ∧ i = .int .i64 k ∧ Hid (∀ i, i < k → ¬ ((X i).ver = 1000000 ∧ (X i).di = true)) ∧ Below w4.heap.size w4 wr) (fun i _ => n - (intOf i).toNat)
  case atStart => exact ⟨0, Nat.zero_le _, rfl, fun i h => by omega, Below.refl _ _⟩
  case round =>
    obtain ⟨k, hk, rfl, HA, hbk⟩ := hrel
    have A1 := hA.keep hbk
    have B1 := Bb.keep hbk
    have R1 := Rb.keep hbk
    have Rf1 : ∀ j, wr.frozen? ⟨w.heap.size + 1, j, none⟩ = false := fun j => (hbk.frozen (p := ⟨w.heap.size + 1, j, none⟩) Rb.lt).trans (Rf j)
    have bwr : Below w.heap.size w wr := bw4.trans (hbk.mono bw4.size)
    have sr := hbk.size
    have HW : Hid (∀ i, i < k → ¬ ((X i).ver = 1000000 ∧ (X i).di = true)) := HA
    clear HA
    by_cases hlt : k < n
    · obtain ⟨g, cp, A0, A1', K0, K1, G, ev, g1, g2, hC, _, _⟩ := A1.2.resolve_left (fun hh => by omega)
      injection ev with ev1 _ ev3
      subst ev1 ev3
      have ent := hC.ent k hlt
      generalize A0 k = a0, A1' k = a1, K0 k = c0, K1 k = c1 at ent
      clear hC
      have hq0 : (0 : Int) ≤ (k : Int) := by omega
      have hq1 : (k : Int) < (n : Int) := by omega
      obtain ⟨di, hdi⟩ : ∃ d, (X k).di = d := ⟨_, rfl⟩
      obtain ⟨_, x0, x1, x2, x3, x4, x5, x6, x7, x8, x9, x10⟩ := id ent
      rw [hdi] at x10
      have HD : Hid ((X k).di = di) := hdi
      clear hdi
      cases di
      · have HW2 : Hid (∀ i, i < k + 1 → ¬ ((X i).ver = 1000000 ∧ (X i).di = true)) := fun i hi hh => by
          by_cases e : i = k
          · subst e; have := hh.2; rw [HD.out] at this; cases this
          · exact HW.out i (by omega) hh
        have bn := below_new wr (.cells #[.string (X k).m, .slice a0 (X k).tn c0, .int .i64 (X k).st, .int .i64 (X k).c, .int .i64 (X k).s, .int .i64 (X k).lo, .int .i64 (X k).hi, .slice a1 (X k).n c1, .bool (X k).fu, .int .i64 (X k).ver, .bool false] 39)
        have hbk2 := hbk.trans (bn.mono hbk.size)
        clear A1 B1 R1 bn ent hbk
        go_wp2
        go_roundw
        case rel => exact ⟨k + 1, by omega, by go_num, HW2.out, hbk2⟩
        case measure => simp [intOf]; omega
      have bn := below_new wr (.cells #[.string (X k).m, .slice a0 (X k).tn c0, .int .i64 (X k).st, .int .i64 (X k).c, .int .i64 (X k).s, .int .i64 (X k).lo, .int .i64 (X k).hi, .slice a1 (X k).n c1, .bool (X k).fu, .int .i64 (X k).ver, .bool true] 39)
      have sn : (wr.alloc (.cells #[.string (X k).m, .slice a0 (X k).tn c0, .int .i64 (X k).st, .int .i64 (X k).c, .int .i64 (X k).s, .int .i64 (X k).lo, .int .i64 (X k).hi, .slice a1 (X k).n c1, .bool (X k).fu, .int .i64 (X k).ver, .bool true] 39)).heap.size = wr.heap.size + 1 := by simp
      by_cases hv : (X k).ver = 1000000
      · have HN : Hid (Worn (cln X) n (dS X n)) := (worn_iff hG.out.wins).2 ⟨k, hlt, hv, HD.out⟩
        have e1 : ((X k).ver == 1000000) = true := beq_iff_eq.2 hv
        obtain ⟨_, d0, d1, d2, d3⟩ := id (R1.keep bn)
        obtain ⟨_, y0, y1, y2, y3⟩ := id (B1.keep bn)
        have A2 := A1.keep bn
        have bw5 := bwr.trans (bn.mono bwr.size)
        have Rf2 : ∀ j, (wr.alloc (.cells #[.string (X k).m, .slice a0 (X k).tn c0, .int .i64 (X k).st, .int .i64 (X k).c, .int .i64 (X k).s, .int .i64 (X k).lo, .int .i64 (X k).hi, .slice a1 (X k).n c1, .bool (X k).fu, .int .i64 (X k).ver, .bool true] 39)).frozen? ⟨w.heap.size + 1, j, none⟩ = false := fun j => (bn.frozen (p := ⟨w.heap.size + 1, j, none⟩) R1.lt).trans (Rf1 j)
        clear A1 B1 R1 bn ent hbk hv
        go_wp2
        generalize wr.alloc (.cells #[.string (X k).m, .slice a0 (X k).tn c0, .int .i64 (X k).st, .int .i64 (X k).c, .int .i64 (X k).s, .int .i64 (X k).lo, .int .i64 (X k).hi, .slice a1 (X k).n c1, .bool (X k).fu, .int .i64 (X k).ver, .bool true] 39) = u at *
        refine bodyPost_ret (v := .tuple #[.agg #[.int .i64 z, .int .i64 h, .int .i64 mk, .slice (some ⟨g, 0, none⟩) n vc], .slice none 0 0, .int .i64 1]) (by simp [results, Try.results6, go_sem, d0, d1, d2, d3]) rfl ⟨fun _ => ⟨.slice (some ⟨g, 0, none⟩) n vc, .slice none 0 0, _, rfl, by simp; exact bw5.size, ?_, tans_nil, ?_⟩, fun hh => absurd HN.out hh⟩
        · refine BA.mono (A2.same (by simp) (fun c h1 h2 => ?_)) (by omega) (by simp; try omega) (Nat.le_refl _)
          repeat rw [set_blk _ _ _ _ _ (by omega)]
        · repeat' refine Below.setCell ?_ (by first | (simp; done) | (simp; omega)) _
          exact bw5
      · have HW2 : Hid (∀ i, i < k + 1 → ¬ ((X i).ver = 1000000 ∧ (X i).di = true)) := fun i hi hh => by
          by_cases e : i = k
          · subst e; exact hv hh.1
          · exact HW.out i (by omega) hh
        have e1 : ((X k).ver == 1000000) = false := beq_eq_false_iff_ne.2 hv
        have hbk2 := hbk.trans (bn.mono hbk.size)
        clear A1 B1 R1 bn ent hbk hv
        go_wp2
        go_roundw
        case rel => exact ⟨k + 1, by omega, by go_num, HW2.out, hbk2⟩
        case measure => simp [intOf]; omega
    have hkn : k = n := by omega
    subst hkn
    have HN : Hid (¬ Worn (cln X) k (dS X k)) := fun hh => by
      obtain ⟨i, hi, h1, h2⟩ := (worn_iff hG.out.wins).1 hh
      exact HW.out i hi ⟨h1, h2⟩
    clear HW hA Bb Rb Rf bw4 b3 hlt hk
    have b3 := B1.c3
    obtain ⟨w5, hw5⟩ : ∃ u, u = wr := ⟨_, rfl⟩
    rw [← hw5] at A1 B1 R1 Rf1 bwr sr b3 hbk ⊢
    clear hw5 wr hbk
    go_wp2
    go_loopw [7, 35] (fun t i wr => ∃ (j : Nat) (va' : Option Addr) (vc' : Nat) (V' : Nat → Value), j ≤ k ∧ i = .int .i64 j ∧ t = .slice va' (tN b j) vc' ∧ BA wr lo hi (.slice va k vc) k (tdU X j) ∧ OutT wr w5.heap.size (.slice va' (tN b j) vc') (tN b j) (tL (cln X) b j) V' ∧ Rng lo hi w5 wr) (fun _ i _ => k - (intOf i).toNat)
    case atStart => exact ⟨0, none, 0, fun _ => .slice none 0 0, Nat.zero_le _, rfl, rfl, by rw [tdU_zero]; exact A1, outT_nil _ _ _, Rng.refl _ _ _⟩
    case round =>
      obtain ⟨j, va', vc', V', hj, rfl, rfl, hAj, hO, hR⟩ := hrel
      have blk : ∀ c, c < w5.heap.size → (c < lo ∨ hi ≤ c) → wr.heap[c]? = w5.heap[c]? := fun c hc hne => hR.block c hc hne
      have cl : ∀ c j, c < w5.heap.size → (c < lo ∨ hi ≤ c) → wr.cell? ⟨c, j, none⟩ = w5.cell? ⟨c, j, none⟩ := fun c j hc hne => World.cell?_of_block (w := w5) (a := ⟨c, j, none⟩) (blk c hc hne)
      have B2 : BdAt wr w.heap.size z h mk (.slice va k vc) := ⟨Nat.lt_of_lt_of_le B1.lt hR.size, (cl _ _ B1.lt (by omega)).trans B1.c0, (cl _ _ B1.lt (by omega)).trans B1.c1, (cl _ _ B1.lt (by omega)).trans B1.c2, (cl _ _ B1.lt (by omega)).trans B1.c3⟩
      by_cases hlt : j < k
      rotate_left
      · have e : j = k := by omega
        subst e
        have bwe : Below w.heap.size w wr := bwr.trans (hR.below (by omega) (by omega))
        have OC := ta_of hO (tL_fb (Y := cln X) hfX (Nat.le_refl _))
        have hAe := hAj.congr (tdU_all X j)
        have sR := hR.size
        have Rf2 : ∀ q, wr.frozen? ⟨w.heap.size + 1, q, none⟩ = false := fun q => (World.frozen?_of_block (w := w5) (a := ⟨w.heap.size + 1, q, none⟩) (blk (w.heap.size + 1) R1.lt (by omega))).trans (Rf1 q)
        obtain ⟨_, d0, d1, d2, d3⟩ := id (⟨Nat.lt_of_lt_of_le R1.lt hR.size, (cl _ _ R1.lt (by omega)).trans R1.c0, (cl _ _ R1.lt (by omega)).trans R1.c1, (cl _ _ R1.lt (by omega)).trans R1.c2, (cl _ _ R1.lt (by omega)).trans R1.c3⟩ : BdAt wr (w.heap.size + 1) 0 0 0 (.slice none 0 0))
        obtain ⟨_, y0, y1, y2, y3⟩ := id B2
        clear hAj hO hR blk cl B2 A1 B1 R1 Rf1 bwr
        go_wp2
        refine bodyPost_ret (v := .tuple #[.agg #[.int .i64 z, .int .i64 h, .int .i64 mk, .slice va j vc], .slice va' (tN b j) vc', .int .i64 0]) (by simp [results, Try.results6, go_sem, d0, d1, d2, d3]) rfl ⟨fun hh => absurd hh HN.out, fun _ => ⟨.slice va j vc, .slice va' (tN b j) vc', w5.heap.size, rfl, by omega, ?_, ?_, ?_⟩⟩
        · refine BA.mono (hAe.same (by simp) (fun c h1 h2 => ?_)) (by omega) (by omega) (by simp; omega)
          repeat rw [set_blk _ _ _ _ _ (by omega)]
        · refine TA.mono (OC.same (by simp) (fun c h1 h2 => ?_)) (Nat.le_refl _) (by simp) (Nat.le_refl _)
          repeat rw [set_blk _ _ _ _ _ (by omega)]
        · repeat' refine Below.setCell ?_ (by first | (simp; done) | (simp; omega)) _
          exact bwe
      obtain ⟨g, cp, A0, A1', K0, K1, G, ev, g1, g2, hC, hl0, hl1⟩ := hAj.2.resolve_left (fun hh => by omega)
      injection ev with ev1 _ ev3
      subst ev1 ev3
      obtain ⟨x, hx⟩ : ∃ x, x = cln X j := ⟨_, rfl⟩
      have ent := hC.ent j hlt
      have ll0 := hC.l0 j hlt
      have ll1 := hC.l1 j hlt
      rw [tdU_at] at ent ll0 ll1
      have hq0 : (0 : Int) ≤ (j : Int) := by omega
      have hq1 : (j : Int) < (k : Int) := by omega
      obtain ⟨di, hdi⟩ : ∃ d, (X j).di = d := ⟨_, rfl⟩
      have HD : Hid ((X j).di = di) := hdi
      have x0 : wr.cell? ⟨g, j * 11, none⟩ = some (.string x.m) := by rw [hx]; exact ent.c0
      have x1 : wr.cell? ⟨g, j * 11 + 1, none⟩ = some (.slice (A0 j) x.tn (K0 j)) := by rw [hx]; exact ent.c1
      have x2 : wr.cell? ⟨g, j * 11 + 2, none⟩ = some (.int .i64 x.st) := by rw [hx]; exact ent.c2
      have x3 : wr.cell? ⟨g, j * 11 + 3, none⟩ = some (.int .i64 x.c) := by rw [hx]; exact ent.c3
      have x4 : wr.cell? ⟨g, j * 11 + 4, none⟩ = some (.int .i64 x.s) := by rw [hx]; exact ent.c4
      have x5 : wr.cell? ⟨g, j * 11 + 5, none⟩ = some (.int .i64 x.lo) := by rw [hx]; exact ent.c5
      have x6 : wr.cell? ⟨g, j * 11 + 6, none⟩ = some (.int .i64 x.hi) := by rw [hx]; exact ent.c6
      have x7 : wr.cell? ⟨g, j * 11 + 7, none⟩ = some (.slice (A1' j) x.n (K1 j)) := by rw [hx]; exact ent.c7
      have x8 : wr.cell? ⟨g, j * 11 + 8, none⟩ = some (.bool x.fu) := by rw [hx]; exact ent.c8
      have x9 : wr.cell? ⟨g, j * 11 + 9, none⟩ = some (.int .i64 x.ver) := by rw [hx]; exact ent.c9
      have x10 : wr.cell? ⟨g, j * 11 + 10, none⟩ = some (.bool di) := by rw [← hdi]; exact ent.c10
      have HX : Hid (x = cln X j) := hx
      clear hdi blk cl hx
      have hgs : g < wr.heap.size := ent.lt
      have sR := hR.size
      cases di
      · have hbj : b j = false := by rw [Hb.out]; exact HD.out
        have E1 : Hid (tdU X j = tdU X (j + 1)) := tdU_no _ _ HD.out
        have E2 : Hid (tN b (j + 1) = tN b j) := show tN b (j + 1) = tN b j by simp [tN, hbj]
        have E3 : Hid (tL (cln X) b (j + 1) = tL (cln X) b j) := show tL (cln X) b (j + 1) = tL (cln X) b j by simp [tL, hbj]
        have bn := below_new wr (.cells #[.string x.m, .slice (A0 j) x.tn (K0 j), .int .i64 x.st, .int .i64 x.c, .int .i64 x.s, .int .i64 x.lo, .int .i64 x.hi, .slice (A1' j) x.n (K1 j), .bool x.fu, .int .i64 x.ver, .bool false] 39)
        have A2 := hAj.keep bn
        rw [E1.out] at A2
        have O2 := hO.keep bn
        have R2 := hR.trans (Rng.of_below bn)
        clear hAj hO hR bn ent ll0 ll1 hC hl0 hl1 B2 A1 B1 R1 Rf1 hbj
        go_wp2
        go_roundw
        case rel => exact ⟨j + 1, va', vc', V', by omega, by go_num, by rw [E2.out], A2, by rw [E2.out, E3.out]; exact O2, R2⟩
        case measure => simp [intOf]; omega
      have hbj : b j = true := by rw [Hb.out]; exact HD.out
      have E1 : Hid (upWi (tdU X j) j ((vInc (X j)).w_di false) = tdU X (j + 1)) := tdU_yes _ _ HD.out
      have E2 : Hid (tN b (j + 1) = tN b j + 1) := show tN b (j + 1) = tN b j + 1 by simp [tN, hbj]
      have E3 : Hid (tL (cln X) b (j + 1) = upTo (tL (cln X) b j) (tN b j) (vInc x)) := show tL (cln X) b (j + 1) = _ by simp [tL, hbj, HX.out]
      have hvr : 0 ≤ x.ver ∧ x.ver ≤ 1000000 := by
        have h1 : btw 0 x.ver 1000000 = true := by rw [HX.out]; exact (hG.out.wins.each j hlt).ver
        simpa [btw] using h1
      have hwv : IntKind.i64.wrap (x.ver + 1) = x.ver + 1 := by rw [IntKind.wrap_i64] <;> omega
      have zk : WiS x := by rw [HX.out]; cases hz j hlt; constructor <;> assumption
      have bn := below_new wr (.cells #[.string x.m, .slice (A0 j) x.tn (K0 j), .int .i64 x.st, .int .i64 x.c, .int .i64 x.s, .int .i64 x.lo, .int .i64 x.hi, .slice (A1' j) x.n (K1 j), .bool x.fu, .int .i64 x.ver, .bool true] 39)
      have sn : (wr.alloc (.cells #[.string x.m, .slice (A0 j) x.tn (K0 j), .int .i64 x.st, .int .i64 x.c, .int .i64 x.s, .int .i64 x.lo, .int .i64 x.hi, .slice (A1' j) x.n (K1 j), .bool x.fu, .int .i64 x.ver, .bool true] 39)).heap.size = wr.heap.size + 1 := by simp
      have hCu : WiC wr g k (upWi (tdU X j) j (X j)) A0 A1' K0 K1 G := by
        have := upWi_same (tdU X j) j
        rw [tdU_at] at this
        rw [this]; exact hC
      have fv9 := (bn.frozen (p := ⟨g, j * 11 + 9, none⟩) hgs).trans (hCu.free (j * 11 + 9) (by omega))
      have b3 := (B2.keep bn).c3
      have y9 := (bn.cell (p := ⟨g, j * 11 + 9, none⟩) hgs).trans x9
      have hver : (X j).ver = x.ver := by rw [HX.out]; rfl
      have o1 := Others.setCell wr g (j * 11 + 9) (.int .i64 (x.ver + 1))
      have hC9 := hCu.set9 hlt (x.ver + 1)
      have hCt := hC9.set10 hlt false
      have bn1 := below_new (wr.setCell ⟨g, j * 11 + 9, none⟩ (.int .i64 (x.ver + 1))) (.cells #[.string x.m, .slice (A0 j) x.tn (K0 j), .int .i64 x.st, .int .i64 x.c, .int .i64 x.s, .int .i64 x.lo, .int .i64 x.hi, .slice (A1' j) x.n (K1 j), .bool x.fu, .int .i64 x.ver, .bool true] 39)
      have b3a := (bn1.cell (p := ⟨w.heap.size, 3, none⟩) (by rw [o1.size]; exact B2.lt)).trans ((World.cell?_of_block (w := wr) (a := ⟨w.heap.size, 3, none⟩) (o1.block w.heap.size (by omega))).trans B2.c3)
      have y10a := (bn1.cell (p := ⟨g, j * 11 + 10, none⟩) (by rw [o1.size]; exact hgs)).trans ((World.cell?_setCell_other _ _ _ _ (by intro hh; injection hh with _ h2 _; omega)).trans x10)
      have fv10a := (bn1.frozen (p := ⟨g, j * 11 + 10, none⟩) (by rw [o1.size]; exact hgs)).trans (hC9.free (j * 11 + 10) (by omega))
      obtain ⟨U2, hU2⟩ : ∃ u, u = (wr.setCell ⟨g, j * 11 + 9, none⟩ (.int .i64 (x.ver + 1))).setCell ⟨g, j * 11 + 10, none⟩ (.bool false) := ⟨_, rfl⟩
      have s2U : U2.heap.size = wr.heap.size := by rw [hU2]; simp
      have bn2 := below_new U2 (.cells #[.string x.m, .slice (A0 j) x.tn (K0 j), .int .i64 x.st, .int .i64 x.c, .int .i64 x.s, .int .i64 x.lo, .int .i64 x.hi, .slice (A1' j) x.n (K1 j), .bool x.fu, .int .i64 x.ver, .bool true] 39)
      have AU : WiAt (U2.alloc (.cells #[.string x.m, .slice (A0 j) x.tn (K0 j), .int .i64 x.st, .int .i64 x.c, .int .i64 x.s, .int .i64 x.lo, .int .i64 x.hi, .slice (A1' j) x.n (K1 j), .bool x.fu, .int .i64 x.ver, .bool true] 39)) U2.heap.size 0 (x.w_di true) (A0 j) (A1' j) (K0 j) (K1 j) := WiAt.new U2 (x.w_di true) (A0 j) (A1' j) (K0 j) (K1 j) 39
      rw [s2U] at AU
      have hCw : WiC (U2.alloc (.cells #[.string x.m, .slice (A0 j) x.tn (K0 j), .int .i64 x.st, .int .i64 x.c, .int .i64 x.s, .int .i64 x.lo, .int .i64 x.hi, .slice (A1' j) x.n (K1 j), .bool x.fu, .int .i64 x.ver, .bool true] 39)) g k (upWi (tdU X j) j (((X j).w_ver (x.ver + 1)).w_di false)) A0 A1' K0 K1 G := (show WiC U2 g k _ A0 A1' K0 K1 G by rw [hU2]; exact hCt).keep bn2
      have l0 := hCw.l0 j hlt
      have l1 := hCw.l1 j hlt
      rw [upWi_at] at l0 l1
      have OU : OutT (U2.alloc (.cells #[.string x.m, .slice (A0 j) x.tn (K0 j), .int .i64 x.st, .int .i64 x.c, .int .i64 x.s, .int .i64 x.lo, .int .i64 x.hi, .slice (A1' j) x.n (K1 j), .bool x.fu, .int .i64 x.ver, .bool true] 39)) w5.heap.size (.slice va' (tN b j) vc') (tN b j) (tL (cln X) b j) V' := (show OutT U2 w5.heap.size (.slice va' (tN b j) vc') (tN b j) (tL (cln X) b j) V' by rw [hU2]; exact (hO.others (Others.setCell _ g (j * 11 + 9) (.int .i64 (x.ver + 1))) (by omega)).others (Others.setCell _ g (j * 11 + 10) (.bool false)) (by omega)).keep bn2
      have hvl : ∀ q, (Value.slice va' (tN b j) vc').ownBlock = some q → q < wr.heap.size := fun q hq => (hO.own.lt q hq).2
      have RU : Rng lo hi w5 (U2.alloc (.cells #[.string x.m, .slice (A0 j) x.tn (K0 j), .int .i64 x.st, .int .i64 x.c, .int .i64 x.s, .int .i64 x.lo, .int .i64 x.hi, .slice (A1' j) x.n (K1 j), .bool x.fu, .int .i64 x.ver, .bool true] 39)) := (show Rng lo hi w5 U2 by rw [hU2]; exact (hR.trans (Rng.of_set (b := g) ⟨g1, g2⟩ (j * 11 + 9) (.int .i64 (x.ver + 1)))).trans (Rng.of_set (b := g) ⟨g1, g2⟩ (j * 11 + 10) (.bool false))).trans (Rng.of_below bn2)
      have e1x : ((((X j).w_ver (x.ver + 1)).w_di false).tn = x.tn) ∧ ((((X j).w_ver (x.ver + 1)).w_di false).nm = x.nm) ∧ ((((X j).w_ver (x.ver + 1)).w_di false).vl = x.vl) ∧ ((((X j).w_ver (x.ver + 1)).w_di false).n = x.n) ∧ ((((X j).w_ver (x.ver + 1)).w_di false).f = x.f) := by rw [HX.out]; exact ⟨rfl, rfl, rfl, rfl, rfl⟩
      rw [e1x.1, e1x.2.1, e1x.2.2.1] at l0
      rw [e1x.2.2.2.1, e1x.2.2.2.2] at l1
      have fbx : ∀ i, -9223372036854775808 ≤ x.f i ∧ x.f i ≤ 9223372036854775807 := by rw [HX.out]; exact hfX j hlt
      have eX : ((X j).w_ver (x.ver + 1)).w_di false = (vInc (X j)).w_di false := by rw [← hver]; rfl
      rw [eX] at hCw
      clear ent ll0 ll1 hC hCu hC9 hCt hO hR B1 R1 Rf1 A1 eX e1x hver hvr hbj bn1 bn2 o1
      go_wp2
      rw [← hU2]
      clear hU2
      generalize U2.alloc (.cells #[.string x.m, .slice (A0 j) x.tn (K0 j), .int .i64 x.st, .int .i64 x.c, .int .i64 x.s, .int .i64 x.lo, .int .i64 x.hi, .slice (A1' j) x.n (K1 j), .bool x.fu, .int .i64 x.ver, .bool true] 39) = U at *
      have r0U : TRow U (A0 j) x.tn x.nm x.vl := by
        by_cases ht : x.tn = 0
        · exact ⟨.inl ht⟩
        · obtain ⟨t1, _, t3⟩ := l0 (by omega)
          rw [t1]; exact t3.row
      have r1U : IRow U (A1' j) x.n x.f := by
        by_cases ht : x.n = 0
        · exact ⟨fbx, .inl ht⟩
        · obtain ⟨t1, _, t3⟩ := l1 (by omega)
          rw [t1]; exact t3.row
      have sU : w5.heap.size ≤ U.heap.size := RU.size
      have hm := tN_le b j
      have Ad := AU.keep (Below.refl _ U).drew
      have r0e := r0U.keep (Below.refl _ U).drew
      have r1e := r1U.keep (Below.refl _ U).drew
      have Od := OU.keep (Below.refl _ U).drew
      obtain ⟨B, hBw⟩ : ∃ B, B = wr.heap.size := ⟨_, rfl⟩
      rw [← hBw] at Ad hvl ⊢
      clear hBw
      obtain ⟨_, y0, y1, y2, y3, y4, y5, y6, y7, y8, y9', y10'⟩ := id Ad
      simp only [Nat.zero_add, Wn.w_di] at y0 y1 y2 y3 y4 y5 y6 y7 y8 y9' y10'
      clear l0 l1 r0U r1U OU AU B2 b3 y9 b3a y10a fv10a fv9 x0 x1 x2 x3 x4 x5 x6 x7 x8 x9 x10
      refine wp_region_w (fun w' : World => w'.cell? ⟨B, 0, none⟩ = some (.string x.m) ∧ w'.cell? ⟨B, 1, none⟩ = some (.slice (A0 j) x.tn (K0 j)) ∧ w'.cell? ⟨B, 2, none⟩ = some (.int .i64 x.st) ∧ w'.cell? ⟨B, 3, none⟩ = some (.int .i64 x.c) ∧ w'.cell? ⟨B, 4, none⟩ = some (.int .i64 x.s) ∧ w'.cell? ⟨B, 5, none⟩ = some (.int .i64 x.lo) ∧ w'.cell? ⟨B, 6, none⟩ = some (.int .i64 x.hi) ∧ w'.cell? ⟨B, 7, none⟩ = some (.slice (A1' j) x.n (K1 j)) ∧ w'.cell? ⟨B, 8, none⟩ = some (.bool x.fu) ∧ w'.cell? ⟨B, 9, none⟩ = some (.int .i64 x.ver)) (fun _ => true) (by kernel_rfl) ?_
      change wpW _ _ _ _ _ _ 14 _ _ U.drew
      have hS0 := (⟨y0, y1, y2, y3, y4, y5, y6, y7, y8, y9'⟩ : (fun w' : World => w'.cell? ⟨B, 0, none⟩ = some (.string x.m) ∧ w'.cell? ⟨B, 1, none⟩ = some (.slice (A0 j) x.tn (K0 j)) ∧ w'.cell? ⟨B, 2, none⟩ = some (.int .i64 x.st) ∧ w'.cell? ⟨B, 3, none⟩ = some (.int .i64 x.c) ∧ w'.cell? ⟨B, 4, none⟩ = some (.int .i64 x.s) ∧ w'.cell? ⟨B, 5, none⟩ = some (.int .i64 x.lo) ∧ w'.cell? ⟨B, 6, none⟩ = some (.int .i64 x.hi) ∧ w'.cell? ⟨B, 7, none⟩ = some (.slice (A1' j) x.n (K1 j)) ∧ w'.cell? ⟨B, 8, none⟩ = some (.bool x.fu) ∧ w'.cell? ⟨B, 9, none⟩ = some (.int .i64 x.ver)) U.drew)
      refine wpW_take 0 _ (.slice va' (tN b j) vc') rfl (by kernel_rfl) (by kernel_rfl) (by kernel_rfl) (fun _ _ _ h => h) (by kernel_rfl) (.inl ⟨rfl, fun w' hS' => by obtain ⟨s0, s1, s2, s3, s4, s5, s6, s7, s8, s9⟩ := hS'; go_simp⟩) hS0 ?_
      refine wpW_take 1 _ (.pointer (some ⟨B, 0, none⟩)) rfl (by kernel_rfl) (by kernel_rfl) (by kernel_rfl) (fun _ _ _ h => h) (by kernel_rfl) (.inl ⟨rfl, fun w' hS' => by obtain ⟨s0, s1, s2, s3, s4, s5, s6, s7, s8, s9⟩ := hS'; go_simp⟩) hS0 ?_
      refine wpW_take 2 _ (.agg #[.string x.m, .slice (A0 j) x.tn (K0 j), .int .i64 x.st]) rfl (by kernel_rfl) (by kernel_rfl) (by kernel_rfl) (fun _ _ _ h => h) (by kernel_rfl) (.inl ⟨rfl, fun w' hS' => by obtain ⟨s0, s1, s2, s3, s4, s5, s6, s7, s8, s9⟩ := hS'; go_simp⟩) hS0 ?_
      refine wpW_take 4 _ (.pointer (some ⟨B, 9, none⟩)) rfl (by kernel_rfl) (by kernel_rfl) (by kernel_rfl) (fun _ _ _ h => h) (by kernel_rfl) (.inl ⟨rfl, fun w' hS' => by obtain ⟨s0, s1, s2, s3, s4, s5, s6, s7, s8, s9⟩ := hS'; go_simp⟩) hS0 ?_
      refine wpW_take 5 _ (.int .i64 x.ver) rfl (by kernel_rfl) (by kernel_rfl) (by kernel_rfl) (fun _ _ _ h => h) (by kernel_rfl) (.inl ⟨rfl, fun w' hS' => by obtain ⟨s0, s1, s2, s3, s4, s5, s6, s7, s8, s9⟩ := hS'; go_simp⟩) hS0 ?_
      refine wpW_take 6 _ (.int .i64 (x.ver + 1)) rfl (by kernel_rfl) (by kernel_rfl) (by kernel_rfl) (fun _ _ _ h => h) (by kernel_rfl) (.inl ⟨rfl, fun w' hS' => by obtain ⟨s0, s1, s2, s3, s4, s5, s6, s7, s8, s9⟩ := hS'; go_simp⟩) hS0 ?_
      refine wpW_take 7 _ (.pointer (some ⟨B, 3, none⟩)) rfl (by kernel_rfl) (by kernel_rfl) (by kernel_rfl) (fun _ _ _ h => h) (by kernel_rfl) (.inl ⟨rfl, fun w' hS' => by obtain ⟨s0, s1, s2, s3, s4, s5, s6, s7, s8, s9⟩ := hS'; go_simp⟩) hS0 ?_
      refine wpW_take 8 _ (.agg #[.int .i64 x.c, .int .i64 x.s, .int .i64 x.lo, .int .i64 x.hi, .slice (A1' j) x.n (K1 j), .bool x.fu]) rfl (by kernel_rfl) (by kernel_rfl) (by kernel_rfl) (fun _ _ _ h => h) (by kernel_rfl) (.inl ⟨rfl, fun w' hS' => by obtain ⟨s0, s1, s2, s3, s4, s5, s6, s7, s8, s9⟩ := hS'; go_simp⟩) hS0 ?_
      simp only [Act.put, List.getElem_toArray, List.getElem_cons_succ, List.getElem_cons_zero, List.setIfInBounds_toArray, List.set_cons_zero, List.set_cons_succ]
      refine wpW_one 3 _ rfl (by kernel_rfl) (step_ownKey rfl 59 rfl x (A0 j) (K0 j) (by simp [Act.eval, Act.put]) r0e zk.tn ?_)
      intro ha0 hc0 u1 T0 q1
      have A1s := Ad.keep q1
      obtain ⟨_, y0, y1, y2, y3, y4, y5, y6, y7, y8, y9', y10'⟩ := id A1s
      simp only [Nat.zero_add, Wn.w_di] at y0 y1 y2 y3 y4 y5 y6 y7 y8 y9' y10'
      refine ⟨fun _ => ⟨y0, y1, y2, y3, y4, y5, y6, y7, y8, y9'⟩, ?_⟩
      simp only [Act.put, List.getElem_toArray, List.getElem_cons_succ, List.getElem_cons_zero, List.setIfInBounds_toArray, List.set_cons_zero, List.set_cons_succ]
      refine wpW_one 9 _ rfl (by kernel_rfl) (step_ownAgg rfl 65 rfl x (A1' j) (K1 j) (by simp [Act.eval, Act.put]) (r1e.keep q1) zk.n ?_)
      intro ha1 hc1 u2 T1 q2
      have A2s := A1s.keep q2
      obtain ⟨_, y0, y1, y2, y3, y4, y5, y6, y7, y8, y9', y10'⟩ := id A2s
      simp only [Nat.zero_add, Wn.w_di] at y0 y1 y2 y3 y4 y5 y6 y7 y8 y9' y10'
      have hS2 := (⟨y0, y1, y2, y3, y4, y5, y6, y7, y8, y9'⟩ : (fun w' : World => w'.cell? ⟨B, 0, none⟩ = some (.string x.m) ∧ w'.cell? ⟨B, 1, none⟩ = some (.slice (A0 j) x.tn (K0 j)) ∧ w'.cell? ⟨B, 2, none⟩ = some (.int .i64 x.st) ∧ w'.cell? ⟨B, 3, none⟩ = some (.int .i64 x.c) ∧ w'.cell? ⟨B, 4, none⟩ = some (.int .i64 x.s) ∧ w'.cell? ⟨B, 5, none⟩ = some (.int .i64 x.lo) ∧ w'.cell? ⟨B, 6, none⟩ = some (.int .i64 x.hi) ∧ w'.cell? ⟨B, 7, none⟩ = some (.slice (A1' j) x.n (K1 j)) ∧ w'.cell? ⟨B, 8, none⟩ = some (.bool x.fu) ∧ w'.cell? ⟨B, 9, none⟩ = some (.int .i64 x.ver)) u2)
      refine ⟨fun _ => hS2, ?_⟩
      refine wpW_take 10 _ (.agg #[.string x.m, .slice ha0 x.tn hc0, .int .i64 x.st, .int .i64 (x.ver + 1), .int .i64 x.c, .int .i64 x.s, .int .i64 x.lo, .int .i64 x.hi, .slice ha1 x.n hc1, .bool x.fu]) rfl (by kernel_rfl) (by kernel_rfl) (by kernel_rfl) (fun _ _ _ h => h) (by kernel_rfl) (.inl ⟨rfl, fun w' hS' => by obtain ⟨s0, s1, s2, s3, s4, s5, s6, s7, s8, s9⟩ := hS'; go_simp⟩) hS2 ?_
      have T0' := ownsRow_keep T0 q2
      have T1' := ownsRow_mono T1 (show U.drew.heap.size ≤ u1.heap.size from q1.size)
      have hd : ∀ q, (Value.slice ha1 x.n hc1).ownBlock = some q → (Value.slice ha0 x.tn hc0).ownBlock ≠ some q := fun q h1 h2 => by have k1 := (T1.lt q h1).1; have k2 := (T0.lt q h2).2; omega
      have q12 := q1.trans (q2.mono q1.size)
      obtain ⟨vb, vd, V2, u3, hrun, O3, hbn, hbx⟩ := tdPush2 (x := vInc x) Od q12 T0' T1' hd (by omega) sU
      have bX := below_new u2 (.cells #[.string x.m, .slice ha0 x.tn hc0, .int .i64 x.st, .int .i64 (x.ver + 1), .int .i64 x.c, .int .i64 x.s, .int .i64 x.lo, .int .i64 x.hi, .slice ha1 x.n hc1, .bool x.fu] 37)
      obtain ⟨_, y0', y1', y2', y3', y4', y5', y6', y7', y8', y9'', y10''⟩ := A2s.keep bX
      simp only [Nat.zero_add, Wn.w_di] at y0' y1' y2' y3' y4' y5' y6' y7' y8' y9'' y10''
      simp only [Act.put, List.getElem_toArray, List.getElem_cons_succ, List.getElem_cons_zero, List.setIfInBounds_toArray, List.set_cons_zero, List.set_cons_succ]
      refine wpW_one 11 _ rfl (by kernel_rfl) (step_buildT rfl 67 rfl (vInc x) ha0 ha1 hc0 hc1 (by simp [Act.eval, Act.put, vInc, Wn.w_ver]) ?_)
      refine ⟨fun _ => ⟨y0', y1', y2', y3', y4', y5', y6', y7', y8', y9''⟩, ?_⟩
      simp only [Act.put, List.getElem_toArray, List.getElem_cons_succ, List.getElem_cons_zero, List.setIfInBounds_toArray, List.set_cons_zero, List.set_cons_succ]
      refine wpW_one 12 _ rfl (by kernel_rfl) (step_append_ty rfl (.tmp 57) (.tmp 68) 27 27 rfl rfl (.slice va' (tN b j) vc') (.slice (some ⟨u2.heap.size, 0, none⟩) 1 1) (.slice vb (tN b j + 1) vd) (by simp [Act.eval, Act.put]) (by simp [Act.eval, Act.put]) u3 hrun ?_)
      have hb3 : ∀ q, u3.cell? ⟨B, q, none⟩ = u2.cell? ⟨B, q, none⟩ := fun q => World.cell?_of_block (w := u2) (a := ⟨B, q, none⟩) (hbx B A2s.lt (fun e => by have := hvl _ e; omega))
      have hS3 := (⟨(hb3 _).trans y0, (hb3 _).trans y1, (hb3 _).trans y2, (hb3 _).trans y3, (hb3 _).trans y4, (hb3 _).trans y5, (hb3 _).trans y6, (hb3 _).trans y7, (hb3 _).trans y8, (hb3 _).trans y9'⟩ : (fun w' : World => w'.cell? ⟨B, 0, none⟩ = some (.string x.m) ∧ w'.cell? ⟨B, 1, none⟩ = some (.slice (A0 j) x.tn (K0 j)) ∧ w'.cell? ⟨B, 2, none⟩ = some (.int .i64 x.st) ∧ w'.cell? ⟨B, 3, none⟩ = some (.int .i64 x.c) ∧ w'.cell? ⟨B, 4, none⟩ = some (.int .i64 x.s) ∧ w'.cell? ⟨B, 5, none⟩ = some (.int .i64 x.lo) ∧ w'.cell? ⟨B, 6, none⟩ = some (.int .i64 x.hi) ∧ w'.cell? ⟨B, 7, none⟩ = some (.slice (A1' j) x.n (K1 j)) ∧ w'.cell? ⟨B, 8, none⟩ = some (.bool x.fu) ∧ w'.cell? ⟨B, 9, none⟩ = some (.int .i64 x.ver)) u3)
      refine ⟨fun _ => hS3, ?_⟩
      simp only [Act.put, List.getElem_toArray, List.getElem_cons_succ, List.getElem_cons_zero, List.setIfInBounds_toArray, List.set_cons_zero, List.set_cons_succ]
      refine wpW_one 13 _ rfl (by kernel_rfl) (step_assign rfl 69 rfl vb (tN b j + 1) vd (by simp [Act.eval, Act.put]) ?_)
      refine ⟨fun _ => hS3, ?_⟩
      refine wpW_done (by kernel_rfl) ?_
      simp only [Act.put, List.getElem_toArray, List.getElem_cons_succ, List.getElem_cons_zero, List.setIfInBounds_toArray, List.set_cons_zero, List.set_cons_succ]
      have bU : Below w5.heap.size U u3 := (((Below.refl _ U).drew.mono sU).trans (q12.mono sU)).trans hbn
      have RF := RU.more bU
      have hCF : WiC u3 g k (tdU X (j + 1)) A0 A1' K0 K1 G := by
        rw [← E1.out]
        refine hCw.same bU.size (bU.block g (by omega)) (fun i hi hp => ?_) (fun i hi hp => ?_)
        · rw [E1.out, (tdU_len _ _ _).1] at hp
          have := hl0 i hi (by rw [(tdU_len _ _ _).1]; exact hp)
          exact bU.block _ (by omega)
        · rw [E1.out, (tdU_len _ _ _).2] at hp
          have := hl1 i hi (by rw [(tdU_len _ _ _).2]; exact hp)
          exact bU.block _ (by omega)
      have BAF : BA u3 lo hi (.slice (some ⟨g, 0, none⟩) k vc) k (tdU X (j + 1)) := ⟨by have := bU.size; omega, .inr ⟨g, vc, A0, A1', K0, K1, G, rfl, g1, g2, hCF, fun i hi hp => hl0 i hi (by rw [(tdU_len _ _ _).1] at hp ⊢; exact hp), fun i hi hp => hl1 i hi (by rw [(tdU_len _ _ _).2] at hp ⊢; exact hp)⟩⟩
      rw [← E2.out, ← E3.out] at O3
      rw [← E2.out]
      clear hAj
      go_wp2
      go_roundw
      case rel => exact ⟨j + 1, vb, vd, V2, by omega, by go_num, rfl, BAF, O3, RF⟩
      case measure => simp [intOf]; omega
end Go.Proofs.Ytpggmgmdcccmeaa
