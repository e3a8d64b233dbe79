/- wornOut: whether a dirty window has the last version, in the program. / TellDirty, in numbers: versions risen, what is told; one told window put behind the others. -/
import Derived.Test.YtflmbcgokiiedaaTe
import Derived.Laws.EntriesVeiled
import Derived.Test.YtflmbcgokiiedaaCt
import Derived.Test.YtflmbcgokiiedaaKr
namespace Go.Proofs.Ytflmbcgokiiedaa
open Go.RowKit
set_option linter.unusedSimpArgs false
set_option linter.unusedVariables false

/-- Of the first n windows one that is told in S has the last version. -/
def Worn (Y : Nat → Wn) (n : Nat) (S : ByteArray → Prop) : Prop := ∃ i, i < n ∧ (Y i).ver = 1000000 ∧ S (kS (Y i))

set_option maxRecDepth 100000 in
set_option maxHeartbeats 3200000 in
theorem wornOut1_any (x : Wn) (a0 a1 : Option Addr) (c0 c1 B p r : Nat) (S : ByteArray → Prop) (w : World) (r0 : TRow w a0 x.tn x.nm x.vl) (hG : Hid (gK x = true)) (hS : KSet w r S)
    (hq : w.cell? ⟨B, 0, none⟩ = some (.pointer (some ⟨p, 0, none⟩))) (hB : B < w.heap.size) (h4 : w.cell? ⟨p, 4, none⟩ = some (.map (some r))) (hp : p < w.heap.size) :
    Calls Try.prog 73 #[.agg #[.string x.m, .slice a0 x.tn c0, .int .i64 x.st, .int .i64 x.c, .int .i64 x.s, .int .i64 x.lo, .int .i64 x.hi, .slice a1 x.n c1, .bool x.fu, .int .i64 x.ver, .bool x.di], .pointer (some ⟨B, 0, none⟩)] w fun e w' => Ans (x.ver = 1000000 ∧ S (kS x)) w e w' := by
  have hb := below_new w (.cells #[.string x.m, .slice a0 x.tn c0, .int .i64 x.st, .int .i64 x.c, .int .i64 x.s, .int .i64 x.lo, .int .i64 x.hi, .slice a1 x.n c1, .bool x.fu, .int .i64 x.ver, .bool x.di] 54)
  have q1 : (w.alloc (.cells #[.string x.m, .slice a0 x.tn c0, .int .i64 x.st, .int .i64 x.c, .int .i64 x.s, .int .i64 x.lo, .int .i64 x.hi, .slice a1 x.n c1, .bool x.fu, .int .i64 x.ver, .bool x.di] 54)).cell? ⟨B, 0, none⟩ = some (.pointer (some ⟨p, 0, none⟩)) := (hb.cell (p := ⟨B, 0, none⟩) hB).trans hq
  have q4 : (w.alloc (.cells #[.string x.m, .slice a0 x.tn c0, .int .i64 x.st, .int .i64 x.c, .int .i64 x.s, .int .i64 x.lo, .int .i64 x.hi, .slice a1 x.n c1, .bool x.fu, .int .i64 x.ver, .bool x.di] 54)).cell? ⟨p, 4, none⟩ = some (.map (some r)) := (hb.cell (p := ⟨p, 4, none⟩) hp).trans h4
  have r0 := r0.keep hb
  have hS := hS.keep hb
  obtain ⟨_, d0, d1, d2, d3, d4, d5, d6, d7, d8, d9, d10⟩ := WiAt.new w x a0 a1 c0 c1 54
  simp only [Nat.zero_add] at d1 d2 d3 d4 d5 d6 d7 d8 d9 d10
  by_cases hv : x.ver = 1000000
  rotate_left
  · have e1 : (x.ver == 1000000) = false := beq_eq_false_iff_ne.2 hv
    have H : Hid (¬ (x.ver = 1000000 ∧ S (kS x))) := fun hh => hv hh.1
    clear hv
    go_enter Try.func73, Try.ntmps73
    go_wp2
    go_region
    all_goals go_wp2
    all_goals go_ret
    all_goals exact Ans.mk false (by have := H.out; simp [this]) (by first | exact hb | exact hb.drew)
  have Hv : Hid (x.ver = 1000000) := hv
  have e1 : (x.ver == 1000000) = true := beq_iff_eq.2 hv
  clear hv
  have r0d := r0.keep (Below.refl _ _).drew
  have Sd := hS.keep (Below.refl _ _).drew
  go_enter Try.func73, Try.ntmps73
  go_wp2
  go_region_held3 (fun w' => w'.cell? ⟨B, 0, none⟩ = some (.pointer (some ⟨p, 0, none⟩)) ∧ w'.cell? ⟨p, 4, none⟩ = some (.map (some r)) ∧ w'.cell? ⟨w.heap.size, 9, none⟩ = some (.int .i64 x.ver) ∧ w'.cell? ⟨w.heap.size, 0, none⟩ = some (.string x.m) ∧ w'.cell? ⟨w.heap.size, 1, none⟩ = some (.slice a0 x.tn c0) ∧ w'.cell? ⟨w.heap.size, 2, none⟩ = some (.int .i64 x.st)) (first | exact hSS | go_keep) (first | (go_at_call 39; refine (has_any x r S a0 c0 _ r0d hG Sd).mono ?_; rintro e u ⟨bb, rfl, hbb, q⟩; have Hbb : Hid (bb = true ↔ S (kS x)) := hbb; have q' := (Below.refl _ _).drew.trans q; have hSS : (u.cell? ⟨B, 0, none⟩ = some (.pointer (some ⟨p, 0, none⟩)) ∧ u.cell? ⟨p, 4, none⟩ = some (.map (some r)) ∧ u.cell? ⟨w.heap.size, 9, none⟩ = some (.int .i64 x.ver) ∧ u.cell? ⟨w.heap.size, 0, none⟩ = some (.string x.m) ∧ u.cell? ⟨w.heap.size, 1, none⟩ = some (.slice a0 x.tn c0) ∧ u.cell? ⟨w.heap.size, 2, none⟩ = some (.int .i64 x.st)) := ⟨(q'.cell (p := ⟨B, 0, none⟩) (by simp; omega)).trans q1, (q'.cell (p := ⟨p, 4, none⟩) (by simp; omega)).trans q4, (q'.cell (p := ⟨w.heap.size, 9, none⟩) (by simp)).trans d9, (q'.cell (p := ⟨w.heap.size, 0, none⟩) (by simp)).trans d0, (q'.cell (p := ⟨w.heap.size, 1, none⟩) (by simp)).trans d1, (q'.cell (p := ⟨w.heap.size, 2, none⟩) (by simp)).trans d2⟩; have bw := hb.trans (q'.mono hb.size); clear q q' hbb))
  go_wp2
  go_ret
  exact Ans.mk bb (by have h1 := Hbb.out; have h2 := Hv.out; simp [h1, h2]) bw

set_option maxHeartbeats 1600000 in
theorem indexWin_any (ao : Option Addr) (n cap B p r : Nat) (Y : Nat → Wn) (S : ByteArray → Prop) (w : World) (hr : WiRow w ao n Y) (hn : n ≤ 1048576) (hg : Hid (∀ i, i < n → gK (Y i) = true)) (hS : KSet w r S)
    (hq : w.cell? ⟨B, 0, none⟩ = some (.pointer (some ⟨p, 0, none⟩))) (hB : B < w.heap.size) (h4 : w.cell? ⟨p, 4, none⟩ = some (.map (some r))) (hp : p < w.heap.size) :
    Calls Try.prog 92 #[.slice ao n cap, .func (.func 73) #[] #[.pointer (some ⟨B, 0, none⟩)]] w fun e w' => ∃ k : Int, e = .returned (.int .i64 k) ∧ (0 ≤ k ↔ Worn Y n S) ∧ Below w.heap.size w w' := by
  have hlies := hr.lies
  go_enter Try.func92, Try.ntmps92
  go_wp2
  go_loopw [8] (fun i wr => ∃ k : Nat, k ≤ n ∧ i = .int .i64 k ∧ Hid (∀ i, i < k → ¬ ((Y i).ver = 1000000 ∧ S (kS (Y i)))) ∧ Below w.heap.size w wr) (fun i _ => n - (intOf i).toNat)
  case atStart => exact ⟨0, Nat.zero_le _, rfl, fun i h => by omega, Below.refl _ _⟩
  case round =>
    obtain ⟨k, hk, rfl, HA, hbk⟩ := hrel
    by_cases hlt : k < n
    · obtain ⟨b, off, rfl, hblt, hc⟩ := hlies.resolve_left (by omega)
      obtain ⟨a0, a1, c0, c1, ea, r0, _⟩ := hc k hlt
      obtain ⟨_, d0, d1, d2, d3, d4, d5, d6, d7, d8, d9, d10⟩ := ea.keep hbk
      have hcall := wornOut1_any (Y k) a0 a1 c0 c1 B p r S wr (r0.keep hbk) (hg.out k hlt) (hS.keep hbk) ((hbk.cell (p := ⟨B, 0, none⟩) hB).trans hq) (Nat.lt_of_lt_of_le hB hbk.size) ((hbk.cell (p := ⟨p, 4, none⟩) hp).trans h4) (Nat.lt_of_lt_of_le hp hbk.size)
      clear hc hlies ea hr r0 hS
      go_wp2_with fail
      refine hcall.mono ?_
      rintro e w1 ⟨bb, rfl, hbb, hb1⟩
      have bw1 := hbk.trans (hb1.mono hbk.size)
      cases bb
      · have HH : Hid (∀ i, i < k + 1 → ¬ ((Y i).ver = 1000000 ∧ S (kS (Y i)))) := fun i hi hh => by
          rcases Nat.lt_succ_iff_lt_or_eq.1 hi with h | rfl
          · exact HA.out i h hh
          · exact absurd (hbb.2 hh) (by simp)
        clear hbb hb1 hcall
        go_wp2
        go_roundw
        case rel => exact ⟨k + 1, by omega, by go_num, HH, bw1⟩
        case measure => simp [intOf]; omega
      · have HH : Hid (Worn Y n S) := ⟨k, hlt, hbb.1 rfl⟩
        clear hbb hb1 hcall
        go_wp2
        refine bodyPost_ret (v := .int .i64 k) (by simp [results, Try.results92, go_sem]) rfl ⟨_, rfl, ⟨fun _ => HH.out, fun _ => by omega⟩, bw1⟩
    · obtain rfl : k = n := by omega
      have HH : Hid (¬ Worn Y k S) := fun ⟨i, hi, h⟩ => HA.out i hi h
      clear hlies
      go_wp2
      refine bodyPost_ret (v := .int .i64 (-1)) (by simp [results, Try.results92, go_sem]) rfl ⟨_, rfl, ⟨fun h => by omega, fun h => absurd h HH.out⟩, hbk⟩

set_option maxHeartbeats 1600000 in
theorem wornOut_any (base p r : Nat) (z h mk : Int) (v : Value) (n : Nat) (Y : Nat → Wn) (V : Nat → Value) (S : ByteArray → Prop) (w : World) (H : WSt w base p r z h mk v n Y V S) (hbd : ∀ i, i < n → WiB (Y i)) (hf : FBw n Y) (hg : Hid (∀ i, i < n → gK (Y i) = true)) (hn : n ≤ 1048576) :
    Calls Try.prog 37 #[.pointer (some ⟨p, 0, none⟩)] w fun e w' => Ans (Worn Y n S) w e w' := by
  obtain ⟨va, vc, rfl⟩ := ownsRow_form H.out.own
  have hr := ((ba_of H.out hf).row hbd hf).2
  have hb := below_new w (.cells #[.pointer (some ⟨p, 0, none⟩)] 71)
  have e3 := (hb.cell (p := ⟨p, 3, none⟩) H.box.lt).trans H.box.c3
  have hI := indexWin_any va n vc w.heap.size p r Y S (w.alloc (.cells #[.pointer (some ⟨p, 0, none⟩)] 71)) (hr.keep hb) hn hg (H.set.keep hb) (by simp [go_sem]) (by simp) ((hb.cell (p := ⟨p, 4, none⟩) H.box.lt).trans H.c4) (Nat.lt_of_lt_of_le H.box.lt hb.size)
  have hC : Calls Try.prog 72 #[.slice va n vc, .func (.func 73) #[] #[.pointer (some ⟨w.heap.size, 0, none⟩)]] (w.alloc (.cells #[.pointer (some ⟨p, 0, none⟩)] 71)) fun e w' => Ans (Worn Y n S) w e w' := by
    go_enter Try.func72, Try.ntmps72
    go_wp2_with fail
    refine hI.mono ?_
    rintro e w1 ⟨k, rfl, h1, h2⟩
    have bw := hb.trans (h2.mono (by simp))
    have H1 : Hid (0 ≤ k ↔ Worn Y n S) := h1
    clear h1 h2 hI
    go_wp2
    refine bodyPost_ret (v := .bool (decide (0 ≤ k))) (by simp [results, Try.results72, go_sem]) rfl (Ans.mk _ (by rw [← H1.out]; simp) bw)
  clear hI hr
  go_enter Try.func37, Try.ntmps37
  go_wp2_with fail
  refine hC.mono ?_
  rintro e w1 ⟨b1, rfl, h1, q1⟩
  have H1 : Hid (b1 = true ↔ Worn Y n S) := h1
  clear h1 hC
  go_wp2
  exact bodyPost_ret (v := .bool b1) (by simp [results, Try.results37, go_sem]) rfl (Ans.mk _ H1.out q1)
end Go.Proofs.Ytflmbcgokiiedaa
namespace Go.Proofs.Ytflmbcgokiiedaa
open Go.RowKit
set_option linter.unusedSimpArgs false
set_option linter.unusedVariables false

/-- Its version risen by one. -/
def vInc (x : Wn) : Wn := x.w_ver (x.ver + 1)
/-- The versions of the first k's dirty ones risen. -/
def vUp (Y : Nat → Wn) (b : Nat → Bool) (k : Nat) : Nat → Wn := fun i => if i < k ∧ b i = true then vInc (Y i) else Y i
theorem vUp_zero (Y : Nat → Wn) (b : Nat → Bool) : vUp Y b 0 = Y := by funext i; simp [vUp]
theorem vUp_at (Y : Nat → Wn) (b : Nat → Bool) (k : Nat) : vUp Y b k k = Y k := by simp [vUp]
theorem vUp_yes (Y : Nat → Wn) (b : Nat → Bool) (k : Nat) (h : b k = true) : upWi (vUp Y b k) k (vInc (Y k)) = vUp Y b (k + 1) := by
  funext i
  unfold upWi vUp
  by_cases e : i = k
  · subst e; simp [h]
  · by_cases e2 : i < k
    · simp [e, e2, show i < k + 1 by omega]
    · simp [e, e2, show ¬ i < k + 1 by omega]
theorem vUp_no (Y : Nat → Wn) (b : Nat → Bool) (k : Nat) (h : b k = false) : vUp Y b k = vUp Y b (k + 1) := by
  funext i
  unfold vUp
  by_cases e : i = k
  · subst e; simp [h]
  · by_cases e2 : i < k
    · simp [e2, show i < k + 1 by omega]
    · simp [e2, show ¬ i < k + 1 by omega]
/-- How many of the first k are dirty. -/
def tN (b : Nat → Bool) : Nat → Nat
  | 0 => 0
  | k + 1 => if b k = true then tN b k + 1 else tN b k
theorem tN_le (b : Nat → Bool) : ∀ k, tN b k ≤ k
  | 0 => Nat.le_refl _
  | k + 1 => by have := tN_le b k; unfold tN; split <;> omega
/-- What is told of the first k. -/
def tL (Y : Nat → Wn) (b : Nat → Bool) : Nat → Nat → Wn
  | 0 => Y
  | k + 1 => if b k = true then upTo (tL Y b k) (tN b k) (vInc (Y k)) else tL Y b k
theorem tL_of (Y : Nat → Wn) (b : Nat → Bool) : ∀ k j, j < tN b k → ∃ i, i < k ∧ b i = true ∧ tL Y b k j = vInc (Y i)
  | 0, j, h => absurd h (Nat.not_lt_zero _)
  | k + 1, j, h => by
    unfold tN at h
    unfold tL
    cases hb : b k with
    | false =>
      simp only [hb] at h ⊢
      obtain ⟨i, h1, h2, h3⟩ := tL_of Y b k j h
      exact ⟨i, by omega, h2, h3⟩
    | true =>
      simp only [hb, if_true] at h ⊢
      by_cases e : j = tN b k
      · subst e; exact ⟨k, by omega, hb, upTo_at _ _ _⟩
      · rw [upTo_ne _ _ _ e]
        obtain ⟨i, h1, h2, h3⟩ := tL_of Y b k j (by omega)
        exact ⟨i, by omega, h2, h3⟩
theorem dS_iff {z : Int} {X : Nat → Wn} {n i : Nat} (hG : GWs z X n) (hi : i < n) : dS X n (kS (cln X i)) ↔ (X i).di = true := by
  constructor
  · rintro ⟨j, hj, h2, h3⟩
    by_cases e : i = j
    · subst e; exact h2
    · exact absurd h3 (kS_ne hG hi hj e)
  · intro h
    exact ⟨i, hi, h, rfl⟩
theorem worn_iff {z : Int} {X : Nat → Wn} {n : Nat} (hG : GWs z X n) : Worn (cln X) n (dS X n) ↔ ∃ i, i < n ∧ (X i).ver = 1000000 ∧ (X i).di = true := by
  constructor
  · rintro ⟨i, hi, h1, h2⟩; exact ⟨i, hi, h1, (dS_iff hG hi).1 h2⟩
  · rintro ⟨i, hi, h1, h2⟩; exact ⟨i, hi, h1, (dS_iff hG hi).2 h2⟩

/-- A told window put behind the others, its lists made just now. -/
theorem tdPush {ud u : World} {base m : Nat} {va ha0 ha1 : Option Addr} {vc hc0 hc1 : Nat} {T : Nat → Wn} {V : Nat → Value} {x : Wn} (O0 : OutT ud base (.slice va m vc) m T V) (q : Below ud.heap.size ud u)
    (T0 : TV u ud.heap.size (.slice ha0 x.tn hc0) x) (T1 : HV u ud.heap.size (.slice ha1 x.n hc1) x) (hd : ∀ k, (Value.slice ha1 x.n hc1).ownBlock = some k → (Value.slice ha0 x.tn hc0).ownBlock ≠ some k) (hn : m ≤ 1048576) (hbase : base ≤ ud.heap.size) :
    ∃ vb vd V2 u3, (Builtin.append_ #[29, 29] 29 #[.slice va m vc, .slice (some ⟨u.heap.size, 0, none⟩) 1 1]).run Try.prog (u.alloc (.cells #[.string x.m, .slice ha0 x.tn hc0, .int .i64 x.st, .int .i64 x.ver, .int .i64 x.c, .int .i64 x.s, .int .i64 x.lo, .int .i64 x.hi, .slice ha1 x.n hc1, .bool x.fu] 69)) = .ok (.slice vb (m + 1) vd) u3 ∧ OutT u3 base (.slice vb (m + 1) vd) (m + 1) (upTo T m x) V2 ∧ Below base u u3 := by
  have s1 := q.size
  have O1 := O0.keep q
  have vl : ∀ c, (Value.slice va m vc).ownBlock = some c → base ≤ c ∧ c < ud.heap.size := fun c hc => O0.own.lt c hc
  have Vl : ∀ p c, p < m * 2 → (V p).ownBlock = some c → c < ud.heap.size := fun p c hp hc => (O0.lt hp hc).2
  have l0 : ∀ c, (Value.slice ha0 x.tn hc0).ownBlock = some c → ud.heap.size ≤ c := fun c hc => (T0.lt c hc).1
  have l1 : ∀ c, (Value.slice ha1 x.n hc1).ownBlock = some c → ud.heap.size ≤ c := fun c hc => (T1.lt c hc).1
  obtain ⟨v', u3, hrun, O3, G3⟩ := pushT_run (x := x) O1 (h0 := .slice ha0 x.tn hc0) (h1 := .slice ha1 x.n hc1) (show TV u base (.slice ha0 x.tn hc0) x from ownsRow_mono T0 hbase) (show HV u base (.slice ha1 x.n hc1) x from ownsRow_mono T1 hbase)
    (fun c hc => ⟨fun hh => by have := l0 c hc; have := vl c hh; omega, fun p hp hh => by have := l0 c hc; have := Vl p c hp hh; omega⟩)
    (fun c hc => ⟨fun hh => by have := l1 c hc; have := vl c hh; omega, fun p hp hh => by have := l1 c hc; have := Vl p c hp hh; omega, hd c hc⟩) hn (by omega) 29
  obtain ⟨vb, vd, rfl⟩ := ownsRow_form O3.own
  exact ⟨vb, vd, _, u3, hrun, O3, (below_new u _).mono (by omega) |>.grown G3 (by simp; omega) (fun c hc => (vl c hc).1)⟩
/-- A call of copyTold in a region that draws. -/
theorem step_copyTold {w : World} {ops : Array Oper} {o : Oper} {a : Act} {K : Act → World → Prop} {Q : Exit → Act → World → Prop} {E : Prop} (hgd : o.guard = none) (k : Nat)
    (ho : o.op = .call { callee := .value (.func 40), args := #[.tmp k], argTypes := #[69] }) (x : Wn) (a0 a1 : Option Addr) (c0 c1 : Nat) (hx : a.eval (.tmp k) = .agg #[.string x.m, .slice a0 x.tn c0, .int .i64 x.st, .int .i64 x.ver, .int .i64 x.c, .int .i64 x.s, .int .i64 x.lo, .int .i64 x.hi, .slice a1 x.n c1, .bool x.fu]) (r0 : TRow w a0 x.tn x.nm x.vl) (r1 : IRow w a1 x.n x.f) (ht : x.tn ≤ 1048576) (hn : x.n ≤ 1048576)
    (h : ∀ (ha0 ha1 : Option Addr) (hc0 hc1 : Nat) (w' : World), TV w' w.heap.size (.slice ha0 x.tn hc0) x → HV w' w.heap.size (.slice ha1 x.n hc1) x → (∀ k, (Value.slice ha1 x.n hc1).ownBlock = some k → (Value.slice ha0 x.tn hc0).ownBlock ≠ some k) → Below w.heap.size w w' → K (a.put o.dst (.agg #[.string x.m, .slice ha0 x.tn hc0, .int .i64 x.st, .int .i64 x.ver, .int .i64 x.c, .int .i64 x.s, .int .i64 x.lo, .int .i64 x.hi, .slice ha1 x.n hc1, .bool x.fu])) w') :
    if Region.wanted o (yielded ops a.tmps) = true then Oper.wp Try.prog o a w K Q else E := by
  have hw : Region.wanted o (yielded ops a.tmps) = true := by simp [Region.wanted, hgd]
  rw [if_pos hw]
  have hx' : a.tmps.getD k undef = .agg #[.string x.m, .slice a0 x.tn c0, .int .i64 x.st, .int .i64 x.ver, .int .i64 x.c, .int .i64 x.s, .int .i64 x.lo, .int .i64 x.hi, .slice a1 x.n c1, .bool x.fu] := hx
  unfold Oper.wp execOp
  simp only [ho, resolve, Act.eval, hx']
  go_simp
  refine (copyTold_any x a0 a1 c0 c1 w r0 r1 ht hn).mono ?_
  rintro e w' ⟨ha0, hc0, ha1, hc1, rfl, h1, h2, h3, h4⟩
  exact h ha0 ha1 hc0 hc1 w' h1 h2 h3 h4
/-- A slice of one told window made in a region that draws. -/
theorem step_buildT {w : World} {ops : Array Oper} {o : Oper} {a : Act} {K : Act → World → Prop} {Q : Exit → Act → World → Prop} {E : Prop} (hgd : o.guard = none) (k : Nat)
    (ho : o.op = .buildSlice 29 1 #[(0, .tmp k)]) (x : Wn) (a0 a1 : Option Addr) (c0 c1 : Nat) (hx : a.eval (.tmp k) = .agg #[.string x.m, .slice a0 x.tn c0, .int .i64 x.st, .int .i64 x.ver, .int .i64 x.c, .int .i64 x.s, .int .i64 x.lo, .int .i64 x.hi, .slice a1 x.n c1, .bool x.fu]) (h : K (a.put o.dst (.slice (some ⟨w.heap.size, 0, none⟩) 1 1)) (w.alloc (.cells #[.string x.m, .slice a0 x.tn c0, .int .i64 x.st, .int .i64 x.ver, .int .i64 x.c, .int .i64 x.s, .int .i64 x.lo, .int .i64 x.hi, .slice a1 x.n c1, .bool x.fu] 69))) :
    if Region.wanted o (yielded ops a.tmps) = true then Oper.wp Try.prog o a w K Q else E := by
  have hw : Region.wanted o (yielded ops a.tmps) = true := by simp [Region.wanted, hgd]
  rw [if_pos hw]
  have hx' : a.tmps.getD k undef = .agg #[.string x.m, .slice a0 x.tn c0, .int .i64 x.st, .int .i64 x.ver, .int .i64 x.c, .int .i64 x.s, .int .i64 x.lo, .int .i64 x.hi, .slice a1 x.n c1, .bool x.fu] := hx
  unfold Oper.wp execOp
  simp only [ho, Act.eval, hx', List.map_toArray, List.map_cons, List.map_nil]
  go_simp
  exact h
end Go.Proofs.Ytflmbcgokiiedaa
