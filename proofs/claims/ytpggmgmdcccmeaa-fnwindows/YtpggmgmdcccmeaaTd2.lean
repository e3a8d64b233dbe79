/- TellDirty, in the program. / TellDirty at a bad board and at one that is worn out, in the program; at a bad one, in the model. -/
import Derived.Test.YtpggmgmdcccmeaaTv
import Derived.Test.YtpggmgmdcccmeaaRm
namespace Go.Proofs.Ytpggmgmdcccmeaa
open Go.RowKit
set_option linter.unusedSimpArgs false
set_option linter.unusedVariables false

/-- An answer: a board and told windows whose memory is their own, and a code. -/
def TAns (z h mk : Int) (n : Nat) (X : Nat → Wn) (m : Nat) (T : Nat → Wn) (c : Int) (w : World) (e : Ending) (w' : World) : Prop :=
  ∃ v t s, e = .returned (.tuple #[.agg #[.int .i64 z, .int .i64 h, .int .i64 mk, v], t, .int .i64 c]) ∧ w.heap.size ≤ s ∧ BA w' w.heap.size s v n X ∧ TA w' s w'.heap.size t m T ∧ Below w.heap.size w w'
theorem bool_iff {a b : Bool} (h : a = true ↔ b = true) : a = b := by cases a <;> cases b <;> simp_all
/-- Windows behind TellDirty. -/
def tdX (X : Nat → Wn) (i : Nat) : Wn := if (X i).di = true then (vInc (X i)).w_di false else X i

theorem step_assign {P : Program} {w : World} {ops : Array Oper} {o : Oper} {a : Act} {K : Act → World → Prop} {Q : Exit → Act → World → Prop} {E : Prop} (hgd : o.guard = none) (k : Nat)
    (ho : o.op = .assign (.tmp k)) (va : Option Addr) (n c : Nat) (hx : a.eval (.tmp k) = .slice va n c) (h : K (a.put o.dst (.slice va n c)) w) :
    if Region.wanted o (yielded ops a.tmps) = true then Oper.wp P o a w K Q else E := by
  have hw : Region.wanted o (yielded ops a.tmps) = true := by simp [Region.wanted, hgd]
  rw [if_pos hw]
  have hx' : a.tmps.getD k undef = .slice va n c := hx
  unfold Oper.wp execOp
  simp only [ho, Act.eval, hx']
  go_simp
  exact h
theorem tdX_back {X : Nat → Wn} {b b' : Nat → Bool} {k : Nat} (hb : b = fun i => (X i).di) (hb' : ∀ i, i < k → (b' i = true ↔ False)) : ∀ i, i < k → tldB (vUp (cln X) b k) b' k i = tdX X i := by
  intro i hi
  have e : b' i = false := by cases h : b' i with | false => rfl | true => exact ((hb' i hi).1 h).elim
  subst hb
  simp only [tldB, hi, if_true, e, vUp, true_and, tdX]
  cases hd : (X i).di with
  | true => simp [vInc, cln, Wn.w_di, Wn.w_ver]
  | false =>
    simp only [Bool.false_eq_true, if_false, cln, Wn.w_di]
    cases hx : X i
    rw [hx] at hd
    simp at hd
    simp [hd]
theorem tL_fb {Y : Nat → Wn} {b : Nat → Bool} {k n : Nat} (h : FBw n Y) (hk : k ≤ n) : FBw (tN b k) (tL Y b k) := fun j hj => by
  obtain ⟨i, h1, _, h3⟩ := tL_of Y b k j hj
  rw [h3]
  exact h i (by omega)
theorem Rng.more {lo hi : Nat} {w w' w'' : World} (h : Rng lo hi w w') (hb : Below w.heap.size w' w'') : Rng lo hi w w'' :=
  ⟨hb.os.trans h.os, hb.tape.trans h.tape, hb.output.trans h.output, Nat.le_trans h.size hb.size, fun c hc hh => (hb.block c hc).trans (h.block c hc hh)⟩
theorem vUp_len (Y : Nat → Wn) (b : Nat → Bool) (k i : Nat) : (vUp Y b k i).tn = (Y i).tn ∧ (vUp Y b k i).n = (Y i).n := by
  unfold vUp
  split <;> exact ⟨rfl, rfl⟩

set_option maxRecDepth 100000 in
set_option maxHeartbeats 16000000 in
theorem tellDirty_impl_good (z h mk : Int) (ao : Option Addr) (n cap : Nat) (X : Nat → Wn) (w : World) (hr : WiRow w ao n X) (hn : n ≤ 1048576) (hz : WiSize n X) (hG : Hid (GBd z h mk n X)) (hnw : Hid (¬ Worn (cln X) n (dS X n))) (b : Nat → Bool) (Hb : Hid (b = fun i => (X i).di)) :
    Calls Try.prog 5 #[.agg #[.int .i64 z, .int .i64 h, .int .i64 mk, .slice ao n cap]] w fun e w' => TAns z h mk n (tdX X) (tN b n) (tL (cln X) b n) 0 w e w' := by
  have hB : ∀ o o', Below w.heap.size w ((w.alloc o).alloc o') := fun o o' => (below_new w o).alloc (by simp) _
  have hfX : FBw n (cln X) := hr.fb
  have hbX : ∀ i, i < n → WiB (cln X i) := fun i hi => by cases hr.bd i hi; constructor <;> assumption
  have hgX : Hid (∀ i, i < n → gK (cln X i) = true) := fun i hi => (hG.out.wins.each i hi).key
  go_enter Try.func5, Try.ntmps5
  go_wp2_with fail
  refine (openBoard_good z h mk ao n cap X _ (hr.keep (hB _ _)) hn hz hG).mono ?_
  rintro e w1 ⟨base, p, r, v, V, rfl, hp, hrr, rfl, HW, q1⟩
  have bw : Below w.heap.size w w1 := (hB _ _).trans (q1.mono (by simp; omega))
  have d0 := q1.cell (p := ⟨w.heap.size + 1, 0, none⟩) (by simp)
  have d1 := q1.cell (p := ⟨w.heap.size + 1, 1, none⟩) (by simp)
  have d2 := q1.cell (p := ⟨w.heap.size + 1, 2, none⟩) (by simp)
  have d3 := q1.cell (p := ⟨w.heap.size + 1, 3, none⟩) (by simp)
  have df : ∀ j, w1.frozen? ⟨w.heap.size + 1, j, none⟩ = false := fun j => (q1.frozen (p := ⟨w.heap.size + 1, j, none⟩) (by simp)).trans (by simp [go_sem])
  simp [go_sem] at d0 d1 d2 d3 hp hrr
  have hpl := HW.box.lt
  clear q1 hB
  have wo := wornOut_any (p + 1) p r z h mk v n (cln X) V (dS X n) _ HW hbX hfX hgX hn
  go_wp2_with fail
  refine wo.mono ?_
  clear wo
  rintro e w2 ⟨b2, rfl, hb2, q2⟩
  have e2 : b2 = false := by
    cases b2 with
    | false => rfl
    | true => exact absurd (hb2.1 rfl) hnw.out
  subst e2
  clear hb2
  have s2 := q2.size
  have HB := (HW.b hfX).keep q2
  have d0 := (q2.cell (p := ⟨w.heap.size + 1, 0, none⟩) (by show w.heap.size + 1 < w1.heap.size; omega)).trans d0
  have d1 := (q2.cell (p := ⟨w.heap.size + 1, 1, none⟩) (by show w.heap.size + 1 < w1.heap.size; omega)).trans d1
  have d2 := (q2.cell (p := ⟨w.heap.size + 1, 2, none⟩) (by show w.heap.size + 1 < w1.heap.size; omega)).trans d2
  have d3 := (q2.cell (p := ⟨w.heap.size + 1, 3, none⟩) (by show w.heap.size + 1 < w1.heap.size; omega)).trans d3
  have df : ∀ j, w2.frozen? ⟨w.heap.size + 1, j, none⟩ = false := fun j => (q2.frozen (p := ⟨w.heap.size + 1, j, none⟩) (by show w.heap.size + 1 < w1.heap.size; omega)).trans (df j)
  have bw := bw.trans (q2.mono bw.size)
  obtain ⟨va, vc, rfl⟩ := HB.out.form
  have hpl2 : p < w2.heap.size := by omega
  have e3 := HB.box.c3
  have e4 := HB.c4
  clear q2 HW
  by_cases h0 : n = 0
  · subst h0
    go_wp2
    go_loopw [7, 28] (fun t i wr => t = .slice none 0 0 ∧ i = .int .i64 0 ∧ wr = w2) (fun _ _ _ => 0)
    case atStart => exact ⟨rfl, rfl, rfl⟩
    case round =>
      obtain ⟨rfl, rfl, rfl⟩ := hrel
      have hrp := HB.rb
      obtain ⟨wc, hcl, hSc, hoc⟩ := HB.set.clear_run
      have HC := HB.reset hoc hSc
      have swc : wc.heap.size = wr.heap.size := hoc.size
      have tl := tellB_any (p + 1) w1.heap.size p r z h mk _ 0 _ (fun _ => False) wc HC hgX hn (by omega)
      have cc : ∀ j, wc.cell? ⟨w.heap.size + 1, j, none⟩ = wr.cell? ⟨w.heap.size + 1, j, none⟩ := fun j => World.cell?_of_block (w := wr) (a := ⟨w.heap.size + 1, j, none⟩) (hoc.block (w.heap.size + 1) (by omega))
      have d0 := (cc 0).trans d0
      have d1 := (cc 1).trans d1
      have d2 := (cc 2).trans d2
      have d3 := (cc 3).trans d3
      have dfc : ∀ j, wc.frozen? ⟨w.heap.size + 1, j, none⟩ = false := fun j => (World.frozen?_of_block (w := wr) (a := ⟨w.heap.size + 1, j, none⟩) (hoc.block (w.heap.size + 1) (by omega))).trans (df j)
      have bwc : Below w.heap.size w wc := bw.trans ((Thru.of_others hoc).below (by omega) (by omega))
      clear HC HB hSc cc hoc df bw
      go_wp2_with fail
      refine tl.mono ?_
      clear tl
      rintro e w3 ⟨v', b', rfl, hb', hA, hk3, q3⟩
      obtain ⟨va3, vc3, rfl⟩ := hA.form
      have hA' := hA.congr (X' := tdX X) (fun i hi => absurd hi (Nat.not_lt_zero _))
      have s3 := q3.size
      have x0 := (q3.cell (p := ⟨w.heap.size + 1, 0, none⟩) (by show w.heap.size + 1 < p + 1; omega)).trans d0
      have x1 := (q3.cell (p := ⟨w.heap.size + 1, 1, none⟩) (by show w.heap.size + 1 < p + 1; omega)).trans d1
      have x2 := (q3.cell (p := ⟨w.heap.size + 1, 2, none⟩) (by show w.heap.size + 1 < p + 1; omega)).trans d2
      have x3 := (q3.cell (p := ⟨w.heap.size + 1, 3, none⟩) (by show w.heap.size + 1 < p + 1; omega)).trans d3
      have xf : ∀ j, w3.frozen? ⟨w.heap.size + 1, j, none⟩ = false := fun j => (q3.frozen (p := ⟨w.heap.size + 1, j, none⟩) (by show w.heap.size + 1 < p + 1; omega)).trans (dfc j)
      have bw3 : Below w.heap.size w w3 := bwc.trans (q3.mono (by omega))
      clear q3 hA hb' d0 d1 d2 d3 dfc hk3 bwc
      go_wp2
      refine bodyPost_ret (v := .tuple #[.agg #[.int .i64 z, .int .i64 h, .int .i64 mk, .slice va3 0 vc3], .slice none 0 0, .int .i64 0]) (by simp [results, Try.results5, go_sem, x0, x1, x2, x3]) rfl ⟨.slice va3 0 vc3, .slice none 0 0, w1.heap.size, rfl, by omega, ?_, ⟨Nat.le_refl _, .inl ⟨rfl, none, 0, rfl⟩⟩, ?_⟩
      · refine BA.mono (hA'.same (by simp) (fun c h1 h2 => ?_)) (by omega) (Nat.le_refl _) (by simp; omega)
        repeat rw [set_blk _ _ _ _ _ (by omega)]
      · repeat' refine Below.setCell ?_ (by first | (simp; done) | (simp; omega)) _
        exact bw3
  obtain ⟨g, cp, A0, A1, K0, K1, G, ev, g1, g2, hC, hl0, hl1⟩ := HB.out.2.resolve_left (fun hh => h0 hh.1)
  injection ev with ev1 ev2 ev3
  subst ev1 ev3
  have hgp : g ≠ p := by omega
  have hrp := HB.rb
  have hgr : g ≠ r := by omega
  have hS0 := HB.set
  have hdS := fun i (hi : i < n) => dS_iff hG.out.wins hi
  have Hd : Hid (∀ i, i < n → (dS X n (kS (cln X i)) ↔ (X i).di = true)) := hdS
  clear hdS
  go_wp2
  go_loopw [7, 28] (fun t i wr => ∃ (k : Nat) (va' : Option Addr) (vc' : Nat) (V' : Nat → Value), k ≤ n ∧ i = .int .i64 k ∧ t = .slice va' (tN b k) vc' ∧ WiC wr g n (vUp (cln X) b k) A0 A1 K0 K1 G ∧ OutT wr w2.heap.size (.slice va' (tN b k) vc') (tN b k) (tL (cln X) b k) V' ∧ Rng g (g + 1) w2 wr) (fun _ i _ => n - (intOf i).toNat)
  case atStart => exact ⟨0, none, 0, fun _ => .slice none 0 0, Nat.zero_le _, rfl, rfl, by rw [vUp_zero]; exact hC, outT_nil _ _ _, Rng.refl _ _ _⟩
  case round =>
    obtain ⟨k, va', vc', V', hk, rfl, rfl, hCk, hO, hR⟩ := hrel
    have blk : ∀ c, c < w2.heap.size → c ≠ g → wr.heap[c]? = w2.heap[c]? := fun c hc hne => hR.block c hc (by omega)
    have cl : ∀ c j, c < w2.heap.size → c ≠ g → wr.cell? ⟨c, j, none⟩ = w2.cell? ⟨c, j, none⟩ := fun c j hc hne => World.cell?_of_block (w := w2) (a := ⟨c, j, none⟩) (blk c hc hne)
    have f3 := (cl p 3 hpl2 (Ne.symm hgp)).trans e3
    have f4 := (cl p 4 hpl2 (Ne.symm hgp)).trans e4
    have hSk := hS0.same (blk r hS0.lt (Ne.symm hgr))
    by_cases hlt : k < n
    rotate_left
    · have e : k = n := by omega
      subst e
      have BE : BA wr (p + 1) w1.heap.size (.slice (some ⟨g, 0, none⟩) k vc) k (vUp (cln X) b k) := ⟨Nat.le_trans s2 hR.size, .inr ⟨g, vc, A0, A1, K0, K1, G, rfl, g1, g2, hCk, fun i hi hp => by rw [(vUp_len _ _ _ _).1] at hp; exact hl0 i hi hp, fun i hi hp => by rw [(vUp_len _ _ _ _).2] at hp; exact hl1 i hi hp⟩⟩
      have HE : WSb wr (p + 1) w1.heap.size p r z h mk (.slice (some ⟨g, 0, none⟩) k vc) k (vUp (cln X) b k) (dS X k) := ⟨⟨Nat.lt_of_lt_of_le hpl2 hR.size, (cl p 0 hpl2 (Ne.symm hgp)).trans HB.box.c0, (cl p 1 hpl2 (Ne.symm hgp)).trans HB.box.c1, (cl p 2 hpl2 (Ne.symm hgp)).trans HB.box.c2, f3⟩, f4, fun j => (World.frozen?_of_block (w := w2) (a := ⟨p, j, none⟩) (blk p hpl2 (Ne.symm hgp))).trans (HB.fz j), hSk, BE, HB.pr, HB.pb, HB.rb⟩
      obtain ⟨wc, hcl, hSc, hoc⟩ := HE.set.clear_run
      have HC := HE.reset hoc hSc
      have sR := hR.size
      have swc : wc.heap.size = wr.heap.size := hoc.size
      have gV : Hid (∀ i, i < k → gK (vUp (cln X) b k i) = true) := fun i hi => by
        have := hgX.out i hi
        unfold vUp
        split
        · exact this
        · exact this
      have tl := tellB_any (p + 1) w1.heap.size p r z h mk _ k _ (fun _ => False) wc HC gV hn (by omega)
      have OC := ta_of (hO.others hoc (show r < w2.heap.size by omega)) (tL_fb hfX (Nat.le_refl _))
      have cc : ∀ j, wc.cell? ⟨w.heap.size + 1, j, none⟩ = w2.cell? ⟨w.heap.size + 1, j, none⟩ := fun j => (World.cell?_of_block (w := wr) (a := ⟨w.heap.size + 1, j, none⟩) (hoc.block (w.heap.size + 1) (by omega))).trans (cl (w.heap.size + 1) j (by omega) (by omega))
      have d0 := (cc 0).trans d0
      have d1 := (cc 1).trans d1
      have d2 := (cc 2).trans d2
      have d3 := (cc 3).trans d3
      have dfc : ∀ j, wc.frozen? ⟨w.heap.size + 1, j, none⟩ = false := fun j => (World.frozen?_of_block (w := wr) (a := ⟨w.heap.size + 1, j, none⟩) (hoc.block (w.heap.size + 1) (by omega))).trans ((World.frozen?_of_block (w := w2) (a := ⟨w.heap.size + 1, j, none⟩) (blk (w.heap.size + 1) (by omega) (by omega))).trans (df j))
      have bwc : Below w.heap.size w wc := by
        have h1 : Below w.heap.size w wr := bw.trans (hR.below (by omega) (by omega))
        exact h1.trans ((Thru.of_others hoc).below (by omega) (by omega))
      clear HC HE BE blk cl hSk hCk hO hC hS0 HB hSc cc hR hoc df bw
      go_wp2_with fail
      refine tl.mono ?_
      clear tl
      rintro e w3 ⟨v', b', rfl, hb', hA, hk3, q3⟩
      obtain ⟨va3, vc3, rfl⟩ := hA.form
      have hA' := hA.congr (tdX_back Hb.out hb')
      have s3 := q3.size
      have TC := OC.same s3 (fun c h1 h2 => hk3 c h2 (.inr (by omega)))
      have x0 := (q3.cell (p := ⟨w.heap.size + 1, 0, none⟩) (by show w.heap.size + 1 < p + 1; omega)).trans d0
      have x1 := (q3.cell (p := ⟨w.heap.size + 1, 1, none⟩) (by show w.heap.size + 1 < p + 1; omega)).trans d1
      have x2 := (q3.cell (p := ⟨w.heap.size + 1, 2, none⟩) (by show w.heap.size + 1 < p + 1; omega)).trans d2
      have x3 := (q3.cell (p := ⟨w.heap.size + 1, 3, none⟩) (by show w.heap.size + 1 < p + 1; omega)).trans d3
      have xf : ∀ j, w3.frozen? ⟨w.heap.size + 1, j, none⟩ = false := fun j => (q3.frozen (p := ⟨w.heap.size + 1, j, none⟩) (by show w.heap.size + 1 < p + 1; omega)).trans (dfc j)
      have bw3 : Below w.heap.size w w3 := bwc.trans (q3.mono (by omega))
      clear q3 hA hb' d0 d1 d2 d3 dfc hk3 OC bwc
      go_wp2
      refine bodyPost_ret (v := .tuple #[.agg #[.int .i64 z, .int .i64 h, .int .i64 mk, .slice va3 k vc3], .slice va' (tN b k) vc', .int .i64 0]) (by simp [results, Try.results5, go_sem, x0, x1, x2, x3]) rfl ⟨.slice va3 k vc3, .slice va' (tN b k) vc', w1.heap.size, rfl, by omega, ?_, ?_, ?_⟩
      · refine BA.mono (hA'.same (by simp) (fun c h1 h2 => ?_)) (by omega) (Nat.le_refl _) (by simp; omega)
        repeat rw [set_blk _ _ _ _ _ (by omega)]
      · refine TA.mono (TC.same (by simp) (fun c h1 h2 => ?_)) (by omega) (by simp; omega) (Nat.le_refl _)
        repeat rw [set_blk _ _ _ _ _ (by omega)]
      · repeat' refine Below.setCell ?_ (by first | (simp; done) | (simp; omega)) _
        exact bw3
    obtain ⟨x, hx⟩ : ∃ x, x = cln X k := ⟨_, rfl⟩
    have ent := hCk.ent k hlt
    have ll0 := hCk.l0 k hlt
    have ll1 := hCk.l1 k hlt
    rw [vUp_at, ← hx] at ent ll0 ll1
    have r0 : TRow wr (A0 k) x.tn x.nm x.vl := by
      by_cases ht : x.tn = 0
      · exact ⟨.inl ht⟩
      · obtain ⟨t1, _, t3⟩ := ll0 (by omega)
        rw [t1]; exact t3.row
    have r1 : IRow wr (A1 k) x.n x.f := by
      by_cases ht : x.n = 0
      · exact ⟨by rw [hx]; exact hfX k hlt, .inl ht⟩
      · obtain ⟨t1, _, t3⟩ := ll1 (by omega)
        rw [t1]; exact t3.row
    have r0d := r0.keep (Below.refl _ wr).drew
    have R0 := r0
    have Sd := hSk.keep (Below.refl _ wr).drew
    have gk : Hid (gK x = true) := by rw [hx]; exact hgX.out k hlt
    have hbk : dS X n (kS x) ↔ b k = true := by rw [hx, Hb.out]; exact Hd.out k hlt
    have Hbk : Hid (dS X n (kS x) ↔ b k = true) := hbk
    have hCu : WiC wr g n (upWi (vUp (cln X) b k) k x) A0 A1 K0 K1 G := by
      have := upWi_same (vUp (cln X) b k) k
      rw [vUp_at, ← hx] at this
      rw [this]; exact hCk
    have hvr : 0 ≤ x.ver ∧ x.ver ≤ 1000000 := by
      have h1 : btw 0 x.ver 1000000 = true := by rw [hx]; exact (hG.out.wins.each k hlt).ver
      simpa [btw] using h1
    obtain ⟨lg, y0, y1, y2, y3, y4, y5, y6, y7, y8, y9, y10⟩ := id ent
    have hq0 : (0 : Int) ≤ (k : Int) := by omega
    have hq1 : (k : Int) < (n : Int) := by omega
    have lpr : p < wr.heap.size := Nat.lt_of_lt_of_le hpl2 hR.size
    have HX : Hid (x = cln X k) := hx
    have Hvr : Hid (0 ≤ x.ver ∧ x.ver ≤ 1000000) := hvr
    clear hbk blk cl ll0 ll1 hC hS0 hx hvr HB r0
    go_wp2
    go_region_held3 (fun w' => w'.cell? ⟨p, 4, none⟩ = some (.map (some r)) ∧ w'.cell? ⟨g, k * 11, none⟩ = some (.string x.m) ∧ w'.cell? ⟨g, k * 11 + 1, none⟩ = some (.slice (A0 k) x.tn (K0 k)) ∧ w'.cell? ⟨g, k * 11 + 2, none⟩ = some (.int .i64 x.st)) (first | exact hSS | go_keep) (first | (go_at_call 18; refine (has_any x r (dS X n) (A0 k) (K0 k) _ r0d gk Sd).mono ?_; rintro e u ⟨bb, rfl, hbb, q⟩; have ebb : bb = b k := bool_iff (hbb.trans Hbk.out); subst ebb; have q' := (Below.refl _ wr).drew.trans q; have hCv := hCu.keep q'; have ev := ent.keep q'; have x4 := (q'.cell (p := ⟨p, 4, none⟩) lpr).trans f4; have x3 := (q'.cell (p := ⟨p, 3, none⟩) lpr).trans f3; have hSS : (u.cell? ⟨p, 4, none⟩ = some (.map (some r)) ∧ u.cell? ⟨g, k * 11, none⟩ = some (.string x.m) ∧ u.cell? ⟨g, k * 11 + 1, none⟩ = some (.slice (A0 k) x.tn (K0 k)) ∧ u.cell? ⟨g, k * 11 + 2, none⟩ = some (.int .i64 x.st)) := ⟨x4, ev.c0, ev.c1, ev.c2⟩; have Ru := hR.trans (Rng.of_below q'); have Ou := hO.keep q'; have r1u := r1.keep q'; have r0u := R0.keep q'; clear q q'))
    cases hbk : b k
    · have E1 : Hid (vUp (cln X) b k = vUp (cln X) b (k + 1)) := vUp_no _ _ _ hbk
      have E2 : Hid (tN b (k + 1) = tN b k) := show tN b (k + 1) = tN b k by simp [tN, hbk]
      have E3 : Hid (tL (cln X) b (k + 1) = tL (cln X) b k) := show tL (cln X) b (k + 1) = tL (cln X) b k by simp [tL, hbk]
      have hCw : WiC u g n (vUp (cln X) b (k + 1)) A0 A1 K0 K1 G := by
        have := upWi_same (vUp (cln X) b k) k
        rw [vUp_at, ← HX.out] at this
        rw [← E1.out, ← this]; exact hCv
      rw [hbk] at *
      go_wp2
      go_roundw
      case rel => exact ⟨k + 1, va', vc', V', by omega, by go_num, by rw [E2.out], hCw, by rw [E2.out, E3.out]; exact Ou, Ru⟩
      case measure => simp [intOf]; omega
    · have E1 : Hid (upWi (vUp (cln X) b k) k (vInc x) = vUp (cln X) b (k + 1)) := by
        have := vUp_yes (cln X) b k hbk
        rw [← HX.out] at this
        exact this
      have E2 : Hid (tN b (k + 1) = tN b k + 1) := show tN b (k + 1) = tN b k + 1 by simp [tN, hbk]
      have E3 : Hid (tL (cln X) b (k + 1) = upTo (tL (cln X) b k) (tN b k) (vInc x)) := show tL (cln X) b (k + 1) = _ by simp [tL, hbk, HX.out]
      have hCw : WiC (u.setCell ⟨g, k * 11 + 9, none⟩ (.int .i64 (x.ver + 1))) g n (upWi (vUp (cln X) b k) k (vInc x)) A0 A1 K0 K1 G := hCv.set9 hlt (x.ver + 1)
      have hvr := Hvr.out
      have hwv : IntKind.i64.wrap (x.ver + 1) = x.ver + 1 := by rw [IntKind.wrap_i64] <;> omega
      have fv := hCv.free (k * 11 + 9) (by omega)
      have zk : WiS x := by rw [HX.out]; cases hz k hlt; constructor <;> assumption
      obtain ⟨lgu, v0, v1, v2, v3, v4, v5, v6, v7, v8, v9, v10⟩ := id ev
      obtain ⟨x1, hx1⟩ : ∃ x1, x1 = vInc x := ⟨_, rfl⟩
      have entU : WiAt (u.setCell ⟨g, k * 11 + 9, none⟩ (.int .i64 (x.ver + 1))) g (k * 11) x1 (A0 k) (A1 k) (K0 k) (K1 k) := by
        have := hCw.ent k hlt
        rw [upWi_at, ← hx1] at this; exact this
      have hle : g < w2.heap.size := by omega
      have OU := Ou.others (Others.setCell u g (k * 11 + 9) (.int .i64 (x.ver + 1))) hle
      have RU := Ru.trans (Rng.of_set (b := g) ⟨Nat.le_refl _, Nat.lt_succ_self _⟩ (k * 11 + 9) (.int .i64 (x.ver + 1)))
      have l0 := hCw.l0 k hlt
      have l1 := hCw.l1 k hlt
      rw [upWi_at, ← hx1] at l0 l1
      have r0U : TRow (u.setCell ⟨g, k * 11 + 9, none⟩ (.int .i64 (x.ver + 1))) (A0 k) x1.tn x1.nm x1.vl := by
        by_cases ht : x1.tn = 0
        · exact ⟨.inl ht⟩
        · obtain ⟨t1, _, t3⟩ := l0 (by omega)
          rw [t1]; exact t3.row
      have r1U : IRow (u.setCell ⟨g, k * 11 + 9, none⟩ (.int .i64 (x.ver + 1))) (A1 k) x1.n x1.f := by
        by_cases ht : x1.n = 0
        · exact ⟨by rw [hx1]; exact r1u.bd, .inl ht⟩
        · obtain ⟨t1, _, t3⟩ := l1 (by omega)
          rw [t1]; exact t3.row
      have z1 : x1.tn ≤ 1048576 := by rw [hx1]; exact zk.tn
      have z2 : x1.n ≤ 1048576 := by rw [hx1]; exact zk.n
      rw [← hx1] at E1 E3 hCw
      have HX1 : Hid (x1 = vInc x) := hx1
      have sU : w2.heap.size ≤ (u.setCell ⟨g, k * 11 + 9, none⟩ (.int .i64 (x.ver + 1))).heap.size := RU.size
      have hm := tN_le b k
      clear hx1 l0 l1 hvr zk hCu hCv ent r0d Sd ev hCk hO hSk
      go_wp2
      generalize u.setCell ⟨g, k * 11 + 9, none⟩ (.int .i64 (x.ver + 1)) = U at *
      have Ad := entU.keep (Below.refl _ U).drew
      have r0e := r0U.keep (Below.refl _ U).drew
      have r1e := r1U.keep (Below.refl _ U).drew
      have Od := OU.keep (Below.refl _ U).drew
      obtain ⟨_, y0, y1, y2, y3, y4, y5, y6, y7, y8, y9, y10⟩ := id Ad
      refine wp_region_w (fun w' => w'.cell? ⟨g, k * 11, none⟩ = some (.string x1.m) ∧ w'.cell? ⟨g, k * 11 + 1, none⟩ = some (.slice (A0 k) x1.tn (K0 k)) ∧ w'.cell? ⟨g, k * 11 + 2, none⟩ = some (.int .i64 x1.st) ∧ w'.cell? ⟨g, k * 11 + 3, none⟩ = some (.int .i64 x1.c) ∧ w'.cell? ⟨g, k * 11 + 4, none⟩ = some (.int .i64 x1.s) ∧ w'.cell? ⟨g, k * 11 + 5, none⟩ = some (.int .i64 x1.lo) ∧ w'.cell? ⟨g, k * 11 + 6, none⟩ = some (.int .i64 x1.hi) ∧ w'.cell? ⟨g, k * 11 + 7, none⟩ = some (.slice (A1 k) x1.n (K1 k)) ∧ w'.cell? ⟨g, k * 11 + 8, none⟩ = some (.bool x1.fu) ∧ w'.cell? ⟨g, k * 11 + 9, none⟩ = some (.int .i64 x1.ver)) (fun _ => true) (by kernel_rfl) ?_
      change wpW _ _ _ _ _ _ 18 _ _ U.drew
      have hS0 := (⟨y0, y1, y2, y3, y4, y5, y6, y7, y8, y9⟩ : (fun w' : World => w'.cell? ⟨g, k * 11, none⟩ = some (.string x1.m) ∧ w'.cell? ⟨g, k * 11 + 1, none⟩ = some (.slice (A0 k) x1.tn (K0 k)) ∧ w'.cell? ⟨g, k * 11 + 2, none⟩ = some (.int .i64 x1.st) ∧ w'.cell? ⟨g, k * 11 + 3, none⟩ = some (.int .i64 x1.c) ∧ w'.cell? ⟨g, k * 11 + 4, none⟩ = some (.int .i64 x1.s) ∧ w'.cell? ⟨g, k * 11 + 5, none⟩ = some (.int .i64 x1.lo) ∧ w'.cell? ⟨g, k * 11 + 6, none⟩ = some (.int .i64 x1.hi) ∧ w'.cell? ⟨g, k * 11 + 7, none⟩ = some (.slice (A1 k) x1.n (K1 k)) ∧ w'.cell? ⟨g, k * 11 + 8, none⟩ = some (.bool x1.fu) ∧ w'.cell? ⟨g, k * 11 + 9, none⟩ = some (.int .i64 x1.ver)) U.drew)
      refine wpW_take 0 _ (.slice va' (tN b k) vc') rfl (by kernel_rfl) (by kernel_rfl) (by kernel_rfl) (fun _ _ _ h => h) (by kernel_rfl) (.inl ⟨rfl, fun w' hS' => by obtain ⟨s0, s1, s2, s3, s4, s5, s6, s7, s8, s9⟩ := hS'; go_simp⟩) hS0 ?_
      refine wpW_take 1 _ (.pointer (some ⟨g, k * 11, none⟩)) rfl (by kernel_rfl) (by kernel_rfl) (by kernel_rfl) (fun _ _ _ h => h) (by kernel_rfl) (.inl ⟨rfl, fun w' hS' => by obtain ⟨s0, s1, s2, s3, s4, s5, s6, s7, s8, s9⟩ := hS'; go_simp⟩) hS0 ?_
      refine wpW_take 2 _ (.pointer (some ⟨g, k * 11, none⟩)) rfl (by kernel_rfl) (by kernel_rfl) (by kernel_rfl) (fun _ _ _ h => h) (by kernel_rfl) (.inl ⟨rfl, fun w' hS' => by obtain ⟨s0, s1, s2, s3, s4, s5, s6, s7, s8, s9⟩ := hS'; go_simp⟩) hS0 ?_
      refine wpW_take 3 _ (.pointer (some ⟨g, k * 11, none⟩)) rfl (by kernel_rfl) (by kernel_rfl) (by kernel_rfl) (fun _ _ _ h => h) (by kernel_rfl) (.inl ⟨rfl, fun w' hS' => by obtain ⟨s0, s1, s2, s3, s4, s5, s6, s7, s8, s9⟩ := hS'; go_simp⟩) hS0 ?_
      refine wpW_take 4 _ (.agg #[.string x1.m, .slice (A0 k) x1.tn (K0 k), .int .i64 x1.st]) rfl (by kernel_rfl) (by kernel_rfl) (by kernel_rfl) (fun _ _ _ h => h) (by kernel_rfl) (.inl ⟨rfl, fun w' hS' => by obtain ⟨s0, s1, s2, s3, s4, s5, s6, s7, s8, s9⟩ := hS'; go_simp⟩) hS0 ?_
      refine wpW_take 5 _ (.pointer (some ⟨g, k * 11, none⟩)) rfl (by kernel_rfl) (by kernel_rfl) (by kernel_rfl) (fun _ _ _ h => h) (by kernel_rfl) (.inl ⟨rfl, fun w' hS' => by obtain ⟨s0, s1, s2, s3, s4, s5, s6, s7, s8, s9⟩ := hS'; go_simp⟩) hS0 ?_
      refine wpW_take 6 _ (.pointer (some ⟨g, k * 11, none⟩)) rfl (by kernel_rfl) (by kernel_rfl) (by kernel_rfl) (fun _ _ _ h => h) (by kernel_rfl) (.inl ⟨rfl, fun w' hS' => by obtain ⟨s0, s1, s2, s3, s4, s5, s6, s7, s8, s9⟩ := hS'; go_simp⟩) hS0 ?_
      refine wpW_take 7 _ (.pointer (some ⟨g, k * 11 + 9, none⟩)) rfl (by kernel_rfl) (by kernel_rfl) (by kernel_rfl) (fun _ _ _ h => h) (by kernel_rfl) (.inl ⟨rfl, fun w' hS' => by obtain ⟨s0, s1, s2, s3, s4, s5, s6, s7, s8, s9⟩ := hS'; go_simp⟩) hS0 ?_
      refine wpW_take 8 _ (.int .i64 x1.ver) rfl (by kernel_rfl) (by kernel_rfl) (by kernel_rfl) (fun _ _ _ h => h) (by kernel_rfl) (.inl ⟨rfl, fun w' hS' => by obtain ⟨s0, s1, s2, s3, s4, s5, s6, s7, s8, s9⟩ := hS'; go_simp⟩) hS0 ?_
      refine wpW_take 9 _ (.pointer (some ⟨g, k * 11, none⟩)) rfl (by kernel_rfl) (by kernel_rfl) (by kernel_rfl) (fun _ _ _ h => h) (by kernel_rfl) (.inl ⟨rfl, fun w' hS' => by obtain ⟨s0, s1, s2, s3, s4, s5, s6, s7, s8, s9⟩ := hS'; go_simp⟩) hS0 ?_
      refine wpW_take 10 _ (.pointer (some ⟨g, k * 11, none⟩)) rfl (by kernel_rfl) (by kernel_rfl) (by kernel_rfl) (fun _ _ _ h => h) (by kernel_rfl) (.inl ⟨rfl, fun w' hS' => by obtain ⟨s0, s1, s2, s3, s4, s5, s6, s7, s8, s9⟩ := hS'; go_simp⟩) hS0 ?_
      refine wpW_take 11 _ (.pointer (some ⟨g, k * 11 + 3, none⟩)) rfl (by kernel_rfl) (by kernel_rfl) (by kernel_rfl) (fun _ _ _ h => h) (by kernel_rfl) (.inl ⟨rfl, fun w' hS' => by obtain ⟨s0, s1, s2, s3, s4, s5, s6, s7, s8, s9⟩ := hS'; go_simp⟩) hS0 ?_
      refine wpW_take 12 _ (.agg #[.int .i64 x1.c, .int .i64 x1.s, .int .i64 x1.lo, .int .i64 x1.hi, .slice (A1 k) x1.n (K1 k), .bool x1.fu]) rfl (by kernel_rfl) (by kernel_rfl) (by kernel_rfl) (fun _ _ _ h => h) (by kernel_rfl) (.inl ⟨rfl, fun w' hS' => by obtain ⟨s0, s1, s2, s3, s4, s5, s6, s7, s8, s9⟩ := hS'; go_simp⟩) hS0 ?_
      refine wpW_take 13 _ (.agg #[.string x1.m, .slice (A0 k) x1.tn (K0 k), .int .i64 x1.st, .int .i64 x1.ver, .int .i64 x1.c, .int .i64 x1.s, .int .i64 x1.lo, .int .i64 x1.hi, .slice (A1 k) x1.n (K1 k), .bool x1.fu]) rfl (by kernel_rfl) (by kernel_rfl) (by kernel_rfl) (fun _ _ _ h => h) (by kernel_rfl) (.inl ⟨rfl, fun w' hS' => by obtain ⟨s0, s1, s2, s3, s4, s5, s6, s7, s8, s9⟩ := hS'; go_simp⟩) hS0 ?_
      simp only [Act.put, List.getElem_toArray, List.getElem_cons_succ, List.getElem_cons_zero, List.setIfInBounds_toArray, List.set_cons_zero, List.set_cons_succ]
      refine wpW_one 14 _ rfl (by kernel_rfl) (step_copyTold rfl 68 rfl x1 (A0 k) (A1 k) (K0 k) (K1 k) (by simp [Act.eval, Act.put]) r0e r1e z1 z2 ?_)
      intro ha0 ha1 hc0 hc1 u1 T0 T1 hd q1
      obtain ⟨vb, vd, V2, u3, hrun, O3, hbn⟩ := tdPush Od q1 T0 T1 hd (by omega) (by show w2.heap.size ≤ U.heap.size; exact sU)
      have A1s := Ad.keep q1
      obtain ⟨_, y0, y1, y2, y3, y4, y5, y6, y7, y8, y9, y10⟩ := id A1s
      refine ⟨fun _ => ⟨y0, y1, y2, y3, y4, y5, y6, y7, y8, y9⟩, ?_⟩
      simp only [Act.put, List.getElem_toArray, List.getElem_cons_succ, List.getElem_cons_zero, List.setIfInBounds_toArray, List.set_cons_zero, List.set_cons_succ]
      have A2s := A1s.keep (below_new u1 (.cells #[.string x1.m, .slice ha0 x1.tn hc0, .int .i64 x1.st, .int .i64 x1.ver, .int .i64 x1.c, .int .i64 x1.s, .int .i64 x1.lo, .int .i64 x1.hi, .slice ha1 x1.n hc1, .bool x1.fu] 37))
      obtain ⟨_, z0, z1, z2, z3, z4, z5, z6, z7, z8, z9, z10⟩ := id A2s
      refine wpW_one 15 _ rfl (by kernel_rfl) (step_buildT rfl 69 rfl x1 ha0 ha1 hc0 hc1 (by simp [Act.eval, Act.put]) ?_)
      refine ⟨fun _ => ⟨z0, z1, z2, z3, z4, z5, z6, z7, z8, z9⟩, ?_⟩
      simp only [Act.put, List.getElem_toArray, List.getElem_cons_succ, List.getElem_cons_zero, List.setIfInBounds_toArray, List.set_cons_zero, List.set_cons_succ]
      have k3 : ∀ j, u3.cell? ⟨g, j, none⟩ = u1.cell? ⟨g, j, none⟩ := fun j => hbn.cell (p := ⟨g, j, none⟩) hle
      have hS3 := (⟨(k3 _).trans y0, (k3 _).trans y1, (k3 _).trans y2, (k3 _).trans y3, (k3 _).trans y4, (k3 _).trans y5, (k3 _).trans y6, (k3 _).trans y7, (k3 _).trans y8, (k3 _).trans y9⟩ : (fun w' : World => w'.cell? ⟨g, k * 11, none⟩ = some (.string x1.m) ∧ w'.cell? ⟨g, k * 11 + 1, none⟩ = some (.slice (A0 k) x1.tn (K0 k)) ∧ w'.cell? ⟨g, k * 11 + 2, none⟩ = some (.int .i64 x1.st) ∧ w'.cell? ⟨g, k * 11 + 3, none⟩ = some (.int .i64 x1.c) ∧ w'.cell? ⟨g, k * 11 + 4, none⟩ = some (.int .i64 x1.s) ∧ w'.cell? ⟨g, k * 11 + 5, none⟩ = some (.int .i64 x1.lo) ∧ w'.cell? ⟨g, k * 11 + 6, none⟩ = some (.int .i64 x1.hi) ∧ w'.cell? ⟨g, k * 11 + 7, none⟩ = some (.slice (A1 k) x1.n (K1 k)) ∧ w'.cell? ⟨g, k * 11 + 8, none⟩ = some (.bool x1.fu) ∧ w'.cell? ⟨g, k * 11 + 9, none⟩ = some (.int .i64 x1.ver)) u3)
      refine wpW_one 16 _ rfl (by kernel_rfl) (step_append_ty rfl (.tmp 55) (.tmp 70) 27 27 rfl rfl (.slice va' (tN b k) vc') (.slice (some ⟨u1.heap.size, 0, none⟩) 1 1) (.slice vb (tN b k + 1) vd) (by simp [Act.eval, Act.put]) (by simp [Act.eval, Act.put]) u3 hrun ?_)
      refine ⟨fun _ => hS3, ?_⟩
      simp only [Act.put, List.getElem_toArray, List.getElem_cons_succ, List.getElem_cons_zero, List.setIfInBounds_toArray, List.set_cons_zero, List.set_cons_succ]
      refine wpW_one 17 _ rfl (by kernel_rfl) (step_assign rfl 71 rfl vb (tN b k + 1) vd (by simp [Act.eval, Act.put]) ?_)
      refine ⟨fun _ => hS3, ?_⟩
      refine wpW_done (by kernel_rfl) ?_
      simp only [Act.put, List.getElem_toArray, List.getElem_cons_succ, List.getElem_cons_zero, List.setIfInBounds_toArray, List.set_cons_zero, List.set_cons_succ]
      have bU : Below w2.heap.size U u3 := (((Below.refl _ U).drew.mono sU).trans (q1.mono (by show w2.heap.size ≤ U.heap.size; exact sU))).trans hbn
      have RF := RU.more bU
      have hCF : WiC u3 g n (vUp (cln X) b (k + 1)) A0 A1 K0 K1 G := by
        rw [← E1.out]
        refine hCw.same bU.size (bU.block g hle) (fun i hi hp => ?_) (fun i hi hp => ?_)
        · rw [E1.out, (vUp_len _ _ _ _).1] at hp
          have := hl0 i hi hp
          exact bU.block _ (by omega)
        · rw [E1.out, (vUp_len _ _ _ _).2] at hp
          have := hl1 i hi hp
          exact bU.block _ (by omega)
      rw [← E2.out, ← E3.out] at O3
      rw [← E2.out]
      go_wp2
      go_roundw
      case rel => exact ⟨k + 1, vb, vd, V2, by omega, by go_num, rfl, hCF, O3, RF⟩
      case measure => simp [intOf]; omega
end Go.Proofs.Ytpggmgmdcccmeaa
namespace Go.Proofs.Ytpggmgmdcccmeaa
open Go.RowKit
set_option linter.unusedSimpArgs false
set_option linter.unusedVariables false

theorem tans_nil {w : World} {T : Nat → Wn} : TA w w.heap.size w.heap.size (.slice none 0 0) 0 T := ⟨Nat.le_refl _, .inl ⟨rfl, none, 0, rfl⟩⟩

set_option maxRecDepth 100000 in
set_option maxHeartbeats 3200000 in
theorem tellDirty_impl_bad (z h mk : Int) (ao : Option Addr) (n cap : Nat) (X T : Nat → Wn) (w : World) (hr : WiRow w ao n X) (hn : n ≤ 1048576) (hz : WiSize n X) (hG : Hid (¬ GBd z h mk n X)) :
    Calls Try.prog 5 #[.agg #[.int .i64 z, .int .i64 h, .int .i64 mk, .slice ao n cap]] w fun e w' => TAns 0 0 0 0 X 0 T 1 w e w' := by
  have hB : ∀ o o', Below w.heap.size w ((w.alloc o).alloc o') := fun o o' => (below_new w o).alloc (by simp) _
  go_enter Try.func5, Try.ntmps5
  go_wp2_with fail
  refine (openBoard_bad z h mk ao n cap X _ (hr.keep (hB _ _)) hn hz hG).mono ?_
  rintro e w1 ⟨rfl, q1⟩
  have bw : Below w.heap.size w w1 := (hB _ _).trans (q1.mono (by simp; omega))
  have d0 := q1.cell (p := ⟨w.heap.size + 1, 0, none⟩) (by simp)
  have d1 := q1.cell (p := ⟨w.heap.size + 1, 1, none⟩) (by simp)
  have d2 := q1.cell (p := ⟨w.heap.size + 1, 2, none⟩) (by simp)
  have d3 := q1.cell (p := ⟨w.heap.size + 1, 3, none⟩) (by simp)
  have df : ∀ j, w1.frozen? ⟨w.heap.size + 1, j, none⟩ = false := fun j => (q1.frozen (p := ⟨w.heap.size + 1, j, none⟩) (by simp)).trans (by simp [go_sem])
  simp [go_sem] at d0 d1 d2 d3
  clear q1 hB
  go_wp2
  refine bodyPost_ret (v := .tuple #[.agg #[.int .i64 0, .int .i64 0, .int .i64 0, .slice none 0 0], .slice none 0 0, .int .i64 1]) (by simp [results, Try.results5, go_sem, d0, d1, d2, d3]) rfl ⟨.slice none 0 0, .slice none 0 0, _, rfl, by simp; exact bw.size, ⟨Nat.le_refl _, .inl ⟨rfl, _, _, rfl⟩⟩, tans_nil, ?_⟩
  repeat' refine Below.setCell ?_ (by first | (simp; done) | (simp; omega)) _
  exact bw

set_option maxRecDepth 100000 in
set_option maxHeartbeats 8000000 in
theorem tellDirty_impl_worn (z h mk : Int) (ao : Option Addr) (n cap : Nat) (X T : Nat → Wn) (w : World) (hr : WiRow w ao n X) (hn : n ≤ 1048576) (hz : WiSize n X) (hG : Hid (GBd z h mk n X)) (hnw : Hid (Worn (cln X) n (dS X n))) :
    Calls Try.prog 5 #[.agg #[.int .i64 z, .int .i64 h, .int .i64 mk, .slice ao n cap]] w fun e w' => TAns z h mk n X 0 T 1 w e w' := by
  have hB : ∀ o o', Below w.heap.size w ((w.alloc o).alloc o') := fun o o' => (below_new w o).alloc (by simp) _
  have hfX : FBw n (cln X) := hr.fb
  have hbX : ∀ i, i < n → WiB (cln X i) := fun i hi => by cases hr.bd i hi; constructor <;> assumption
  have hgX : Hid (∀ i, i < n → gK (cln X i) = true) := fun i hi => (hG.out.wins.each i hi).key
  go_enter Try.func5, Try.ntmps5
  go_wp2_with fail
  refine (openBoard_good z h mk ao n cap X _ (hr.keep (hB _ _)) hn hz hG).mono ?_
  rintro e w1 ⟨base, p, r, v, V, rfl, hp, hrr, rfl, HW, q1⟩
  have bw : Below w.heap.size w w1 := (hB _ _).trans (q1.mono (by simp; omega))
  have d0 := q1.cell (p := ⟨w.heap.size + 1, 0, none⟩) (by simp)
  have d1 := q1.cell (p := ⟨w.heap.size + 1, 1, none⟩) (by simp)
  have d2 := q1.cell (p := ⟨w.heap.size + 1, 2, none⟩) (by simp)
  have d3 := q1.cell (p := ⟨w.heap.size + 1, 3, none⟩) (by simp)
  have df : ∀ j, w1.frozen? ⟨w.heap.size + 1, j, none⟩ = false := fun j => (q1.frozen (p := ⟨w.heap.size + 1, j, none⟩) (by simp)).trans (by simp [go_sem])
  simp [go_sem] at d0 d1 d2 d3 hp hrr
  have hpl := HW.box.lt
  clear q1 hB
  have wo := wornOut_any (p + 1) p r z h mk v n (cln X) V (dS X n) _ HW hbX hfX hgX hn
  go_wp2_with fail
  refine wo.mono ?_
  clear wo
  rintro e w2 ⟨b2, rfl, hb2, q2⟩
  have e2 : b2 = true := hb2.2 hnw.out
  subst e2
  clear hb2
  have s2 := q2.size
  have HW := HW.keep q2
  have d0 := (q2.cell (p := ⟨w.heap.size + 1, 0, none⟩) (by show w.heap.size + 1 < w1.heap.size; omega)).trans d0
  have d1 := (q2.cell (p := ⟨w.heap.size + 1, 1, none⟩) (by show w.heap.size + 1 < w1.heap.size; omega)).trans d1
  have d2 := (q2.cell (p := ⟨w.heap.size + 1, 2, none⟩) (by show w.heap.size + 1 < w1.heap.size; omega)).trans d2
  have d3 := (q2.cell (p := ⟨w.heap.size + 1, 3, none⟩) (by show w.heap.size + 1 < w1.heap.size; omega)).trans d3
  have df : ∀ j, w2.frozen? ⟨w.heap.size + 1, j, none⟩ = false := fun j => (q2.frozen (p := ⟨w.heap.size + 1, j, none⟩) (by show w.heap.size + 1 < w1.heap.size; omega)).trans (df j)
  have bw := bw.trans (q2.mono bw.size)
  clear q2
  have tl := tell_any (p + 1) p r z h mk v n (cln X) V (dS X n) _ HW hfX hgX hn (by omega)
  go_wp2_with fail
  refine tl.mono ?_
  clear tl
  rintro e w4 ⟨v', bt, rfl, hbt, hA, q4⟩
  have hA' := hA.congr (told_back hG.out.wins hbt)
  obtain ⟨va, vc, rfl⟩ := hA'.form
  have lt4 : w.heap.size + 1 < p + 1 := by omega
  have d0 := (q4.cell (p := ⟨w.heap.size + 1, 0, none⟩) (lt4)).trans d0
  have d1 := (q4.cell (p := ⟨w.heap.size + 1, 1, none⟩) (lt4)).trans d1
  have d2 := (q4.cell (p := ⟨w.heap.size + 1, 2, none⟩) (lt4)).trans d2
  have d3 := (q4.cell (p := ⟨w.heap.size + 1, 3, none⟩) (lt4)).trans d3
  have df : ∀ j, w4.frozen? ⟨w.heap.size + 1, j, none⟩ = false := fun j => (q4.frozen (p := ⟨w.heap.size + 1, j, none⟩) (lt4)).trans (df j)
  have bw4 : Below w.heap.size w w4 := bw.trans (q4.mono (by omega))
  have s4 := q4.size
  clear q4 hA hbt
  go_wp2
  refine bodyPost_ret (v := .tuple #[.agg #[.int .i64 z, .int .i64 h, .int .i64 mk, .slice va n vc], .slice none 0 0, .int .i64 1]) (by simp [results, Try.results5, go_sem, d0, d1, d2, d3]) rfl ⟨.slice va n vc, .slice none 0 0, _, rfl, by simp; exact bw4.size, ?_, tans_nil, ?_⟩
  · refine BA.mono (hA'.same (by simp) (fun c h1 h2 => ?_)) (by omega) (by simp; try omega) (Nat.le_refl _)
    repeat rw [set_blk _ _ _ _ _ (by omega)]
  · repeat' refine Below.setCell ?_ (by first | (simp; done) | (simp; omega)) _
    exact bw4

set_option maxRecDepth 100000 in
set_option maxHeartbeats 3200000 in
theorem tellDirty_spec_bad (z h mk : Int) (ao : Option Addr) (n cap : Nat) (X T : Nat → Wn) (w : World) (hr : WiRow w ao n X) (hn : n ≤ 1048576) (hz : WiSize n X) (hG : Hid (¬ GBd z h mk n X)) :
    Calls Try.prog 6 #[.agg #[.int .i64 z, .int .i64 h, .int .i64 mk, .slice ao n cap]] w fun e w' => TAns 0 0 0 0 X 0 T 1 w e w' := by
  have hB : ∀ o o', Below w.heap.size w ((w.alloc o).alloc o') := fun o o' => (below_new w o).alloc (by simp) _
  go_enter Try.func6, Try.ntmps6
  go_wp2_with fail
  refine (goodBoard_spec z h mk ao n cap X _ (hr.keep (hB _ _)) hn hz).mono ?_
  rintro e w1 ⟨b1, rfl, h1, q1⟩
  have bw : Below w.heap.size w w1 := (hB _ _).trans (q1.mono (by simp; omega))
  have d0 := q1.cell (p := ⟨w.heap.size + 1, 0, none⟩) (by simp)
  have d1 := q1.cell (p := ⟨w.heap.size + 1, 1, none⟩) (by simp)
  have d2 := q1.cell (p := ⟨w.heap.size + 1, 2, none⟩) (by simp)
  have d3 := q1.cell (p := ⟨w.heap.size + 1, 3, none⟩) (by simp)
  have df : ∀ j, w1.frozen? ⟨w.heap.size + 1, j, none⟩ = false := fun j => (q1.frozen (p := ⟨w.heap.size + 1, j, none⟩) (by simp)).trans (by simp [go_sem])
  simp [go_sem] at d0 d1 d2 d3
  have e1 : b1 = false := by
    cases b1 with
    | false => rfl
    | true => exact absurd (h1.1 rfl) hG.out
  subst e1
  clear h1 q1 hB
  go_wp2
  refine bodyPost_ret (v := .tuple #[.agg #[.int .i64 0, .int .i64 0, .int .i64 0, .slice none 0 0], .slice none 0 0, .int .i64 1]) (by simp [results, Try.results6, go_sem, d0, d1, d2, d3]) rfl ⟨.slice none 0 0, .slice none 0 0, _, rfl, by simp; exact bw.size, ⟨Nat.le_refl _, .inl ⟨rfl, _, _, rfl⟩⟩, tans_nil, ?_⟩
  repeat' refine Below.setCell ?_ (by first | (simp; done) | (simp; omega)) _
  exact bw
end Go.Proofs.Ytpggmgmdcccmeaa
