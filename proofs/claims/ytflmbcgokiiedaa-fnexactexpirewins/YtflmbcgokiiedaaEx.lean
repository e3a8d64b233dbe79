/- ExpireWins, in the model (made by mkex.py). -/
import Derived.Test.YtflmbcgokiiedaaEp
namespace Go.Proofs.Ytflmbcgokiiedaa
open Go.RowKit
set_option linter.unusedSimpArgs false
set_option linter.unusedVariables false

theorem bp_nil {w : World} {X : Nat → Wn} : BP w (fun _ => False) (.slice none 0 0) 0 X := ⟨fun _ h => h.elim, .inl ⟨rfl, none, 0, rfl⟩⟩
theorem kp_nil {w : World} {X : Nat → Wn} : KP w (fun _ => False) (.slice none 0 0) 0 X := ⟨fun _ h => h.elim, .inl ⟨rfl, none, 0, rfl⟩⟩
theorem gk_st {x : Wn} (h : gK x = true) : 0 ≤ x.st ∧ x.st ≤ 1000000000 := by
  simp only [gK, goodB, Bool.and_eq_true, decide_eq_true_eq] at h
  exact ⟨h.1.2, h.2⟩
theorem gbd_num {z h mk : Int} {n : Nat} {X : Nat → Wn} (hG : GBd z h mk n X) : (1 ≤ z ∧ z ≤ 100000) ∧ (0 ≤ h ∧ h ≤ 1000000) := by
  have h1 := hG.size
  have h2 := hG.hor
  simp only [isSz, btw, decide_eq_true_eq] at h1 h2
  exact ⟨h1, h2⟩

set_option maxRecDepth 100000 in
set_option maxHeartbeats 3200000 in
theorem expireWins_spec_bad (z h mk : Int) (ao : Option Addr) (n cap : Nat) (X T : Nat → Wn) (w : World) (hr : WiRow w ao n X) (hn : n ≤ 1048576) (hz : WiSize n X) (hG : Hid (¬ GBd z h mk n X)) :
    Calls Try.prog 16 #[.agg #[.int .i64 z, .int .i64 h, .int .i64 mk, .slice ao n cap]] w fun e w' => EAns 0 0 0 0 X 0 T false w e w' := by
  have hB : ∀ o o', Below w.heap.size w ((w.alloc o).alloc o') := fun o o' => (below_new w o).alloc (by simp) _
  go_enter Try.func16, Try.ntmps16
  go_wp2_with fail
  refine (goodBoard_spec z h mk ao n cap X _ (hr.keep (hB _ _)) hn hz).mono ?_
  rintro e w1 ⟨b1, rfl, h1, q1⟩
  have bw : Below w.heap.size w w1 := (hB _ _).trans (q1.mono (by simp; omega))
  have d0 := q1.cell (p := ⟨w.heap.size + 1, 0, none⟩) (by simp)
  have d1 := q1.cell (p := ⟨w.heap.size + 1, 1, none⟩) (by simp)
  have d2 := q1.cell (p := ⟨w.heap.size + 1, 2, none⟩) (by simp)
  have d3 := q1.cell (p := ⟨w.heap.size + 1, 3, none⟩) (by simp)
  have df : ∀ j, w1.frozen? ⟨w.heap.size + 1, j, none⟩ = false := fun j => (q1.frozen (p := ⟨w.heap.size + 1, j, none⟩) (by simp)).trans (by simp [go_sem])
  simp [go_sem] at d0 d1 d2 d3
  have e1 : b1 = false := by
    cases b1 with
    | false => rfl
    | true => exact absurd (h1.1 rfl) hG.out
  subst e1
  clear h1 q1 hB
  go_wp2
  refine bodyPost_ret (v := .tuple #[.agg #[.int .i64 0, .int .i64 0, .int .i64 0, .slice none 0 0], .slice none 0 0, .bool false]) (by simp [results, Try.results16, go_sem, d0, d1, d2, d3]) rfl ⟨.slice none 0 0, .slice none 0 0, _, _, rfl, bp_nil, kp_nil, fun _ h => h.elim, fun _ h => h.elim, fun _ h => h.elim, ?_⟩
  repeat' refine Below.setCell ?_ (by first | (simp; done) | (simp; omega)) _
  exact bw

set_option maxRecDepth 100000 in
set_option maxHeartbeats 3200000 in
theorem expireWins_impl_bad (z h mk : Int) (ao : Option Addr) (n cap : Nat) (X T : Nat → Wn) (w : World) (hr : WiRow w ao n X) (hn : n ≤ 1048576) (hz : WiSize n X) (hG : Hid (¬ GBd z h mk n X)) :
    Calls Try.prog 17 #[.agg #[.int .i64 z, .int .i64 h, .int .i64 mk, .slice ao n cap]] w fun e w' => EAns 0 0 0 0 X 0 T false w e w' := by
  have hB : ∀ o o', Below w.heap.size w ((w.alloc o).alloc o') := fun o o' => (below_new w o).alloc (by simp) _
  go_enter Try.func17, Try.ntmps17
  go_wp2_with fail
  refine (openBoard_bad z h mk ao n cap X _ (hr.keep (hB _ _)) hn hz hG).mono ?_
  rintro e w1 ⟨rfl, q1⟩
  have bw : Below w.heap.size w w1 := (hB _ _).trans (q1.mono (by simp; omega))
  have d0 := q1.cell (p := ⟨w.heap.size + 1, 0, none⟩) (by simp)
  have d1 := q1.cell (p := ⟨w.heap.size + 1, 1, none⟩) (by simp)
  have d2 := q1.cell (p := ⟨w.heap.size + 1, 2, none⟩) (by simp)
  have d3 := q1.cell (p := ⟨w.heap.size + 1, 3, none⟩) (by simp)
  have df : ∀ j, w1.frozen? ⟨w.heap.size + 1, j, none⟩ = false := fun j => (q1.frozen (p := ⟨w.heap.size + 1, j, none⟩) (by simp)).trans (by simp [go_sem])
  simp [go_sem] at d0 d1 d2 d3
  clear q1 hB
  go_wp2
  refine bodyPost_ret (v := .tuple #[.agg #[.int .i64 0, .int .i64 0, .int .i64 0, .slice none 0 0], .slice none 0 0, .bool false]) (by simp [results, Try.results17, go_sem, d0, d1, d2, d3]) rfl ⟨.slice none 0 0, .slice none 0 0, _, _, rfl, bp_nil, kp_nil, fun _ h => h.elim, fun _ h => h.elim, fun _ h => h.elim, ?_⟩
  repeat' refine Below.setCell ?_ (by first | (simp; done) | (simp; omega)) _
  exact bw

set_option maxRecDepth 100000 in
set_option maxHeartbeats 16000000 in
theorem expireWins_spec_good (z h mk : Int) (ao : Option Addr) (n cap : Nat) (X : Nat → Wn) (w : World) (hr : WiRow w ao n X) (hn : n ≤ 1048576) (hz : WiSize n X) (hG : Hid (GBd z h mk n X)) (b : Nat → Bool) (Hb : Hid (b = stB z h mk X)) :
    Calls Try.prog 16 #[.agg #[.int .i64 z, .int .i64 h, .int .i64 mk, .slice ao n cap]] w fun e w' => EAns z h mk (stL b n).length (atL X (stL b n)) (stL (fun i => !b i) n).length (atL X (stL (fun i => !b i) n)) true w e w' := by
  have hB : ∀ o o', Below w.heap.size w ((w.alloc o).alloc o') := fun o o' => (below_new w o).alloc (by simp) _
  have hfX := hr.fb
  obtain ⟨hzb, hhb⟩ := gbd_num hG.out
  have hgX : Hid (∀ i, i < n → 0 ≤ (X i).st ∧ (X i).st ≤ 1000000000) := fun i hi => gk_st (hG.out.wins.each i hi).key
  go_enter Try.func16, Try.ntmps16
  go_wp2_with fail
  refine (goodBoard_spec z h mk ao n cap X _ (hr.keep (hB _ _)) hn hz).mono ?_
  rintro e w1 ⟨b1, rfl, h1, q1⟩
  have bw : Below w.heap.size w w1 := (hB _ _).trans (q1.mono (by simp; omega))
  have c0 := q1.cell (p := ⟨w.heap.size, 0, none⟩) (by simp; omega)
  have c1 := q1.cell (p := ⟨w.heap.size, 1, none⟩) (by simp; omega)
  have c2 := q1.cell (p := ⟨w.heap.size, 2, none⟩) (by simp; omega)
  have c3 := q1.cell (p := ⟨w.heap.size, 3, none⟩) (by simp; omega)
  have cf : ∀ j, w1.frozen? ⟨w.heap.size, j, none⟩ = false := fun j => (q1.frozen (p := ⟨w.heap.size, j, none⟩) (by simp; omega)).trans (by simp [go_sem])
  have d0 := q1.cell (p := ⟨w.heap.size + 1, 0, none⟩) (by simp)
  have d1 := q1.cell (p := ⟨w.heap.size + 1, 1, none⟩) (by simp)
  have d2 := q1.cell (p := ⟨w.heap.size + 1, 2, none⟩) (by simp)
  have d3 := q1.cell (p := ⟨w.heap.size + 1, 3, none⟩) (by simp)
  have df : ∀ j, w1.frozen? ⟨w.heap.size + 1, j, none⟩ = false := fun j => (q1.frozen (p := ⟨w.heap.size + 1, j, none⟩) (by simp)).trans (by simp [go_sem])
  simp [go_sem] at c0 c1 c2 c3 d0 d1 d2 d3
  have sz1 : w.heap.size + 2 ≤ w1.heap.size := by have := q1.size; simp at this; omega
  have e1 : b1 = true := h1.2 hG.out
  subst e1
  clear h1 q1 hB
  go_wp2_with fail
  refine (l11Own_any z h mk ao n cap X _ (hr.keep bw) hn hz).mono ?_
  rintro e w2 ⟨v, V, rfl, hO, q2⟩
  obtain ⟨va, vc, rfl⟩ := ownsRow_form hO.own
  have c0 := (q2.cell (p := ⟨w.heap.size, 0, none⟩) (by show w.heap.size < w1.heap.size; omega)).trans c0
  have c1 := (q2.cell (p := ⟨w.heap.size, 1, none⟩) (by show w.heap.size < w1.heap.size; omega)).trans c1
  have c2 := (q2.cell (p := ⟨w.heap.size, 2, none⟩) (by show w.heap.size < w1.heap.size; omega)).trans c2
  have c3 := (q2.cell (p := ⟨w.heap.size, 3, none⟩) (by show w.heap.size < w1.heap.size; omega)).trans c3
  have cf : ∀ j, w2.frozen? ⟨w.heap.size, j, none⟩ = false := fun j => (q2.frozen (p := ⟨w.heap.size, j, none⟩) (by show w.heap.size < w1.heap.size; omega)).trans (cf j)
  have bw2 : Below w.heap.size w w2 := bw.trans (q2.mono (by omega))
  have s2 := q2.size
  obtain ⟨w4, hw4⟩ : ∃ u, u = (((w2.setCell ⟨w.heap.size, 0, none⟩ (.int .i64 z)).setCell ⟨w.heap.size, 1, none⟩ (.int .i64 h)).setCell ⟨w.heap.size, 2, none⟩ (.int .i64 mk)).setCell ⟨w.heap.size, 3, none⟩ (.slice va n vc) := ⟨_, rfl⟩
  have oth : Others w.heap.size w2 w4 := by rw [hw4]; exact (((Others.setCell _ _ _ _).trans (Others.setCell _ _ _ _)).trans (Others.setCell _ _ _ _)).trans (Others.setCell _ _ _ _)
  have s4 := oth.size
  have Bb : BdAt w4 w.heap.size z h mk (.slice va n vc) := by
    rw [hw4]
    refine ⟨by simp; omega, ?_, ?_, ?_, ?_⟩ <;> simp [go_sem, c0, c1, c2, c3]
  have Bf : ∀ j, w4.frozen? ⟨w.heap.size, j, none⟩ = false := fun j => by rw [hw4]; simp [go_sem, cf]
  have Rb : BdAt w4 (w.heap.size + 1) 0 0 0 (.slice none 0 0) := by
    have ol : ∀ j, w4.cell? ⟨w.heap.size + 1, j, none⟩ = w1.cell? ⟨w.heap.size + 1, j, none⟩ := fun j => (World.cell?_of_block (w := w2) (a := ⟨w.heap.size + 1, j, none⟩) (oth.block (w.heap.size + 1) (by omega))).trans (q2.cell (p := ⟨w.heap.size + 1, j, none⟩) (by show w.heap.size + 1 < w1.heap.size; omega))
    exact ⟨by omega, (ol 0).trans d0, (ol 1).trans d1, (ol 2).trans d2, (ol 3).trans d3⟩
  have Rf : ∀ j, w4.frozen? ⟨w.heap.size + 1, j, none⟩ = false := fun j => ((World.frozen?_of_block (w := w2) (a := ⟨w.heap.size + 1, j, none⟩) (oth.block (w.heap.size + 1) (by omega))).trans (q2.frozen (p := ⟨w.heap.size + 1, j, none⟩) (by show w.heap.size + 1 < w1.heap.size; omega))).trans (df j)
  have hO4 := hO.others oth (by omega)
  have hl : ∀ p k, p < n * 2 → (V p).ownBlock = some k → k < w4.heap.size := fun p k hp hk => (hO4.lt hp hk).2
  have bw4 : Below w.heap.size w w4 := bw2.trans (oth.below (Nat.le_refl _))
  have HL : Hid (∀ p k, p < n * 2 → (V p).ownBlock = some k → k < w4.heap.size) := hl
  clear q2 hO bw bw2 df hl hr
  obtain ⟨lo, hlo⟩ : ∃ l, l = w1.heap.size := ⟨_, rfl⟩
  rw [← hlo] at hO4
  have hlo1 : w.heap.size + 2 ≤ lo ∧ lo ≤ w4.heap.size := by omega
  have b3 := Bb.c3
  clear hlo
  go_wp2
  rw [← hw4]
  clear hw4 oth c0 c1 c2 c3 cf d0 d1 d2 d3
  go_loopw [5, 6, 18] (fun s g i wr => ∃ (k : Nat) (sa ga : Option Addr) (sc gc : Nat), k ≤ n ∧ i = .int .i64 k ∧ s = .slice sa (stL b k).length sc ∧ g = .slice ga (stL (fun i => !b i) k).length gc ∧ RW wr w4.heap.size (.slice sa (stL b k).length sc) X V (stL b k) ∧ RK wr w4.heap.size (.slice ga (stL (fun i => !b i) k).length gc) X V (stL (fun i => !b i) k) ∧ (∀ c, (Value.slice sa (stL b k).length sc).ownBlock = some c → (Value.slice ga (stL (fun i => !b i) k).length gc).ownBlock ≠ some c) ∧ Below w4.heap.size w4 wr) (fun _ _ i _ => n - (intOf i).toNat)
  case atStart => exact ⟨0, none, none, 0, 0, Nat.zero_le _, rfl, rfl, rfl, rw_nil _ _ _ _, rk_nil _ _ _ _, fun c hc => by simp [Value.ownBlock] at hc, Below.refl _ _⟩
  case round =>
    obtain ⟨k, sa, ga, sc, gc, hk, rfl, rfl, rfl, hS, hK, hne, hbk⟩ := hrel
    have B1 := Bb.keep hbk
    have R1 := Rb.keep hbk
    have sr := hbk.size
    have bwr : Below w.heap.size w wr := bw4.trans (hbk.mono bw4.size)
    have Or := hO4.keep hbk
    by_cases hlt : k < n
    rotate_left
    · have e : k = n := by omega
      subst e
      obtain ⟨V', Q1, Q2, _, P1, P2, l1, l2, dj, _⟩ := ex_parts hS hK Or hfX hlo1.2 HL.out hne
      have f3 := (hbk.frozen (p := ⟨w.heap.size, 3, none⟩) Bb.lt).trans (Bf 3)
      have Rf1 : ∀ j, wr.frozen? ⟨w.heap.size + 1, j, none⟩ = false := fun j => (hbk.frozen (p := ⟨w.heap.size + 1, j, none⟩) Rb.lt).trans (Rf j)
      obtain ⟨_, y0, y1, y2, y3⟩ := id B1
      obtain ⟨_, d0, d1, d2, d3⟩ := id R1
      clear hS hK hne hbk Or B1 R1
      go_wp2
      refine bodyPost_ret (v := .tuple #[.agg #[.int .i64 z, .int .i64 h, .int .i64 mk, .slice sa (stL b k).length sc], .slice ga (stL (fun i => !b i) k).length gc, .bool true]) (by simp [results, Try.results16, go_sem, d0, d1, d2, d3, y0, y1, y2, y3]) rfl ⟨_, _, Q1, Q2, rfl, P1.same (by simp) (fun c hc => ?_), P2.same (by simp) (fun c hc => ?_), fun c hc => by have := l1 c hc; omega, fun c hc => by have := l2 c hc; omega, dj, ?_⟩
      · have := l1 c hc
        repeat rw [set_blk _ _ _ _ _ (by omega)]
      · have := l2 c hc
        repeat rw [set_blk _ _ _ _ _ (by omega)]
      · repeat' refine Below.setCell ?_ (by first | (simp; done) | (simp; omega)) _
        exact bwr
    obtain ⟨g, cp, ev, _, _, _, hC, _, _⟩ := Or.wic hfX (by omega)
    injection ev with ev1 _ ev3
    subst ev1 ev3
    have ent := hC.ent k hlt
    obtain ⟨a0, c0, e0⟩ := ownsRow_form (Or.r0 k hlt)
    obtain ⟨a1, c1, e1⟩ := ownsRow_form (Or.r1 k hlt)
    simp only [e0, e1, adOf, cpOf] at ent
    clear hC
    have hst := hgX.out k hlt
    have hq0 : (0 : Int) ≤ (k : Int) := by omega
    have hq1 : (k : Int) < (n : Int) := by omega
    have hw1 : IntKind.i64.wrap ((X k).st + z) = (X k).st + z := by rw [IntKind.wrap_i64] <;> omega
    have hw2 : IntKind.i64.wrap ((X k).st + z + h) = (X k).st + z + h := by rw [IntKind.wrap_i64] <;> omega
    have hbk' : b k = decide (mk < (X k).st + z + h) := by rw [Hb.out]; rfl
    obtain ⟨_, x0, x1, x2, x3, x4, x5, x6, x7, x8, x9, x10⟩ := id ent
    have bn := below_new wr (.cells #[.string (X k).m, .slice a0 (X k).tn c0, .int .i64 (X k).st, .int .i64 (X k).c, .int .i64 (X k).s, .int .i64 (X k).lo, .int .i64 (X k).hi, .slice a1 (X k).n c1, .bool (X k).fu, .int .i64 (X k).ver, .bool (X k).di] 54)
    have sn : (wr.alloc (.cells #[.string (X k).m, .slice a0 (X k).tn c0, .int .i64 (X k).st, .int .i64 (X k).c, .int .i64 (X k).s, .int .i64 (X k).lo, .int .i64 (X k).hi, .slice a1 (X k).n c1, .bool (X k).fu, .int .i64 (X k).ver, .bool (X k).di] 54)).heap.size = wr.heap.size + 1 := by simp
    have hS1 : RW (wr.alloc (.cells #[.string (X k).m, .slice a0 (X k).tn c0, .int .i64 (X k).st, .int .i64 (X k).c, .int .i64 (X k).s, .int .i64 (X k).lo, .int .i64 (X k).hi, .slice a1 (X k).n c1, .bool (X k).fu, .int .i64 (X k).ver, .bool (X k).di] 54)) w4.heap.size (.slice sa (stL b k).length sc) X V (stL b k) := ownsRow_keep hS bn
    have hK1 : RK (wr.alloc (.cells #[.string (X k).m, .slice a0 (X k).tn c0, .int .i64 (X k).st, .int .i64 (X k).c, .int .i64 (X k).s, .int .i64 (X k).lo, .int .i64 (X k).hi, .slice a1 (X k).n c1, .bool (X k).fu, .int .i64 (X k).ver, .bool (X k).di] 54)) w4.heap.size (.slice ga (stL (fun i => !b i) k).length gc) X V (stL (fun i => !b i) k) := ownsRow_keep hK bn
    have b1 := hbk.trans (bn.mono hbk.size)
    have ls := stL_len b k
    have lk := stL_len (fun i => !b i) k
    have vs : ∀ c, (Value.slice sa (stL b k).length sc).ownBlock = some c → w4.heap.size ≤ c ∧ c < wr.heap.size := fun c hc => World.ownsRow.lt hS c hc
    have vk : ∀ c, (Value.slice ga (stL (fun i => !b i) k).length gc).ownBlock = some c → w4.heap.size ≤ c ∧ c < wr.heap.size := fun c hc => World.ownsRow.lt hK c hc
    obtain ⟨_, y0, y1, y2, y3⟩ := id (B1.keep bn)
    by_cases hgo : (X k).st + z + h ≤ mk
    · have hbf : b k = false := by rw [hbk']; exact decide_eq_false (by omega)
      have hgd : decide ((X k).st + z + h ≤ mk) = true := decide_eq_true hgo
      have E1 : Hid (stL b (k + 1) = stL b k) := stL_no hbf
      have E2 : Hid (stL (fun i => !b i) (k + 1) = stL (fun i => !b i) k ++ [k]) := stL_yes (by simp [hbf])
      obtain ⟨vb, vd, u, hrun, K2, g2, ob⟩ := hK1.push k a0 c0 e0 (by omega) (by omega) 38
      have bk := below_new (wr.alloc (.cells #[.string (X k).m, .slice a0 (X k).tn c0, .int .i64 (X k).st, .int .i64 (X k).c, .int .i64 (X k).s, .int .i64 (X k).lo, .int .i64 (X k).hi, .slice a1 (X k).n c1, .bool (X k).fu, .int .i64 (X k).ver, .bool (X k).di] 54)) (.cells #[.string (X k).m, .slice a0 (X k).tn c0, .int .i64 (X k).st] 49)
      have S2 : RW u w4.heap.size (.slice sa (stL b k).length sc) X V (stL b k) := ownsRow_kept (ownsRow_keep hS1 bk) g2 (fun c e h2 => hne c h2 e)
      have bu : Below w4.heap.size w4 u := (b1.trans (bk.mono b1.size)).grown g2 (by have := b1.size; have := bk.size; omega) (fun c e => (vk c e).1)
      have n2 : ∀ c, (Value.slice sa (stL b k).length sc).ownBlock = some c → (Value.slice vb ((stL (fun i => !b i) k).length + 1) vd).ownBlock ≠ some c := fun c hc h2 => by
        rcases ob with o | o
        · exact hne c hc (by rw [← o]; exact h2)
        · rw [o] at h2
          injection h2 with h2
          have := vs c hc
          omega
      have hlen : (stL (fun i => !b i) (k + 1)).length = (stL (fun i => !b i) k).length + 1 := by rw [E2.out]; simp
      clear hS hK hne hbk hS1 hK1 g2 ob bk bn b1 Or ent hbk' hgo
      go_wp2_with (at_builtin; refine wpList_append_eq _ rfl (.tmp 34) (.tmp 37) 38 38 rfl rfl (.slice ga (stL (fun i => !b i) k).length gc) (.slice (some ⟨wr.heap.size + 1, 0, none⟩) 1 1) (.slice vb ((stL (fun i => !b i) k).length + 1) vd) rfl rfl u (by rw [sn] at hrun; exact hrun) ?_)
      rw [← E2.out] at K2
      rw [← hlen] at K2 n2 ⊢
      rw [← E1.out] at S2 n2 ⊢
      go_roundw
      case rel => exact ⟨k + 1, sa, vb, sc, vd, by omega, by go_num, rfl, rfl, S2, K2, n2, bu⟩
      case measure => simp [intOf]; omega
    · have hbt : b k = true := by rw [hbk']; exact decide_eq_true (by omega)
      have hgd : decide ((X k).st + z + h ≤ mk) = false := decide_eq_false hgo
      have E1 : Hid (stL b (k + 1) = stL b k ++ [k]) := stL_yes hbt
      have E2 : Hid (stL (fun i => !b i) (k + 1) = stL (fun i => !b i) k) := stL_no (by simp [hbt])
      obtain ⟨vb, vd, u, hrun, S2, g2, ob⟩ := hS1.push k a0 a1 c0 c1 e0 e1 (by omega) (by omega) 26
      have bk := below_new (wr.alloc (.cells #[.string (X k).m, .slice a0 (X k).tn c0, .int .i64 (X k).st, .int .i64 (X k).c, .int .i64 (X k).s, .int .i64 (X k).lo, .int .i64 (X k).hi, .slice a1 (X k).n c1, .bool (X k).fu, .int .i64 (X k).ver, .bool (X k).di] 54)) (.cells #[.string (X k).m, .slice a0 (X k).tn c0, .int .i64 (X k).st, .int .i64 (X k).c, .int .i64 (X k).s, .int .i64 (X k).lo, .int .i64 (X k).hi, .slice a1 (X k).n c1, .bool (X k).fu, .int .i64 (X k).ver, .bool (X k).di] 54)
      have K2 : RK u w4.heap.size (.slice ga (stL (fun i => !b i) k).length gc) X V (stL (fun i => !b i) k) := ownsRow_kept (ownsRow_keep hK1 bk) g2 (fun c e h2 => hne c e h2)
      have bu : Below w4.heap.size w4 u := (b1.trans (bk.mono b1.size)).grown g2 (by have := b1.size; have := bk.size; omega) (fun c e => (vs c e).1)
      have n2 : ∀ c, (Value.slice vb ((stL b k).length + 1) vd).ownBlock = some c → (Value.slice ga (stL (fun i => !b i) k).length gc).ownBlock ≠ some c := fun c hc h2 => by
        rcases ob with o | o
        · exact hne c (by rw [← o]; exact hc) h2
        · rw [o] at hc
          injection hc with hc
          have := vk c h2
          omega
      have hlen : (stL b (k + 1)).length = (stL b k).length + 1 := by rw [E1.out]; simp
      clear hS hK hne hbk hS1 hK1 g2 ob bk bn b1 Or ent hbk' hgo
      go_wp2_with (at_builtin; refine wpList_append_eq _ rfl (.tmp 39) (.tmp 41) 26 26 rfl rfl (.slice sa (stL b k).length sc) (.slice (some ⟨wr.heap.size + 1, 0, none⟩) 1 1) (.slice vb ((stL b k).length + 1) vd) rfl rfl u (by rw [sn] at hrun; exact hrun) ?_)
      rw [← E1.out] at S2
      rw [← hlen] at S2 n2 ⊢
      rw [← E2.out] at K2 n2 ⊢
      go_roundw
      case rel => exact ⟨k + 1, vb, ga, vd, gc, by omega, by go_num, rfl, rfl, S2, K2, n2, bu⟩
      case measure => simp [intOf]; omega
end Go.Proofs.Ytflmbcgokiiedaa
