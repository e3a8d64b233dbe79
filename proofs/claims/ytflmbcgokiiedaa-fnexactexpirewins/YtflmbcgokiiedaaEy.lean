/- ExpireWins of a good board, in the program. -/
import Derived.Test.YtflmbcgokiiedaaDx
import Derived.Test.YtflmbcgokiiedaaEx
import Derived.Test.YtflmbcgokiiedaaTd
namespace Go.Proofs.Ytflmbcgokiiedaa
open Go.RowKit
set_option linter.unusedSimpArgs false
set_option linter.unusedVariables false

theorem Thru.grownRow {g : Nat} {w u u' : World} {row : Option Nat} (h : Thru g w u) (k : u.grownBy u' row) (hr : ∀ c, row = some c → w.heap.size ≤ c) : Thru g w u' :=
  ⟨k.os.trans h.os, k.tape.trans h.tape, k.output.trans h.output, Nat.le_trans h.size k.size, fun c hc hne => (k.block c (Nat.lt_of_lt_of_le hc h.size) (fun e => by have := hr c e.symm; omega)).trans (h.block c hc hne)⟩
theorem ownsRow_thru {w w' : World} {base e size n d : Nat} {v : Value} {xs : List Value} (h : w.ownsRow base e size v n xs) (ht : Thru d w w') (hd : d < base) : w'.ownsRow base e size v n xs :=
  ownsRow_kept h (row := some d) ⟨ht.os, ht.tape, ht.output, ht.size, fun i hi hne => ht.block i hi (fun e => hne (by rw [e]))⟩ (fun k hk hh => by injection hk with hk; subst hk; have := (h.lt d hh).1; omega)
/-- What stays is what it was. -/
theorem ex_back {z : Int} {X : Nat → Wn} {n : Nat} {b : Nat → Bool} (hG : GWs z X n) {S : ByteArray → Prop} (hS : ∀ t, (∀ i, i < n → b i = false → t ≠ kS (X i)) → (S t ↔ dS X n t)) {bt : Nat → Bool} (hb : ∀ j, j < (stL b n).length → (bt j = true ↔ S (kS (atL (cln X) (stL b n) j)))) : ∀ j, j < (stL b n).length → tldB (atL (cln X) (stL b n)) bt (stL b n).length j = atL X (stL b n) j := by
  intro j hj
  have hm : (stL b n).getD j 0 ∈ stL b n := by
    rw [List.getD_eq_getElem?_getD, List.getElem?_eq_getElem hj]
    exact List.getElem_mem hj
  have hi := stL_mem.1 hm
  have h1 := hb j hj
  have h2 : kS (atL (cln X) (stL b n) j) = kS (cln X ((stL b n).getD j 0)) := rfl
  rw [h2, hS _ (fun i hi2 hbf e => by
    by_cases e2 : (stL b n).getD j 0 = i
    · rw [e2, hbf] at hi; cases hi.2
    · exact kS_ne hG hi.1 hi2 e2 e), dS_iff hG hi.1] at h1
  have e : bt j = (X ((stL b n).getD j 0)).di := bool_iff h1
  simp only [tldB, hj, if_true, e]
  rfl

set_option maxRecDepth 100000 in
set_option maxHeartbeats 16000000 in
theorem expireWins_impl_good (z h mk : Int) (ao : Option Addr) (n cap : Nat) (X : Nat → Wn) (w : World) (hr : WiRow w ao n X) (hn : n ≤ 1048576) (hz : WiSize n X) (hG : Hid (GBd z h mk n X)) (b : Nat → Bool) (Hb : Hid (b = stB z h mk X)) :
    Calls Try.prog 17 #[.agg #[.int .i64 z, .int .i64 h, .int .i64 mk, .slice ao n cap]] w fun e w' => EAns z h mk (stL b n).length (atL X (stL b n)) (stL (fun i => !b i) n).length (atL (cln X) (stL (fun i => !b i) n)) true w e w' := by
  have hB : ∀ o o', Below w.heap.size w ((w.alloc o).alloc o') := fun o o' => (below_new w o).alloc (by simp) _
  have hfX : FBw n (cln X) := hr.fb
  obtain ⟨hzb, hhb⟩ := gbd_num hG.out
  have hsX : Hid (∀ i, i < n → 0 ≤ (cln X i).st ∧ (cln X i).st ≤ 1000000000) := fun i hi => gk_st (hG.out.wins.each i hi).key
  have hgX : Hid (∀ i, i < n → gK (cln X i) = true) := fun i hi => (hG.out.wins.each i hi).key
  go_enter Try.func17, Try.ntmps17
  go_wp2_with fail
  refine (openBoard_good z h mk ao n cap X _ (hr.keep (hB _ _)) hn hz hG).mono ?_
  rintro e w1 ⟨base, p, r, v, V, rfl, hp, hrr, rfl, HW, q1⟩
  have bw : Below w.heap.size w w1 := (hB _ _).trans (q1.mono (by simp; omega))
  have d0 := q1.cell (p := ⟨w.heap.size + 1, 0, none⟩) (by simp)
  have d1 := q1.cell (p := ⟨w.heap.size + 1, 1, none⟩) (by simp)
  have d2 := q1.cell (p := ⟨w.heap.size + 1, 2, none⟩) (by simp)
  have d3 := q1.cell (p := ⟨w.heap.size + 1, 3, none⟩) (by simp)
  have df : ∀ j, w1.frozen? ⟨w.heap.size + 1, j, none⟩ = false := fun j => (q1.frozen (p := ⟨w.heap.size + 1, j, none⟩) (by simp)).trans (by simp [go_sem])
  simp [go_sem] at d0 d1 d2 d3 hp hrr
  have hpl := HW.box.lt
  have hpr := HW.pr
  have hrb := HW.rb
  have hr2 : w.heap.size + 2 ≤ r ∧ w.heap.size + 2 ≤ p := ⟨by omega, by omega⟩
  obtain ⟨va, vc, rfl⟩ := ownsRow_form HW.out.own
  have s1 : w.heap.size + 2 ≤ w1.heap.size := by have := q1.size; simp at this; omega
  have hl : ∀ q k, q < n * 2 → (V q).ownBlock = some k → k < w1.heap.size := fun q k hq hk => (HW.out.lt hq hk).2
  have HL : Hid (∀ q k, q < n * 2 → (V q).ownBlock = some k → k < w1.heap.size) := hl
  have b3 := HW.box.c3
  clear q1 hB hl hr
  go_wp2
  go_loopw [7, 8, 25] (fun s g i wr => ∃ (k : Nat) (sa ga : Option Addr) (sc gc : Nat) (S : ByteArray → Prop), k ≤ n ∧ i = .int .i64 k ∧ s = .slice sa (stL b k).length sc ∧ g = .slice ga (stL (fun i => !b i) k).length gc ∧ RW wr w1.heap.size (.slice sa (stL b k).length sc) (cln X) V (stL b k) ∧ RK wr w1.heap.size (.slice ga (stL (fun i => !b i) k).length gc) (cln X) V (stL (fun i => !b i) k) ∧ (∀ c, (Value.slice sa (stL b k).length sc).ownBlock = some c → (Value.slice ga (stL (fun i => !b i) k).length gc).ownBlock ≠ some c) ∧ KSet wr r S ∧ Hid (∀ t, (∀ i, i < k → b i = false → t ≠ kS (X i)) → (S t ↔ dS X n t)) ∧ Thru r w1 wr) (fun _ _ i _ => n - (intOf i).toNat)
  case atStart => exact ⟨0, none, none, 0, 0, dS X n, Nat.zero_le _, rfl, rfl, rfl, rw_nil _ _ _ _, rk_nil _ _ _ _, fun c hc => by simp [Value.ownBlock] at hc, HW.set, (fun _ _ => Iff.rfl : ∀ t, (∀ i, i < 0 → b i = false → t ≠ kS (X i)) → (dS X n t ↔ dS X n t)), Thru.of_below (Below.refl _ _)⟩
  case round =>
    obtain ⟨k, sa, ga, sc, gc, S, hk, rfl, rfl, rfl, hS, hK, hne, hKS, HSet, hT⟩ := hrel
    have sr := hT.size
    have blk : ∀ c, c < w1.heap.size → c ≠ r → wr.heap[c]? = w1.heap[c]? := fun c hc hne => hT.block c hc hne
    have cl : ∀ c j, c < w1.heap.size → c ≠ r → wr.cell? ⟨c, j, none⟩ = w1.cell? ⟨c, j, none⟩ := fun c j hc hne => World.cell?_of_block (w := w1) (a := ⟨c, j, none⟩) (blk c hc hne)
    have B1 : BdAt wr p z h mk (.slice va n vc) := ⟨Nat.lt_of_lt_of_le hpl sr, (cl p 0 hpl hpr).trans HW.box.c0, (cl p 1 hpl hpr).trans HW.box.c1, (cl p 2 hpl hpr).trans HW.box.c2, (cl p 3 hpl hpr).trans HW.box.c3⟩
    have f4 := (cl p 4 hpl hpr).trans HW.c4
    have ff : ∀ j, wr.frozen? ⟨p, j, none⟩ = false := fun j => (World.frozen?_of_block (w := w1) (a := ⟨p, j, none⟩) (blk p hpl hpr)).trans (HW.fz j)
    have Or := HW.out.thru hT hrb
    have bwr : Below w.heap.size w wr := bw.trans (hT.below (by omega) (by omega))
    by_cases hlt : k < n
    rotate_left
    · have e : k = n := by omega
      subst e
      obtain ⟨V', Q1, Q2, _, P1, P2, l1, l2, dj, _⟩ := ex_parts hS hK Or hfX (by omega : p + 1 ≤ w1.heap.size) HL.out hne
      have oth := Others.setCell wr p 3 (.slice sa (stL b k).length sc)
      have P1' : BP (wr.setCell ⟨p, 3, none⟩ (.slice sa (stL b k).length sc)) Q1 (.slice sa (stL b k).length sc) (stL b k).length (atL (cln X) (stL b k)) := P1.same (by rw [oth.size]; exact Nat.le_refl _) (fun c hc => oth.block c (by have := l1 c hc; omega))
      have P2' : KP (wr.setCell ⟨p, 3, none⟩ (.slice sa (stL b k).length sc)) Q2 (.slice ga (stL (fun i => !b i) k).length gc) (stL (fun i => !b i) k).length (atL (cln X) (stL (fun i => !b i) k)) := P2.same (by rw [oth.size]; exact Nat.le_refl _) (fun c hc => oth.block c (by have := l2 c hc; omega))
      have nc : ∀ j, j ≠ 3 → (wr.setCell ⟨p, 3, none⟩ (.slice sa (stL b k).length sc)).cell? ⟨p, j, none⟩ = wr.cell? ⟨p, j, none⟩ := fun j hj => World.cell?_setCell_other _ _ _ _ (by intro hh; injection hh with _ h2 _; omega)
      have WP : WSp (wr.setCell ⟨p, 3, none⟩ (.slice sa (stL b k).length sc)) Q1 p r z h mk (.slice sa (stL b k).length sc) (stL b k).length (atL (cln X) (stL b k)) S :=
        ⟨⟨by rw [oth.size]; exact B1.lt, (nc 0 (by omega)).trans B1.c0, (nc 1 (by omega)).trans B1.c1, (nc 2 (by omega)).trans B1.c2, World.cell?_setCell_same _ _ _ B1.c3⟩, (nc 4 (by omega)).trans f4, fun j => by rw [World.frozen?_setCell]; exact ff j, hKS.same (oth.block r (Ne.symm hpr)), P1', hpr, fun c hc => by have := l1 c hc; omega⟩
      have gV : Hid (∀ j, j < (stL b k).length → gK (atL (cln X) (stL b k) j) = true) := fun j hj => hgX.out _ ((stL_mem (b := b)).1 (by
        rw [List.getD_eq_getElem?_getD, List.getElem?_eq_getElem hj]
        exact List.getElem_mem hj)).1
      have tl := tellP_any Q1 p r z h mk _ _ _ S _ WP gV (by have := stL_len b k; omega)
      have c3 := B1.c3
      have g3 := ff 3
      have n1 : w.heap.size + 1 ≠ p := by omega
      have n2 : w.heap.size + 1 ≠ r := by omega
      have n3 : w.heap.size + 1 < w1.heap.size := by omega
      have e1 : ∀ j, (wr.setCell ⟨p, 3, none⟩ (.slice sa (stL b k).length sc)).cell? ⟨w.heap.size + 1, j, none⟩ = w1.cell? ⟨w.heap.size + 1, j, none⟩ := fun j => (World.cell?_of_block (w := wr) (a := ⟨w.heap.size + 1, j, none⟩) (oth.block _ n1)).trans (cl _ j n3 n2)
      have d0 := (e1 0).trans d0
      have d1 := (e1 1).trans d1
      have d2 := (e1 2).trans d2
      have d3 := (e1 3).trans d3
      have dfr : ∀ j, (wr.setCell ⟨p, 3, none⟩ (.slice sa (stL b k).length sc)).frozen? ⟨w.heap.size + 1, j, none⟩ = false := fun j => (World.frozen?_of_block (w := wr) (a := ⟨w.heap.size + 1, j, none⟩) (oth.block _ n1)).trans ((World.frozen?_of_block (w := w1) (a := ⟨w.heap.size + 1, j, none⟩) (blk _ n3 n2)).trans (df j))
      have bws : Below w.heap.size w (wr.setCell ⟨p, 3, none⟩ (.slice sa (stL b k).length sc)) := bwr.trans (oth.below (by omega))
      have szs : (wr.setCell ⟨p, 3, none⟩ (.slice sa (stL b k).length sc)).heap.size = wr.heap.size := oth.size
      clear P1 P2 P1' WP nc oth e1 hS hK hne hKS Or B1 f4 ff blk cl hT
      go_wp2_with fail
      refine tl.mono ?_
      clear tl
      generalize wr.setCell ⟨p, 3, none⟩ (.slice sa (stL b k).length sc) = ws at *
      rintro e w3 ⟨v', bt, rfl, hbt, hA, hF⟩
      obtain ⟨va3, vc3, rfl⟩ := hA.form
      have hA' := hA.congr (ex_back hG.out.wins HSet.out hbt)
      have P3 := P2'.frm hF (fun c h2 h1 => dj c h1 h2)
      have s3 := hF.size
      have nq : ¬ Q1 (w.heap.size + 1) := fun h9 => by have := l1 _ h9; omega
      have bF : ws.heap[w.heap.size + 1]? = w3.heap[w.heap.size + 1]? := (hF.block _ (by omega) nq).symm
      have cF : ∀ j, w3.cell? ⟨w.heap.size + 1, j, none⟩ = ws.cell? ⟨w.heap.size + 1, j, none⟩ := fun j => World.cell?_of_block (w := ws) (a := ⟨w.heap.size + 1, j, none⟩) bF.symm
      have x0 := (cF 0).trans d0
      have x1 := (cF 1).trans d1
      have x2 := (cF 2).trans d2
      have x3 := (cF 3).trans d3
      have xf : ∀ j, w3.frozen? ⟨w.heap.size + 1, j, none⟩ = false := fun j => (World.frozen?_of_block (w := ws) (a := ⟨w.heap.size + 1, j, none⟩) bF.symm).trans (dfr j)
      have bw3 : Below w.heap.size w w3 := bws.trans (hF.below (fun c hc => by have := l1 c hc; omega) (by omega))
      clear hA hbt hF cF bF dfr d0 d1 d2 d3 P2'
      go_wp2
      refine bodyPost_ret (v := .tuple #[.agg #[.int .i64 z, .int .i64 h, .int .i64 mk, .slice va3 (stL b k).length vc3], .slice ga (stL (fun i => !b i) k).length gc, .bool true]) (by simp [results, Try.results17, go_sem, x0, x1, x2, x3]) rfl ⟨_, _, Q1, Q2, rfl, hA'.same (by simp) (fun c hc => ?_), P3.same (by simp) (fun c hc => ?_), fun c hc => by have := l1 c hc; omega, fun c hc => by have := l2 c hc; omega, dj, ?_⟩
      · have := l1 c hc
        repeat rw [set_blk _ _ _ _ _ (by omega)]
      · have := l2 c hc
        repeat rw [set_blk _ _ _ _ _ (by omega)]
      · repeat' refine Below.setCell ?_ (by first | (simp; done) | (simp; omega)) _
        exact bw3
    obtain ⟨g, cp, ev, _, _, _, hC, _, _⟩ := Or.wic hfX (by omega)
    injection ev with ev1 _ ev3
    subst ev1 ev3
    have ent := hC.ent k hlt
    have ll := hC.l0 k hlt
    obtain ⟨a0, c0, e0⟩ := ownsRow_form (Or.r0 k hlt)
    obtain ⟨a1, c1, e1⟩ := ownsRow_form (Or.r1 k hlt)
    simp only [e0, e1, adOf, cpOf] at ent ll
    clear hC
    have r0 : TRow wr a0 (cln X k).tn (cln X k).nm (cln X k).vl := by
      by_cases ht : (cln X k).tn = 0
      · exact ⟨.inl ht⟩
      · obtain ⟨t1, _, t3⟩ := ll (by omega)
        rw [t1]; exact t3.row
    have hst := hsX.out k hlt
    have gk : Hid (gK (cln X k) = true) := hgX.out k hlt
    have hq0 : (0 : Int) ≤ (k : Int) := by omega
    have hq1 : (k : Int) < (n : Int) := by omega
    have hw1 : IntKind.i64.wrap ((cln X k).st + z) = (cln X k).st + z := by rw [IntKind.wrap_i64] <;> omega
    have hw2 : IntKind.i64.wrap ((cln X k).st + z + h) = (cln X k).st + z + h := by rw [IntKind.wrap_i64] <;> omega
    have hbk' : b k = decide (mk < (cln X k).st + z + h) := by rw [Hb.out]; rfl
    obtain ⟨_, x0, x1, x2, x3, x4, x5, x6, x7, x8, x9, x10⟩ := id ent
    obtain ⟨W1, hW1⟩ : ∃ u, u = (wr.alloc (.cells #[.string (cln X k).m, .slice a0 (cln X k).tn c0, .int .i64 (cln X k).st, .int .i64 (cln X k).c, .int .i64 (cln X k).s, .int .i64 (cln X k).lo, .int .i64 (cln X k).hi, .slice a1 (cln X k).n c1, .bool (cln X k).fu, .int .i64 (cln X k).ver, .bool (cln X k).di] 54)).drew := ⟨_, rfl⟩
    have bd : Below wr.heap.size wr W1 := by rw [hW1]; exact (below_new wr _).drew
    have sn : W1.heap.size = wr.heap.size + 1 := by rw [hW1]; simp [go_sem]
    have bx : WiAt W1 wr.heap.size 0 (cln X k) a0 a1 c0 c1 := by rw [hW1]; exact (WiAt.new wr (cln X k) a0 a1 c0 c1 54).keep (Below.refl _ _).drew
    obtain ⟨_, y0, y1, y2, y3⟩ := id (B1.keep (below_new wr (.cells #[.string (cln X k).m, .slice a0 (cln X k).tn c0, .int .i64 (cln X k).st, .int .i64 (cln X k).c, .int .i64 (cln X k).s, .int .i64 (cln X k).lo, .int .i64 (cln X k).hi, .slice a1 (cln X k).n c1, .bool (cln X k).fu, .int .i64 (cln X k).ver, .bool (cln X k).di] 54)))
    have z2 : (wr.alloc (.cells #[.string (cln X k).m, .slice a0 (cln X k).tn c0, .int .i64 (cln X k).st, .int .i64 (cln X k).c, .int .i64 (cln X k).s, .int .i64 (cln X k).lo, .int .i64 (cln X k).hi, .slice a1 (cln X k).n c1, .bool (cln X k).fu, .int .i64 (cln X k).ver, .bool (cln X k).di] 54)).cell? ⟨wr.heap.size, 2, none⟩ = some (.int .i64 (cln X k).st) := by simp [go_sem]
    have hS1 : RW W1 w1.heap.size (.slice sa (stL b k).length sc) (cln X) V (stL b k) := ownsRow_keep hS bd
    have hK1 : RK W1 w1.heap.size (.slice ga (stL (fun i => !b i) k).length gc) (cln X) V (stL (fun i => !b i) k) := ownsRow_keep hK bd
    have ls := stL_len b k
    have lk := stL_len (fun i => !b i) k
    have vs : ∀ c, (Value.slice sa (stL b k).length sc).ownBlock = some c → w1.heap.size ≤ c ∧ c < wr.heap.size := fun c hc => World.ownsRow.lt hS c hc
    have vk : ∀ c, (Value.slice ga (stL (fun i => !b i) k).length gc).ownBlock = some c → w1.heap.size ≤ c ∧ c < wr.heap.size := fun c hc => World.ownsRow.lt hK c hc
    have T1 : Thru r w1 W1 := hT.trans (Thru.of_below bd)
    have SS1 := hKS.keep bd
    have r1 := r0.keep bd
    clear Or ll r0 hS hK hKS hT
    by_cases hgo : mk < (cln X k).st + z + h
    · have hbt : b k = true := by rw [hbk']; exact decide_eq_true hgo
      have hgd : decide (mk < (cln X k).st + z + h) = true := decide_eq_true hgo
      have E1 : Hid (stL b (k + 1) = stL b k ++ [k]) := stL_yes hbt
      have E2 : Hid (stL (fun i => !b i) (k + 1) = stL (fun i => !b i) k) := stL_no (by simp [hbt])
      obtain ⟨vb, vd, u, hrun, S2, g2, ob⟩ := hS1.push k a0 a1 c0 c1 e0 e1 (by omega) (by omega) 26
      have bk := below_new W1 (.cells #[.string (cln X k).m, .slice a0 (cln X k).tn c0, .int .i64 (cln X k).st, .int .i64 (cln X k).c, .int .i64 (cln X k).s, .int .i64 (cln X k).lo, .int .i64 (cln X k).hi, .slice a1 (cln X k).n c1, .bool (cln X k).fu, .int .i64 (cln X k).ver, .bool (cln X k).di] 54)
      have K2 : RK u w1.heap.size (.slice ga (stL (fun i => !b i) k).length gc) (cln X) V (stL (fun i => !b i) k) := ownsRow_kept (ownsRow_keep hK1 bk) g2 (fun c e h2 => hne c e h2)
      have T2 := T1.trans (Thru.of_below (g := r) bk)
      have Tu : Thru r w1 u := T2.grownRow g2 (fun c e => (vs c e).1)
      have SSk := SS1.keep bk
      have SSu : KSet u r S := SSk.same (g2.block r SSk.lt (fun e => by have := (vs r e.symm).1; omega))
      have HS' : Hid (∀ t, (∀ i, i < k + 1 → b i = false → t ≠ kS (X i)) → (S t ↔ dS X n t)) := fun t ht => HSet.out t (fun i hi hb => ht i (by omega) hb)
      have n2 : ∀ c, (Value.slice vb ((stL b k).length + 1) vd).ownBlock = some c → (Value.slice ga (stL (fun i => !b i) k).length gc).ownBlock ≠ some c := fun c hc h2 => by
        rcases ob with o | o
        · exact hne c (by rw [← o]; exact hc) h2
        · rw [o] at hc
          injection hc with hc
          have := vk c h2
          omega
      have hlen : (stL b (k + 1)).length = (stL b k).length + 1 := by rw [E1.out]; simp
      obtain ⟨_, m0, m1, m2, m3, m4, m5, m6, m7, m8, m9, m10⟩ := id bx
      simp only [Nat.zero_add] at m1 m2 m3 m4 m5 m6 m7 m8 m9 m10
      clear hbk' hgo hne hS1 hK1 g2 ob bk bd bx T1 T2 SS1 SSk HSet r1
      go_wp2
      go_region_held3 (fun w' => w'.cell? ⟨wr.heap.size, 2, none⟩ = some (.int .i64 (cln X k).st) ∧ w'.cell? ⟨p, 0, none⟩ = some (.int .i64 z) ∧ w'.cell? ⟨p, 1, none⟩ = some (.int .i64 h) ∧ w'.cell? ⟨p, 2, none⟩ = some (.int .i64 mk)) (go_keep) (fail)
      rw [← hW1]
      clear hW1 x0 x1 x2 x3 x4 x5 x6 x7 x8 x9 x10
      go_wp2_with (at_builtin; refine wpList_append_eq _ rfl (.tmp 50) (.tmp 52) 26 26 rfl rfl (.slice sa (stL b k).length sc) (.slice (some ⟨wr.heap.size + 1, 0, none⟩) 1 1) (.slice vb ((stL b k).length + 1) vd) rfl rfl u (by rw [sn] at hrun; exact hrun) ?_)
      rw [← E1.out] at S2
      rw [← hlen] at S2 n2 ⊢
      rw [← E2.out] at K2 n2 ⊢
      go_roundw
      case rel => exact ⟨k + 1, vb, ga, vd, gc, S, by omega, by go_num, rfl, rfl, S2, K2, n2, SSu, HS', Tu⟩
      case measure => simp [intOf]; omega
    · have hbf : b k = false := by rw [hbk']; exact decide_eq_false hgo
      have hgd : decide (mk < (cln X k).st + z + h) = false := decide_eq_false hgo
      have E1 : Hid (stL b (k + 1) = stL b k) := stL_no hbf
      have E2 : Hid (stL (fun i => !b i) (k + 1) = stL (fun i => !b i) k ++ [k]) := stL_yes (by simp [hbf])
      have r1d := r1.keep (Below.refl _ W1).drew
      have SSd := SS1.keep (Below.refl _ W1).drew
      have hlen : (stL (fun i => !b i) (k + 1)).length = (stL (fun i => !b i) k).length + 1 := by rw [E2.out]; simp
      have f4' : W1.cell? ⟨p, 4, none⟩ = some (.map (some r)) := (bd.cell (p := ⟨p, 4, none⟩) B1.lt).trans f4
      obtain ⟨_, m0, m1, m2, _⟩ := id bx
      simp only [Nat.zero_add] at m1 m2
      have hks : Hid (kS (cln X k) = kS (X k)) := rfl
      clear hbk' hgo
      go_wp2
      go_region_held3 (fun w' => w'.cell? ⟨wr.heap.size, 2, none⟩ = some (.int .i64 (cln X k).st) ∧ w'.cell? ⟨p, 0, none⟩ = some (.int .i64 z) ∧ w'.cell? ⟨p, 1, none⟩ = some (.int .i64 h) ∧ w'.cell? ⟨p, 2, none⟩ = some (.int .i64 mk)) (go_keep) (fail)
      rw [← hW1]
      clear hW1 x0 x1 x2 x3 x4 x5 x6 x7 x8 x9 x10
      go_wp2
      go_region_held3 (fun w' => w'.cell? ⟨p, 4, none⟩ = some (.map (some r)) ∧ w'.cell? ⟨wr.heap.size, 0, none⟩ = some (.string (cln X k).m) ∧ w'.cell? ⟨wr.heap.size, 1, none⟩ = some (.slice a0 (cln X k).tn c0) ∧ w'.cell? ⟨wr.heap.size, 2, none⟩ = some (.int .i64 (cln X k).st)) (go_keep) (first | (go_at_call 50; refine (drop_any (cln X k) r S a0 c0 _ r1d gk SSd).mono ?_; rintro e u2 ⟨rfl, ⟨S', hS', hSi⟩, T2⟩; have T2' : Thru r W1 u2 := (Thru.of_below (Below.refl _ W1).drew).trans T2; have w0 := (T2'.cell (o := 4) (by omega) hpr).trans f4'; have w1' := (T2'.cell (o := 0) (b := wr.heap.size) (by omega) (by omega)).trans m0; have w2' := (T2'.cell (o := 1) (b := wr.heap.size) (by omega) (by omega)).trans m1; have w3' := (T2'.cell (o := 2) (b := wr.heap.size) (by omega) (by omega)).trans m2; clear T2))
      obtain ⟨vb, vd, u, hrun, K2, g2, ob⟩ := RK.push (ownsRow_thru hK1 T2' (by omega) : RK u2 w1.heap.size (.slice ga (stL (fun i => !b i) k).length gc) (cln X) V (stL (fun i => !b i) k)) k a0 c0 e0 (by omega) (by have := T2'.size; omega) 38
      have s2 := T2'.size
      have S3 : RW u2 w1.heap.size (.slice sa (stL b k).length sc) (cln X) V (stL b k) := ownsRow_thru hS1 T2' (by omega)
      have bk := below_new u2 (.cells #[.string (cln X k).m, .slice a0 (cln X k).tn c0, .int .i64 (cln X k).st] 49)
      have S2 : RW u w1.heap.size (.slice sa (stL b k).length sc) (cln X) V (stL b k) := ownsRow_kept (ownsRow_keep S3 bk) g2 (fun c e h2 => hne c h2 e)
      have Tu : Thru r w1 u := ((T1.trans T2').trans (Thru.of_below (g := r) bk)).grownRow g2 (fun c e => (vk c e).1)
      have SSk := hS'.keep bk
      have SSu : KSet u r S' := SSk.same (g2.block r SSk.lt (fun e => by have := (vk r e.symm).1; omega))
      have HS' : Hid (∀ t, (∀ i, i < k + 1 → b i = false → t ≠ kS (X i)) → (S' t ↔ dS X n t)) := fun t ht => (hSi t (by rw [hks.out]; exact ht k (by omega) hbf)).trans (HSet.out t (fun i hi hb => ht i (by omega) hb))
      have n2 : ∀ c, (Value.slice sa (stL b k).length sc).ownBlock = some c → (Value.slice vb ((stL (fun i => !b i) k).length + 1) vd).ownBlock ≠ some c := fun c hc h2 => by
        rcases ob with o | o
        · exact hne c hc (by rw [← o]; exact h2)
        · rw [o] at h2
          injection h2 with h2
          have := vs c hc
          omega
      clear hne hS1 hK1 g2 ob bk bd bx T1 T2' SS1 SSk SSd HSet r1 r1d S3 hS' hSi
      go_wp2_with (at_builtin; refine wpList_append_eq _ rfl (.tmp 61) (.tmp 64) 38 38 rfl rfl (.slice ga (stL (fun i => !b i) k).length gc) (.slice (some ⟨u2.heap.size, 0, none⟩) 1 1) (.slice vb ((stL (fun i => !b i) k).length + 1) vd) rfl rfl u hrun ?_)
      rw [← E2.out] at K2
      rw [← hlen] at K2 n2 ⊢
      rw [← E1.out] at S2 n2 ⊢
      go_roundw
      case rel => exact ⟨k + 1, sa, vb, sc, vd, S', by omega, by go_num, rfl, rfl, S2, K2, n2, SSu, HS', Tu⟩
      case measure => simp [intOf]; omega
end Go.Proofs.Ytflmbcgokiiedaa
