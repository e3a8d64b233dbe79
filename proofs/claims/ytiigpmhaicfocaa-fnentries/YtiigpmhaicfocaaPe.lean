/- addEntries of many entries, in the program. / PutEntry, in the program. -/
import Derived.Test.YtiigpmhaicfocaaZa
import Derived.Test.YtiigpmhaicfocaaSo
import Derived.Test.YtiigpmhaicfocaaPa
import Derived.Test.YtiigpmhaicfocaaGe
namespace Go.Proofs.Ytiigpmhaicfocaa
open Go.RowKit
set_option linter.unusedSimpArgs false
set_option linter.unusedVariables false

/-- n entries and then others. -/
def catE (X : Nat → Ent) (n : Nat) (Y : Nat → Ent) : Nat → Ent := fun i => if i < n then X i else Y (i - n)

set_option maxRecDepth 100000 in
set_option maxHeartbeats 4000000 in
theorem addMany_any (lo : Option Addr) (lc base n : Nat) (X : Nat → Ent) (V : Nat → Value) (so : Option Addr) (m sc : Nat) (Y : Nat → Ent) (w0 w : World) (hO : OutE w base (.slice lo n lc) n X V) (hr : ERow w0 so m Y) (hw0 : Below w0.heap.size w0 w) (hbs : w0.heap.size ≤ base) (hz : ∀ i, i < m → (Y i).n ≤ 1048576) (hnm : n + m ≤ 1048576) (hb : base ≤ w.heap.size) :
    Calls Try.prog 22 #[.slice lo n lc, .slice so m sc] w fun e w' => ∃ v' V', e = .returned v' ∧ OutE w' base v' (n + m) (catE X n Y) V' ∧ Below base w w' := by
  obtain ⟨hbd, hlies⟩ := hr
  go_enter Try.func22, Try.ntmps22
  go_wp2
  go_loopw [0, 9] (fun u i wr => ∃ (k : Nat) (V' : Nat → Value), k ≤ m ∧ i = .int .i64 k ∧ OutE wr base u (n + k) (catE X n Y) V' ∧ Below base w wr) (fun _ i _ => m - (intOf i).toNat)
  case atStart => exact ⟨0, V, Nat.zero_le _, rfl, hO.congr (fun i hi => by unfold catE; rw [if_pos (by omega)]), Below.refl _ _⟩
  case round =>
    obtain ⟨k, V', hk, rfl, hOk, hBk⟩ := hrel
    obtain ⟨lo', lc', rfl⟩ := ownsRow_form hOk.own
    clear hO
    by_cases hlt : k < m
    · obtain ⟨b, off, rfl, hblt, hc⟩ := hlies.resolve_left (by omega)
      obtain ⟨da, dc, ea0, ir0⟩ := hc k hlt
      have hwk : Below w0.heap.size w0 wr := hw0.trans (hBk.mono hbs)
      have ea := ea0.keep hwk
      have ir := ir0.keep hwk
      have hbr : base ≤ wr.heap.size := Nat.le_trans hb hBk.size
      have hzk := hz k hlt
      have HC : Hid (catE X n Y (n + k) = Y k) := by unfold Hid catE; rw [if_neg (by omega)]; congr 1; omega
      generalize hx : Y k = x at *
      clear hx hc hlies ea0 ir0
      have hB1 := below_new wr (.cells #[.string x.key, .int .i64 x.seq, .int .i64 x.kind, .int .i64 x.c, .int .i64 x.s, .int .i64 x.lo, .int .i64 x.hi, .slice da x.n dc, .bool x.fu] 28)
      obtain ⟨hv, w2, hrun, hH, hb2⟩ := hist_run (wr.alloc (.cells #[.string x.key, .int .i64 x.seq, .int .i64 x.kind, .int .i64 x.c, .int .i64 x.s, .int .i64 x.lo, .int .i64 x.hi, .slice da x.n dc, .bool x.fu] 28)) da dc x (ir.keep hB1) hzk 24
      obtain ⟨ho, hoc, rfl, _⟩ := hH.row
      have N2 := (EAt.new wr x da dc 28).keep hb2
      have F2 : ∀ j, w2.frozen? ⟨wr.heap.size, j, none⟩ = false := fun j => (hb2.frozen (p := ⟨wr.heap.size, j, none⟩) (by simp)).trans (by simp [go_sem])
      have O2 := (hOk.keep hB1).keep hb2
      have ltv := hOk.own.lt
      have lth := hH.own.lt
      have ltV := fun i hi => (hOk.row i hi).own.lt
      have s2 := hb2.size
      simp at s2
      have B2 : Below base wr w2 := (hB1.mono hbr).trans (hb2.mono (by simp; omega))
      have ot3 : Others wr.heap.size w2 (w2.setCell ⟨wr.heap.size, 7, none⟩ (.slice ho x.n hoc)) := Others.setCell _ _ _ _
      have O3 : OutE (w2.setCell ⟨wr.heap.size, 7, none⟩ (.slice ho x.n hoc)) base (.slice lo' (n + k) lc') (n + k) (catE X n Y) V' := O2.kept (others_grown ot3) (fun e => by have := (ltv _ e).2; omega) (fun i hi e => by have := (ltV i hi _ e).2; omega)
      have H3 : HOwn (w2.setCell ⟨wr.heap.size, 7, none⟩ (.slice ho x.n hoc)) base (.slice ho x.n hoc) x := (hH.kept (others_grown ot3) (fun k hk e => by injection hk with hk; have := (lth k e).1; simp at this; omega)).mono (by simp; omega)
      have B3 : Below base wr (w2.setCell ⟨wr.heap.size, 7, none⟩ (.slice ho x.n hoc)) := B2.trans (ot3.below hbr)
      have s3 := ot3.size
      have hdis : ∀ q, (Value.slice ho x.n hoc).ownBlock = some q → (Value.slice lo' (n + k) lc').ownBlock ≠ some q ∧ ∀ i, i < n + k → (V' i).ownBlock ≠ some q := fun q hq => by
        have h1 := (lth q hq).1
        simp at h1
        exact ⟨fun e => by have := (ltv q e).2; omega, fun i hi e => by have := (ltV i hi q e).2; omega⟩
      obtain ⟨n0, n1, n2, n3, n4, n5, n6, n7, n8, n9⟩ := N2.z
      obtain ⟨_, a0, a1, a2, a3, a4, a5, a6, a7, a8⟩ := ea
      have b3 : base ≤ (w2.setCell ⟨wr.heap.size, 7, none⟩ (.slice ho x.n hoc)).heap.size := by rw [s3]; omega
      have hgv : ∀ q, (Value.slice lo' (n + k) lc').ownBlock = some q → base ≤ q := fun q hq => (ltv q hq).1
      have hnk : n + k ≤ 1048576 := by omega
      clear hOk hB1 hH hb2 O2 B2 ltv lth ltV ot3 N2
      have t1 : True := trivial
      have t2 : True := trivial
      go_wp2_with (first | (at_builtin; clear t1; refine wpList_append_eq _ rfl (.const (.slice none 0 0)) (.tmp 15) 24 24 rfl rfl (.slice none 0 0) (.slice da x.n dc) (.slice ho x.n hoc) rfl rfl w2 hrun ?_) | (at_builtin; clear t2; refine wpList_pushE2 (w := (w2.setCell ⟨wr.heap.size, 7, none⟩ (.slice ho x.n hoc))) w2.heap.size s3 rfl (.tmp 19) (.tmp 21) rfl base (.slice lo' (n + k) lc') (.slice ho x.n hoc) (n + k) (catE X n Y) V' x rfl O3 H3 hdis rfl hnk b3 rfl ?_; intro v8 w8 O8 g8))
      have B8 : Below base wr w8 := (B3.alloc b3 _).grown g8 (by simp; omega) (fun q hq => hgv q hq)
      have E8 := O8.congr (X' := catE X n Y) (fun i hi => by by_cases h : i = n + k <;> simp [h, HC.out])
      clear O8 g8
      go_roundw
      case rel => exact ⟨k + 1, _, by omega, by go_num, E8, hBk.trans B8⟩
      case measure => simp [intOf]; omega
    · obtain rfl : k = m := by omega
      clear hlies
      go_wp2
      refine bodyPost_ret (v := .slice lo' (n + k) lc') (by simp [results, Try.results22, go_sem]) rfl ⟨_, V', rfl, hOk, hBk⟩
end Go.Proofs.Ytiigpmhaicfocaa
namespace Go.Proofs.Ytiigpmhaicfocaa
open Go.RowKit
set_option linter.unusedSimpArgs false
set_option linter.unusedVariables false

/-- Entries and one more at its place. -/
def pX (X : Nat → Ent) (x : Ent) (P : Nat) (i : Nat) : Ent := if i < P then X i else if i = P then x else X (i - 1)
def pE (X : Nat → Ent) (n : Nat) (x : Ent) (P : Nat) : List Ent := (List.range (n + 1)).map (pX X x P)
theorem pE_len (X : Nat → Ent) (n : Nat) (x : Ent) (P : Nat) : (pE X n x P).length = n + 1 := by simp [pE]
theorem pE_at (X : Nat → Ent) (n : Nat) (x : Ent) (P : Nat) {i : Nat} (hi : i < n + 1) : eL (pE X n x P) i = pX X x P i := by
  simp [eL, pE, List.getD, hi]
/-- What may be put in. -/
def GoodP (X : Nat → Ent) (n : Nat) (x : Ent) : Prop := n < 60 ∧ GoodL X n ∧ GoodE x ∧ ¬ HasS X n x.seq

theorem ERow.pre {w : World} {ao : Option Addr} {n m : Nat} {X : Nat → Ent} (h : ERow w ao n X) (hm : m ≤ n) : ERow w ao m X := by
  obtain ⟨hbd, hl⟩ := h
  refine ⟨fun i hi => hbd i (by omega), ?_⟩
  rcases hl with rfl | ⟨b, off, rfl, hlt, hc⟩
  · exact .inl (by omega)
  · exact .inr ⟨b, off, rfl, hlt, fun i hi => hc i (by omega)⟩

theorem ERow.post {w : World} {ao : Option Addr} {n m : Nat} {X : Nat → Ent} (h : ERow w ao n X) (hm : m ≤ n) : ERow w (ao.map fun a => a.add (m * 9)) (n - m) (fun i => X (m + i)) := by
  obtain ⟨hbd, hl⟩ := h
  refine ⟨fun i hi => hbd _ (by omega), ?_⟩
  rcases hl with rfl | ⟨b, off, rfl, hlt, hc⟩
  · exact .inl (by omega)
  · refine .inr ⟨b, off + m * 9, by simp [Addr.add], hlt, fun i hi => ?_⟩
    obtain ⟨da, dc, ea, ir⟩ := hc (m + i) (by omega)
    refine ⟨da, dc, ?_, ir⟩
    have e : off + m * 9 + i * 9 = off + (m + i) * 9 := by omega
    rw [e]; exact ea
theorem pX_cat {X Y : Nat → Ent} {x d : Ent} {n P : Nat} (hY : ∀ i, i < n - P → Y i = X (P + i)) (hP : P ≤ n) : ∀ i, i < n + 1 → catE (fun i => if i = P then x else catE (fun _ => d) 0 X i) (P + 1) Y i = eL (pE X n x P) i := by
  intro i hi
  rw [pE_at X n x P hi]
  unfold catE pX
  by_cases h1 : i < P
  · simp [h1, show i < P + 1 by omega, show i ≠ P by omega]
  · by_cases h2 : i = P
    · simp [h2]
    · have h3 : ¬ i < P + 1 := by omega
      simp only [h1, h2, h3, if_false]
      rw [hY _ (by omega)]
      congr 1
      omega

set_option maxRecDepth 100000 in
set_option maxHeartbeats 4000000 in
theorem putEntry_rest (ao : Option Addr) (n cap : Nat) (hcap : n ≤ cap) (X : Nat → Ent) (x : Ent) (xo : Option Addr) (xc : Nat) (w : World) (hr : ERow w ao n X) (hx : IRow w xo x.n x.f) (hn : n < 60) (hz : ESize n X) (hzx : x.n ≤ 1048576) (hs : -9223372036854775808 ≤ x.s ∧ x.s ≤ 9223372036854775807) :
    Calls Try.prog 5 #[.slice ao n cap, .agg #[.string x.key, .int .i64 x.seq, .int .i64 x.kind, .int .i64 x.c, .int .i64 x.s, .int .i64 x.lo, .int .i64 x.hi, .slice xo x.n xc, .bool x.fu]] w fun e w' => EoO (GoodP X n x) (pE X n x (pc X n x 0)) w e w' := by
  have hB := below_new w (.cells #[.string x.key, .int .i64 x.seq, .int .i64 x.kind, .int .i64 x.c, .int .i64 x.s, .int .i64 x.lo, .int .i64 x.hi, .slice xo x.n xc, .bool x.fu] 28)
  have EX := EAt.new w x xo xc 28
  have hxl : w.heap.size < (w.alloc (.cells #[.string x.key, .int .i64 x.seq, .int .i64 x.kind, .int .i64 x.c, .int .i64 x.s, .int .i64 x.lo, .int .i64 x.hi, .slice xo x.n xc, .bool x.fu] 28)).heap.size := by simp
  obtain ⟨P, hPe⟩ : ∃ P, pc X n x 0 = P := ⟨_, rfl⟩
  have HP : Hid (pc X n x 0 = P) := hPe
  rw [hPe]
  clear hPe
  have hd60 : decide ((60 : Int) ≤ (n : Int)) = false := by simp; omega
  go_enter Try.func5, Try.ntmps5
  go_wp2_with fail
  generalize w.alloc (.cells #[.string x.key, .int .i64 x.seq, .int .i64 x.kind, .int .i64 x.c, .int .i64 x.s, .int .i64 x.lo, .int .i64 x.hi, .slice xo x.n xc, .bool x.fu] 28) = w0 at hB EX hxl ⊢
  refine (goodEntries_impl ao n cap X _ (hr.keep hB) (by omega) hz).mono ?_
  rintro e w1 ⟨b1, rfl, h1, q1⟩
  have bw1 := hB.trans (q1.mono hB.size)
  have EX1 := EX.keep q1
  have hxl1 := Nat.lt_of_lt_of_le hxl q1.size
  clear EX hxl q1
  cases b1
  · have H : Hid (¬ GoodP X n x) := fun h => by
      have := h1.2 h.2.1
      cases this
    clear h1
    go_wp2
    exact bodyPost_ret (v := .tuple #[.slice none 0 0, .bool false]) (by simp [results, Try.results5, go_sem]) rfl (.inl ⟨H.out, _, _, rfl, outE_nil _ _ _, bw1⟩)
  have HL : Hid (GoodL X n) := h1.1 rfl
  clear h1
  have EXc := EX1
  obtain ⟨_, a0, a1, a2, a3, a4, a5, a6, a7, a8⟩ := EXc
  simp only [Nat.zero_add] at a1 a2 a3 a4 a5 a6 a7 a8
  go_wp2_with fail
  refine (goodEntry_impl x xo xc _ (hx.keep bw1) hzx hs).mono ?_
  rintro e w2 ⟨b2, rfl, h2, q2⟩
  have bw2 := bw1.trans (q2.mono bw1.size)
  have EX2 := EX1.keep q2
  have hxl2 := Nat.lt_of_lt_of_le hxl1 q2.size
  clear EX1 hxl1 q2 a0 a1 a2 a3 a4 a5 a6 a7 a8
  cases b2
  · have H : Hid (¬ GoodP X n x) := fun h => by
      have := h2.2 h.2.2.1
      cases this
    clear h2
    go_wp2
    exact bodyPost_ret (v := .tuple #[.slice none 0 0, .bool false]) (by simp [results, Try.results5, go_sem]) rfl (.inl ⟨H.out, _, _, rfl, outE_nil _ _ _, bw2⟩)
  have HE : Hid (GoodE x) := h2.1 rfl
  clear h2
  have EXc := EX2
  obtain ⟨_, a0, a1, a2, a3, a4, a5, a6, a7, a8⟩ := EXc
  simp only [Nat.zero_add] at a1 a2 a3 a4 a5 a6 a7 a8
  go_wp2_with fail
  refine (hasSeq_any ao n cap X x.seq _ (hr.keep bw2) (by omega)).mono ?_
  rintro e w3 ⟨b3, rfl, h3, q3⟩
  have bw3 := bw2.trans (q3.mono bw2.size)
  have EX3 := EX2.keep q3
  have hxl3 := Nat.lt_of_lt_of_le hxl2 q3.size
  clear EX2 hxl2 q3 a0 a1 a2 a3 a4 a5 a6 a7 a8
  cases b3
  rotate_left
  · have H : Hid (¬ GoodP X n x) := fun h => h.2.2.2 (h3.1 rfl)
    clear h3
    go_wp2
    exact bodyPost_ret (v := .tuple #[.slice none 0 0, .bool false]) (by simp [results, Try.results5, go_sem]) rfl (.inl ⟨H.out, _, _, rfl, outE_nil _ _ _, bw3⟩)
  have HG : Hid (GoodP X n x) := ⟨hn, HL.out, HE.out, fun h => by have := h3.2 h; cases this⟩
  clear h3 HL HE
  have EXc := EX3
  obtain ⟨_, a0, a1, a2, a3, a4, a5, a6, a7, a8⟩ := EXc
  simp only [Nat.zero_add] at a1 a2 a3 a4 a5 a6 a7 a8
  go_wp2
  go_region_held3 (fun w' => w'.cell? ⟨w.heap.size, 0, none⟩ = some (.string x.key) ∧ w'.cell? ⟨w.heap.size, 1, none⟩ = some (.int .i64 x.seq) ∧ w'.cell? ⟨w.heap.size, 2, none⟩ = some (.int .i64 x.kind) ∧ w'.cell? ⟨w.heap.size, 3, none⟩ = some (.int .i64 x.c) ∧ w'.cell? ⟨w.heap.size, 4, none⟩ = some (.int .i64 x.s) ∧ w'.cell? ⟨w.heap.size, 5, none⟩ = some (.int .i64 x.lo) ∧ w'.cell? ⟨w.heap.size, 6, none⟩ = some (.int .i64 x.hi) ∧ w'.cell? ⟨w.heap.size, 7, none⟩ = some (.slice xo x.n xc) ∧ w'.cell? ⟨w.heap.size, 8, none⟩ = some (.bool x.fu)) (go_keep) (first | (go_at_call 20; refine (waysOf_any ao n cap _ (by omega)).mono ?_; rintro e w6 ⟨g, rfl, hg, hO6, hb6⟩; have hb6' := (Below.refl _ w3).drew.trans hb6; have bw6 := bw3.trans (hb6'.mono bw3.size); obtain ⟨_, p0, p1, p2, p3, p4, p5, p6, p7, p8⟩ := EX3.keep hb6'; simp only [Nat.zero_add] at p1 p2 p3 p4 p5 p6 p7 p8; have EX6 := EX3.keep hb6'; clear hb6) | (go_at_call 21; refine (path_ones ao n cap g X x xo xc _ (hr.keep bw6) hO6 (by omega)).mono ?_; rintro e w7 ⟨v7, rfl, hb7⟩; have bw7 := bw6.trans (hb7.mono bw6.size); obtain ⟨_, q0, q1, q2, q3, q4, q5, q6, q7, q8⟩ := EX6.keep hb7; simp only [Nat.zero_add] at q1 q2 q3 q4 q5 q6 q7 q8; have EX7 := EX6.keep hb7; clear hb7))
  have hP := (pc_le (X := X) (n := n) (e := x) (q := 0) (Nat.zero_le _)).2
  rw [HP.out] at hP ⊢
  have r7 := hr.keep bw7
  have x7 := hx.keep bw7
  have xl7 := EX7.lt
  clear HP a0 a1 a2 a3 a4 a5 a6 a7 a8 p0 p1 p2 p3 p4 p5 p6 p7 p8 q0 q1 q2 q3 q4 q5 q6 q7 q8 hO6 bw6 bw3 EX3 EX6 hg hxl3
  obtain ⟨i0, hi, hz0, hz1, hz2⟩ := info_parts Try.infoEnt
  go_wp2_with (at_make; refine wpList_make_own _ rfl (.const (.int .i64 0)) (.tmp 37) 23 rfl w7.heap.size 28 i0 _ 9 Try.underlying23 hi hz0 hz1 .i64 .i64 _ (n + 1) rfl rfl (by simp) (by rw [hz2]; omega) (by unfold maxLen; omega) (Nat.le_refl _) ?_; intro w8 hown hgrow)
  have hb8 : Below w7.heap.size w7 w8 := (Below.refl _ _).grown hgrow (Nat.le_refl _) (fun k h => by simp at h)
  have O8 : OutE w8 w7.heap.size (.slice (some ⟨w7.heap.size, 0, none⟩) 0 (n + 1)) 0 (fun _ => dE) (fun _ => .slice none 0 0) := ⟨hown, fun i hi => absurd hi (Nat.not_lt_zero _), fun i j hi => absurd hi (Nat.not_lt_zero _), fun i hi => absurd hi (Nat.not_lt_zero _)⟩
  have s8 := hb8.size
  clear hown hgrow hi hz0 hz1 hz2
  refine (addMany_any _ (n + 1) w7.heap.size 0 _ _ ao P cap X w7 w8 O8 (r7.pre hP) hb8 (Nat.le_refl _) (fun i hi => (hz i (by omega)).2) (by omega) s8).mono ?_
  rintro e w9 ⟨v9, V9, rfl, O9, hb9⟩
  rw [Nat.zero_add] at O9
  obtain ⟨lo9, lc9, rfl⟩ := ownsRow_form O9.own
  have b9 : Below w7.heap.size w7 w9 := hb8.trans hb9
  have s9 : w7.heap.size ≤ w9.heap.size := b9.size
  have EX9 := EX7.keep b9
  obtain ⟨_, a0, a1, a2, a3, a4, a5, a6, a7, a8⟩ := EX9.z
  clear O8 hb8 hb9 s8 EX7
  have N10 := EAt.new w9 x xo xc 28
  have hb10 := below_new w9 (.cells #[.string x.key, .int .i64 x.seq, .int .i64 x.kind, .int .i64 x.c, .int .i64 x.s, .int .i64 x.lo, .int .i64 x.hi, .slice xo x.n xc, .bool x.fu] 28)
  have hA := addOne_any lo9 lc9 w7.heap.size P _ V9 w9.heap.size 0 1 x xo xc (w9.alloc (.cells #[.string x.key, .int .i64 x.seq, .int .i64 x.kind, .int .i64 x.c, .int .i64 x.s, .int .i64 x.lo, .int .i64 x.hi, .slice xo x.n xc, .bool x.fu] 28)) (O9.keep hb10) N10 ((x7.keep b9).keep hb10) hzx (by omega) (by simp; omega)
  clear O9 N10
  go_wp2_with fail
  refine hA.mono ?_
  rintro e w11 ⟨v11, V11, rfl, O11, hb11⟩
  obtain ⟨lo11, lc11, rfl⟩ := ownsRow_form O11.own
  have b11 : Below w7.heap.size w7 w11 := (b9.alloc s9 _).trans hb11
  have s11 : w7.heap.size ≤ w11.heap.size := b11.size
  clear hA hb11 a0 a1 a2 a3 a4 a5 a6 a7 a8 hb10 EX9 b9
  go_wp2_with fail
  · have hnP : n - P = 0 := by omega
    rw [hnP]
    have h13 := addMany_any lo11 lc11 w7.heap.size (P + 1) _ V11 ao 0 0 X w7 w11 O11 (r7.pre (Nat.zero_le _)) b11 (Nat.le_refl _) (fun i hi => absurd hi (Nat.not_lt_zero _)) (by omega) s11
    refine h13.mono ?_
    rintro e w13 ⟨v13, V13, rfl, O13, hb13⟩
    have bw13 : Below w.heap.size w w13 := bw7.trans ((b11.trans hb13).mono bw7.size)
    obtain ⟨go, gc, rfl⟩ := ownsRow_form O13.own
    have OF : OutE w13 w.heap.size (.slice go (P + 1 + 0) gc) (pE X n x P).length (eL (pE X n x P)) V13 := by
      have e : P + 1 + 0 = n + 1 := by omega
      rw [pE_len]
      have h := O13.congr (X' := eL (pE X n x P)) (fun i hi => pX_cat (X := X) (n := n) (P := P) (x := x) (d := dE) (fun i hi => by omega) hP i (by omega))
      rw [e] at h ⊢
      exact ⟨ownsRow_mono h.own bw7.size, fun i hi => (h.row i hi).mono bw7.size, h.dis, h.apart⟩
    clear h13 O13 hb13 O11
    go_wp2
    refine bodyPost_ret (v := .tuple #[.slice go (P + 1 + 0) gc, .bool true]) (by simp [results, Try.results5, go_sem]) rfl (.inr ⟨HG.out, _, _, rfl, OF, bw13⟩)
  · have h13 := addMany_any lo11 lc11 w7.heap.size (P + 1) _ V11 (ao.map fun a => a.add (P * 9)) (n - P) (cap - P) (fun i => X (P + i)) w7 w11 O11 (r7.post hP) b11 (Nat.le_refl _) (fun i hi => (hz _ (by omega)).2) (by omega) s11
    refine h13.mono ?_
    rintro e w13 ⟨v13, V13, rfl, O13, hb13⟩
    have bw13 : Below w.heap.size w w13 := bw7.trans ((b11.trans hb13).mono bw7.size)
    obtain ⟨go, gc, rfl⟩ := ownsRow_form O13.own
    have OF : OutE w13 w.heap.size (.slice go (P + 1 + (n - P)) gc) (pE X n x P).length (eL (pE X n x P)) V13 := by
      have e : P + 1 + (n - P) = n + 1 := by omega
      rw [pE_len]
      rw [e] at O13 ⊢
      have h := O13.congr (pX_cat (X := X) (n := n) (P := P) (x := x) (d := dE) (fun i hi => rfl) hP)
      exact ⟨ownsRow_mono h.own bw7.size, fun i hi => (h.row i hi).mono bw7.size, h.dis, h.apart⟩
    clear h13 O13 hb13 O11
    go_wp2
    refine bodyPost_ret (v := .tuple #[.slice go (P + 1 + (n - P)) gc, .bool true]) (by simp [results, Try.results5, go_sem]) rfl (.inr ⟨HG.out, _, _, rfl, OF, bw13⟩)

set_option maxHeartbeats 1000000 in
theorem putEntry_impl (ao : Option Addr) (n cap : Nat) (hcap : n ≤ cap) (X : Nat → Ent) (x : Ent) (xo : Option Addr) (xc : Nat) (w : World) (hr : ERow w ao n X) (hx : IRow w xo x.n x.f) (hn : n ≤ 1048576) (hz : ESize n X) (hzx : x.n ≤ 1048576) (hs : -9223372036854775808 ≤ x.s ∧ x.s ≤ 9223372036854775807) :
    Calls Try.prog 5 #[.slice ao n cap, .agg #[.string x.key, .int .i64 x.seq, .int .i64 x.kind, .int .i64 x.c, .int .i64 x.s, .int .i64 x.lo, .int .i64 x.hi, .slice xo x.n xc, .bool x.fu]] w fun e w' => EoO (GoodP X n x) (pE X n x (pc X n x 0)) w e w' := by
  by_cases h : n < 60
  · exact putEntry_rest ao n cap hcap X x xo xc w hr hx h hz hzx hs
  have H : Hid (¬ GoodP X n x) := fun g => h g.1
  have hB := below_new w (.cells #[.string x.key, .int .i64 x.seq, .int .i64 x.kind, .int .i64 x.c, .int .i64 x.s, .int .i64 x.lo, .int .i64 x.hi, .slice xo x.n xc, .bool x.fu] 28)
  have hd60 : decide ((60 : Int) ≤ (n : Int)) = true := by simp; omega
  go_enter Try.func5, Try.ntmps5
  go_wp2
  exact bodyPost_ret (v := .tuple #[.slice none 0 0, .bool false]) (by simp [results, Try.results5, go_sem]) rfl (.inl ⟨H.out, _, _, rfl, outE_nil _ _ _, hB⟩)
end Go.Proofs.Ytiigpmhaicfocaa
