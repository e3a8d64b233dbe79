/- The program: whether a filter is that of the keys. / ReadFilter in the program, of bytes that lie anywhere. / Entries as they are read: in one form, as rows, free to be written; what a table's bytes tell of them. -/
import Derived.Test.YtohjjigkfdhklaaGreatDc
import Derived.Test.YtohjjigkfdhklaaGreatFs
import Derived.Test.YtohjjigkfdhklaaGreatRf
import Derived.Test.YtohjjigkfdhklaaGreatCf
import Derived.Test.YtohjjigkfdhklaaGreatKt
namespace Go.Proofs.YtohjjigkfdhklaaGreat
set_option maxRecDepth 100000
open Go.RowKit
set_option linter.unusedSimpArgs false
set_option linter.unusedVariables false

/-- y ways and the bits F are the filter of the keys at perKey p. -/
def isF (K : Nat → ByteArray) (n : Nat) (y : Int) (F : List Int) (p : Int) : Prop := y = fwI p ∧ F = ffl (kyF K (fwI p).toNat (fbI n p).toNat n) (fbI n p).toNat

set_option maxHeartbeats 3200000 in
theorem isFilterOf_any (fo : Option Addr) (fc : Nat) (y : Int) (F : List Int) (ao : Option Addr) (n cap : Nat) (K : Nat → ByteArray) (w : World) (hF : Row w fo F.length (fl F)) (hFB : Byt F) (hr : TRow w ao n K) (hz : TSz K n) (hn : n ≤ 100) :
    Calls Tryz.prog 91 #[.agg #[.int .i64 y, .slice fo F.length fc], .slice ao n cap] w fun e w' => Ans (∃ p : Int, (1 ≤ p ∧ p ≤ 20) ∧ isF K n y F p) w e w' := by
  have hB0 := below_new w (.cells #[.int .i64 y, .slice fo F.length fc] 55)
  have B0 := FAt.new w y (.slice fo F.length fc) 55
  have bws := hB0.size
  generalize hFl : F.length = fn at *
  have HFl : Hid (F.length = fn) := hFl
  clear hFl
  go_enter Tryz.func91, Tryz.ntmps91
  go_wp2
  generalize w.alloc (.cells #[.int .i64 y, .slice fo fn fc] 55) = w0 at *
  go_loopw [5] (fun i wr => ∃ k : Nat, 1 ≤ k ∧ k ≤ 21 ∧ i = .int .i64 k ∧ Hid (∀ q : Int, 1 ≤ q → q < k → ¬ isF K n y F q) ∧ FAt wr w.heap.size y (.slice fo fn fc) ∧ Below w.heap.size w wr) (fun i _ => 21 - (intOf i).toNat)
  case atStart => exact ⟨1, by omega, by omega, rfl, (fun q h1 h2 => by omega), B0, hB0⟩
  case round =>
    obtain ⟨k, hk1, hk, rfl, HN, hbx, bw⟩ := hrel
    by_cases hlt : k ≤ 20
    · have hki : (k : Int) ≤ 20 := by omega
      have hcall := filterOf_impl ao n cap K k wr (hr.keep bw) hz
      have hg : FOg n (k : Int) := ⟨hn, by omega, by omega⟩
      go_wp2_with fail
      refine hcall.mono ?_
      rintro e w1 ⟨hyes, _⟩
      obtain ⟨go, gc, rfl, hV, q1⟩ := hyes hg
      have hx1 := hbx.keep q1
      have bw1 := bw.trans (q1.mono bw.size)
      have q2 := below_new w1 (.cells #[.int .i64 (fwI k), .slice go (ffl (kyF K (fwI k).toNat (fbI n k).toNat n) (fbI n k).toNat).length gc] 55)
      have M2 := FAt.new w1 (fwI k) (.slice go (ffl (kyF K (fwI k).toNat (fbI n k).toNat n) (fbI n k).toNat).length gc) 55
      have hx2 := hx1.keep q2
      have V2 := hV.row.keep q2
      have bw2 := bw1.trans (q2.mono bw1.size)
      have hLB : Byt (ffl (kyF K (fwI k).toNat (fbI n k).toNat n) (fbI n k).toNat) := hV.bd
      have F2 := hF.keep bw2
      have HI : Hid (isF K n y F k ↔ (y = fwI k ∧ F = ffl (kyF K (fwI k).toNat (fbI n k).toNat n) (fbI n k).toNat)) := Iff.rfl
      generalize ffl (kyF K (fwI k).toNat (fbI n k).toNat n) (fbI n k).toNat = L at *
      generalize fwI (k : Int) = y' at *
      have hbe := bytesEqual_any go fo L F gc fc (w1.alloc (.cells #[.int .i64 y', .slice go L.length gc] 55)) V2 (by rw [HFl.out]; exact F2) hLB hFB
      rw [HFl.out] at hbe
      obtain ⟨_, d0, d1⟩ := id hx2
      obtain ⟨_, e0, e1⟩ := id M2
      clear hyes hcall hg hV q1 hx1 q2 hbx bw1 V2 F2
      by_cases hy : y' = y
      · have hyb : (y' == y) = true := by simp [hy]
        have HY : Hid (y' = y) := hy
        clear hy
        by_cases hLF : L = F
        · have hq : decide (L = F) = true := by simp [hLF]
          rw [hq] at hbe
          have HT : Hid (isF K n y F k) := HI.out.2 ⟨HY.out.symm, hLF.symm⟩
          clear hLF hq
          go_wp2_with fail
          refine hbe.mono ?_
          rintro e w3 ⟨rfl, rfl⟩
          go_wp2
          go_ret
          exact ⟨true, rfl, by simp only [true_iff]; exact ⟨k, ⟨by omega, by omega⟩, HT.out⟩, bw2⟩
        · have hq : decide (L = F) = false := by simp [hLF]
          rw [hq] at hbe
          have HT : Hid (¬ isF K n y F k) := fun h => hLF (HI.out.1 h).2.symm
          clear hLF hq
          go_wp2_with fail
          refine hbe.mono ?_
          rintro e w3 ⟨rfl, rfl⟩
          go_wp2
          go_roundw
          case rel =>
            refine ⟨k + 1, by omega, by omega, by go_num, (fun q h1 h2 => ?_), hx2, bw2⟩
            by_cases e : q = k
            · subst e; exact HT.out
            · exact HN.out q h1 (by omega)
          case measure => simp [intOf]; omega
      · have hyb : (y' == y) = false := by simp [hy]
        have HT : Hid (¬ isF K n y F k) := fun h => hy (HI.out.1 h).1.symm
        clear hy
        go_wp2
        go_roundw
        case rel =>
          refine ⟨k + 1, by omega, by omega, by go_num, (fun q h1 h2 => ?_), hx2, bw2⟩
          by_cases e : q = k
          · subst e; exact HT.out
          · exact HN.out q h1 (by omega)
        case measure => simp [intOf]; omega
    · obtain rfl : k = 21 := by omega
      go_wp2
      go_ret
      exact ⟨false, rfl, by simp only [Bool.false_eq_true, false_iff]; rintro ⟨p, ⟨h1, h2⟩, h3⟩; exact HN.out p h1 (by omega) h3, bw⟩
end Go.Proofs.YtohjjigkfdhklaaGreat
namespace Go.Proofs.YtohjjigkfdhklaaGreat
set_option maxRecDepth 100000
open Go.RowKit
set_option linter.unusedSimpArgs false
set_option linter.unusedVariables false

theorem Row.cell {w : World} {b off n i : Nat} {f : Nat → Int} (h : Row w (some ⟨b, off, none⟩) n f) (hi : i < n) : w.cell? ⟨b, off + i, none⟩ = some (.int .u8 (f i)) := by
  obtain ⟨b', o', e, hb, hc⟩ := h.lies.resolve_left (by omega)
  injection e with e
  injection e with e1 e2 _
  subst e1 e2
  exact hc i hi
theorem Row.lt {w : World} {b off n : Nat} {f : Nat → Int} (h : Row w (some ⟨b, off, none⟩) n f) (hn : 0 < n) : b < w.heap.size := by
  obtain ⟨b', o', e, hb, hc⟩ := h.lies.resolve_left (by omega)
  injection e with e
  injection e with e1 e2 _
  subst e1
  exact hb
theorem rf_copyR (cap : Nat) {w w2 w3 : World} {b off m n ub : Nat} {f : Nat → Int} {y : Int} {v : Value} (hbd : ∀ i, 0 ≤ f i ∧ f i ≤ 255) (hm : m = n - 1) (h0 : ¬ n = 0) (hsw : w.heap.size ≤ w2.heap.size) (hb3 : Below w2.heap.size w2 w3) (ho : Own w3 w2.heap.size 0 m (fun _ => 0)) (R2 : Row w2 (some ⟨b, off, none⟩) n f) (F2 : FAt w2 ub y v) (Z2 : FAt w2 w.heap.size 0 (.slice none 0 0)) (fz2 : ∀ j, w2.frozen? ⟨w.heap.size, j, none⟩ = false) (B2 : Below w.heap.size w w2) :
    ∃ w4, (Builtin.copy_ #[22, 22] 3 #[.slice (some ⟨w2.heap.size, 0, none⟩) m m, .slice (some ⟨b, off + 1, none⟩) m (cap - 1)]).run Tryz.prog w3 = .ok (.int .i64 m) w4 ∧ Hid (Own w4 w2.heap.size 0 m (fun i => f (i + 1))) ∧ FAt w4 ub y v ∧ FAt w4 w.heap.size 0 (.slice none 0 0) ∧ w4.frozen? ⟨w.heap.size, 0, none⟩ = false ∧ w4.frozen? ⟨w.heap.size, 1, none⟩ = false ∧ Below w.heap.size w w4 := by
  obtain ⟨w4, hrun, o4, q4⟩ := copyB_run w3 w2.heap.size m 0 m m b (off + 1) (cap - 1) _ (fun i => f (i + 1)) ho (by omega) (fun i => hbd (i + 1)) (fun i hi => by
    have h1 := (R2.keep hb3).cell (i := i + 1) (by omega)
    rw [← h1, show off + (i + 1) = off + 1 + i by omega])
  have fz4 : ∀ j, w4.frozen? ⟨w.heap.size, j, none⟩ = false := fun j => (World.frozen?_of_block (w := w3) (a := ⟨w.heap.size, j, none⟩) (q4.block w.heap.size (by have := Z2.lt; omega))).trans ((hb3.frozen (p := ⟨w.heap.size, j, none⟩) Z2.lt).trans (fz2 j))
  exact ⟨w4, hrun, o4.congr (fun i => hbd (i + 1)) (fun i hi => by simp [hi]), (F2.keep hb3).mid (Mid.of_others (B := w2.heap.size) (U := w2.heap.size + 1) q4 (Nat.le_refl _) (by omega)) (by have := F2.lt; omega), (Z2.keep hb3).mid (Mid.of_others (B := w2.heap.size) (U := w2.heap.size + 1) q4 (Nat.le_refl _) (by omega)) (by have := Z2.lt; omega), fz4 0, fz4 1, (B2.trans (hb3.mono hsw)).trans (q4.below hsw)⟩

set_option maxHeartbeats 1000000 in
theorem readFilter_row (b off n cap : Nat) (f : Nat → Int) (w : World) (hr : Row w (some ⟨b, off, none⟩) n f) (hn : n ≤ 1048576) (hcap : n ≤ cap) :
    Calls Tryz.prog 90 #[.slice (some ⟨b, off, none⟩) n cap] w fun e w' => RFO n f w e w' := by
  obtain ⟨i0, hi, hz0, hz1, hz2⟩ := info_parts Tryz.info5
  by_cases h0 : n = 0
  · subst h0
    have hB : Below w.heap.size w ((w.alloc (.cells #[.int .i64 0, .slice none 0 0] 55)).setCell ⟨w.heap.size, 0, none⟩ (.int .i64 0)) := (below_new w _).setCell (p := ⟨w.heap.size, 0, none⟩) (Nat.le_refl _) _
    go_enter Tryz.func90, Tryz.ntmps90
    go_wp2
    refine bodyPost_ret (v := .tuple #[.agg #[.int .i64 0, .slice none 0 0], .bool false]) (by simp [results, Tryz.results90, go_sem]) rfl ⟨fun h => absurd h.1 (by omega), fun _ => ro_zero ?_⟩
    repeat' refine Below.setCell ?_ (by first | (simp; done) | (simp; omega)) _
    exact below_new w _
  · have hblt := hr.lt (by omega)
    have c0 := hr.cell (i := 0) (by omega)
    have hb0 := hr.bd 0
    have hd1 : decide ((n : Int) < 1) = false := by simp; omega
    simp only [Nat.add_zero] at c0
    have W0 := below_new w (.cells #[.int .i64 0, .slice none 0 0] 55)
    have Z0 := FAt.new w 0 (.slice none 0 0) 55
    have c1 : (w.alloc (.cells #[.int .i64 0, .slice none 0 0] 55)).cell? ⟨b, off, none⟩ = some (.int .u8 (f 0)) := (W0.cell (p := ⟨b, off, none⟩) hblt).trans c0
    have hn0 : (0 : Int) < (n : Int) := by omega
    have hn1 : (1 : Int) ≤ (n : Int) := by omega
    have hn2 : 0 < n := by omega
    have hn1' : ¬ (n : Int) < 1 := by omega
    have hwf : IntKind.i64.wrap (f 0) = f 0 := by rw [IntKind.wrap_i64] <;> omega
    have hne := World.new_ne (w.alloc (.cells #[.int .i64 0, .slice none 0 0] 55)) _ c1
    have hfz : ∀ j, (w.alloc (.cells #[.int .i64 0, .slice none 0 0] 55)).frozen? ⟨w.heap.size, j, none⟩ = false := fun j => by simp [go_sem]
    obtain ⟨A, hA⟩ : ∃ A : Option Addr, (if cap = 1 then some ⟨b, off, none⟩ else some ⟨b, off + 1, none⟩) = A := ⟨_, rfl⟩
    have HA : Hid (n ≠ 1 → A = some ⟨b, off + 1, none⟩) := fun h => by rw [← hA, if_neg (by omega)]
    go_enter Tryz.func90, Tryz.ntmps90
    go_wp2
    generalize w.alloc (.cells #[.int .i64 0, .slice none 0 0] 55) = u at *
    go_region_held3 (fun w' => w'.cell? ⟨b, off, none⟩ = some (.int .u8 (f 0))) (go_keep) (fail)
    clear hA hne
    have D1 : Below u.heap.size u (u.alloc (.cells #[.int .i64 (f 0), .slice A (n - 1) (cap - 1)] 55)).drew := (below_new u _).drew
    have F1 : FAt (u.alloc (.cells #[.int .i64 (f 0), .slice A (n - 1) (cap - 1)] 55)).drew u.heap.size (f 0) (.slice A (n - 1) (cap - 1)) := (FAt.new u (f 0) (.slice A (n - 1) (cap - 1)) 55).keep (Below.refl _ _).drew
    have Z1 := Z0.keep D1
    have R1 := (hr.keep W0).keep D1
    have B1 : Below w.heap.size w (u.alloc (.cells #[.int .i64 (f 0), .slice A (n - 1) (cap - 1)] 55)).drew := W0.trans (D1.mono W0.size)
    have fz1 : ∀ j, (u.alloc (.cells #[.int .i64 (f 0), .slice A (n - 1) (cap - 1)] 55)).drew.frozen? ⟨w.heap.size, j, none⟩ = false := fun j => (D1.frozen (p := ⟨w.heap.size, j, none⟩) Z0.lt).trans (hfz j)
    have hzu := Z0.lt
    clear Z0 c1 D1 hfz W0
    generalize (u.alloc (.cells #[.int .i64 (f 0), .slice A (n - 1) (cap - 1)] 55)).drew = w1 at *
    obtain ⟨lf, f0, f1⟩ := id F1
    go_wp2_with fail
    refine (goodFilter_impl (f 0) A (n - 1) (cap - 1) _ (by omega)).mono ?_
    rintro e w2 ⟨b2, rfl, h2, q2⟩
    have Z2 := Z1.keep q2
    have F2 := F1.keep q2
    have R2 := R1.keep q2
    have B2 : Below w.heap.size w w2 := B1.trans (q2.mono B1.size)
    have fz2 : ∀ j, w2.frozen? ⟨w.heap.size, j, none⟩ = false := fun j => (q2.frozen (p := ⟨w.heap.size, j, none⟩) Z1.lt).trans (fz1 j)
    clear Z1 F1 R1 B1 fz1 q2 lf f0 f1
    obtain ⟨lz, z0, z1⟩ := id Z2
    obtain ⟨lf, f0, f1⟩ := id F2
    have g0 := fz2 0
    have g1 := fz2 1
    cases b2
    · have K : Hid (¬ IsFl n f) := fun h => by
        have := h2.2 h.2
        cases this
      clear h2
      go_wp2
      refine bodyPost_ret (v := .tuple #[.agg #[.int .i64 0, .slice none 0 0], .bool false]) (by simp [results, Tryz.results90, go_sem, z0, z1]) rfl ⟨fun h => absurd h K.out, fun _ => ro_zero ?_⟩
      repeat' refine Below.setCell ?_ (by first | (simp; done) | (simp; omega)) _
      exact B2
    · have hg := h2.1 rfl
      have HG : Hid (IsFl n f) := ⟨by omega, hg⟩
      obtain ⟨⟨hy1, hy8⟩, hm1, hm2⟩ := hg
      obtain rfl := HA.out (by omega)
      obtain ⟨m, hm⟩ : ∃ m, m = n - 1 := ⟨_, rfl⟩
      rw [← hm] at f1 hm1 hm2 F2
      rw [← hm]
      have HM : Hid (m = n - 1) := hm
      have hm3 : n ≤ 201 := by omega
      clear HA h2 hm
      have hsw := B2.size
      go_wp2_with (at_make; refine wpList_make_full _ rfl (.tmp 23) (.tmp 23) 22 rfl w2.heap.size 5 i0 (.int .u8 0) 1 Tryz.underlying22 hi hz0 hz1 .i64 .i64 _ _ m rfl rfl rfl rfl (by rw [hz2]; omega) (by unfold maxLen; omega) (Nat.le_refl _) ?_; intro w3 hown hgrow; obtain ⟨hb3, ho⟩ := made_facts hown hgrow; clear hown hgrow; have F3 := F2.keep hb3; obtain ⟨_, f0', f1'⟩ := F3; obtain ⟨w4, hrun, HO, F4, Z4, h4, h5, B4⟩ := rf_copyR cap hr.bd HM.out h0 hsw hb3 ho R2 F2 Z2 fz2 B2; obtain ⟨lf4, p0, p1⟩ := F4; obtain ⟨lz4, r0, r1⟩ := Z4; have hzl := Z2.lt; clear ho lf f0 f1 lz z0 z1 F2 Z2 R2 fz2 g0 g1 hb3)
      refine bodyPost_ret (v := .tuple #[.agg #[.int .i64 (f 0), .slice (some ⟨w2.heap.size, 0, none⟩) m m], .bool true]) (by simp [results, Tryz.results90, go_sem, r0, r1]) rfl ⟨fun _ => ?_, fun h => absurd HG.out h⟩
      refine ⟨some ⟨w2.heap.size, 0, none⟩, m, by rw [ffl_len, HM.out], ?_, ?_⟩
      · refine ⟨ffl_byt (fun i => hr.bd (i + 1)), Nat.le_refl _, .inr ⟨w2.heap.size, 0, rfl, hsw, by simp; exact HO.out.lt, ?_⟩⟩
        rw [ffl_len, ← HM.out]
        refine Own.congr (f := fun i => f (i + 1)) ?_ (Byt.fl (ffl_byt (fun i => hr.bd (i + 1)))) (fun i hi => by rw [ffl_fl hi])
        repeat' refine (Others.setCell _ _ _ _).row ?_ (by omega)
        exact HO.out
      · repeat' refine Below.setCell ?_ (by first | (simp; done) | (simp; omega)) _
        exact B4

end Go.Proofs.YtohjjigkfdhklaaGreat
namespace Go.Proofs.YtohjjigkfdhklaaGreat
set_option maxRecDepth 100000
open Go.RowKit
set_option linter.unusedSimpArgs false
set_option linter.unusedVariables false

/-- An entry whose Hist is nothing beyond its end. -/
def nrE (x : Ent) : Ent := ⟨x.key, x.seq, x.kind, x.c, x.s, x.lo, x.hi, x.n, fun i => if i < x.n then x.f i else 0, x.fu⟩
theorem ey_nr {f : Nat → Int} {n q q' : Nat} {ah : ByteArray} {x : Ent} (h : EY f n q ah x q') : EY f n q ah (nrE x) q' := by
  obtain ⟨sh, rs, mn, q1, q2, q3, q5, h1, h2, h3, h4, h5, h6, h7, h8, h9, h10, h11⟩ := h
  refine ⟨sh, rs, mn, q1, q2, q3, q5, h1, h2, h3, h4, h5, h6, h7, h8, h9, ?_, h11⟩
  rcases h10 with ⟨a, b⟩ | ⟨a, N, b1, b2, b3, b4, b5, b6, b7, b8⟩
  · exact .inl ⟨a, b⟩
  · refine .inr ⟨a, N, b1, b2, b3, b4, b5, b6, fun i hi => ?_, b8⟩
    show (if i < x.n then x.f i else 0) = _
    rw [if_pos (by omega)]
    exact b7 i hi
theorem ahR_nr (X : Nat → Ent) (k : Nat) : ahR (fun i => nrE (X i)) k = ahR X k := rfl
theorem rdK_nr {f : Nat → Int} {n k q : Nat} {X : Nat → Ent} (h : RdK f n X k q) : RdK f n (fun i => nrE (X i)) k q := by
  obtain ⟨P, h0, h1, h2⟩ := h
  exact ⟨P, h0, h1, fun i hi => ⟨(h2 i hi).1, by rw [ahR_nr]; exact ey_nr (h2 i hi).2⟩⟩
theorem HRow.nr {w : World} {base : Nat} {hv v : Value} {x : Ent} (h : HRow w base hv x v) : HRow w base hv (nrE x) v := by
  obtain ⟨lo, lc, e, h | ⟨G, e2, h1, h2, h3⟩⟩ := h
  · exact ⟨lo, lc, e, .inl h⟩
  · refine ⟨lo, lc, e, .inr ⟨G, e2, h1, h2.congr (fun i => ?_) (fun i hi => ?_), h3⟩⟩
    · show _ ≤ (if i < x.n then x.f i else 0) ∧ (if i < x.n then x.f i else 0) ≤ _
      have := h2.bd i
      split <;> omega
    · show x.f i = if i < x.n then x.f i else 0
      rw [if_pos hi]
theorem HRow.lower {w : World} {base base2 : Nat} {hv v : Value} {x : Ent} (h : HRow w base hv x v) (hb : base2 ≤ base) : HRow w base2 hv x v := by
  obtain ⟨lo, lc, e, h | ⟨G, e2, h1, h2, h3⟩⟩ := h
  · exact ⟨lo, lc, e, .inl h⟩
  · exact ⟨lo, lc, e, .inr ⟨G, e2, by omega, h2, h3⟩⟩
theorem OutH.lower {w : World} {base base2 : Nat} {v : Value} {n : Nat} {X : Nat → Ent} {V : Nat → Value} (h : OutH w base v n X V) (hb : base2 ≤ base) : OutH w base2 v n X V :=
  ⟨ownsRow_mono h.own hb, fun i hi => (h.row i hi).lower hb, h.dis⟩
theorem OutH.nr {w : World} {base : Nat} {v : Value} {n : Nat} {X : Nat → Ent} {V : Nat → Value} (h : OutH w base v n X V) : OutH w base v n (fun i => nrE (X i)) V :=
  ⟨h.own, fun i hi => (h.row i hi).nr, h.dis⟩
theorem HRow.io {w : World} {base : Nat} {hv v : Value} {x : Ent} (h : HRow w base hv (nrE x) v) : ∃ lo lc, hv = .slice lo (nrE x).n lc ∧ IRow w lo (nrE x).n (nrE x).f := by
  obtain ⟨lo, lc, e, h | ⟨G, e2, h1, h2, h3⟩⟩ := h
  · refine ⟨lo, lc, e, ⟨fun i => ?_, .inl h.1⟩⟩
    have h0 : x.n = 0 := h.1
    show _ ≤ (if i < x.n then x.f i else 0) ∧ (if i < x.n then x.f i else 0) ≤ _
    rw [if_neg (by omega)]
    omega
  · refine ⟨lo, lc, e, ?_⟩
    rw [e2]
    exact h2.row
/-- What is read is no greater than a number may be. -/
theorem ey_eb {f : Nat → Int} {n q q' : Nat} {ah : ByteArray} {x : Ent} (h : EY f n q ah x q') (hk : x.key.size ≤ 9223372036854775807) : EB x := by
  obtain ⟨sh, rs, mn, q1, q2, q3, q5, h1, h2, h3, h4, h5, h6, h7, h8, h9, h10, h11⟩ := h
  have hp := rdNum_pos h3
  refine ⟨by omega, ?_, hk, ?_⟩
  · rcases h10 with ⟨a, b1, b2, _⟩ | ⟨a, N, ⟨_, _, _, hG⟩, b2, b3, _⟩
    · omega
    · have hc : 0 ≤ fi N 0 ∧ fi N 0 ≤ 1000000000 := by have := hG.1; simpa [isC, btw] using this
      rw [b3]
      cases hfu : (fun i => f (q5 + rs.toNat + i)) 0 == 1
      · have := (hG.2.2.2.1 hfu).2
        omega
      · have := (hG.2.2.2.2.1 hfu).1
        omega
  · rcases h10 with ⟨a, b1, b2, b3, b4, b5, b6⟩ | ⟨a, N, _, b2, b3, b4, b5, b6, _⟩ <;> omega
theorem ey_n {f : Nat → Int} {n q q' : Nat} {ah : ByteArray} {x : Ent} (h : EY f n q ah x q') : x.n ≤ 8 := by
  obtain ⟨sh, rs, mn, q1, q2, q3, q5, h1, h2, h3, h4, h5, h6, h7, h8, h9, h10, h11⟩ := h
  rcases h10 with ⟨a, b1, b2, b3, b4, b5, b6⟩ | ⟨a, N, _, b2, b3, b4, b5, b6, _⟩ <;> omega
theorem rdK_key {f : Nat → Int} {n : Nat} {X : Nat → Ent} {k q : Nat} (h : RdK f n X k q) : ∀ i, i < k → (X i).key.size ≤ 2 * n := by
  obtain ⟨P, h0, h1, h2⟩ := h
  have key : ∀ i, i < k → (X i).key.size ≤ P (i + 1) := by
    intro i
    induction i with
    | zero =>
      intro hi
      have := ey_size (h2 0 hi).2
      have e : ahR X 0 = ByteArray.empty := rfl
      rw [e] at this
      have e0 : ByteArray.empty.size = 0 := rfl
      omega
    | succ i ih =>
      intro hi
      have h3 := ey_size (h2 (i + 1) hi).2
      have h4 := ih (by omega)
      have h5 : (ahR X (i + 1)).size ≤ P (i + 1) := by
        unfold ahR
        split
        · have e0 : ByteArray.empty.size = 0 := rfl
          omega
        · exact h4
      omega
  intro i hi
  have := key i hi
  have hs := (h2 i hi).1
  by_cases e : i + 1 < k
  · have := (h2 (i + 1) e).1
    omega
  · have h6 := (h2 i hi).2
    obtain ⟨sh, rs, mn, q1, q2, q3, q5, g1, g2, g3, g4, g5, g6, g7, g8, g9, g10, g11⟩ := h6
    rcases g10 with ⟨a, _⟩ | ⟨a, N, ⟨b, _⟩, _⟩ <;> omega
theorem rdK_eb {f : Nat → Int} {n : Nat} {X : Nat → Ent} {k q : Nat} (h : RdK f n X k q) (hn : n ≤ 8000) : (∀ i, i < k → EB (X i)) ∧ ESize k X := by
  have hk := rdK_key h
  obtain ⟨P, h0, h1, h2⟩ := h
  exact ⟨fun i hi => ey_eb (h2 i hi).2 (by have := hk i hi; omega), fun i hi => ⟨by have := hk i hi; omega, by have := ey_n (h2 i hi).2; omega⟩⟩
theorem fm9_len (n : Nat) (X : Nat → Ent) (V : Nat → Value) : ((List.range n).flatMap fun i => ecells (X i) (V i)).length = n * 9 := by
  induction n with
  | zero => rfl
  | succ n ih => rw [List.range_succ, List.flatMap_append, List.length_append, ih]; simp [ecells]; omega
theorem fm9_get (n : Nat) (X : Nat → Ent) (V : Nat → Value) {i j : Nat} (hi : i < n) (hj : j < 9) : ((List.range n).flatMap fun i => ecells (X i) (V i))[i * 9 + j]? = (ecells (X i) (V i))[j]? := by
  induction n with
  | zero => omega
  | succ n ih =>
    rw [List.range_succ, List.flatMap_append]
    by_cases h : i < n
    · rw [List.getElem?_append_left (by rw [fm9_len]; omega), ih h]
    · obtain rfl : i = n := by omega
      rw [List.getElem?_append_right (by rw [fm9_len]; omega), fm9_len, Nat.add_sub_cancel_left]
      simp
/-- Entries of a row of the call's own, as entries that are read. -/
theorem erow_of {w : World} {base : Nat} {v : Value} {n : Nat} {X : Nat → Ent} {V : Nat → Value} (h : w.ownsRow base 35 9 v n ((List.range n).flatMap fun i => ecells (X i) (V i)))
    (hrow : ∀ i, i < n → ∃ lo lc, V i = .slice lo (X i).n lc ∧ IRow w lo (X i).n (X i).f) (hbd : ∀ i, i < n → EB (X i)) : ∃ ao cap, v = .slice ao n cap ∧ ERow w ao n X := by
  rcases h.2 with ⟨rfl, h0⟩ | ⟨g, cap, cur, rfl, hbg, hg, hnc, _⟩
  · exact ⟨none, 0, by rw [h0], hbd, .inl h0⟩
  · have hlt := (Array.getElem?_eq_some_iff.1 hg).1
    refine ⟨some ⟨g, 0, none⟩, cap, rfl, hbd, .inr ⟨g, 0, rfl, hlt, fun i hi => ?_⟩⟩
    obtain ⟨lo, lc, hV, hr⟩ := hrow i hi
    have c : ∀ j, j < 9 → w.cell? ⟨g, i * 9 + j, none⟩ = (ecells (X i) (V i))[j]? := fun j hj => by rw [h.cellAt (i * 9 + j) (by omega), fm9_get n X V hi hj]
    rw [hV] at c
    refine ⟨lo, lc, ?_, hr⟩
    rw [Nat.zero_add]
    exact ⟨hlt, c 0 (by omega), c 1 (by omega), c 2 (by omega), c 3 (by omega), c 4 (by omega), c 5 (by omega), c 6 (by omega), c 7 (by omega), c 8 (by omega)⟩
theorem OutH.erow {w : World} {base : Nat} {v : Value} {n : Nat} {X : Nat → Ent} {V : Nat → Value} (h : OutH w base v n (fun i => nrE (X i)) V) (hbd : ∀ i, i < n → EB (nrE (X i))) (hn : 0 < n) :
    ∃ g cap, v = .slice (some ⟨g, 0, none⟩) n cap ∧ n ≤ cap ∧ base ≤ g ∧ ERow w (some ⟨g, 0, none⟩) n (fun i => nrE (X i)) := by
  obtain ⟨ao, c, e, hr⟩ := erow_of h.own (fun i hi => (h.row i hi).io) hbd
  rcases h.own.2 with ⟨_, h0⟩ | ⟨g, cap, cur, e2, hbg, hg, hnc, _⟩
  · omega
  · rw [e] at e2
    injection e2 with e3 e4 e5
    subst e3
    exact ⟨g, c, e, by omega, hbg, hr⟩
theorem OutH.ce {w : World} {base : Nat} {v : Value} {n : Nat} {X : Nat → Ent} {V : Nat → Value} (h : OutH w base v n X V) (hn : 0 < n) :
    ∃ g cap L C, v = .slice (some ⟨g, 0, none⟩) n cap ∧ n ≤ cap ∧ base ≤ g ∧ CE w g n X L C ∧ ∀ i, i < n → 0 < (X i).n → ∀ c, L i = some ⟨c, 0, none⟩ → base ≤ c := by
  rcases h.own.2 with ⟨_, h0⟩ | ⟨g, cap, cur, rfl, hbg, hg, hnc, _⟩
  · omega
  · have hlt := (Array.getElem?_eq_some_iff.1 hg).1
    have key : ∀ i, ∃ p : Option Addr × Nat, i < n → V i = .slice p.1 (X i).n p.2 ∧ ((X i).n = 0 ∨ ∃ c, p.1 = some ⟨c, 0, none⟩ ∧ base ≤ c ∧ (V i).ownBlock = some c ∧ g ≠ c ∧ IOwn w c 0 (X i).n (X i).f) := by
      intro i
      by_cases hi : i < n
      · obtain ⟨lo, lc, h1, h2 | ⟨G, h2, h3, h4, h5⟩⟩ := h.row i hi
        · exact ⟨(lo, lc), fun _ => ⟨h1, .inl h2.1⟩⟩
        · exact ⟨(lo, lc), fun _ => ⟨h1, .inr ⟨G, h2, h3, by rw [h1, h2]; rfl, fun e => h5 (by rw [e]; rfl), h4⟩⟩⟩
      · exact ⟨(none, 0), fun hh => absurd hh hi⟩
    obtain ⟨P, hP⟩ := Classical.axiomOfChoice key
    have c : ∀ i j, i < n → j < 9 → w.cell? ⟨g, i * 9 + j, none⟩ = (ecells (X i) (V i))[j]? := fun i j hi hj => by rw [h.own.cellAt (i * 9 + j) (by omega), fm9_get n X V hi hj]
    refine ⟨g, cap, fun i => (P i).1, fun i => (P i).2, rfl, by omega, hbg, ⟨hlt, fun i hi => ?_, fun j _ => by simpa using h.own.frozenAt j, fun i hi => ?_, fun i j hi hj hij h1 h2 q hL1 hL2 => ?_⟩, fun i hi h0 q hL => ?_⟩
    · have cc := fun j hj => c i j hi hj
      rw [(hP i hi).1] at cc
      exact ⟨hlt, cc 0 (by omega), cc 1 (by omega), cc 2 (by omega), cc 3 (by omega), cc 4 (by omega), cc 5 (by omega), cc 6 (by omega), cc 7 (by omega), cc 8 (by omega)⟩
    · rcases (hP i hi).2 with h0 | ⟨q, h1, _, h3, h4, h5⟩
      · exact .inl h0
      · exact .inr ⟨q, h1, fun e => h4 e.symm, h5⟩
    · obtain ⟨q1, a1, _, a3, _⟩ := (hP i hi).2.resolve_left (by omega)
      obtain ⟨q2, b1, _, b3, _⟩ := (hP j hj).2.resolve_left (by omega)
      have e1 : q1 = q := by have hh : (P i).1 = some ⟨q, 0, none⟩ := hL1; rw [a1] at hh; injection hh with hh; injection hh
      have e2 : q2 = q := by have hh : (P j).1 = some ⟨q, 0, none⟩ := hL2; rw [b1] at hh; injection hh with hh; injection hh
      exact h.dis i j hi hj hij q1 a3 (by rw [b3, e1, e2])
    · obtain ⟨q1, a1, a2, _⟩ := (hP i hi).2.resolve_left (by omega)
      have e1 : q1 = q := by have hh : (P i).1 = some ⟨q, 0, none⟩ := hL; rw [a1] at hh; injection hh with hh; injection hh
      omega
theorem isTb_seg {f : Nat → Int} {n : Nat} {X : Nat → Ent} {m : Nat} {p : Int} (h : IsTb f n X m p) : segL f 0 n = tbP X m p := by
  obtain ⟨_, hl, hs⟩ := h
  unfold segL
  rw [← hl]
  exact seg_list hs
theorem isTb_of {f : Nat → Int} {n : Nat} {X : Nat → Ent} {m : Nat} {p : Int} (hF : FitT X m) (hp : 1 ≤ p ∧ p ≤ 20) (hn : n ≤ 8000) (e : tbP X m p = segL f 0 n) : IsTb f n X m p := by
  refine ⟨⟨hF, hp, by rw [e, segL_len]; exact hn⟩, by rw [e, segL_len], fun i hi => ?_⟩
  rw [e, segL_len] at hi
  rw [e, segL_fl hi]
/-- What is read of a table's bytes is the table's. -/
theorem IsTb.meet {f : Nat → Int} {n : Nat} {Y : Nat → Ent} {m : Nat} {q : Int} (h : IsTb f n Y m q) {A : Nat} (hA : num f (n - 20) 4 = (A : Int)) {X : Nat → Ent} {k : Nat} (hR : RdK f A X k A) : k = m ∧ Alike Y X k ∧ FitT X k := by
  have e : tA Y m = A := by have := h.plc.2.2.2.2.2.1; omega
  have r := h.rd
  rw [e] at r
  obtain ⟨e2, hS⟩ := rdK_all r hR
  subst e2
  have ha : Alike Y X m := fun i hi => ⟨hS i hi, h.1.1.2.1 i hi⟩
  exact ⟨rfl, ha, ha.fit h.1.1⟩
theorem IsTb.filter {f : Nat → Int} {n : Nat} {Y : Nat → Ent} {m : Nat} {q : Int} (h : IsTb f n Y m q) {A B : Nat} (hA : num f (n - 20) 4 = (A : Int)) (hB : num f (n - 16) 4 = (B : Int)) :
    A ≤ B ∧ B + 20 ≤ n ∧ IsFl (B - A) (fun i => f (A + i)) ∧ f A = fwI q ∧ ffl (fun i => f (A + (i + 1))) (B - A - 1) = fLt Y m q := by
  obtain ⟨_, h2, _, h4, h5, h6, h7, _⟩ := h.plc
  have e : tA Y m = A := by omega
  have e2 : tB Y m q = B := by omega
  have e3 : B = A + 1 + fbN Y m q := by rw [← e2, ← e]; rfl
  have hf := fbN_le Y m q
  have hw := @fwI_bd q
  rw [e] at h4 h5
  refine ⟨by omega, by omega, ⟨by omega, ?_, by omega, by omega⟩, h4, ?_⟩
  · show 1 ≤ f (A + 0) ∧ f (A + 0) ≤ 8
    rw [Nat.add_zero, h4]
    exact hw
  · have := seg_list h5
    rw [fLt_len] at this
    rw [← this, show B - A - 1 = fbN Y m q by omega]
    unfold ffl
    exact List.map_congr_left fun i _ => by rw [show A + (i + 1) = A + 1 + i by omega]
/-- The filter is that of the keys. -/
theorem isF_iff (X : Nat → Ent) (k : Nat) (y : Int) (F : List Int) (p : Int) : isF (cF X k) (cK X k).length y F p ↔ y = fwI p ∧ F = fLt X k p := Iff.rfl
end Go.Proofs.YtohjjigkfdhklaaGreat
