/- A table's bytes, in the model. -/
import Derived.Test.YtohjjigkfdhklaaGreatRf
import Derived.Test.YtohjjigkfdhklaaGreatFs
import Derived.Test.YtohjjigkfdhklaaGreatXp
namespace Go.Proofs.YtohjjigkfdhklaaGreat
set_option maxRecDepth 100000
open Go.RowKit Go.Shelf
set_option linter.unusedSimpArgs false
set_option linter.unusedVariables false

/-- The filter's bits of a table. -/
def fbN (X : Nat → Ent) (n : Nat) (p : Int) : Nat := (fbI (cK X n).length p).toNat
def fLt (X : Nat → Ent) (n : Nat) (p : Int) : List Int := ffl (kyF (cF X n) (fwI p).toNat (fbN X n p) (cK X n).length) (fbN X n p)
theorem fLt_len (X : Nat → Ent) (n : Nat) (p : Int) : (fLt X n p).length = fbN X n p := by unfold fLt; rw [ffl_len]
theorem fbN_le (X : Nat → Ent) (n : Nat) (p : Int) : 1 ≤ fbN X n p ∧ fbN X n p ≤ 200 := by
  have := fbI_bd (n := (cK X n).length) (p := p)
  unfold fbN
  omega

theorem blk_shiftS (X : Nat → Ent) (o k : Nat) : blk (fun i => X (o + i)) 0 k = blk X o k := by
  induction k with
  | zero => rfl
  | succ k ih =>
    rw [blk, blk, ih, Nat.zero_add]
    cases k with
    | zero => rfl
    | succ k => simp only [ahd, Nat.zero_add]
theorem FAt.grown' {w w' : World} {b : Nat} {y : Int} {v : Value} {row : Option Nat} (h : FAt w b y v) (hg : w.grownBy w' row) (hne : row ≠ some b) : FAt w' b y v :=
  ⟨Nat.lt_of_lt_of_le h.lt hg.size, hg.cell h.c0 (fun e => hne e.symm), hg.cell h.c1 (fun e => hne e.symm)⟩
/-- Two rows of the call's own. -/
structure S2 (base : Nat) (w : World) (v5 v6 : Value) (L5 L6 : List Int) : Prop where
  o5 : OwnL w base v5 L5
  o6 : OwnL w base v6 L6
  dis : ∀ g, v5.ownBlock = some g → v6.ownBlock ≠ some g
  bs : base ≤ w.heap.size
section
variable {base : Nat} {w w2 : World} {v5 v6 v : Value} {L5 L6 L : List Int}
theorem S2.keep (h : S2 base w v5 v6 L5 L6) (hb : Below w.heap.size w w2) : S2 base w2 v5 v6 L5 L6 := ⟨h.o5.keep hb, h.o6.keep hb, h.dis, Nat.le_trans h.bs hb.size⟩
theorem S2.put5 (h : S2 base w v5 v6 L5 L6) (ho : OwnL w2 base v L) (hg : w.grownBy w2 v5.ownBlock) (hn : NB w v5 v) : S2 base w2 v v6 L L6 := by
  refine ⟨ho, h.o6.kept hg (fun k e e' => h.dis k e e'), fun g e e' => ?_, Nat.le_trans h.bs hg.size⟩
  rcases hn with hn | ⟨G, hn, hG⟩
  · exact h.dis g (hn.symm.trans e) e'
  · have := (h.o6.lt g e').2
    rw [hn] at e
    injection e with e
    omega
theorem S2.put6 (h : S2 base w v5 v6 L5 L6) (ho : OwnL w2 base v L) (hg : w.grownBy w2 v6.ownBlock) (hn : NB w v6 v) : S2 base w2 v5 v L5 L := by
  refine ⟨h.o5.kept hg (fun k e e' => h.dis k e' e), ho, fun g e e' => ?_, Nat.le_trans h.bs hg.size⟩
  rcases hn with hn | ⟨G, hn, hG⟩
  · exact h.dis g e (hn.symm.trans e')
  · have := (h.o5.lt g e).2
    rw [hn] at e'
    injection e' with e'
    omega
theorem S2.below5 (h : S2 base w v5 v6 L5 L6) (hg : w.grownBy w2 v5.ownBlock) : Below base w w2 := h.o5.below (Below.refl _ _) hg (Nat.le_refl _) h.bs
theorem S2.below6 (h : S2 base w v5 v6 L5 L6) (hg : w.grownBy w2 v6.ownBlock) : Below base w w2 := h.o6.below (Below.refl _ _) hg (Nat.le_refl _) h.bs
end

set_option maxHeartbeats 16000000 in
theorem l7Build_any (b off n bc : Nat) (X : Nat → Ent) (p : Int) (w : World) (hr : ERow w (some ⟨b, off, none⟩) n X) (hn : 1 ≤ n ∧ n ≤ 100) (hcap : n ≤ bc) (hG : ∀ i, i < n → GoodE (X i)) (hp : 1 ≤ p ∧ p ≤ 20) :
    Calls Tryz.prog 29 #[.slice (some ⟨b, off, none⟩) n bc, .int .i64 p] w fun e w' => ∃ v, e = .returned v ∧ OwnL w' w.heap.size v (tbl X n (fwI p) (fLt X n p)) ∧ Below w.heap.size w w' := by
  have hK140 : ∀ i, i < n → (X i).key.size ≤ 140 := fun i hi => by have := (hG i hi).1; unfold KeyOk at this; omega
  have hnb : nbl n ≤ 25 := by unfold nbl; omega
  go_enter Tryz.func29, Tryz.ntmps29
  go_wp2
  go_loopw [5, 6, 7] (fun v5 v6 i wr => ∃ (j m5 m6 c5 c6 : Nat) (a5 a6 : Option Addr), j ≤ nbl n ∧ i = .int .i64 ((4 * j : Nat) : Int) ∧ v5 = .slice a5 m5 c5 ∧ v6 = .slice a6 m6 c6 ∧ m5 = (blks X n j).length ∧ m6 = (idx X n j).length ∧ S2 w.heap.size wr (.slice a5 (blks X n j).length c5) (.slice a6 (idx X n j).length c6) (blks X n j) (idx X n j) ∧ Below w.heap.size w wr) (fun _ _ i _ => 4 * nbl n + 4 - (intOf i).toNat)
  case atStart => exact ⟨0, 0, 0, 0, 0, none, none, Nat.zero_le _, rfl, rfl, rfl, rfl, rfl, ⟨ownL_nil _ _, ownL_nil _ _, fun g e => by simp [Value.ownBlock] at e, Nat.le_refl _⟩, Below.refl _ _⟩
  case round =>
    obtain ⟨j, m5, m6, c5, c6, a5, a6, hj, rfl, rfl, rfl, rfl, rfl, hS, hbw⟩ := hrel
    by_cases hlt : 4 * j < n
    · have hjl : j < nbl n := by unfold nbl; omega
      obtain ⟨hb1, hb2⟩ := (bsz_le n j).2 hlt
      have hb3 := (bsz_le n j).1
      have hrw := hr.keep hbw
      have hrx : ERow wr (some ⟨b, off + 4 * j * 9, none⟩) (bsz n j) (fun i => X (4 * j + i)) := by
        obtain ⟨b', off', e, hblt, hc⟩ := hrw.lies.resolve_left (by omega)
        injection e with e
        injection e with e1 e2 _
        subst e1 e2
        refine ⟨fun i hi => hr.bd _ (by omega), .inr ⟨b, _, rfl, hblt, fun i hi => ?_⟩⟩
        obtain ⟨da, dc, h1, h2⟩ := hc (4 * j + i) (by omega)
        refine ⟨da, dc, ?_, h2⟩
        rw [show off + 4 * j * 9 + i * 9 = off + (4 * j + i) * 9 from by omega]
        exact h1
      have hcall := fun bc' => l7Block_any b (off + 4 * j * 9) (bsz n j) bc' (fun i => X (4 * j + i)) wr hrx (fun i hi => hG _ (by omega)) (by omega)
      simp only [blk_shiftS] at hcall
      obtain ⟨lk, hlk⟩ : ∃ lk, lastK X n j = lk := ⟨_, rfl⟩
      have hlast : ∀ w', Below w.heap.size w w' → w'.cell? ⟨b, off + (4 * j + bsz n j - 1) * 9, none⟩ = some (.string lk) := fun w' hb' => by
        obtain ⟨b', off', e, hblt, hc⟩ := (hr.keep hb').lies.resolve_left (by omega)
        injection e with e
        injection e with e1 e2 _
        subst e1 e2
        obtain ⟨da, dc, h1, h2⟩ := hc (4 * j + bsz n j - 1) (by omega)
        rw [← hlk]
        exact h1.c0
      have hlks : lk.size ≤ 140 := by rw [← hlk]; exact hK140 _ (by omega)
      have h5l := blks_len X n j hK140
      have h6l := idx_len X n j hK140 (by omega)
      have h9l := blk_len X (4 * j) (bsz n j) fun i hi => hK140 _ (by omega)
      have HB : Hid (blks X n (j + 1) = blks X n j ++ blk X (4 * j) (bsz n j)) := rfl
      have HI : Hid (idx X n (j + 1) = idx X n j ++ (pvL (lk.size : Nat) ++ bytesOf lk ++ pvL ((blks X n j).length : Nat) ++ pvL ((blk X (4 * j) (bsz n j)).length : Nat))) := by unfold Hid; rw [idx, idR, hlk]
      obtain ⟨i4, hi4⟩ : ∃ i4, 4 * j = i4 := ⟨_, rfl⟩
      have H4 : Hid (4 * (j + 1) = i4 + 4) := by unfold Hid; omega
      have HM : Hid (4 * nbl n + 4 - i4 ≥ 4 ∧ i4 < 4 * nbl n) := by unfold Hid; omega
      have hbd : Hid (bsz n j = min 4 (n - 4 * j)) := rfl
      have hbd' := hbd.out
      rw [hi4] at hcall hlast hlt hb2 hbd' h9l HB HI ⊢
      generalize hbz : bsz n j = z at *
      generalize blks X n j = L5 at *
      generalize idx X n j = L6 at *
      generalize blk X i4 z = LB at *
      clear hrw hrx hlk hbd hi4
      have hcl : ¬ bc = i4 := by omega
      go_upto_if 25 with fail
      go_cut [8] from 25 to 27 (fun s8 wx => s8 = .int .i64 ((i4 + z : Nat) : Int) ∧ wx = wr)
      case first =>
        by_cases h4 : n < i4 + 4
        · have hz : i4 + z = n := by omega
          have h4i : (n : Int) < (i4 : Int) + 4 := by omega
          go_wp2
          go_meet
          case rel => exact ⟨by rw [hz], rfl⟩
        · have hz : z = 4 := by omega
          have h4i : ¬ (n : Int) < (i4 : Int) + 4 := by omega
          go_wp2
          go_meet
          case rel => exact ⟨by rw [hz]; go_num, rfl⟩
      case rest =>
        obtain ⟨rfl, rfl⟩ := hcut
        generalize wc = wr at *
        obtain ⟨en, hen⟩ : ∃ en, i4 + z = en := ⟨_, rfl⟩
        obtain ⟨le, hle⟩ : ∃ le, en = le + 1 := ⟨en - 1, by omega⟩
        have hle2 : i4 + z - 1 = le := by omega
        rw [hle2] at hlast
        rw [hen]
        have hz1 : en - i4 = z := by omega
        have hz2 : en ≤ bc := by omega
        have hz4 : i4 ≤ en := by omega
        have hz3 : le < n := by omega
        have hwl : IntKind.i64.wrap ((en : Int) - 1) = (le : Int) := by rw [IntKind.wrap_i64] <;> omega
        clear hbz hbd' hle hle2 hen
        go_wp2_with fail
        refine (hcall _).mono ?_
        rintro e w1 ⟨v9, rfl, o9, q1⟩
        obtain ⟨a9, c9, rfl, Z1, hz9⟩ := o9.lie
        have S1 := hS.keep q1
        have B1 := hbw.trans (q1.mono hbw.size)
        have O1 : Off w1 (.slice a6 L6.length c6) (fun b => ∃ off, a9 = some ⟨b, off, none⟩) := fun b hb => by
          obtain ⟨off, e⟩ := hb
          refine ⟨?_, hS.o6.neBlock (.inl (hz9 b off e))⟩
          rcases Z1 with ⟨e', _⟩ | ⟨b', off', e', hA⟩
          · rw [e'] at e; cases e
          · rw [e'] at e; injection e with e; injection e with e1 e2; subst e1; exact hA.lt
        have hcl1 := hlast w1 B1
        clear hcall hlast o9 hS hbw q1
        go_wp2_with fail
        refine (putVar_spec ((lk.size : Nat) : Int) _ (by omega)).mono ?_
        intro e u2 hp2
        obtain ⟨g2, k2, rfl, hg2, A2, b2⟩ := pvl_of hp2
        clear hp2
        have S2' := S1.keep b2
        have O2' := O1.keep b2
        have Z2' := Z1.keep b2
        have B2' := B1.trans (b2.mono B1.size)
        have hpl2 := pvL_le ((lk.size : Nat) : Int)
        go_wp2_with (first | (at_builtin; refine wpList_app rfl (.tmp 39) (.tmp 43) rfl w.heap.size _ L6 rfl S2'.o6 g2 0 _ k2 (pvL ((lk.size : Nat) : Int)) rfl rfl A2 (by omega) S2'.bs ?_; intro v2 w2 o2 gr2 ha2; obtain ⟨M2, HM2⟩ : ∃ M2, Hid (L6 ++ pvL ((lk.size : Nat) : Int) = M2) := ⟨_, rfl⟩; have hl2 : M2.length ≤ 20000 := (by rw [← HM2.out, List.length_append]; omega); rw [HM2.out] at o2; have S2 := S2'.put6 o2 gr2 (nb_of ha2); have O2 := O2'.put (nb_of ha2) gr2; have B2 := B2'.trans (S2'.below6 gr2); have Z2 := Z2'.grown gr2 (fun b off e => (O2' b ⟨off, e⟩).2); obtain ⟨a2, c2, rfl⟩ := o2.form) | (at_builtin; refine wpList_appT rfl (.tmp 45) (.tmp 46) rfl w.heap.size _ M2 rfl S2.o6 lk rfl (by omega) S2.bs ?_; intro v3 w3 o3 gr3 ha3; obtain ⟨M3, HM3⟩ : ∃ M3, Hid (M2 ++ bytesOf lk = M3) := ⟨_, rfl⟩; have hl3 : M3.length ≤ 20140 := (by rw [← HM3.out, List.length_append, bytesOf_len]; omega); rw [HM3.out] at o3; have S3 := S2.put6 o3 gr3 (nb_of ha3); have O3 := O2.put (nb_of ha3) gr3; have B3 := B2.trans (S2.below6 gr3); have Z3 := Z2.grown gr3 (fun b off e => (O2 b ⟨off, e⟩).2); obtain ⟨a3, c3, rfl⟩ := o3.form))
        refine (putVar_spec ((L5.length : Nat) : Int) _ (by omega)).mono ?_
        intro e u4 hp4
        obtain ⟨g4, k4, rfl, hg4, A4, b4⟩ := pvl_of hp4
        clear hp4
        have S4' := S3.keep b4
        have O4' := O3.keep b4
        have Z4' := Z3.keep b4
        have B4' := B3.trans (b4.mono B3.size)
        have hpl4 := pvL_le ((L5.length : Nat) : Int)
        go_wp2_with (first | (at_builtin; refine wpList_app rfl (.tmp 48) (.tmp 52) rfl w.heap.size _ M3 rfl S4'.o6 g4 0 _ k4 (pvL ((L5.length : Nat) : Int)) rfl rfl A4 (by omega) S4'.bs ?_; intro v4 w4 o4 gr4 ha4; obtain ⟨M4, HM4⟩ : ∃ M4, Hid (M3 ++ pvL ((L5.length : Nat) : Int) = M4) := ⟨_, rfl⟩; have hl4 : M4.length ≤ 20160 := (by rw [← HM4.out, List.length_append]; omega); rw [HM4.out] at o4; have S4 := S4'.put6 o4 gr4 (nb_of ha4); have O4 := O4'.put (nb_of ha4) gr4; have B4 := B4'.trans (S4'.below6 gr4); have Z4 := Z4'.grown gr4 (fun b off e => (O4' b ⟨off, e⟩).2); obtain ⟨a4, c4, rfl⟩ := o4.form))
        refine (putVar_spec ((LB.length : Nat) : Int) _ (by omega)).mono ?_
        intro e u5 hp5
        obtain ⟨g5, k5, rfl, hg5, A5, b5⟩ := pvl_of hp5
        clear hp5
        have S5' := S4.keep b5
        have O5' := O4.keep b5
        have Z5' := Z4.keep b5
        have B5' := B4.trans (b5.mono B4.size)
        have hpl5 := pvL_le ((LB.length : Nat) : Int)
        go_wp2_with (first | (at_builtin; refine wpList_app rfl (.tmp 54) (.tmp 58) rfl w.heap.size _ M4 rfl S5'.o6 g5 0 _ k5 (pvL ((LB.length : Nat) : Int)) rfl rfl A5 (by omega) S5'.bs ?_; intro v5 w5 o5 gr5 ha5; obtain ⟨M5, HM5⟩ : ∃ M5, Hid (M4 ++ pvL ((LB.length : Nat) : Int) = M5) := ⟨_, rfl⟩; have hl5 : M5.length ≤ 20180 := (by rw [← HM5.out, List.length_append]; omega); rw [HM5.out] at o5; have S5 := S5'.put6 o5 gr5 (nb_of ha5); have O5 := O5'.put (nb_of ha5) gr5; have B5 := B5'.trans (S5'.below6 gr5); have Z5 := Z5'.grown gr5 (fun b off e => (O5' b ⟨off, e⟩).2); obtain ⟨a5x, c5x, rfl⟩ := o5.form) | (at_builtin; refine wpList_appL rfl (.tmp 60) (.tmp 61) rfl w.heap.size _ L5 rfl S5.o5 a9 LB.length c9 LB rfl rfl Z5 (by omega) S5.bs ?_; intro v6' w6 o6 gr6 ha6; obtain ⟨M6, HM6⟩ : ∃ M6, Hid (L5 ++ LB = M6) := ⟨_, rfl⟩; rw [HM6.out] at o6; have S6 := S5.put5 o6 gr6 (nb_of ha6); have B6 := B5.trans (S5.below5 gr6); obtain ⟨a6', c6', rfl⟩ := o6.form))
        have HF6 : Hid (idx X n (j + 1) = M5) := by
          unfold Hid
          rw [HI.out, ← HM5.out, ← HM4.out, ← HM3.out, ← HM2.out]
          simp only [List.append_assoc]
        have HF5 : Hid (blks X n (j + 1) = M6) := by unfold Hid; rw [HB.out, HM6.out]
        go_roundw
        case rel => exact ⟨j + 1, _, _, c6', c5x, a6', a5x, hjl, by rw [H4.out]; go_num, rfl, rfl, by rw [HF5.out], by rw [HF6.out], by rw [HF5.out, HF6.out]; exact S6, B6⟩
        case measure => have := HM.out; simp [intOf]; omega
    · obtain rfl : j = nbl n := by unfold nbl at *; omega
      have h5l := blks_len X n (nbl n) hK140
      have h6l := idx_len X n (nbl n) hK140 (Nat.le_refl _)
      have hcl := cK_len X n
      have hbn := fbN_le X n p
      have hfw := @fwI_bd p
      have ey : fwI p = ((fwI p).toNat : Int) := by omega
      have em : fbI (cK X n).length p = ((fbN X n p : Nat) : Int) := by have := fbI_bd (n := (cK X n).length) (p := p); unfold fbN; omega
      have HT : Hid (tbl X n (fwI p) (fLt X n p) = blks X n (nbl n) ++ [((fwI p).toNat : Int)] ++ fLt X n p ++ idx X n (nbl n) ++ pfL ((blks X n (nbl n)).length : Nat) 4 ++ pfL ((blks X n (nbl n) ++ [((fwI p).toNat : Int)] ++ fLt X n p).length : Nat) 4 ++ pfL (n : Nat) 4 ++ pfL (crcL (blks X n (nbl n) ++ [((fwI p).toNat : Int)] ++ fLt X n p ++ idx X n (nbl n) ++ pfL ((blks X n (nbl n)).length : Nat) 4 ++ pfL ((blks X n (nbl n) ++ [((fwI p).toNat : Int)] ++ fLt X n p).length : Nat) 4 ++ pfL (n : Nat) 4)) 4 ++ [84, 66, 76, 49]) := by
        unfold Hid tbl bodyT
        rw [← ey]
        simp only [List.append_assoc]
      have hfl := fLt_len X n p
      have hsz : TSz (cF X n) (cK X n).length := ⟨by omega, fun i hi => by have := cF_size hK140 hi; omega⟩
      have hF := fun ao cap w' h => l6Filter_any ao (cK X n).length cap (cF X n) p (fwI p).toNat (fbN X n p) w' h hsz (by omega) hp ey em
      rw [show ffl (kyF (cF X n) (fwI p).toNat (fbN X n p) (cK X n).length) (fbN X n p) = fLt X n p from rfl] at hF
      have hcallK := l7Keys_any b off n bc X wr (hr.keep hbw) (by omega)
      generalize blks X n (nbl n) = L5 at *
      generalize idx X n (nbl n) = L6 at *
      generalize hLF : fLt X n p = LF at *
      have HLF : Hid (fLt X n p = LF) := hLF
      clear hLF
      generalize hyy : (fwI p).toNat = yy at *
      generalize fbN X n p = mm at *
      have hy8 : 1 ≤ yy ∧ yy ≤ 8 := by omega
      clear ey em hsz
      go_wp2_with fail
      refine hcallK.mono ?_
      rintro e w1 ⟨ko, kc, rfl, kr, q1⟩
      have S1 := hS.keep q1
      have B1 := hbw.trans (q1.mono hbw.size)
      clear hcallK hS hbw
      go_wp2_with fail
      refine (hF ko kc w1 kr).mono ?_
      rintro e w2 ⟨fa, fc, rfl, hBV, q2⟩
      have S2' := S1.keep q2
      have B2' := B1.trans (q2.mono B1.size)
      obtain ⟨gf, of, rfl, AF⟩ : ∃ g off, fa = some ⟨g, off, none⟩ ∧ At w2 g off LF := by
        rcases hBV.is with ⟨_, h0⟩ | ⟨g, off, e, _, _, ho⟩
        · rw [h0] at hfl; simp at hfl; omega
        · exact ⟨g, off, e, hBV.bd, ho.lt, ho.cell⟩
      have hgf : w1.heap.size ≤ gf := by
        rcases hBV.is with ⟨e, _⟩ | ⟨g, off, e, h1, _, _⟩
        · cases e
        · injection e with e; injection e with e1 e2; omega
      have hBx := below_new w2 (.cells #[.int .i64 (yy : Nat), .slice (some ⟨gf, of, none⟩) mm fc] 55)
      have F2 := FAt.new w2 (yy : Nat) (.slice (some ⟨gf, of, none⟩) mm fc) 55
      have S2 := S2'.keep hBx
      have B2 := B2'.trans (hBx.mono B2'.size)
      have A2 := AF.keep hBx
      have ne2 : (Value.slice a5 L5.length c5).ownBlock ≠ some w2.heap.size := S2'.o5.neBlock (.inl (Nat.le_refl _))
      have ng2 : (Value.slice a5 L5.length c5).ownBlock ≠ some gf := S1.o5.neBlock (.inl hgf)
      have hwy : IntKind.u8.wrap (yy : Int) = (yy : Int) := by rw [IntKind.wrap_u8]; omega
      obtain ⟨flt, f0, f1⟩ := F2
      have F2 : FAt _ w2.heap.size (yy : Nat) (.slice (some ⟨gf, of, none⟩) mm fc) := ⟨flt, f0, f1⟩
      have hglt := A2.lt
      clear hBV hBx S1 S2' B2' kr hF AF
      go_upto_region 16 with fail
      generalize hw3 : w2.alloc (.cells #[.int .i64 (yy : Nat), .slice (some ⟨gf, of, none⟩) mm fc] 55) = w3 at *
      clear hw3
      generalize w2.heap.size = FB at *
      go_wp2_with (first
        | (at_builtin; refine wpList_app rfl (.tmp 69) (.tmp 73) rfl w.heap.size _ L5 rfl (S2.keep (below_new _ _)).o5 w3.heap.size 0 1 1 [(yy : Int)] rfl rfl (byte_new w3 (yy : Int) (by omega) _) (by simp only [List.length_cons, List.length_nil]; omega) (S2.keep (below_new _ _)).bs ?_; intro v4 w4 o4 gr4 ha4; obtain ⟨M4, HM4⟩ : ∃ M4, Hid (L5 ++ [(yy : Int)] = M4) := ⟨_, rfl⟩; have hl4 : M4.length ≤ 40001 := (by rw [← HM4.out, List.length_append, List.length_singleton]; omega); rw [HM4.out] at o4; have S4 := (S2.keep (below_new _ _)).put5 o4 gr4 (nb_of ha4); have B4 := (B2.trans ((below_new w3 _).mono B2.size)).trans ((S2.keep (below_new _ _)).below5 gr4); have F4 : FAt w4 FB (yy : Nat) (.slice (some ⟨gf, of, none⟩) mm fc) := (F2.keep (below_new _ _)).grown' gr4 ne2; have A4 := (A2.keep (below_new _ _)).grown gr4 ng2; obtain ⟨a4, c4, rfl⟩ := o4.form; obtain ⟨_, t0, t1⟩ := F4)
        | (at_builtin; refine wpList_app rfl (.tmp 75) (.tmp 77) rfl w.heap.size _ M4 rfl S4.o5 gf of mm fc LF rfl hfl.symm A4 (by omega) S4.bs ?_; intro v5 w5 o5 gr5 ha5; obtain ⟨M5, HM5⟩ : ∃ M5, Hid (M4 ++ LF = M5) := ⟨_, rfl⟩; have hl5 : M5.length ≤ 40201 := (by rw [← HM5.out, List.length_append]; omega); rw [HM5.out] at o5; have S5 := S4.put5 o5 gr5 (nb_of ha5); have B5 := B4.trans (S4.below5 gr5); obtain ⟨a5', c5', rfl⟩ := o5.form; obtain ⟨a6', c6', e6, Z6, _⟩ := S5.o6.lie; injection e6 with e61 _ e63; subst e61 e63)
        | (at_builtin; refine wpList_appL rfl (.tmp 81) (.tmp 82) rfl w.heap.size _ M5 rfl S5.o5 a6 L6.length c6 L6 rfl rfl Z6 (by omega) S5.bs ?_; intro v6 w6 o6 gr6 ha6; obtain ⟨M6, HM6⟩ : ∃ M6, Hid (M5 ++ L6 = M6) := ⟨_, rfl⟩; have hl6 : M6.length ≤ 50000 := (by rw [← HM6.out, List.length_append]; omega); rw [HM6.out] at o6; have S6 := S5.put5 o6 gr6 (nb_of ha6); have B6 := B5.trans (S5.below5 gr6); obtain ⟨a6', c6', rfl⟩ := o6.form))
      refine (l1Fixed_any ((L5.length : Nat) : Int) 4 _ (by omega) (by omega) (by omega)).mono ?_
      rintro e u7 ⟨g7, k7, rfl, hg7, ho7, b7⟩
      have S7' := S6.keep b7
      have B7' := B6.trans (b7.mono B6.size)
      have hf7 := pfL_length ((L5.length : Nat) : Int) 4
      have A7 := pfL_at ho7
      go_wp2_with (first | (at_builtin; refine wpList_app rfl (.tmp 84) (.tmp 86) rfl w.heap.size _ M6 rfl S7'.o5 g7 0 4 k7 (pfL ((L5.length : Nat) : Int) 4) rfl hf7.symm A7 (by omega) S7'.bs ?_; intro v7 w7 o7 gr7 ha7; obtain ⟨M7, HM7⟩ : ∃ M7, Hid (M6 ++ pfL ((L5.length : Nat) : Int) 4 = M7) := ⟨_, rfl⟩; have hl7 : M7.length ≤ 50004 := (by rw [← HM7.out, List.length_append, hf7]; omega); rw [HM7.out] at o7; have S7 := S7'.put5 o7 gr7 (nb_of ha7); have B7 := B7'.trans (S7'.below5 gr7); obtain ⟨a7, c7, rfl⟩ := o7.form))
      refine (l1Fixed_any ((M5.length : Nat) : Int) 4 _ (by omega) (by omega) (by omega)).mono ?_
      rintro e u8 ⟨g8, k8, rfl, hg8, ho8, b8⟩
      have S8' := S7.keep b8
      have B8' := B7.trans (b8.mono B7.size)
      have hf8 := pfL_length ((M5.length : Nat) : Int) 4
      have A8 := pfL_at ho8
      go_wp2_with (first | (at_builtin; refine wpList_app rfl (.tmp 88) (.tmp 90) rfl w.heap.size _ M7 rfl S8'.o5 g8 0 4 k8 (pfL ((M5.length : Nat) : Int) 4) rfl hf8.symm A8 (by omega) S8'.bs ?_; intro v8 w8 o8 gr8 ha8; obtain ⟨M8, HM8⟩ : ∃ M8, Hid (M7 ++ pfL ((M5.length : Nat) : Int) 4 = M8) := ⟨_, rfl⟩; have hl8 : M8.length ≤ 50008 := (by rw [← HM8.out, List.length_append, hf8]; omega); rw [HM8.out] at o8; have S8 := S8'.put5 o8 gr8 (nb_of ha8); have B8 := B8'.trans (S8'.below5 gr8); obtain ⟨a8, c8, rfl⟩ := o8.form))
      refine (l1Fixed_any ((n : Nat) : Int) 4 _ (by omega) (by omega) (by omega)).mono ?_
      rintro e u9 ⟨g9, k9, rfl, hg9, ho9, b9⟩
      have S9' := S8.keep b9
      have B9' := B8.trans (b9.mono B8.size)
      have hf9 := pfL_length ((n : Nat) : Int) 4
      have A9 := pfL_at ho9
      go_wp2_with (first | (at_builtin; refine wpList_app rfl (.tmp 92) (.tmp 95) rfl w.heap.size _ M8 rfl S9'.o5 g9 0 4 k9 (pfL ((n : Nat) : Int) 4) rfl hf9.symm A9 (by omega) S9'.bs ?_; intro v9 w9 o9 gr9 ha9; obtain ⟨M9, HM9⟩ : ∃ M9, Hid (M8 ++ pfL ((n : Nat) : Int) 4 = M9) := ⟨_, rfl⟩; have hl9 : M9.length ≤ 50012 := (by rw [← HM9.out, List.length_append, hf9]; omega); rw [HM9.out] at o9; have S9 := S9'.put5 o9 gr9 (nb_of ha9); have B9 := B9'.trans (S9'.below5 gr9); obtain ⟨a9, c9, rfl⟩ := o9.form))
      refine (crc_spec a9 M9.length c9 (fl M9) w9 S9.o5.rowOf (by omega)).mono ?_
      rintro e w10 ⟨he, q10⟩
      rw [show crcOf (fl M9) M9.length = crcL M9 from rfl] at he
      subst he
      have S10 := S9.keep q10
      have B10 := B9.trans (q10.mono B9.size)
      have hcb := crcL_bd M9
      have hwc : IntKind.i64.wrap (crcL M9) = crcL M9 := by rw [IntKind.wrap_i64]; omega
      generalize hcc : crcL M9 = cc at *
      go_wp2_with fail
      refine (l1Fixed_any (cc) 4 _ (by omega) (by omega) (by omega)).mono ?_
      rintro e u11 ⟨g11, k11, rfl, hg11, ho11, b11⟩
      have S11' := S10.keep b11
      have B11' := B10.trans (b11.mono B10.size)
      have hf11 := pfL_length (cc) 4
      have A11 := pfL_at ho11
      go_wp2_with (first | (at_builtin; refine wpList_app rfl (.tmp 97) (.tmp 101) rfl w.heap.size _ M9 rfl S11'.o5 g11 0 4 k11 (pfL (cc) 4) rfl hf11.symm A11 (by omega) S11'.bs ?_; intro v11 w11 o11 gr11 ha11; obtain ⟨M11, HM11⟩ : ∃ M11, Hid (M9 ++ pfL (cc) 4 = M11) := ⟨_, rfl⟩; have hl11 : M11.length ≤ 50016 := (by rw [← HM11.out, List.length_append, hf11]; omega); rw [HM11.out] at o11; have S11 := S11'.put5 o11 gr11 (nb_of ha11); have B11 := B11'.trans (S11'.below5 gr11); obtain ⟨a11, c11, rfl⟩ := o11.form) | (at_builtin; refine wpList_app rfl (.tmp 103) (.tmp 104) rfl w.heap.size _ M11 rfl (S11.keep (below_new _ _)).o5 w11.heap.size 0 4 4 [84, 66, 76, 49] rfl rfl (at_new w11 [84, 66, 76, 49] (by intro x hx; simp at hx; omega) _) (by simp only [List.length_cons, List.length_nil]; omega) (S11.keep (below_new _ _)).bs ?_; intro v12 w12 o12 gr12 ha12; have B12 := (B11.trans ((below_new w11 _).mono B11.size)).trans ((S11.keep (below_new _ _)).below5 gr12)))
      go_ret
      refine ⟨_, rfl, ?_, B12⟩
      have HF : tbl X n (fwI p) LF = M11 ++ [84, 66, 76, 49] := by
        rw [HT.out, HM4.out, HM5.out, HM6.out, HM7.out, HM8.out, HM9.out, hcc, HM11.out]
      rw [HLF.out, HF]
      exact o12
end Go.Proofs.YtohjjigkfdhklaaGreat
