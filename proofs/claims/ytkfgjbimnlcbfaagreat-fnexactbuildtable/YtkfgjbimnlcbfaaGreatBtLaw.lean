/- What BuildTable answers. / BuildTable in the program. / BuildTable in the model. / The law of BuildTable. -/
import Derived.Test.YtkfgjbimnlcbfaaGreatTw
import Derived.Test.YtkfgjbimnlcbfaaGreatBd
import Derived.Test.YtkfgjbimnlcbfaaGreatGoI
import Derived.Test.YtkfgjbimnlcbfaaGreatGoS
import Derived.Test.YtkfgjbimnlcbfaaGreatFo
import Derived.Test.YtkfgjbimnlcbfaaGreatKt
import Derived.Test.YtkfgjbimnlcbfaaGreatBV
namespace Go.Proofs.YtkfgjbimnlcbfaaGreat
set_option maxRecDepth 100000
open Go.RowKit Go.Shelf
set_option linter.unusedSimpArgs false
set_option linter.unusedVariables false

/-- Entries of which a table may be made. -/
def FitT (X : Nat → Ent) (n : Nat) : Prop := (1 ≤ n ∧ n ≤ 100) ∧ GoodL X n
set_option maxHeartbeats 1600000 in
theorem fitTable_any (b off n bc : Nat) (X : Nat → Ent) (w : World) (hr : ERow w (some ⟨b, off, none⟩) n X) (hn : n ≤ 1048576) (hz : ESize n X) :
    Calls Tryz.prog 34 #[.slice (some ⟨b, off, none⟩) n bc] w fun e w' => Ans (FitT X n) w e w' := by
  by_cases h1 : 1 ≤ n
  · by_cases h2 : n ≤ 100
    · have hc := goodEntries_impl (some ⟨b, off, none⟩) n bc X w hr hn hz
      have h1i : (1 : Int) ≤ (n : Int) := by omega
      have h2i : (n : Int) ≤ 100 := by omega
      go_enter Tryz.func34, Tryz.ntmps34
      go_wp2_with fail
      refine hc.mono ?_
      rintro e w1 ⟨bb, rfl, hb, q1⟩
      have H : Hid (bb = true ↔ FitT X n) := ⟨fun h => ⟨⟨h1, h2⟩, hb.1 h⟩, fun h => hb.2 h.2⟩
      clear hc hb
      cases bb
      · go_wp2
        go_ret
        exact ⟨false, rfl, H.out, q1⟩
      · go_wp2
        go_ret
        exact ⟨true, rfl, by simpa using H.out, q1⟩
    · have H : Hid (false = true ↔ FitT X n) := ⟨fun h => by simp at h, fun h => absurd h.1.2 h2⟩
      have h2i : ¬ (n : Int) ≤ 100 := by omega
      have h1i : (1 : Int) ≤ (n : Int) := by omega
      go_enter Tryz.func34, Tryz.ntmps34
      go_wp2
      go_ret
      exact ⟨false, rfl, H.out, Below.refl _ _⟩
  · have H : Hid (false = true ↔ FitT X n) := ⟨fun h => by simp at h, fun h => absurd h.1.1 h1⟩
    have h1i : ¬ (1 : Int) ≤ (n : Int) := by omega
    go_enter Tryz.func34, Tryz.ntmps34
    go_wp2
    go_ret
    exact ⟨false, rfl, H.out, Below.refl _ _⟩

/-- The table's bytes of entries and perKey. -/
def tbP (X : Nat → Ent) (n : Nat) (p : Int) : List Int := tbl X n (fwI p) (fLt X n p)
/-- There is a table. -/
def BTg (X : Nat → Ent) (n : Nat) (p : Int) : Prop := FitT X n ∧ (1 ≤ p ∧ p ≤ 20) ∧ (tbP X n p).length ≤ 8000
/-- What BuildTable answers. -/
def BTO (X : Nat → Ent) (n : Nat) (p : Int) (w : World) (e : Ending) (w' : World) : Prop := (BTg X n p → FO (tbP X n p) true w e w') ∧ (¬ BTg X n p → FO [] false w e w')
theorem bto_no {X : Nat → Ent} {n : Nat} {p : Int} {w w' : World} (h : ¬ BTg X n p) (hb : Below w.heap.size w w') : BTO X n p w (.returned (.tuple #[.slice none 0 0, .bool false])) w' :=
  ⟨fun h' => absurd h' h, fun _ => ⟨none, 0, rfl, bv_nil _ _ _ (Nat.le_refl _), hb⟩⟩
theorem bto_yes {X : Nat → Ent} {n : Nat} {p : Int} {w w' : World} {v : Value} (h : BTg X n p) (ho : OwnL w' w.heap.size v (tbP X n p)) (hb : Below w.heap.size w w') : BTO X n p w (.returned (.tuple #[v, .bool true])) w' := by
  refine ⟨fun _ => ?_, fun h' => absurd h h'⟩
  obtain ⟨ao, c, rfl, hB⟩ := bv_of ho
  exact ⟨ao, c, rfl, hB, hb⟩
theorem ffl_self (L : List Int) : ffl (fl L) L.length = L := by
  refine List.ext_getElem (by rw [ffl_len]) fun i h1 h2 => ?_
  simp [ffl, fl, h2]
theorem OwnL.at_lower {w : World} {base base' : Nat} {v : Value} {L : List Int} (h : OwnL w base v L) (hb : base' ≤ base) : OwnL w base' v L := h.mono hb

end Go.Proofs.YtkfgjbimnlcbfaaGreat

namespace Go.Proofs.YtkfgjbimnlcbfaaGreat
set_option maxRecDepth 100000
open Go.RowKit Go.Shelf
set_option linter.unusedSimpArgs false
set_option linter.unusedVariables false

set_option maxHeartbeats 3200000 in
theorem buildTable_impl (b off n bc : Nat) (X : Nat → Ent) (p : Int) (w : World) (hr : ERow w (some ⟨b, off, none⟩) n X) (hn : n ≤ 1048576) (hz : ESize n X) (hcap : n ≤ bc) :
    Calls Tryz.prog 10 #[.slice (some ⟨b, off, none⟩) n bc, .int .i64 p] w fun e w' => BTO X n p w e w' := by
  have hf := fitTable_any b off n bc X w hr hn hz
  go_enter Tryz.func10, Tryz.ntmps10
  go_wp2_with fail
  refine hf.mono ?_
  rintro e w1 ⟨bb, rfl, hb, q1⟩
  cases bb
  · have hF : ¬ FitT X n := fun h => by simpa using hb.2 h
    have HN : Hid (¬ BTg X n p) := fun h => hF h.1
    clear hf hb hF
    go_wp2
    exact bodyPost_ret (v := .tuple #[.slice none 0 0, .bool false]) (by simp [results, Tryz.results10, go_sem]) rfl (bto_no HN.out q1)
  · have hF : FitT X n := hb.1 rfl
    have hk := keysOf_any b off n bc X w1 (hr.keep q1) (by have := hF.1; omega)
    have hcl := cK_len X n
    have hn100 := hF.1.2
    have hK140 : ∀ i, i < n → (X i).key.size ≤ 140 := fun i hi => by have := (hF.2.1 i hi).1; unfold KeyOk at this; omega
    have hts : TSz (cF X n) (cK X n).length := ⟨by omega, fun i hi => by have := cF_size hK140 hi; omega⟩
    clear hf hb
    go_wp2_with fail
    refine hk.mono ?_
    rintro e w2 ⟨ko, kc, rfl, kr, q2⟩
    have bw2 := q1.trans (q2.mono q1.size)
    have hfo := filterOf_impl ko (cK X n).length kc (cF X n) p w2 kr hts
    generalize hkl : (cK X n).length = kl at *
    clear hk
    go_wp2_with fail
    refine hfo.mono ?_
    intro e w3 hO
    by_cases hp : 1 ≤ p ∧ p ≤ 20
    · obtain ⟨fa, fc, rfl, hBV, q3⟩ := hO.1 ⟨by omega, hp⟩
      have bw3 := bw2.trans (q3.mono bw2.size)
      have hB4 := below_new w3 (.cells #[.int .i64 (fwI p), .slice fa (ffl (kyF (cF X n) (fwI p).toNat (fbI kl p).toNat kl) (fbI kl p).toNat).length fc] 62)
      have hRow := hBV.row.keep hB4
      have hfw := @fwI_bd p
      have hfb := fbI_bd (n := kl) (p := p)
      have hLe : ffl (kyF (cF X n) (fwI p).toNat (fbI kl p).toNat kl) (fbI kl p).toNat = fLt X n p := by unfold fLt fbN; rw [hkl]
      rw [hLe] at hRow hB4 hBV ⊢
      have hll : (fLt X n p).length = (fbI kl p).toNat := by rw [fLt_len]; unfold fbN; rw [hkl]
      have bw4 := bw3.trans (hB4.mono bw3.size)
      have hsz4 := bw4.size
      have hcall := tableBytes_any b off n bc X (fwI p) fa (fLt X n p).length fc (fl (fLt X n p)) _ (hr.keep bw4) hF.1 hcap hF.2.1 hRow ⟨hfw, by omega, by omega⟩ (by omega)
      rw [ffl_self] at hcall
      clear hfo hO hLe hRow hBV kr hll
      generalize hLF : fLt X n p = LF at *
      have HT : Hid (tbl X n (fwI p) LF = tbP X n p) := by unfold Hid tbP; rw [hLF]
      rw [HT.out] at hcall
      clear hLF
      obtain ⟨T, hTP0⟩ : ∃ T, T = tbP X n p := ⟨_, rfl⟩
      rw [← hTP0] at hcall
      have hTP : Hid (T = tbP X n p) := hTP0
      clear hTP0
      go_wp2_with fail
      refine hcall.mono ?_
      rintro e w5 ⟨v5, rfl, o5, q5⟩
      have bw5 := bw4.trans (q5.mono bw4.size)
      have o5' := o5.mono hsz4
      obtain ⟨a5, c5, rfl⟩ := o5.form
      clear hcall o5
      by_cases h8 : T.length ≤ 8000
      · have HY : Hid (BTO X n p w (.returned (.tuple #[.slice a5 T.length c5, .bool true])) w5) := by
          unfold Hid
          rw [hTP.out] at h8 o5' ⊢
          exact bto_yes ⟨hF, hp, h8⟩ o5' bw5
        have h8i : ¬ (8000 : Int) < (T.length : Int) := by omega
        clear o5'
        go_wp2
        exact bodyPost_ret (v := .tuple #[.slice a5 T.length c5, .bool true]) (by simp [results, Tryz.results10, go_sem]) rfl HY.out
      · have HN : Hid (¬ BTg X n p) := fun h => h8 (by rw [hTP.out]; exact h.2.2)
        have h8i : (8000 : Int) < (T.length : Int) := by omega
        clear o5'
        go_wp2
        exact bodyPost_ret (v := .tuple #[.slice none 0 0, .bool false]) (by simp [results, Tryz.results10, go_sem]) rfl (bto_no HN.out bw5)
    · obtain ⟨fa, fc, rfl, hBV, q3⟩ := hO.2 (fun h => hp h.2)
      have HN : Hid (¬ BTg X n p) := fun h => hp h.2.1
      have bw3 := bw2.trans (q3.mono bw2.size)
      clear hfo hO hp
      go_wp2
      exact bodyPost_ret (v := .tuple #[.slice none 0 0, .bool false]) (by simp [results, Tryz.results10, go_sem]) rfl (bto_no HN.out (bw3.trans ((below_new _ _).mono bw3.size)))

end Go.Proofs.YtkfgjbimnlcbfaaGreat

namespace Go.Proofs.YtkfgjbimnlcbfaaGreat
set_option maxRecDepth 100000
open Go.RowKit Go.Shelf
set_option linter.unusedSimpArgs false
set_option linter.unusedVariables false

set_option maxHeartbeats 3200000 in
theorem buildTable_spec (b off n bc : Nat) (X : Nat → Ent) (p : Int) (w : World) (hr : ERow w (some ⟨b, off, none⟩) n X) (hn : n ≤ 1048576) (hz : ESize n X) (hcap : n ≤ bc) :
    Calls Tryz.prog 11 #[.slice (some ⟨b, off, none⟩) n bc, .int .i64 p] w fun e w' => BTO X n p w e w' := by
  have fin : ∀ W, ¬ BTg X n p → Below w.heap.size w W → BTO X n p w (.returned (.tuple #[.slice none 0 0, .bool false])) W := fun W h hb => bto_no h hb
  by_cases h1 : 1 ≤ n ∧ n ≤ 100
  · have c1 := fun W => l1In_yes (n : Int) 1 100 W (by omega) (by omega)
    have c2 := goodEntries_spec (some ⟨b, off, none⟩) n bc X w hr hn hz
    go_enter Tryz.func11, Tryz.ntmps11
    go_wp2_with fail
    refine (c1 _).mono ?_
    rintro e w1 ⟨rfl, hw1⟩
    subst w1
    go_wp2_with fail
    refine c2.mono ?_
    rintro e w2 ⟨bb, rfl, hb, q2⟩
    cases bb
    · have HN : Hid (¬ BTg X n p) := fun h => by simpa using hb.2 h.1.2
      clear c2 hb
      go_wp2
      exact bodyPost_ret (v := .tuple #[.slice none 0 0, .bool false]) (by simp [results, Tryz.results11, go_sem]) rfl (fin _ HN.out q2)
    · have hGL : GoodL X n := hb.1 rfl
      clear c2 hb
      go_wp2_with fail
      by_cases hp : 1 ≤ p ∧ p ≤ 20
      · refine (l1In_yes p 1 20 _ hp.1 hp.2).mono ?_
        rintro e w3 ⟨rfl, hw3⟩
        subst w3
        have hcall := l7Build_any b off n bc X p w2 (hr.keep q2) h1 hcap hGL.1 hp
        rw [show tbl X n (fwI p) (fLt X n p) = tbP X n p from rfl] at hcall
        obtain ⟨T, hTP0⟩ : ∃ T, T = tbP X n p := ⟨_, rfl⟩
        rw [← hTP0] at hcall
        have hTP : Hid (T = tbP X n p) := hTP0
        clear hTP0
        go_wp2_with fail
        refine hcall.mono ?_
        rintro e w5 ⟨v5, rfl, o5, q5⟩
        have bw5 := q2.trans (q5.mono q2.size)
        have o5' := o5.mono q2.size
        obtain ⟨a5, c5, rfl⟩ := o5.form
        clear hcall o5
        by_cases h8 : T.length ≤ 8000
        · have HY : Hid (BTO X n p w (.returned (.tuple #[.slice a5 T.length c5, .bool true])) w5) := by
            unfold Hid
            rw [hTP.out] at h8 o5' ⊢
            exact bto_yes ⟨⟨h1, hGL⟩, hp, h8⟩ o5' bw5
          have h8i : ¬ (8000 : Int) < (T.length : Int) := by omega
          clear o5'
          go_wp2
          exact bodyPost_ret (v := .tuple #[.slice a5 T.length c5, .bool true]) (by simp [results, Tryz.results11, go_sem]) rfl HY.out
        · have HN : Hid (¬ BTg X n p) := fun h => h8 (by rw [hTP.out]; exact h.2.2)
          have h8i : (8000 : Int) < (T.length : Int) := by omega
          clear o5'
          go_wp2
          exact bodyPost_ret (v := .tuple #[.slice none 0 0, .bool false]) (by simp [results, Tryz.results11, go_sem]) rfl (fin _ HN.out bw5)
      · refine (l1In_no p 1 20 _ hp).mono ?_
        rintro e w3 ⟨rfl, hw3⟩
        subst w3
        have HN : Hid (¬ BTg X n p) := fun h => hp h.2.1
        clear hp
        go_wp2
        exact bodyPost_ret (v := .tuple #[.slice none 0 0, .bool false]) (by simp [results, Tryz.results11, go_sem]) rfl (fin _ HN.out q2)
  · have HN : Hid (¬ BTg X n p) := fun h => h1 h.1.1
    have c1 := fun W => l1In_no (n : Int) 1 100 W (by omega)
    clear h1
    go_enter Tryz.func11, Tryz.ntmps11
    go_wp2_with fail
    refine (c1 _).mono ?_
    rintro e w1 ⟨rfl, hw1⟩
    subst w1
    go_wp2
    exact bodyPost_ret (v := .tuple #[.slice none 0 0, .bool false]) (by simp [results, Tryz.results11, go_sem]) rfl (fin _ HN.out (Below.refl _ _))
end Go.Proofs.YtkfgjbimnlcbfaaGreat

namespace Go.Proofs.YtkfgjbimnlcbfaaGreat
set_option maxRecDepth 100000
open Go.RowKit Go.Shelf
set_option linter.unusedSimpArgs false
set_option linter.unusedVariables false

theorem bto_ex (X : Nat → Ent) (n : Nat) (p : Int) : ∃ L ok, (∀ w e w', BTO X n p w e w' → FO L ok w e w') ∧ L.length ≤ 1048576 := by
  by_cases h : BTg X n p
  · exact ⟨_, true, fun w e w' hb => hb.1 h, by have := h.2.2; omega⟩
  · exact ⟨[], false, fun w e w' hb => hb.2 h, by simp⟩

set_option maxHeartbeats 4000000 in
theorem buildTable_law (ao : Option Addr) (n cap : Nat) (X : Nat → Ent) (p : Int) (w : World) (hr : ERow w ao n X) (hnx : n ≤ 9223372036854775807) (hpx : -9223372036854775808 ≤ p ∧ p ≤ 9223372036854775807) :
    Calls Tryz.prog 4 #[.slice ao n cap, .int .i64 p] w fun e w' => e = .returned (.bool true) ∧ Below w.heap.size w w' := by
  obtain ⟨L, ok, hA, hLm⟩ := bto_ex X n p
  have hok : (ok != ok) = false := by simp
  go_enter Tryz.func4, Tryz.ntmps4
  go_wp2_with fail
  refine (szEntryS_tot ao n cap X 1048576 _ hr (by omega) hnx).mono ?_
  rintro e w1 ⟨v, rfl, hv1, hv2, hv3, bw1⟩
  by_cases hv : v < 0
  · clear hv3
    go_wp2
    go_ret
    exact ⟨rfl, bw1⟩
  have htot := hv3 (by omega)
  have hn : n ≤ 1048576 := by omega
  have hz : ESize n X := tot_size (by omega)
  have hkX := kOf_tot X n
  have hS := fun W b off h => (buildTable_spec b off n n X p W h hn hz (Nat.le_refl _)).mono (fun e w' => hA W e w')
  have hI := fun W b off h => (buildTable_impl b off n n X p W h hn hz (Nat.le_refl _)).mono (fun e w' => hA W e w')
  clear hv3 hnx hA
  go_wp2_with fail
  refine (toEntryS_any ao n cap X _ (hr.keep bw1) hn hz).mono ?_
  rintro e w2 ⟨G2, rfl, o2, hb2⟩
  have bw2 := bw1.trans (hb2.mono bw1.size)
  go_wp2_with fail
  refine (hS _ _ _ (o2.row hr.bd)).mono ?_
  rintro e w3 ⟨ao3, c3, rfl, V3, q3⟩
  have bw3 := bw2.trans (q3.mono bw2.size)
  clear hb2 o2 hS
  go_wp2_with fail
  refine (toEntryS_any ao n cap X _ (hr.keep bw3) hn hz).mono ?_
  rintro e w4 ⟨G4, rfl, o4, hb4⟩
  have bw4 := bw3.trans (hb4.mono bw3.size)
  have W4 := V3.keep hb4
  have s34 := o4.lt
  have ltG4 := fun i hi => (o4.data i hi).2.lt
  have s4 := hb4.size
  go_wp2_with fail
  refine (hI _ _ _ (o4.row hr.bd)).mono ?_
  rintro e w5 ⟨ao5, c5, rfl, V5, q5⟩
  have bw5 := bw4.trans (q5.mono bw4.size)
  have W5 := W4.keep q5
  have x5 := o4.keep q5
  have s5 := q5.size
  clear V3 W4 o4 hb4 q5
  go_wp2_with fail
  refine (eqBV _ _ c5 c3 _ _ _ _ L _ V5 W5 hLm).mono ?_
  rintro e w6 ⟨rfl, q6⟩
  have bw6 := bw5.trans (q6.mono bw5.size)
  have W6 := W5.keep q6
  have V6 := V5.keep q6
  have x6 := x5.keep q6
  have s6 := q6.size
  clear q6 W5 V5 x5
  go_wp2_with fail
  refine (toEntryS_any ao n cap X _ (hr.keep bw6) hn hz).mono ?_
  rintro e w7 ⟨G7, rfl, o7, hb7⟩
  have bw7 := bw6.trans (hb7.mono bw6.size)
  have W7 := W6.keep hb7
  have V7 := V6.keep hb7
  have x7 := x6.keep hb7
  have s7 := hb7.size
  clear W6 V6 x6 hb7
  go_wp2_with fail
  refine (eqEntryS_same _ _ n n n X _ (x7.row hr.bd) (o7.row hr.bd) hn hz).mono ?_
  rintro e w8 ⟨rfl, hb8⟩
  have bw8 := bw7.trans (hb8.mono bw7.size)
  have W8 := W7.keep hb8
  have V8 := V7.keep hb8
  have x8 := x7.keep hb8
  have s8 := hb8.size
  clear W7 V7 x7 hb8 o7
  have hmx := markEntryS_any _ n n 1 X _ _ _ x8.ce (by omega) (fun i hi => (hz i hi).2) hn (by omega)
  go_wp2_with fail
  refine hmx.mono ?_
  rintro e w9 ⟨rfl, _, hco⟩
  have M9 : Mid w3.heap.size w4.heap.size w8 w9 := ⟨hco.os, hco.tape, hco.output, hco.size, fun q hq hne => hco.block q hq (by omega) (fun i hi _ e => by have h1 := (x8.data i hi).1; have h2 := ltG4 i hi; injection e with e; injection e with e _ _; omega)⟩
  have sz3 := bw3.size
  have bw9 := bw8.trans (M9.below (C := w.heap.size) (by omega) (by omega))
  have W9 := W8.mid M9 (by omega)
  have V9 := V8.mid M9 (by omega)
  have s9 := hco.size
  have hpos : ¬ ((kOf X 1 n : Nat) : Int) < 0 := by omega
  have hposd : decide (((kOf X 1 n : Nat) : Int) < 0) = false := by simp
  generalize ((kOf X 1 n : Nat) : Int) = kk at hpos hposd ⊢
  clear W8 V8 x8 hco hmx M9
  go_wp2_with fail
  refine (eqBV _ _ c5 c3 _ _ _ _ L _ V9 W9 hLm).mono ?_
  rintro e w10 ⟨rfl, q10⟩
  have bw10 := bw9.trans (q10.mono bw9.size)
  have W10 := W9.keep q10
  have V10 := V9.keep q10
  have s10 := q10.size
  clear q10 W9 V9
  go_wp2_with fail
  refine (markBV _ c5 _ _ L _ V10 hLm).mono ?_
  rintro e w11 ⟨rfl, G11, M11⟩
  have W11 := W10.mid M11 (by omega)
  have bw11 := bw10.trans (M11.below (C := w.heap.size) (by omega) (by omega))
  have s11 := M11.size
  clear M11 W10 V10
  go_wp2_with fail
  refine (held_one _ L.length c5 _ G11 hLm).mono ?_
  rintro e w12 ⟨rfl, q12⟩
  have W12 := W11.keep q12
  have G12 := G11.keep q12
  have bw12 := bw11.trans (q12.mono bw11.size)
  clear q12 W11 G11
  go_wp2_with fail
  refine (toEntryS_any ao n cap X _ (hr.keep bw12) hn hz).mono ?_
  rintro e w13 ⟨G13, rfl, o13, hb13⟩
  have bw13 := bw12.trans (hb13.mono bw12.size)
  have W13 := W12.keep hb13
  have G13' := G12.keep hb13
  clear W12 G12 hb13
  go_wp2_with fail
  refine (hI _ _ _ (o13.row hr.bd)).mono ?_
  rintro e w14 ⟨ao14, c14, rfl, V14, q14⟩
  have W14 := W13.keep q14
  have G14 := G13'.keep q14
  have bw14 := bw13.trans (q14.mono bw13.size)
  clear q14 W13 G13' o13
  go_wp2_with fail
  refine (eqBV _ _ c14 c3 _ _ _ _ L _ V14 W14 hLm).mono ?_
  rintro e w15 ⟨rfl, q15⟩
  have G15 := G14.keep q15
  have bw15 := bw14.trans (q15.mono bw14.size)
  clear q15 W14 V14 G14
  go_wp2_with fail
  refine (held_one _ L.length c5 _ G15 hLm).mono ?_
  rintro e w16 ⟨rfl, q16⟩
  have bw16 := bw15.trans (q16.mono bw15.size)
  go_wp2
  go_ret
  exact ⟨rfl, bw16⟩
end Go.Proofs.YtkfgjbimnlcbfaaGreat
