/- What BuildTable answers. / BuildTable in the program. / BuildTable in the model. / The law of BuildTable. / Entries that hold the same make the same table. / Where the parts of a table lie. / The program: bytes held against bytes, a table's end, its places. / The program: whether a filter is that of the keys. / ReadFilter in the program, of bytes that lie anywhere. / Entries as they are read: in one form, as rows, free to be written; what a table's bytes tell of them. -/
import Derived.Test.YtohjjigkfdhklaaGreatTw
import Derived.Test.YtohjjigkfdhklaaGreatBd
import Derived.Test.YtohjjigkfdhklaaGreatGoI
import Derived.Test.YtohjjigkfdhklaaGreatGoS
import Derived.Test.YtohjjigkfdhklaaGreatFs
import Derived.Test.YtohjjigkfdhklaaGreatKt
import Derived.Test.YtohjjigkfdhklaaGreatBV
import Derived.Test.YtohjjigkfdhklaaGreatCf
import Derived.Test.YtohjjigkfdhklaaGreatFixR
import Derived.Test.YtohjjigkfdhklaaGreatRf
namespace Go.Proofs.YtohjjigkfdhklaaGreat
set_option maxRecDepth 100000
open Go.RowKit Go.Shelf
set_option linter.unusedSimpArgs false
set_option linter.unusedVariables false

/-- Entries of which a table may be made. -/
def FitT (X : Nat → Ent) (n : Nat) : Prop := (1 ≤ n ∧ n ≤ 100) ∧ GoodL X n
set_option maxHeartbeats 1600000 in
theorem fitTable_any (b off n bc : Nat) (X : Nat → Ent) (w : World) (hr : ERow w (some ⟨b, off, none⟩) n X) (hn : n ≤ 1048576) (hz : ESize n X) :
    Calls Tryz.prog 23 #[.slice (some ⟨b, off, none⟩) n bc] w fun e w' => Ans (FitT X n) w e w' := by
  by_cases h1 : 1 ≤ n
  · by_cases h2 : n ≤ 100
    · have hc := goodEntries_impl (some ⟨b, off, none⟩) n bc X w hr hn hz
      have h1i : (1 : Int) ≤ (n : Int) := by omega
      have h2i : (n : Int) ≤ 100 := by omega
      go_enter Tryz.func23, Tryz.ntmps23
      go_wp2_with fail
      refine hc.mono ?_
      rintro e w1 ⟨bb, rfl, hb, q1⟩
      have H : Hid (bb = true ↔ FitT X n) := ⟨fun h => ⟨⟨h1, h2⟩, hb.1 h⟩, fun h => hb.2 h.2⟩
      clear hc hb
      cases bb
      · go_wp2
        go_ret
        exact ⟨false, rfl, H.out, q1⟩
      · go_wp2
        go_ret
        exact ⟨true, rfl, by simpa using H.out, q1⟩
    · have H : Hid (false = true ↔ FitT X n) := ⟨fun h => by simp at h, fun h => absurd h.1.2 h2⟩
      have h2i : ¬ (n : Int) ≤ 100 := by omega
      have h1i : (1 : Int) ≤ (n : Int) := by omega
      go_enter Tryz.func23, Tryz.ntmps23
      go_wp2
      go_ret
      exact ⟨false, rfl, H.out, Below.refl _ _⟩
  · have H : Hid (false = true ↔ FitT X n) := ⟨fun h => by simp at h, fun h => absurd h.1.1 h1⟩
    have h1i : ¬ (1 : Int) ≤ (n : Int) := by omega
    go_enter Tryz.func23, Tryz.ntmps23
    go_wp2
    go_ret
    exact ⟨false, rfl, H.out, Below.refl _ _⟩

/-- The table's bytes of entries and perKey. -/
def tbP (X : Nat → Ent) (n : Nat) (p : Int) : List Int := tbl X n (fwI p) (fLt X n p)
/-- There is a table. -/
def BTg (X : Nat → Ent) (n : Nat) (p : Int) : Prop := FitT X n ∧ (1 ≤ p ∧ p ≤ 20) ∧ (tbP X n p).length ≤ 8000
/-- What BuildTable answers. -/
def BTO (X : Nat → Ent) (n : Nat) (p : Int) (w : World) (e : Ending) (w' : World) : Prop := (BTg X n p → FO (tbP X n p) true w e w') ∧ (¬ BTg X n p → FO [] false w e w')
theorem bto_no {X : Nat → Ent} {n : Nat} {p : Int} {w w' : World} (h : ¬ BTg X n p) (hb : Below w.heap.size w w') : BTO X n p w (.returned (.tuple #[.slice none 0 0, .bool false])) w' :=
  ⟨fun h' => absurd h' h, fun _ => ⟨none, 0, rfl, bv_nil _ _ _ (Nat.le_refl _), hb⟩⟩
theorem bto_yes {X : Nat → Ent} {n : Nat} {p : Int} {w w' : World} {v : Value} (h : BTg X n p) (ho : OwnL w' w.heap.size v (tbP X n p)) (hb : Below w.heap.size w w') : BTO X n p w (.returned (.tuple #[v, .bool true])) w' := by
  refine ⟨fun _ => ?_, fun h' => absurd h h'⟩
  obtain ⟨ao, c, rfl, hB⟩ := bv_of ho
  exact ⟨ao, c, rfl, hB, hb⟩
theorem ffl_self (L : List Int) : ffl (fl L) L.length = L := by
  refine List.ext_getElem (by rw [ffl_len]) fun i h1 h2 => ?_
  simp [ffl, fl, h2]
theorem OwnL.at_lower {w : World} {base base' : Nat} {v : Value} {L : List Int} (h : OwnL w base v L) (hb : base' ≤ base) : OwnL w base' v L := h.mono hb

end Go.Proofs.YtohjjigkfdhklaaGreat

namespace Go.Proofs.YtohjjigkfdhklaaGreat
set_option maxRecDepth 100000
open Go.RowKit Go.Shelf
set_option linter.unusedSimpArgs false
set_option linter.unusedVariables false

set_option maxHeartbeats 3200000 in
theorem buildTable_impl (b off n bc : Nat) (X : Nat → Ent) (p : Int) (w : World) (hr : ERow w (some ⟨b, off, none⟩) n X) (hn : n ≤ 1048576) (hz : ESize n X) (hcap : n ≤ bc) :
    Calls Tryz.prog 6 #[.slice (some ⟨b, off, none⟩) n bc, .int .i64 p] w fun e w' => BTO X n p w e w' := by
  have hf := fitTable_any b off n bc X w hr hn hz
  go_enter Tryz.func6, Tryz.ntmps6
  go_wp2_with fail
  refine hf.mono ?_
  rintro e w1 ⟨bb, rfl, hb, q1⟩
  cases bb
  · have hF : ¬ FitT X n := fun h => by simpa using hb.2 h
    have HN : Hid (¬ BTg X n p) := fun h => hF h.1
    clear hf hb hF
    go_wp2
    exact bodyPost_ret (v := .tuple #[.slice none 0 0, .bool false]) (by simp [results, Tryz.results6, go_sem]) rfl (bto_no HN.out q1)
  · have hF : FitT X n := hb.1 rfl
    have hk := keysOf_any b off n bc X w1 (hr.keep q1) (by have := hF.1; omega)
    have hcl := cK_len X n
    have hn100 := hF.1.2
    have hK140 : ∀ i, i < n → (X i).key.size ≤ 140 := fun i hi => by have := (hF.2.1 i hi).1; unfold KeyOk at this; omega
    have hts : TSz (cF X n) (cK X n).length := ⟨by omega, fun i hi => by have := cF_size hK140 hi; omega⟩
    clear hf hb
    go_wp2_with fail
    refine hk.mono ?_
    rintro e w2 ⟨ko, kc, rfl, kr, q2⟩
    have bw2 := q1.trans (q2.mono q1.size)
    have hfo := filterOf_impl ko (cK X n).length kc (cF X n) p w2 kr hts
    generalize hkl : (cK X n).length = kl at *
    clear hk
    go_wp2_with fail
    refine hfo.mono ?_
    intro e w3 hO
    by_cases hp : 1 ≤ p ∧ p ≤ 20
    · obtain ⟨fa, fc, rfl, hBV, q3⟩ := hO.1 ⟨by omega, hp⟩
      have bw3 := bw2.trans (q3.mono bw2.size)
      have hB4 := below_new w3 (.cells #[.int .i64 (fwI p), .slice fa (ffl (kyF (cF X n) (fwI p).toNat (fbI kl p).toNat kl) (fbI kl p).toNat).length fc] 55)
      have hRow := hBV.row.keep hB4
      have hfw := @fwI_bd p
      have hfb := fbI_bd (n := kl) (p := p)
      have hLe : ffl (kyF (cF X n) (fwI p).toNat (fbI kl p).toNat kl) (fbI kl p).toNat = fLt X n p := by unfold fLt fbN; rw [hkl]
      rw [hLe] at hRow hB4 hBV ⊢
      have hll : (fLt X n p).length = (fbI kl p).toNat := by rw [fLt_len]; unfold fbN; rw [hkl]
      have bw4 := bw3.trans (hB4.mono bw3.size)
      have hsz4 := bw4.size
      have hcall := tableBytes_any b off n bc X (fwI p) fa (fLt X n p).length fc (fl (fLt X n p)) _ (hr.keep bw4) hF.1 hcap hF.2.1 hRow ⟨hfw, by omega, by omega⟩ (by omega)
      rw [ffl_self] at hcall
      clear hfo hO hLe hRow hBV kr hll
      generalize hLF : fLt X n p = LF at *
      have HT : Hid (tbl X n (fwI p) LF = tbP X n p) := by unfold Hid tbP; rw [hLF]
      rw [HT.out] at hcall
      clear hLF
      obtain ⟨T, hTP0⟩ : ∃ T, T = tbP X n p := ⟨_, rfl⟩
      rw [← hTP0] at hcall
      have hTP : Hid (T = tbP X n p) := hTP0
      clear hTP0
      go_wp2_with fail
      refine hcall.mono ?_
      rintro e w5 ⟨v5, rfl, o5, q5⟩
      have bw5 := bw4.trans (q5.mono bw4.size)
      have o5' := o5.mono hsz4
      obtain ⟨a5, c5, rfl⟩ := o5.form
      clear hcall o5
      by_cases h8 : T.length ≤ 8000
      · have HY : Hid (BTO X n p w (.returned (.tuple #[.slice a5 T.length c5, .bool true])) w5) := by
          unfold Hid
          rw [hTP.out] at h8 o5' ⊢
          exact bto_yes ⟨hF, hp, h8⟩ o5' bw5
        have h8i : ¬ (8000 : Int) < (T.length : Int) := by omega
        clear o5'
        go_wp2
        exact bodyPost_ret (v := .tuple #[.slice a5 T.length c5, .bool true]) (by simp [results, Tryz.results6, go_sem]) rfl HY.out
      · have HN : Hid (¬ BTg X n p) := fun h => h8 (by rw [hTP.out]; exact h.2.2)
        have h8i : (8000 : Int) < (T.length : Int) := by omega
        clear o5'
        go_wp2
        exact bodyPost_ret (v := .tuple #[.slice none 0 0, .bool false]) (by simp [results, Tryz.results6, go_sem]) rfl (bto_no HN.out bw5)
    · obtain ⟨fa, fc, rfl, hBV, q3⟩ := hO.2 (fun h => hp h.2)
      have HN : Hid (¬ BTg X n p) := fun h => hp h.2.1
      have bw3 := bw2.trans (q3.mono bw2.size)
      clear hfo hO hp
      go_wp2
      exact bodyPost_ret (v := .tuple #[.slice none 0 0, .bool false]) (by simp [results, Tryz.results6, go_sem]) rfl (bto_no HN.out (bw3.trans ((below_new _ _).mono bw3.size)))

end Go.Proofs.YtohjjigkfdhklaaGreat

namespace Go.Proofs.YtohjjigkfdhklaaGreat
set_option maxRecDepth 100000
open Go.RowKit Go.Shelf
set_option linter.unusedSimpArgs false
set_option linter.unusedVariables false

set_option maxHeartbeats 3200000 in
theorem buildTable_spec (b off n bc : Nat) (X : Nat → Ent) (p : Int) (w : World) (hr : ERow w (some ⟨b, off, none⟩) n X) (hn : n ≤ 1048576) (hz : ESize n X) (hcap : n ≤ bc) :
    Calls Tryz.prog 7 #[.slice (some ⟨b, off, none⟩) n bc, .int .i64 p] w fun e w' => BTO X n p w e w' := by
  have fin : ∀ W, ¬ BTg X n p → Below w.heap.size w W → BTO X n p w (.returned (.tuple #[.slice none 0 0, .bool false])) W := fun W h hb => bto_no h hb
  by_cases h1 : 1 ≤ n ∧ n ≤ 100
  · have c1 := fun W => l1In_yes (n : Int) 1 100 W (by omega) (by omega)
    have c2 := goodEntries_spec (some ⟨b, off, none⟩) n bc X w hr hn hz
    go_enter Tryz.func7, Tryz.ntmps7
    go_wp2_with fail
    refine (c1 _).mono ?_
    rintro e w1 ⟨rfl, hw1⟩
    subst w1
    go_wp2_with fail
    refine c2.mono ?_
    rintro e w2 ⟨bb, rfl, hb, q2⟩
    cases bb
    · have HN : Hid (¬ BTg X n p) := fun h => by simpa using hb.2 h.1.2
      clear c2 hb
      go_wp2
      exact bodyPost_ret (v := .tuple #[.slice none 0 0, .bool false]) (by simp [results, Tryz.results7, go_sem]) rfl (fin _ HN.out q2)
    · have hGL : GoodL X n := hb.1 rfl
      clear c2 hb
      go_wp2_with fail
      by_cases hp : 1 ≤ p ∧ p ≤ 20
      · refine (l1In_yes p 1 20 _ hp.1 hp.2).mono ?_
        rintro e w3 ⟨rfl, hw3⟩
        subst w3
        have hcall := l7Build_any b off n bc X p w2 (hr.keep q2) h1 hcap hGL.1 hp
        rw [show tbl X n (fwI p) (fLt X n p) = tbP X n p from rfl] at hcall
        obtain ⟨T, hTP0⟩ : ∃ T, T = tbP X n p := ⟨_, rfl⟩
        rw [← hTP0] at hcall
        have hTP : Hid (T = tbP X n p) := hTP0
        clear hTP0
        go_wp2_with fail
        refine hcall.mono ?_
        rintro e w5 ⟨v5, rfl, o5, q5⟩
        have bw5 := q2.trans (q5.mono q2.size)
        have o5' := o5.mono q2.size
        obtain ⟨a5, c5, rfl⟩ := o5.form
        clear hcall o5
        by_cases h8 : T.length ≤ 8000
        · have HY : Hid (BTO X n p w (.returned (.tuple #[.slice a5 T.length c5, .bool true])) w5) := by
            unfold Hid
            rw [hTP.out] at h8 o5' ⊢
            exact bto_yes ⟨⟨h1, hGL⟩, hp, h8⟩ o5' bw5
          have h8i : ¬ (8000 : Int) < (T.length : Int) := by omega
          clear o5'
          go_wp2
          exact bodyPost_ret (v := .tuple #[.slice a5 T.length c5, .bool true]) (by simp [results, Tryz.results7, go_sem]) rfl HY.out
        · have HN : Hid (¬ BTg X n p) := fun h => h8 (by rw [hTP.out]; exact h.2.2)
          have h8i : (8000 : Int) < (T.length : Int) := by omega
          clear o5'
          go_wp2
          exact bodyPost_ret (v := .tuple #[.slice none 0 0, .bool false]) (by simp [results, Tryz.results7, go_sem]) rfl (fin _ HN.out bw5)
      · refine (l1In_no p 1 20 _ hp).mono ?_
        rintro e w3 ⟨rfl, hw3⟩
        subst w3
        have HN : Hid (¬ BTg X n p) := fun h => hp h.2.1
        clear hp
        go_wp2
        exact bodyPost_ret (v := .tuple #[.slice none 0 0, .bool false]) (by simp [results, Tryz.results7, go_sem]) rfl (fin _ HN.out q2)
  · have HN : Hid (¬ BTg X n p) := fun h => h1 h.1.1
    have c1 := fun W => l1In_no (n : Int) 1 100 W (by omega)
    clear h1
    go_enter Tryz.func7, Tryz.ntmps7
    go_wp2_with fail
    refine (c1 _).mono ?_
    rintro e w1 ⟨rfl, hw1⟩
    subst w1
    go_wp2
    exact bodyPost_ret (v := .tuple #[.slice none 0 0, .bool false]) (by simp [results, Tryz.results7, go_sem]) rfl (fin _ HN.out (Below.refl _ _))
end Go.Proofs.YtohjjigkfdhklaaGreat

namespace Go.Proofs.YtohjjigkfdhklaaGreat
set_option maxRecDepth 100000
open Go.RowKit Go.Shelf
set_option linter.unusedSimpArgs false
set_option linter.unusedVariables false

theorem bto_ex (X : Nat → Ent) (n : Nat) (p : Int) : ∃ L ok, (∀ w e w', BTO X n p w e w' → FO L ok w e w') ∧ L.length ≤ 1048576 := by
  by_cases h : BTg X n p
  · exact ⟨_, true, fun w e w' hb => hb.1 h, by have := h.2.2; omega⟩
  · exact ⟨[], false, fun w e w' hb => hb.2 h, by simp⟩

end Go.Proofs.YtohjjigkfdhklaaGreat
namespace Go.Proofs.YtohjjigkfdhklaaGreat
set_option maxRecDepth 100000
open Go.RowKit
set_option linter.unusedSimpArgs false
set_option linter.unusedVariables false

theorem SameE.refl (x : Ent) : SameE x x := ⟨rfl, rfl, rfl, rfl, rfl, rfl, rfl, rfl, fun _ _ => rfl, rfl⟩
theorem SameE.symm {x y : Ent} (h : SameE x y) : SameE y x := by
  obtain ⟨h1, h2, h3, h4, h5, h6, h7, h8, h9, h10⟩ := h
  exact ⟨h1.symm, h2.symm, h3.symm, h4.symm, h5.symm, h6.symm, h7.symm, h8.symm, fun i hi => (h9 i (by omega)).symm, h10.symm⟩
theorem SameE.goodA {x y : Ent} (h : SameE x y) (g : GoodA x.c x.s x.lo x.hi x.n x.f x.fu) : GoodA y.c y.s y.lo y.hi y.n y.f y.fu := by
  obtain ⟨h1, h2, h3, h4, h5, h6, h7, h8, h9, h10⟩ := h
  obtain ⟨a1, a2, a3, a4, a5, a6, a7⟩ := g
  have hf : ∀ i, i < 8 → x.f i = y.f i := fun i hi => h9 i (by omega)
  rw [← h4, ← h5, ← h6, ← h7, ← h8, ← h10]
  refine ⟨a1, a2, fun i hi => by rw [← hf i hi]; exact a3 i hi, fun e => ?_, a5, a6, a7⟩
  rw [← sumF_same hf]
  exact a4 e
theorem SameE.good {x y : Ent} (h : SameE x y) (g : GoodE x) : GoodE y := by
  obtain ⟨k, s, f⟩ := g
  refine ⟨by rw [← h.1]; exact k, by rw [← h.2.1]; exact s, ?_⟩
  rcases f with ⟨hk, hA⟩ | ⟨hk, z⟩
  · exact .inl ⟨by rw [← h.2.2.1]; exact hk, h.goodA hA⟩
  · obtain ⟨z1, z2, z3, z4, z5, z6⟩ := z
    obtain ⟨h1, h2, h3, h4, h5, h6, h7, h8, h9, h10⟩ := h
    exact .inr ⟨by omega, by omega, by omega, by omega, by omega, by omega, by rw [← h10]; exact z6⟩
theorem bl_same {fu : Bool} {N M : Nat → Int} : ∀ {k : Nat}, (∀ i, i < k → N i = M i) → bl fu N k = bl fu M k
  | 0, _ => rfl
  | k + 1, h => by
    have := bl_same (fu := fu) (N := N) (M := M) (k := k) fun i hi => h i (by omega)
    simp only [bl, this, h k (by omega)]
theorem same_agL {x y : Ent} (h : SameE x y) (g : GoodE x) : agL x = agL y := by
  obtain ⟨h1, h2, h3, h4, h5, h6, h7, h8, h9, h10⟩ := h
  unfold agL
  by_cases hk : x.kind = 2
  · rw [if_pos hk, if_pos (by omega)]
  · rw [if_neg hk, if_neg (by omega), h10]
    have h8' : x.n = 8 := by
      rcases g.2.2 with ⟨_, hA⟩ | ⟨e, _⟩
      · exact hA.2.1
      · exact absurd e hk
    refine bl_same fun i hi => ?_
    unfold nm
    repeat' split
    · exact h4
    · exact h5
    · exact h6
    · exact h7
    · exact h9 _ (by omega)
theorem same_enE {x y : Ent} (a : ByteArray) (h : SameE x y) (g : GoodE x) : enE a x = enE a y := by
  unfold enE shK
  rw [same_agL h g, h.1, h.2.1, h.2.2.1]
theorem blk_same {X Y : Nat → Ent} {o : Nat} : ∀ {k : Nat}, (∀ i, i < k → SameE (X (o + i)) (Y (o + i)) ∧ GoodE (X (o + i))) → blk X o k = blk Y o k
  | 0, _ => rfl
  | k + 1, h => by
    have ih := blk_same (X := X) (Y := Y) (o := o) (k := k) fun i hi => h i (by omega)
    have hk := h k (by omega)
    have ha : ahd X o k = ahd Y o k := by
      cases k with
      | zero => rfl
      | succ j => exact (h j (by omega)).1.1
    simp only [blk, ih, ha, same_enE _ hk.1 hk.2]
/-- The first n of X and Y hold the same, and are good. -/
def Alike (X Y : Nat → Ent) (n : Nat) : Prop := ∀ i, i < n → SameE (X i) (Y i) ∧ GoodE (X i)
section
variable {X Y : Nat → Ent} {n : Nat}
theorem Alike.blks (h : Alike X Y n) : ∀ j, blks X n j = blks Y n j
  | 0 => rfl
  | j + 1 => by
    have hb := bsz_le n j
    have e : blk X (4 * j) (bsz n j) = blk Y (4 * j) (bsz n j) := blk_same fun i hi => h _ (by unfold bsz at hi; omega)
    show Go.Proofs.YtohjjigkfdhklaaGreat.blks X n j ++ _ = Go.Proofs.YtohjjigkfdhklaaGreat.blks Y n j ++ _
    rw [h.blks j, e]
theorem Alike.last (h : Alike X Y n) {j : Nat} (hj : j < nbl n) : lastK X n j = lastK Y n j := by
  unfold lastK
  exact (h _ (by unfold bsz; unfold nbl at hj; omega)).1.1
theorem Alike.idx (h : Alike X Y n) : ∀ j, j ≤ nbl n → idx X n j = idx Y n j
  | 0, _ => rfl
  | j + 1, hj => by
    have e : blk X (4 * j) (bsz n j) = blk Y (4 * j) (bsz n j) := blk_same fun i hi => h _ (by unfold bsz at hi; omega)
    show Go.Proofs.YtohjjigkfdhklaaGreat.idx X n j ++ _ = Go.Proofs.YtohjjigkfdhklaaGreat.idx Y n j ++ _
    rw [h.idx j (by omega)]
    unfold idR
    rw [h.last (by omega), h.blks, e]
theorem Alike.tbl (h : Alike X Y n) (y : Int) (F : List Int) : tbl X n y F = tbl Y n y F := by
  unfold Go.Proofs.YtohjjigkfdhklaaGreat.tbl bodyT
  rw [h.blks, h.idx _ (Nat.le_refl _)]
theorem Alike.cK (h : Alike X Y n) : ∀ k, k ≤ n → cK X k = cK Y k
  | 0, _ => rfl
  | k + 1, hk => by
    rw [cK_succ, cK_succ, h.cK k (by omega), (h k (by omega)).1.1]
    have e : kp X k = kp Y k := by
      unfold kp
      by_cases h0 : k = 0
      · simp [h0]
      · rw [(h k (by omega)).1.1, (h (k - 1) (by omega)).1.1]
    rw [e]
theorem Alike.fLt (h : Alike X Y n) (p : Int) : fLt X n p = fLt Y n p := by
  have e := h.cK n (Nat.le_refl _)
  unfold Go.Proofs.YtohjjigkfdhklaaGreat.fLt fbN
  have e2 : cF X n = cF Y n := by funext i; unfold cF; rw [e]
  rw [e2, e]
theorem Alike.tbP (h : Alike X Y n) (p : Int) : tbP X n p = tbP Y n p := by
  unfold Go.Proofs.YtohjjigkfdhklaaGreat.tbP
  rw [h.fLt, h.tbl]
theorem Alike.bef (h : Alike X Y n) {i j : Nat} (hi : i < n) (hj : j < n) : Bef (X i) (X j) → Bef (Y i) (Y j) := by
  intro hb
  unfold Bef at hb ⊢
  rw [← (h i hi).1.1, ← (h j hj).1.1, ← (h i hi).1.2.1, ← (h j hj).1.2.1]
  exact hb
theorem Alike.fit (h : Alike X Y n) (g : FitT X n) : FitT Y n := by
  obtain ⟨g1, g2, g3, g4⟩ := g
  refine ⟨g1, fun i hi => (h i hi).1.good (h i hi).2, fun i hi => h.bef (by omega) hi (g3 i hi), fun i j hij hj => ?_⟩
  rw [← (h i (by omega)).1.2.1, ← (h j hj).1.2.1]
  exact g4 i j hij hj
theorem Alike.symm (h : Alike X Y n) : Alike Y X n := fun i hi => ⟨(h i hi).1.symm, (h i hi).1.good (h i hi).2⟩
end
theorem crcTo_same {f g : Nat → Int} : ∀ {k : Nat}, (∀ i, i < k → f i = g i) → crcTo f k = crcTo g k
  | 0, _ => rfl
  | k + 1, h => by
    have := crcTo_same (f := f) (g := g) (k := k) fun i hi => h i (by omega)
    simp only [crcTo, this, h k (by omega)]
theorem crcOf_same {f g : Nat → Int} {k : Nat} (h : ∀ i, i < k → f i = g i) : crcOf f k = crcOf g k := by
  unfold crcOf; rw [crcTo_same h]
theorem seg_fl {f : Nat → Int} {L : List Int} (h : Seg f 0 L) {i : Nat} (hi : i < L.length) : f i = fl L i := by
  have := h i hi
  rwa [Nat.zero_add] at this
end Go.Proofs.YtohjjigkfdhklaaGreat
namespace Go.Proofs.YtohjjigkfdhklaaGreat
set_option maxRecDepth 100000
open Go.RowKit
set_option linter.unusedSimpArgs false
set_option linter.unusedVariables false

/-- The bytes f of length n are the table of X, m and p. -/
def IsTb (f : Nat → Int) (n : Nat) (X : Nat → Ent) (m : Nat) (p : Int) : Prop := BTg X m p ∧ (tbP X m p).length = n ∧ Seg f 0 (tbP X m p)
/-- What the end tells, as a code. -/
def endC (f : Nat → Int) (n : Nat) : Int :=
  if n < 20 ∨ 8000 < n then 1 else if ¬ (f (n - 4) = 84 ∧ f (n - 3) = 66 ∧ f (n - 2) = 76 ∧ f (n - 1) = 49) then 2 else if crcOf f (n - 8) ≠ num f (n - 8) 4 then 3 else 0
theorem num_pf {f : Nat → Int} {q : Nat} {x : Int} (h : 0 ≤ x ∧ x ≤ 4294967295) (hs : Seg f q (pfL x 4)) : num f q 4 = x := by
  refine num_all (n := x) (m := 4) ?_ fun i hi => ?_
  · rw [show (2 : Int) ^ (8 * 4) = 4294967296 from by decide]; omega
  · rw [hs i (by rw [pfL_length]; exact hi)]
    simp [pfL, fl, hi]
def tA (X : Nat → Ent) (m : Nat) : Nat := (ens X m).length
def tB (X : Nat → Ent) (m : Nat) (p : Int) : Nat := tA X m + 1 + fbN X m p

set_option maxRecDepth 100000 in
theorem IsTb.plc {f : Nat → Int} {n : Nat} {X : Nat → Ent} {m : Nat} {p : Int} (h : IsTb f n X m p) :
    (20 ≤ n ∧ n ≤ 8000) ∧ tB X m p + 20 ≤ n ∧ Seg f 0 (ens X m) ∧ f (tA X m) = fwI p ∧ Seg f (tA X m + 1) (fLt X m p) ∧ num f (n - 20) 4 = ((tA X m : Nat) : Int) ∧ num f (n - 16) 4 = ((tB X m p : Nat) : Int) ∧ num f (n - 12) 4 = (m : Int) ∧ endC f n = 0 := by
  obtain ⟨hB, hl, hs⟩ := h
  have h8 := hB.2.2
  have hm := hB.1.1
  rw [hl] at h8
  unfold tbP at hl hs
  have hFl := fLt_len X m p
  have hft := fbN_le X m p
  have eA : (ens X m).length = tA X m := rfl
  have eB : tB X m p = tA X m + 1 + fbN X m p := rfl
  have hb : bodyT X m (fwI p) (fLt X m p) = ens X m ++ ([fwI p] ++ fLt X m p) ++ idx X m (nbl m) ++ pfL ((tA X m : Nat) : Int) 4 ++ pfL ((tB X m p : Nat) : Int) 4 ++ pfL ((m : Nat) : Int) 4 := by
    unfold bodyT
    rw [blks_all]
    have e1 : (ens X m ++ ([fwI p] ++ fLt X m p)).length = tB X m p := by
      simp only [List.length_append, List.length_singleton, hFl]
      omega
    rw [e1, eA]
  generalize hbd : bodyT X m (fwI p) (fLt X m p) = body at *
  have et : tbl X m (fwI p) (fLt X m p) = body ++ pfL (crcL body) 4 ++ [84, 66, 76, 49] := by unfold tbl; rw [hbd]
  rw [et] at hl hs
  have hbl : body.length = n - 8 ∧ 8 ≤ n := by
    simp only [List.length_append, pfL_length, List.length_cons, List.length_nil] at hl
    omega
  have hbl2 : body.length = tB X m p + (idx X m (nbl m)).length + 12 := by
    rw [hb]
    simp only [List.length_append, pfL_length, List.length_singleton, hFl, eA]
    omega
  have hS := hs.right
  have h7 := hs.left
  have hC := h7.right
  have h6 := h7.left
  have crc := num_pf (crcL_bd body) hC
  have hcr : crcL body = crcOf f (n - 8) := by
    unfold crcL
    rw [hbl.1]
    exact (crcOf_same fun i hi => seg_fl h6 (by omega)).symm
  have hcq : num f (n - 8) 4 = crcOf f (n - 8) := by
    rw [← hcr]
    rw [Nat.zero_add, hbl.1] at crc
    exact crc
  simp only [List.length_append, pfL_length, hbl.1, Nat.zero_add] at hS
  have q0 := hS 0 (by simp)
  have q1 := hS 1 (by simp)
  have q2 := hS 2 (by simp)
  have q3 := hS 3 (by simp)
  clear hs h7 hC hS crc hcr et hbd
  rw [hb] at h6
  have hc := num_pf (by omega) h6.right
  have h5 := h6.left
  have hbb := num_pf (by omega) h5.right
  have h4 := h5.left
  have ha := num_pf (by omega) h4.right
  have h3 := h4.left
  have h2 := h3.left
  have hE := h2.left
  have hYF := h2.right
  have hy := hYF.left 0 (by simp)
  have hF := hYF.right
  have lE : (ens X m).length = tA X m := rfl
  simp only [List.length_append, pfL_length, List.length_singleton, hFl, lE, Nat.zero_add] at hc hbb ha hy hF
  refine ⟨by omega, by omega, hE, ?_, hF, ?_, ?_, ?_, ?_⟩
  · simpa [fl] using hy
  · rw [← ha]; congr 1; omega
  · rw [← hbb]; congr 1; omega
  · rw [← hc]; congr 1; omega
  · unfold endC
    rw [if_neg (by omega), if_neg, if_neg]
    · exact fun hne => hne hcq.symm
    · refine fun hne => hne ⟨?_, ?_, ?_, ?_⟩
      · rw [show n - 4 = n - 8 + 4 + 0 by omega, q0]; rfl
      · rw [show n - 3 = n - 8 + 4 + 1 by omega, q1]; rfl
      · rw [show n - 2 = n - 8 + 4 + 2 by omega, q2]; rfl
      · rw [show n - 1 = n - 8 + 4 + 3 by omega, q3]; rfl
/-- Entries that are read of all ahead of the filter are the table's. -/
theorem IsTb.rd {f : Nat → Int} {n : Nat} {X : Nat → Ent} {m : Nat} {p : Int} (h : IsTb f n X m p) : RdK f (tA X m) X m (tA X m) :=
  rdK_ens m h.1.1.2.1 h.plc.2.2.1 (Nat.le_refl _)
/-- Two tables of the same bytes have the same entries. -/
theorem IsTb.one {f : Nat → Int} {n : Nat} {X Y : Nat → Ent} {m k : Nat} {p q : Int} (h : IsTb f n X m p) (h2 : IsTb f n Y k q) : k = m ∧ Alike X Y m := by
  have r1 := h.rd
  have r2 := h2.rd
  have e : tA X m = tA Y k := by
    have a := h.plc.2.2.2.2.2.1
    have b := h2.plc.2.2.2.2.2.1
    omega
  rw [← e] at r2
  obtain ⟨e2, hS⟩ := rdK_all r1 r2
  subst e2
  exact ⟨rfl, fun i hi => ⟨hS i hi, h.1.1.2.1 i hi⟩⟩
end Go.Proofs.YtohjjigkfdhklaaGreat
namespace Go.Proofs.YtohjjigkfdhklaaGreat
set_option maxRecDepth 100000
open Go.RowKit
set_option linter.unusedSimpArgs false
set_option linter.unusedVariables false

theorem Row.sub {w : World} {b off n k m : Nat} {f : Nat → Int} (h : Row w (some ⟨b, off, none⟩) n f) (hk : k + m ≤ n) : Row w (some ⟨b, off + k, none⟩) m (fun i => f (k + i)) := by
  refine ⟨fun i => h.bd _, ?_⟩
  by_cases h0 : m = 0
  · exact .inl h0
  · obtain ⟨b', o', e, hb, hc⟩ := h.lies.resolve_left (by omega)
    injection e with e
    injection e with e1 e2 _
    subst e1 e2
    exact .inr ⟨_, _, rfl, hb, fun i hi => by rw [Nat.add_assoc]; exact hc _ (by omega)⟩
theorem Row.front {w : World} {ao : Option Addr} {n m : Nat} {f : Nat → Int} (h : Row w ao n f) (hm : m ≤ n) : Row w ao m f := by
  refine ⟨h.bd, ?_⟩
  rcases h.lies with e | ⟨b, o, e, hb, hc⟩
  · exact .inl (by omega)
  · exact .inr ⟨b, o, e, hb, fun i hi => hc i (by omega)⟩
theorem segL_fl {f : Nat → Int} {q m i : Nat} (h : i < m) : fl (segL f q m) i = f (q + i) := by simp [fl, segL, h]
theorem segL_byt {f : Nat → Int} {q m : Nat} (hf : ∀ i, 0 ≤ f i ∧ f i ≤ 255) : Byt (segL f q m) := fun x hx => by
  obtain ⟨i, _, rfl⟩ := List.mem_map.1 hx
  exact hf _
theorem Row.same {w : World} {ao : Option Addr} {n : Nat} {f g : Nat → Int} (h : Row w ao n f) (hg : ∀ i, 0 ≤ g i ∧ g i ≤ 255) (e : ∀ i, i < n → f i = g i) : Row w ao n g := by
  refine ⟨hg, ?_⟩
  rcases h.lies with h0 | ⟨b, o, e1, hb, hc⟩
  · exact .inl h0
  · exact .inr ⟨b, o, e1, hb, fun i hi => by rw [← e i hi]; exact hc i hi⟩
theorem Row.seg {w : World} {b off n k m : Nat} {f : Nat → Int} (h : Row w (some ⟨b, off, none⟩) n f) (hk : k + m ≤ n) : Row w (some ⟨b, off + k, none⟩) (segL f k m).length (fl (segL f k m)) := by
  rw [segL_len]
  exact (h.sub hk).same (segL_byt h.bd).fl fun i hi => (segL_fl hi).symm
theorem Row.all {w : World} {ao : Option Addr} {n : Nat} {f : Nat → Int} (h : Row w ao n f) : Row w ao (segL f 0 n).length (fl (segL f 0 n)) := by
  rw [segL_len]
  exact h.same (segL_byt h.bd).fl fun i hi => by rw [segL_fl hi, Nat.zero_add]
theorem strOf_inj {L M : List Int} (hL : Byt L) (hM : Byt M) (h : strOfNums L = strOfNums M) : L = M := by
  rw [← bytesOf_nums L hL, h, bytesOf_nums M hM]
theorem str_eql {L M : List Int} (hL : Byt L) (hM : Byt M) : ((strOfNums L).toList == (strOfNums M).toList) = decide (L = M) := by
  by_cases h : L = M
  · subst h; rw [(tl_eq rfl).1]; simp
  · rw [(tl_ne fun e => h (strOf_inj hL hM e)).1]; simp [h]
theorem str_neq {L M : List Int} (hL : Byt L) (hM : Byt M) : ((strOfNums L).toList != (strOfNums M).toList) = !decide (L = M) := by
  rw [bne, str_eql hL hM]

theorem bytesEqual_any (ao bo : Option Addr) (L M : List Int) (c d : Nat) (w : World) (hr : Row w ao L.length (fl L)) (hs : Row w bo M.length (fl M)) (hL : Byt L) (hM : Byt M) :
    Calls Tryz.prog 92 #[.slice ao L.length c, .slice bo M.length d] w fun e w' => e = .returned (.bool (decide (L = M))) ∧ w' = w := by
  have h1 := conv_row w ao c L hr
  have h2 := conv_row w bo d M hs
  have h3 := str_eql hL hM
  generalize decide (L = M) = q at *
  generalize strOfNums L = S at *
  generalize strOfNums M = S' at *
  generalize L.length = l at *
  generalize M.length = m at *
  go_enter Tryz.func92, Tryz.ntmps92
  go_wp2
  go_ret
  exact ⟨by first | rfl | rw [h3], rfl⟩

theorem tbl1_list : (strOfNums [84, 66, 76, 49]).toList = [84, 66, 76, 49] := by first | decide | rfl | (simp [strOfNums]; done) | (simp [strOfNums, go_sem]; done)
theorem segL_four (f : Nat → Int) (q : Nat) : segL f q 4 = [f q, f (q + 1), f (q + 2), f (q + 3)] := rfl

set_option maxHeartbeats 1600000 in
theorem endFault_any (bb bo n cap : Nat) (f : Nat → Int) (w : World) (hr : Row w (some ⟨bb, bo, none⟩) n f) (hn : n ≤ 1048576) (hcap : n ≤ cap) :
    Calls Tryz.prog 62 #[.slice (some ⟨bb, bo, none⟩) n cap] w fun e w' => e = .returned (.int .i64 (endC f n)) ∧ Below w.heap.size w w' := by
  by_cases h1 : n < 20
  · have HC : Hid (endC f n = 1) := by unfold Hid endC; rw [if_pos (.inl h1)]
    have h1i : (n : Int) < 20 := by omega
    go_enter Tryz.func62, Tryz.ntmps62
    go_wp2
    go_ret
    exact ⟨by rw [HC.out]; rfl, Below.refl _ _⟩
  have h1i : ¬ (n : Int) < 20 := by omega
  by_cases h2 : 8000 < n
  · have HC : Hid (endC f n = 1) := by unfold Hid endC; rw [if_pos (.inr h2)]
    have h2i : (8000 : Int) < (n : Int) := by omega
    go_enter Tryz.func62, Tryz.ntmps62
    go_wp2
    go_ret
    exact ⟨by rw [HC.out]; rfl, Below.refl _ _⟩
  have h2i : ¬ (8000 : Int) < (n : Int) := by omega
  obtain ⟨s, hs⟩ : ∃ s, s = n - 4 := ⟨_, rfl⟩
  obtain ⟨u, hu⟩ : ∃ u, u = n - 8 := ⟨_, rfl⟩
  have HS : Hid (s + 4 = n ∧ u + 8 = n) := ⟨by omega, by omega⟩
  have hwS : IntKind.i64.wrap ((n : Int) - 4) = (s : Int) := by rw [IntKind.wrap_i64] <;> omega
  have hwU : IntKind.i64.wrap ((s : Int) - 4) = (u : Int) := by rw [IntKind.wrap_i64] <;> omega
  have hcs : ¬ cap = s := by omega
  have hsn : s ≤ n := by omega
  have hun : u ≤ n := by omega
  have hcu : u ≤ cap := by omega
  have hcv : (convert 22 9 (.slice (some ⟨bb, bo + s, none⟩) (n - s) (cap - s))).run Tryz.prog w = .ok (.string (strOfNums (segL f s 4))) w := by
    have := conv_row w (some ⟨bb, bo + s, none⟩) (cap - s) (segL f s 4) (hr.seg (by omega))
    rw [segL_len] at this
    rw [show n - s = 4 by omega]
    exact this
  have hT : ((strOfNums (segL f s 4)).toList == [84, 66, 76, 49]) = decide (segL f s 4 = [84, 66, 76, 49]) := by
    have := str_eql (segL_byt (q := s) (m := 4) hr.bd) (M := [84, 66, 76, 49]) (by intro x hx; simp at hx; omega)
    rw [tbl1_list] at this
    exact this
  have hsg : (segL f s 4 = [84, 66, 76, 49]) ↔ (f (n - 4) = 84 ∧ f (n - 3) = 66 ∧ f (n - 2) = 76 ∧ f (n - 1) = 49) := by
    rw [segL_four, hs, show n - 4 + 1 = n - 3 by omega, show n - 4 + 2 = n - 2 by omega, show n - 4 + 3 = n - 1 by omega]
    simp
  by_cases h3 : segL f s 4 = [84, 66, 76, 49]
  · have HC : Hid (endC f n = if crcOf f u ≠ num f u 4 then 3 else 0) := by
      unfold Hid endC
      rw [if_neg (by omega), if_neg (fun hh => hh (hsg.1 h3)), hu]
    have hT1 : ((strOfNums (segL f s 4)).toList == [84, 66, 76, 49]) = true := by rw [hT]; simp [h3]
    have hb := num_bd f hr.bd u 4
    have hfx : Calls Tryz.prog 86 #[.slice (some ⟨bb, bo, none⟩) n cap, .int .i64 u, .int .i64 4] w fun e w' => e = .returned (.tuple #[.int .i64 (num f u 4), .bool true]) ∧ Below w.heap.size w w' := by
      have := readFixed_impl_yes (some ⟨bb, bo, none⟩) n cap f u 4 w hr hn hcap (by omega) (by omega) (by omega)
      rw [rfAns_yes (by omega)] at this
      exact this
    clear hsg h3 hs hu hT
    rw [show (256 : Int) ^ 4 = 4294967296 from by decide] at hb
    generalize strOfNums (segL f s 4) = S at *
    generalize hA : num f u 4 = A at *
    have HA : Hid (num f u 4 = A) := hA
    clear hA
    go_enter Tryz.func62, Tryz.ntmps62
    go_wp2_with fail
    refine hfx.mono ?_
    rintro e w1 ⟨rfl, q1⟩
    have hcrc := crc_impl (some ⟨bb, bo, none⟩) u cap f w1 ((hr.front hun).keep q1) (by omega)
    have hcb : 0 ≤ crcOf f u ∧ crcOf f u ≤ 4294967295 := xor_bd _ _
    obtain ⟨c, hc⟩ : ∃ c, crcOf f u = c := ⟨_, rfl⟩
    rw [hc] at hcrc hcb HC
    have hwc : IntKind.i64.wrap c = c := by rw [IntKind.wrap_i64] <;> omega
    clear hc hfx
    go_wp2_with fail
    refine hcrc.mono ?_
    rintro e w2 ⟨rfl, q2⟩
    have bw := q1.trans (q2.mono q1.size)
    clear hcrc
    by_cases h4 : A = c
    · have h4b : (A != c) = false := by simp [h4]
      have HD : Hid (endC f n = 0) := by unfold Hid; rw [HC.out, if_neg (fun hh => hh h4.symm)]
      clear h4
      go_wp2
      go_ret
      exact ⟨by rw [HD.out]; rfl, bw⟩
    · have h4b : (A != c) = true := by simp [h4]
      have HD : Hid (endC f n = 3) := by unfold Hid; rw [HC.out, if_pos (fun hh => h4 hh.symm)]
      clear h4
      go_wp2
      go_ret
      exact ⟨by rw [HD.out]; rfl, bw⟩
  · have HC : Hid (endC f n = 2) := by
      unfold Hid endC
      rw [if_neg (by omega), if_pos (fun hh => h3 (hsg.2 hh))]
    have hT2 : ((strOfNums (segL f s 4)).toList == [84, 66, 76, 49]) = false := by rw [hT]; simp [h3]
    clear hsg h3 hT hs hu
    generalize strOfNums (segL f s 4) = S at *
    go_enter Tryz.func62, Tryz.ntmps62
    go_wp2
    go_ret
    exact ⟨by rw [HC.out]; rfl, Below.refl _ _⟩

/-- What the places are, and whether they may be. -/
def PlcO (A B z : Int) (w : World) (e : Ending) (w' : World) : Prop := ∃ ok : Bool, e = .returned (.tuple #[.int .i64 A, .int .i64 B, .bool ok]) ∧ (ok = true ↔ A ≤ B ∧ B ≤ z) ∧ Below w.heap.size w w'

set_option maxHeartbeats 1600000 in
theorem readPlaces_any (bb bo n cap : Nat) (f : Nat → Int) (w : World) (hr : Row w (some ⟨bb, bo, none⟩) n f) (hn : n ≤ 1048576) (hcap : n ≤ cap) (h20 : 20 ≤ n) :
    Calls Tryz.prog 88 #[.slice (some ⟨bb, bo, none⟩) n cap] w fun e w' => PlcO (num f (n - 20) 4) (num f (n - 16) 4) ((n : Int) - 20) w e w' := by
  have hfx : ∀ q W, q + 4 ≤ n → Row W (some ⟨bb, bo, none⟩) n f → Calls Tryz.prog 86 #[.slice (some ⟨bb, bo, none⟩) n cap, .int .i64 (q : Nat), .int .i64 4] W fun e w' => e = .returned (.tuple #[.int .i64 (num f q 4), .bool true]) ∧ Below W.heap.size W w' := fun q W hq hR => by
    have hb := num_bd f hr.bd q 4
    rw [show (256 : Int) ^ 4 = 4294967296 from by decide] at hb
    have := readFixed_impl_yes (some ⟨bb, bo, none⟩) n cap f q 4 W hR hn hcap (by omega) (by omega) (by omega)
    rw [rfAns_yes (by omega)] at this
    exact this
  obtain ⟨s, hs⟩ : ∃ s, s = n - 20 := ⟨_, rfl⟩
  obtain ⟨u, hu⟩ : ∃ u, u = n - 16 := ⟨_, rfl⟩
  have hwS : IntKind.i64.wrap ((n : Int) - 20) = (s : Int) := by rw [IntKind.wrap_i64] <;> omega
  have hwU : IntKind.i64.wrap ((s : Int) + 4) = (u : Int) := by rw [IntKind.wrap_i64] <;> omega
  have c1 := hfx s w (by omega) hr
  have c2 := fun W hW => hfx u W (by omega) hW
  have hse : (n : Int) - 20 = (s : Int) := by omega
  rw [hse, ← hs, ← hu]
  have hbA := num_bd f hr.bd s 4
  have hbB := num_bd f hr.bd u 4
  rw [show (256 : Int) ^ 4 = 4294967296 from by decide] at hbA hbB
  generalize num f s 4 = A at *
  generalize num f u 4 = B at *
  clear hfx hs hu hse
  go_enter Tryz.func88, Tryz.ntmps88
  go_wp2_with fail
  refine c1.mono ?_
  rintro e w1 ⟨rfl, q1⟩
  have c3 := c2 w1 (hr.keep q1)
  clear c1 c2
  go_wp2_with fail
  refine c3.mono ?_
  rintro e w2 ⟨rfl, q2⟩
  have bw := q1.trans (q2.mono q1.size)
  clear c3
  by_cases h1 : A ≤ B
  · by_cases h2 : B ≤ (s : Int)
    · go_wp2
      exact bodyPost_ret (v := .tuple #[.int .i64 A, .int .i64 B, .bool true]) (by simp [results, Tryz.results88, go_sem]) rfl ⟨true, rfl, by simp [h1, h2], bw⟩
    · go_wp2
      exact bodyPost_ret (v := .tuple #[.int .i64 A, .int .i64 B, .bool false]) (by simp [results, Tryz.results88, go_sem]; omega) rfl ⟨false, rfl, by simp; omega, bw⟩
  · go_wp2
    exact bodyPost_ret (v := .tuple #[.int .i64 A, .int .i64 B, .bool false]) (by simp [results, Tryz.results88, go_sem]) rfl ⟨false, rfl, by simp; omega, bw⟩
end Go.Proofs.YtohjjigkfdhklaaGreat
namespace Go.Proofs.YtohjjigkfdhklaaGreat
set_option maxRecDepth 100000
open Go.RowKit
set_option linter.unusedSimpArgs false
set_option linter.unusedVariables false

/-- y ways and the bits F are the filter of the keys at perKey p. -/
def isF (K : Nat → ByteArray) (n : Nat) (y : Int) (F : List Int) (p : Int) : Prop := y = fwI p ∧ F = ffl (kyF K (fwI p).toNat (fbI n p).toNat n) (fbI n p).toNat

set_option maxHeartbeats 3200000 in
theorem isFilterOf_any (fo : Option Addr) (fc : Nat) (y : Int) (F : List Int) (ao : Option Addr) (n cap : Nat) (K : Nat → ByteArray) (w : World) (hF : Row w fo F.length (fl F)) (hFB : Byt F) (hr : TRow w ao n K) (hz : TSz K n) (hn : n ≤ 100) :
    Calls Tryz.prog 91 #[.agg #[.int .i64 y, .slice fo F.length fc], .slice ao n cap] w fun e w' => Ans (∃ p : Int, (1 ≤ p ∧ p ≤ 20) ∧ isF K n y F p) w e w' := by
  have hB0 := below_new w (.cells #[.int .i64 y, .slice fo F.length fc] 55)
  have B0 := FAt.new w y (.slice fo F.length fc) 55
  have bws := hB0.size
  generalize hFl : F.length = fn at *
  have HFl : Hid (F.length = fn) := hFl
  clear hFl
  go_enter Tryz.func91, Tryz.ntmps91
  go_wp2
  generalize w.alloc (.cells #[.int .i64 y, .slice fo fn fc] 55) = w0 at *
  go_loopw [5] (fun i wr => ∃ k : Nat, 1 ≤ k ∧ k ≤ 21 ∧ i = .int .i64 k ∧ Hid (∀ q : Int, 1 ≤ q → q < k → ¬ isF K n y F q) ∧ FAt wr w.heap.size y (.slice fo fn fc) ∧ Below w.heap.size w wr) (fun i _ => 21 - (intOf i).toNat)
  case atStart => exact ⟨1, by omega, by omega, rfl, (fun q h1 h2 => by omega), B0, hB0⟩
  case round =>
    obtain ⟨k, hk1, hk, rfl, HN, hbx, bw⟩ := hrel
    by_cases hlt : k ≤ 20
    · have hki : (k : Int) ≤ 20 := by omega
      have hcall := filterOf_impl ao n cap K k wr (hr.keep bw) hz
      have hg : FOg n (k : Int) := ⟨hn, by omega, by omega⟩
      go_wp2_with fail
      refine hcall.mono ?_
      rintro e w1 ⟨hyes, _⟩
      obtain ⟨go, gc, rfl, hV, q1⟩ := hyes hg
      have hx1 := hbx.keep q1
      have bw1 := bw.trans (q1.mono bw.size)
      have q2 := below_new w1 (.cells #[.int .i64 (fwI k), .slice go (ffl (kyF K (fwI k).toNat (fbI n k).toNat n) (fbI n k).toNat).length gc] 55)
      have M2 := FAt.new w1 (fwI k) (.slice go (ffl (kyF K (fwI k).toNat (fbI n k).toNat n) (fbI n k).toNat).length gc) 55
      have hx2 := hx1.keep q2
      have V2 := hV.row.keep q2
      have bw2 := bw1.trans (q2.mono bw1.size)
      have hLB : Byt (ffl (kyF K (fwI k).toNat (fbI n k).toNat n) (fbI n k).toNat) := hV.bd
      have F2 := hF.keep bw2
      have HI : Hid (isF K n y F k ↔ (y = fwI k ∧ F = ffl (kyF K (fwI k).toNat (fbI n k).toNat n) (fbI n k).toNat)) := Iff.rfl
      generalize ffl (kyF K (fwI k).toNat (fbI n k).toNat n) (fbI n k).toNat = L at *
      generalize fwI (k : Int) = y' at *
      have hbe := bytesEqual_any go fo L F gc fc (w1.alloc (.cells #[.int .i64 y', .slice go L.length gc] 55)) V2 (by rw [HFl.out]; exact F2) hLB hFB
      rw [HFl.out] at hbe
      obtain ⟨_, d0, d1⟩ := id hx2
      obtain ⟨_, e0, e1⟩ := id M2
      clear hyes hcall hg hV q1 hx1 q2 hbx bw1 V2 F2
      by_cases hy : y' = y
      · have hyb : (y' == y) = true := by simp [hy]
        have HY : Hid (y' = y) := hy
        clear hy
        by_cases hLF : L = F
        · have hq : decide (L = F) = true := by simp [hLF]
          rw [hq] at hbe
          have HT : Hid (isF K n y F k) := HI.out.2 ⟨HY.out.symm, hLF.symm⟩
          clear hLF hq
          go_wp2_with fail
          refine hbe.mono ?_
          rintro e w3 ⟨rfl, rfl⟩
          go_wp2
          go_ret
          exact ⟨true, rfl, by simp only [true_iff]; exact ⟨k, ⟨by omega, by omega⟩, HT.out⟩, bw2⟩
        · have hq : decide (L = F) = false := by simp [hLF]
          rw [hq] at hbe
          have HT : Hid (¬ isF K n y F k) := fun h => hLF (HI.out.1 h).2.symm
          clear hLF hq
          go_wp2_with fail
          refine hbe.mono ?_
          rintro e w3 ⟨rfl, rfl⟩
          go_wp2
          go_roundw
          case rel =>
            refine ⟨k + 1, by omega, by omega, by go_num, (fun q h1 h2 => ?_), hx2, bw2⟩
            by_cases e : q = k
            · subst e; exact HT.out
            · exact HN.out q h1 (by omega)
          case measure => simp [intOf]; omega
      · have hyb : (y' == y) = false := by simp [hy]
        have HT : Hid (¬ isF K n y F k) := fun h => hy (HI.out.1 h).1.symm
        clear hy
        go_wp2
        go_roundw
        case rel =>
          refine ⟨k + 1, by omega, by omega, by go_num, (fun q h1 h2 => ?_), hx2, bw2⟩
          by_cases e : q = k
          · subst e; exact HT.out
          · exact HN.out q h1 (by omega)
        case measure => simp [intOf]; omega
    · obtain rfl : k = 21 := by omega
      go_wp2
      go_ret
      exact ⟨false, rfl, by simp only [Bool.false_eq_true, false_iff]; rintro ⟨p, ⟨h1, h2⟩, h3⟩; exact HN.out p h1 (by omega) h3, bw⟩
end Go.Proofs.YtohjjigkfdhklaaGreat
namespace Go.Proofs.YtohjjigkfdhklaaGreat
set_option maxRecDepth 100000
open Go.RowKit
set_option linter.unusedSimpArgs false
set_option linter.unusedVariables false

theorem Row.cell {w : World} {b off n i : Nat} {f : Nat → Int} (h : Row w (some ⟨b, off, none⟩) n f) (hi : i < n) : w.cell? ⟨b, off + i, none⟩ = some (.int .u8 (f i)) := by
  obtain ⟨b', o', e, hb, hc⟩ := h.lies.resolve_left (by omega)
  injection e with e
  injection e with e1 e2 _
  subst e1 e2
  exact hc i hi
theorem Row.lt {w : World} {b off n : Nat} {f : Nat → Int} (h : Row w (some ⟨b, off, none⟩) n f) (hn : 0 < n) : b < w.heap.size := by
  obtain ⟨b', o', e, hb, hc⟩ := h.lies.resolve_left (by omega)
  injection e with e
  injection e with e1 e2 _
  subst e1
  exact hb
theorem rf_copyR (cap : Nat) {w w2 w3 : World} {b off m n ub : Nat} {f : Nat → Int} {y : Int} {v : Value} (hbd : ∀ i, 0 ≤ f i ∧ f i ≤ 255) (hm : m = n - 1) (h0 : ¬ n = 0) (hsw : w.heap.size ≤ w2.heap.size) (hb3 : Below w2.heap.size w2 w3) (ho : Own w3 w2.heap.size 0 m (fun _ => 0)) (R2 : Row w2 (some ⟨b, off, none⟩) n f) (F2 : FAt w2 ub y v) (Z2 : FAt w2 w.heap.size 0 (.slice none 0 0)) (fz2 : ∀ j, w2.frozen? ⟨w.heap.size, j, none⟩ = false) (B2 : Below w.heap.size w w2) :
    ∃ w4, (Builtin.copy_ #[22, 22] 3 #[.slice (some ⟨w2.heap.size, 0, none⟩) m m, .slice (some ⟨b, off + 1, none⟩) m (cap - 1)]).run Tryz.prog w3 = .ok (.int .i64 m) w4 ∧ Hid (Own w4 w2.heap.size 0 m (fun i => f (i + 1))) ∧ FAt w4 ub y v ∧ FAt w4 w.heap.size 0 (.slice none 0 0) ∧ w4.frozen? ⟨w.heap.size, 0, none⟩ = false ∧ w4.frozen? ⟨w.heap.size, 1, none⟩ = false ∧ Below w.heap.size w w4 := by
  obtain ⟨w4, hrun, o4, q4⟩ := copyB_run w3 w2.heap.size m 0 m m b (off + 1) (cap - 1) _ (fun i => f (i + 1)) ho (by omega) (fun i => hbd (i + 1)) (fun i hi => by
    have h1 := (R2.keep hb3).cell (i := i + 1) (by omega)
    rw [← h1, show off + (i + 1) = off + 1 + i by omega])
  have fz4 : ∀ j, w4.frozen? ⟨w.heap.size, j, none⟩ = false := fun j => (World.frozen?_of_block (w := w3) (a := ⟨w.heap.size, j, none⟩) (q4.block w.heap.size (by have := Z2.lt; omega))).trans ((hb3.frozen (p := ⟨w.heap.size, j, none⟩) Z2.lt).trans (fz2 j))
  exact ⟨w4, hrun, o4.congr (fun i => hbd (i + 1)) (fun i hi => by simp [hi]), (F2.keep hb3).mid (Mid.of_others (B := w2.heap.size) (U := w2.heap.size + 1) q4 (Nat.le_refl _) (by omega)) (by have := F2.lt; omega), (Z2.keep hb3).mid (Mid.of_others (B := w2.heap.size) (U := w2.heap.size + 1) q4 (Nat.le_refl _) (by omega)) (by have := Z2.lt; omega), fz4 0, fz4 1, (B2.trans (hb3.mono hsw)).trans (q4.below hsw)⟩

set_option maxHeartbeats 1000000 in
theorem readFilter_row (b off n cap : Nat) (f : Nat → Int) (w : World) (hr : Row w (some ⟨b, off, none⟩) n f) (hn : n ≤ 1048576) (hcap : n ≤ cap) :
    Calls Tryz.prog 90 #[.slice (some ⟨b, off, none⟩) n cap] w fun e w' => RFO n f w e w' := by
  obtain ⟨i0, hi, hz0, hz1, hz2⟩ := info_parts Tryz.info5
  by_cases h0 : n = 0
  · subst h0
    have hB : Below w.heap.size w ((w.alloc (.cells #[.int .i64 0, .slice none 0 0] 55)).setCell ⟨w.heap.size, 0, none⟩ (.int .i64 0)) := (below_new w _).setCell (p := ⟨w.heap.size, 0, none⟩) (Nat.le_refl _) _
    go_enter Tryz.func90, Tryz.ntmps90
    go_wp2
    refine bodyPost_ret (v := .tuple #[.agg #[.int .i64 0, .slice none 0 0], .bool false]) (by simp [results, Tryz.results90, go_sem]) rfl ⟨fun h => absurd h.1 (by omega), fun _ => ro_zero ?_⟩
    repeat' refine Below.setCell ?_ (by first | (simp; done) | (simp; omega)) _
    exact below_new w _
  · have hblt := hr.lt (by omega)
    have c0 := hr.cell (i := 0) (by omega)
    have hb0 := hr.bd 0
    have hd1 : decide ((n : Int) < 1) = false := by simp; omega
    simp only [Nat.add_zero] at c0
    have W0 := below_new w (.cells #[.int .i64 0, .slice none 0 0] 55)
    have Z0 := FAt.new w 0 (.slice none 0 0) 55
    have c1 : (w.alloc (.cells #[.int .i64 0, .slice none 0 0] 55)).cell? ⟨b, off, none⟩ = some (.int .u8 (f 0)) := (W0.cell (p := ⟨b, off, none⟩) hblt).trans c0
    have hn0 : (0 : Int) < (n : Int) := by omega
    have hn1 : (1 : Int) ≤ (n : Int) := by omega
    have hn2 : 0 < n := by omega
    have hn1' : ¬ (n : Int) < 1 := by omega
    have hwf : IntKind.i64.wrap (f 0) = f 0 := by rw [IntKind.wrap_i64] <;> omega
    have hne := World.new_ne (w.alloc (.cells #[.int .i64 0, .slice none 0 0] 55)) _ c1
    have hfz : ∀ j, (w.alloc (.cells #[.int .i64 0, .slice none 0 0] 55)).frozen? ⟨w.heap.size, j, none⟩ = false := fun j => by simp [go_sem]
    obtain ⟨A, hA⟩ : ∃ A : Option Addr, (if cap = 1 then some ⟨b, off, none⟩ else some ⟨b, off + 1, none⟩) = A := ⟨_, rfl⟩
    have HA : Hid (n ≠ 1 → A = some ⟨b, off + 1, none⟩) := fun h => by rw [← hA, if_neg (by omega)]
    go_enter Tryz.func90, Tryz.ntmps90
    go_wp2
    generalize w.alloc (.cells #[.int .i64 0, .slice none 0 0] 55) = u at *
    go_region_held3 (fun w' => w'.cell? ⟨b, off, none⟩ = some (.int .u8 (f 0))) (go_keep) (fail)
    clear hA hne
    have D1 : Below u.heap.size u (u.alloc (.cells #[.int .i64 (f 0), .slice A (n - 1) (cap - 1)] 55)).drew := (below_new u _).drew
    have F1 : FAt (u.alloc (.cells #[.int .i64 (f 0), .slice A (n - 1) (cap - 1)] 55)).drew u.heap.size (f 0) (.slice A (n - 1) (cap - 1)) := (FAt.new u (f 0) (.slice A (n - 1) (cap - 1)) 55).keep (Below.refl _ _).drew
    have Z1 := Z0.keep D1
    have R1 := (hr.keep W0).keep D1
    have B1 : Below w.heap.size w (u.alloc (.cells #[.int .i64 (f 0), .slice A (n - 1) (cap - 1)] 55)).drew := W0.trans (D1.mono W0.size)
    have fz1 : ∀ j, (u.alloc (.cells #[.int .i64 (f 0), .slice A (n - 1) (cap - 1)] 55)).drew.frozen? ⟨w.heap.size, j, none⟩ = false := fun j => (D1.frozen (p := ⟨w.heap.size, j, none⟩) Z0.lt).trans (hfz j)
    have hzu := Z0.lt
    clear Z0 c1 D1 hfz W0
    generalize (u.alloc (.cells #[.int .i64 (f 0), .slice A (n - 1) (cap - 1)] 55)).drew = w1 at *
    obtain ⟨lf, f0, f1⟩ := id F1
    go_wp2_with fail
    refine (goodFilter_impl (f 0) A (n - 1) (cap - 1) _ (by omega)).mono ?_
    rintro e w2 ⟨b2, rfl, h2, q2⟩
    have Z2 := Z1.keep q2
    have F2 := F1.keep q2
    have R2 := R1.keep q2
    have B2 : Below w.heap.size w w2 := B1.trans (q2.mono B1.size)
    have fz2 : ∀ j, w2.frozen? ⟨w.heap.size, j, none⟩ = false := fun j => (q2.frozen (p := ⟨w.heap.size, j, none⟩) Z1.lt).trans (fz1 j)
    clear Z1 F1 R1 B1 fz1 q2 lf f0 f1
    obtain ⟨lz, z0, z1⟩ := id Z2
    obtain ⟨lf, f0, f1⟩ := id F2
    have g0 := fz2 0
    have g1 := fz2 1
    cases b2
    · have K : Hid (¬ IsFl n f) := fun h => by
        have := h2.2 h.2
        cases this
      clear h2
      go_wp2
      refine bodyPost_ret (v := .tuple #[.agg #[.int .i64 0, .slice none 0 0], .bool false]) (by simp [results, Tryz.results90, go_sem, z0, z1]) rfl ⟨fun h => absurd h K.out, fun _ => ro_zero ?_⟩
      repeat' refine Below.setCell ?_ (by first | (simp; done) | (simp; omega)) _
      exact B2
    · have hg := h2.1 rfl
      have HG : Hid (IsFl n f) := ⟨by omega, hg⟩
      obtain ⟨⟨hy1, hy8⟩, hm1, hm2⟩ := hg
      obtain rfl := HA.out (by omega)
      obtain ⟨m, hm⟩ : ∃ m, m = n - 1 := ⟨_, rfl⟩
      rw [← hm] at f1 hm1 hm2 F2
      rw [← hm]
      have HM : Hid (m = n - 1) := hm
      have hm3 : n ≤ 201 := by omega
      clear HA h2 hm
      have hsw := B2.size
      go_wp2_with (at_make; refine wpList_make_full _ rfl (.tmp 23) (.tmp 23) 22 rfl w2.heap.size 5 i0 (.int .u8 0) 1 Tryz.underlying22 hi hz0 hz1 .i64 .i64 _ _ m rfl rfl rfl rfl (by rw [hz2]; omega) (by unfold maxLen; omega) (Nat.le_refl _) ?_; intro w3 hown hgrow; obtain ⟨hb3, ho⟩ := made_facts hown hgrow; clear hown hgrow; have F3 := F2.keep hb3; obtain ⟨_, f0', f1'⟩ := F3; obtain ⟨w4, hrun, HO, F4, Z4, h4, h5, B4⟩ := rf_copyR cap hr.bd HM.out h0 hsw hb3 ho R2 F2 Z2 fz2 B2; obtain ⟨lf4, p0, p1⟩ := F4; obtain ⟨lz4, r0, r1⟩ := Z4; have hzl := Z2.lt; clear ho lf f0 f1 lz z0 z1 F2 Z2 R2 fz2 g0 g1 hb3)
      refine bodyPost_ret (v := .tuple #[.agg #[.int .i64 (f 0), .slice (some ⟨w2.heap.size, 0, none⟩) m m], .bool true]) (by simp [results, Tryz.results90, go_sem, r0, r1]) rfl ⟨fun _ => ?_, fun h => absurd HG.out h⟩
      refine ⟨some ⟨w2.heap.size, 0, none⟩, m, by rw [ffl_len, HM.out], ?_, ?_⟩
      · refine ⟨ffl_byt (fun i => hr.bd (i + 1)), Nat.le_refl _, .inr ⟨w2.heap.size, 0, rfl, hsw, by simp; exact HO.out.lt, ?_⟩⟩
        rw [ffl_len, ← HM.out]
        refine Own.congr (f := fun i => f (i + 1)) ?_ (Byt.fl (ffl_byt (fun i => hr.bd (i + 1)))) (fun i hi => by rw [ffl_fl hi])
        repeat' refine (Others.setCell _ _ _ _).row ?_ (by omega)
        exact HO.out
      · repeat' refine Below.setCell ?_ (by first | (simp; done) | (simp; omega)) _
        exact B4

end Go.Proofs.YtohjjigkfdhklaaGreat
namespace Go.Proofs.YtohjjigkfdhklaaGreat
set_option maxRecDepth 100000
open Go.RowKit
set_option linter.unusedSimpArgs false
set_option linter.unusedVariables false

/-- An entry whose Hist is nothing beyond its end. -/
def nrE (x : Ent) : Ent := ⟨x.key, x.seq, x.kind, x.c, x.s, x.lo, x.hi, x.n, fun i => if i < x.n then x.f i else 0, x.fu⟩
theorem ey_nr {f : Nat → Int} {n q q' : Nat} {ah : ByteArray} {x : Ent} (h : EY f n q ah x q') : EY f n q ah (nrE x) q' := by
  obtain ⟨sh, rs, mn, q1, q2, q3, q5, h1, h2, h3, h4, h5, h6, h7, h8, h9, h10, h11⟩ := h
  refine ⟨sh, rs, mn, q1, q2, q3, q5, h1, h2, h3, h4, h5, h6, h7, h8, h9, ?_, h11⟩
  rcases h10 with ⟨a, b⟩ | ⟨a, N, b1, b2, b3, b4, b5, b6, b7, b8⟩
  · exact .inl ⟨a, b⟩
  · refine .inr ⟨a, N, b1, b2, b3, b4, b5, b6, fun i hi => ?_, b8⟩
    show (if i < x.n then x.f i else 0) = _
    rw [if_pos (by omega)]
    exact b7 i hi
theorem ahR_nr (X : Nat → Ent) (k : Nat) : ahR (fun i => nrE (X i)) k = ahR X k := rfl
theorem rdK_nr {f : Nat → Int} {n k q : Nat} {X : Nat → Ent} (h : RdK f n X k q) : RdK f n (fun i => nrE (X i)) k q := by
  obtain ⟨P, h0, h1, h2⟩ := h
  exact ⟨P, h0, h1, fun i hi => ⟨(h2 i hi).1, by rw [ahR_nr]; exact ey_nr (h2 i hi).2⟩⟩
theorem HRow.nr {w : World} {base : Nat} {hv v : Value} {x : Ent} (h : HRow w base hv x v) : HRow w base hv (nrE x) v := by
  obtain ⟨lo, lc, e, h | ⟨G, e2, h1, h2, h3⟩⟩ := h
  · exact ⟨lo, lc, e, .inl h⟩
  · refine ⟨lo, lc, e, .inr ⟨G, e2, h1, h2.congr (fun i => ?_) (fun i hi => ?_), h3⟩⟩
    · show _ ≤ (if i < x.n then x.f i else 0) ∧ (if i < x.n then x.f i else 0) ≤ _
      have := h2.bd i
      split <;> omega
    · show x.f i = if i < x.n then x.f i else 0
      rw [if_pos hi]
theorem HRow.lower {w : World} {base base2 : Nat} {hv v : Value} {x : Ent} (h : HRow w base hv x v) (hb : base2 ≤ base) : HRow w base2 hv x v := by
  obtain ⟨lo, lc, e, h | ⟨G, e2, h1, h2, h3⟩⟩ := h
  · exact ⟨lo, lc, e, .inl h⟩
  · exact ⟨lo, lc, e, .inr ⟨G, e2, by omega, h2, h3⟩⟩
theorem OutH.lower {w : World} {base base2 : Nat} {v : Value} {n : Nat} {X : Nat → Ent} {V : Nat → Value} (h : OutH w base v n X V) (hb : base2 ≤ base) : OutH w base2 v n X V :=
  ⟨ownsRow_mono h.own hb, fun i hi => (h.row i hi).lower hb, h.dis⟩
theorem OutH.nr {w : World} {base : Nat} {v : Value} {n : Nat} {X : Nat → Ent} {V : Nat → Value} (h : OutH w base v n X V) : OutH w base v n (fun i => nrE (X i)) V :=
  ⟨h.own, fun i hi => (h.row i hi).nr, h.dis⟩
theorem HRow.io {w : World} {base : Nat} {hv v : Value} {x : Ent} (h : HRow w base hv (nrE x) v) : ∃ lo lc, hv = .slice lo (nrE x).n lc ∧ IRow w lo (nrE x).n (nrE x).f := by
  obtain ⟨lo, lc, e, h | ⟨G, e2, h1, h2, h3⟩⟩ := h
  · refine ⟨lo, lc, e, ⟨fun i => ?_, .inl h.1⟩⟩
    have h0 : x.n = 0 := h.1
    show _ ≤ (if i < x.n then x.f i else 0) ∧ (if i < x.n then x.f i else 0) ≤ _
    rw [if_neg (by omega)]
    omega
  · refine ⟨lo, lc, e, ?_⟩
    rw [e2]
    exact h2.row
/-- What is read is no greater than a number may be. -/
theorem ey_eb {f : Nat → Int} {n q q' : Nat} {ah : ByteArray} {x : Ent} (h : EY f n q ah x q') (hk : x.key.size ≤ 9223372036854775807) : EB x := by
  obtain ⟨sh, rs, mn, q1, q2, q3, q5, h1, h2, h3, h4, h5, h6, h7, h8, h9, h10, h11⟩ := h
  have hp := rdNum_pos h3
  refine ⟨by omega, ?_, hk, ?_⟩
  · rcases h10 with ⟨a, b1, b2, _⟩ | ⟨a, N, ⟨_, _, _, hG⟩, b2, b3, _⟩
    · omega
    · have hc : 0 ≤ fi N 0 ∧ fi N 0 ≤ 1000000000 := by have := hG.1; simpa [isC, btw] using this
      rw [b3]
      cases hfu : (fun i => f (q5 + rs.toNat + i)) 0 == 1
      · have := (hG.2.2.2.1 hfu).2
        omega
      · have := (hG.2.2.2.2.1 hfu).1
        omega
  · rcases h10 with ⟨a, b1, b2, b3, b4, b5, b6⟩ | ⟨a, N, _, b2, b3, b4, b5, b6, _⟩ <;> omega
theorem ey_n {f : Nat → Int} {n q q' : Nat} {ah : ByteArray} {x : Ent} (h : EY f n q ah x q') : x.n ≤ 8 := by
  obtain ⟨sh, rs, mn, q1, q2, q3, q5, h1, h2, h3, h4, h5, h6, h7, h8, h9, h10, h11⟩ := h
  rcases h10 with ⟨a, b1, b2, b3, b4, b5, b6⟩ | ⟨a, N, _, b2, b3, b4, b5, b6, _⟩ <;> omega
theorem rdK_key {f : Nat → Int} {n : Nat} {X : Nat → Ent} {k q : Nat} (h : RdK f n X k q) : ∀ i, i < k → (X i).key.size ≤ 2 * n := by
  obtain ⟨P, h0, h1, h2⟩ := h
  have key : ∀ i, i < k → (X i).key.size ≤ P (i + 1) := by
    intro i
    induction i with
    | zero =>
      intro hi
      have := ey_size (h2 0 hi).2
      have e : ahR X 0 = ByteArray.empty := rfl
      rw [e] at this
      have e0 : ByteArray.empty.size = 0 := rfl
      omega
    | succ i ih =>
      intro hi
      have h3 := ey_size (h2 (i + 1) hi).2
      have h4 := ih (by omega)
      have h5 : (ahR X (i + 1)).size ≤ P (i + 1) := by
        unfold ahR
        split
        · have e0 : ByteArray.empty.size = 0 := rfl
          omega
        · exact h4
      omega
  intro i hi
  have := key i hi
  have hs := (h2 i hi).1
  by_cases e : i + 1 < k
  · have := (h2 (i + 1) e).1
    omega
  · have h6 := (h2 i hi).2
    obtain ⟨sh, rs, mn, q1, q2, q3, q5, g1, g2, g3, g4, g5, g6, g7, g8, g9, g10, g11⟩ := h6
    rcases g10 with ⟨a, _⟩ | ⟨a, N, ⟨b, _⟩, _⟩ <;> omega
theorem rdK_eb {f : Nat → Int} {n : Nat} {X : Nat → Ent} {k q : Nat} (h : RdK f n X k q) (hn : n ≤ 8000) : (∀ i, i < k → EB (X i)) ∧ ESize k X := by
  have hk := rdK_key h
  obtain ⟨P, h0, h1, h2⟩ := h
  exact ⟨fun i hi => ey_eb (h2 i hi).2 (by have := hk i hi; omega), fun i hi => ⟨by have := hk i hi; omega, by have := ey_n (h2 i hi).2; omega⟩⟩
theorem fm9_len (n : Nat) (X : Nat → Ent) (V : Nat → Value) : ((List.range n).flatMap fun i => ecells (X i) (V i)).length = n * 9 := by
  induction n with
  | zero => rfl
  | succ n ih => rw [List.range_succ, List.flatMap_append, List.length_append, ih]; simp [ecells]; omega
theorem fm9_get (n : Nat) (X : Nat → Ent) (V : Nat → Value) {i j : Nat} (hi : i < n) (hj : j < 9) : ((List.range n).flatMap fun i => ecells (X i) (V i))[i * 9 + j]? = (ecells (X i) (V i))[j]? := by
  induction n with
  | zero => omega
  | succ n ih =>
    rw [List.range_succ, List.flatMap_append]
    by_cases h : i < n
    · rw [List.getElem?_append_left (by rw [fm9_len]; omega), ih h]
    · obtain rfl : i = n := by omega
      rw [List.getElem?_append_right (by rw [fm9_len]; omega), fm9_len, Nat.add_sub_cancel_left]
      simp
/-- Entries of a row of the call's own, as entries that are read. -/
theorem erow_of {w : World} {base : Nat} {v : Value} {n : Nat} {X : Nat → Ent} {V : Nat → Value} (h : w.ownsRow base 35 9 v n ((List.range n).flatMap fun i => ecells (X i) (V i)))
    (hrow : ∀ i, i < n → ∃ lo lc, V i = .slice lo (X i).n lc ∧ IRow w lo (X i).n (X i).f) (hbd : ∀ i, i < n → EB (X i)) : ∃ ao cap, v = .slice ao n cap ∧ ERow w ao n X := by
  rcases h.2 with ⟨rfl, h0⟩ | ⟨g, cap, cur, rfl, hbg, hg, hnc, _⟩
  · exact ⟨none, 0, by rw [h0], hbd, .inl h0⟩
  · have hlt := (Array.getElem?_eq_some_iff.1 hg).1
    refine ⟨some ⟨g, 0, none⟩, cap, rfl, hbd, .inr ⟨g, 0, rfl, hlt, fun i hi => ?_⟩⟩
    obtain ⟨lo, lc, hV, hr⟩ := hrow i hi
    have c : ∀ j, j < 9 → w.cell? ⟨g, i * 9 + j, none⟩ = (ecells (X i) (V i))[j]? := fun j hj => by rw [h.cellAt (i * 9 + j) (by omega), fm9_get n X V hi hj]
    rw [hV] at c
    refine ⟨lo, lc, ?_, hr⟩
    rw [Nat.zero_add]
    exact ⟨hlt, c 0 (by omega), c 1 (by omega), c 2 (by omega), c 3 (by omega), c 4 (by omega), c 5 (by omega), c 6 (by omega), c 7 (by omega), c 8 (by omega)⟩
theorem OutH.erow {w : World} {base : Nat} {v : Value} {n : Nat} {X : Nat → Ent} {V : Nat → Value} (h : OutH w base v n (fun i => nrE (X i)) V) (hbd : ∀ i, i < n → EB (nrE (X i))) (hn : 0 < n) :
    ∃ g cap, v = .slice (some ⟨g, 0, none⟩) n cap ∧ n ≤ cap ∧ base ≤ g ∧ ERow w (some ⟨g, 0, none⟩) n (fun i => nrE (X i)) := by
  obtain ⟨ao, c, e, hr⟩ := erow_of h.own (fun i hi => (h.row i hi).io) hbd
  rcases h.own.2 with ⟨_, h0⟩ | ⟨g, cap, cur, e2, hbg, hg, hnc, _⟩
  · omega
  · rw [e] at e2
    injection e2 with e3 e4 e5
    subst e3
    exact ⟨g, c, e, by omega, hbg, hr⟩
theorem OutH.ce {w : World} {base : Nat} {v : Value} {n : Nat} {X : Nat → Ent} {V : Nat → Value} (h : OutH w base v n X V) (hn : 0 < n) :
    ∃ g cap L C, v = .slice (some ⟨g, 0, none⟩) n cap ∧ n ≤ cap ∧ base ≤ g ∧ CE w g n X L C ∧ ∀ i, i < n → 0 < (X i).n → ∀ c, L i = some ⟨c, 0, none⟩ → base ≤ c := by
  rcases h.own.2 with ⟨_, h0⟩ | ⟨g, cap, cur, rfl, hbg, hg, hnc, _⟩
  · omega
  · have hlt := (Array.getElem?_eq_some_iff.1 hg).1
    have key : ∀ i, ∃ p : Option Addr × Nat, i < n → V i = .slice p.1 (X i).n p.2 ∧ ((X i).n = 0 ∨ ∃ c, p.1 = some ⟨c, 0, none⟩ ∧ base ≤ c ∧ (V i).ownBlock = some c ∧ g ≠ c ∧ IOwn w c 0 (X i).n (X i).f) := by
      intro i
      by_cases hi : i < n
      · obtain ⟨lo, lc, h1, h2 | ⟨G, h2, h3, h4, h5⟩⟩ := h.row i hi
        · exact ⟨(lo, lc), fun _ => ⟨h1, .inl h2.1⟩⟩
        · exact ⟨(lo, lc), fun _ => ⟨h1, .inr ⟨G, h2, h3, by rw [h1, h2]; rfl, fun e => h5 (by rw [e]; rfl), h4⟩⟩⟩
      · exact ⟨(none, 0), fun hh => absurd hh hi⟩
    obtain ⟨P, hP⟩ := Classical.axiomOfChoice key
    have c : ∀ i j, i < n → j < 9 → w.cell? ⟨g, i * 9 + j, none⟩ = (ecells (X i) (V i))[j]? := fun i j hi hj => by rw [h.own.cellAt (i * 9 + j) (by omega), fm9_get n X V hi hj]
    refine ⟨g, cap, fun i => (P i).1, fun i => (P i).2, rfl, by omega, hbg, ⟨hlt, fun i hi => ?_, fun j _ => by simpa using h.own.frozenAt j, fun i hi => ?_, fun i j hi hj hij h1 h2 q hL1 hL2 => ?_⟩, fun i hi h0 q hL => ?_⟩
    · have cc := fun j hj => c i j hi hj
      rw [(hP i hi).1] at cc
      exact ⟨hlt, cc 0 (by omega), cc 1 (by omega), cc 2 (by omega), cc 3 (by omega), cc 4 (by omega), cc 5 (by omega), cc 6 (by omega), cc 7 (by omega), cc 8 (by omega)⟩
    · rcases (hP i hi).2 with h0 | ⟨q, h1, _, h3, h4, h5⟩
      · exact .inl h0
      · exact .inr ⟨q, h1, fun e => h4 e.symm, h5⟩
    · obtain ⟨q1, a1, _, a3, _⟩ := (hP i hi).2.resolve_left (by omega)
      obtain ⟨q2, b1, _, b3, _⟩ := (hP j hj).2.resolve_left (by omega)
      have e1 : q1 = q := by have hh : (P i).1 = some ⟨q, 0, none⟩ := hL1; rw [a1] at hh; injection hh with hh; injection hh
      have e2 : q2 = q := by have hh : (P j).1 = some ⟨q, 0, none⟩ := hL2; rw [b1] at hh; injection hh with hh; injection hh
      exact h.dis i j hi hj hij q1 a3 (by rw [b3, e1, e2])
    · obtain ⟨q1, a1, a2, _⟩ := (hP i hi).2.resolve_left (by omega)
      have e1 : q1 = q := by have hh : (P i).1 = some ⟨q, 0, none⟩ := hL; rw [a1] at hh; injection hh with hh; injection hh
      omega
theorem isTb_seg {f : Nat → Int} {n : Nat} {X : Nat → Ent} {m : Nat} {p : Int} (h : IsTb f n X m p) : segL f 0 n = tbP X m p := by
  obtain ⟨_, hl, hs⟩ := h
  unfold segL
  rw [← hl]
  exact seg_list hs
theorem isTb_of {f : Nat → Int} {n : Nat} {X : Nat → Ent} {m : Nat} {p : Int} (hF : FitT X m) (hp : 1 ≤ p ∧ p ≤ 20) (hn : n ≤ 8000) (e : tbP X m p = segL f 0 n) : IsTb f n X m p := by
  refine ⟨⟨hF, hp, by rw [e, segL_len]; exact hn⟩, by rw [e, segL_len], fun i hi => ?_⟩
  rw [e, segL_len] at hi
  rw [e, segL_fl hi]
/-- What is read of a table's bytes is the table's. -/
theorem IsTb.meet {f : Nat → Int} {n : Nat} {Y : Nat → Ent} {m : Nat} {q : Int} (h : IsTb f n Y m q) {A : Nat} (hA : num f (n - 20) 4 = (A : Int)) {X : Nat → Ent} {k : Nat} (hR : RdK f A X k A) : k = m ∧ Alike Y X k ∧ FitT X k := by
  have e : tA Y m = A := by have := h.plc.2.2.2.2.2.1; omega
  have r := h.rd
  rw [e] at r
  obtain ⟨e2, hS⟩ := rdK_all r hR
  subst e2
  have ha : Alike Y X m := fun i hi => ⟨hS i hi, h.1.1.2.1 i hi⟩
  exact ⟨rfl, ha, ha.fit h.1.1⟩
theorem IsTb.filter {f : Nat → Int} {n : Nat} {Y : Nat → Ent} {m : Nat} {q : Int} (h : IsTb f n Y m q) {A B : Nat} (hA : num f (n - 20) 4 = (A : Int)) (hB : num f (n - 16) 4 = (B : Int)) :
    A ≤ B ∧ B + 20 ≤ n ∧ IsFl (B - A) (fun i => f (A + i)) ∧ f A = fwI q ∧ ffl (fun i => f (A + (i + 1))) (B - A - 1) = fLt Y m q := by
  obtain ⟨_, h2, _, h4, h5, h6, h7, _⟩ := h.plc
  have e : tA Y m = A := by omega
  have e2 : tB Y m q = B := by omega
  have e3 : B = A + 1 + fbN Y m q := by rw [← e2, ← e]; rfl
  have hf := fbN_le Y m q
  have hw := @fwI_bd q
  rw [e] at h4 h5
  refine ⟨by omega, by omega, ⟨by omega, ?_, by omega, by omega⟩, h4, ?_⟩
  · show 1 ≤ f (A + 0) ∧ f (A + 0) ≤ 8
    rw [Nat.add_zero, h4]
    exact hw
  · have := seg_list h5
    rw [fLt_len] at this
    rw [← this, show B - A - 1 = fbN Y m q by omega]
    unfold ffl
    exact List.map_congr_left fun i _ => by rw [show A + (i + 1) = A + 1 + i by omega]
/-- The filter is that of the keys. -/
theorem isF_iff (X : Nat → Ent) (k : Nat) (y : Int) (F : List Int) (p : Int) : isF (cF X k) (cK X k).length y F p ↔ y = fwI p ∧ F = fLt X k p := Iff.rfl
end Go.Proofs.YtohjjigkfdhklaaGreat
