/- The law of the keys, walked. -/
import Derived.Test.YtpddodjecbcmlaaDc
import Derived.Test.YtpddodjecbcmlaaKo
import Derived.Test.YtpddodjecbcmlaaReadImpl
import Derived.Laws.BytesArg
namespace Go.Proofs.Ytpddodjecbcmlaa
open Go.RowKit
set_option linter.unusedSimpArgs false
set_option linter.unusedVariables false

theorem conv_own (w : World) (g c : Nat) (L : List Int) (h : Own w g 0 L.length (lf L)) : (convert 22 9 (.slice (some ⟨g, 0, none⟩) L.length c)).run Try.prog w = .ok (.string (strOfNums L)) w :=
  run_convert_bytes_arg (P := Try.prog) w 22 5 Try.underlying22 Try.underlying5 g 0 L.length c L rfl (fun i hi => h.cell i hi) 9 Try.underlying9
theorem isKey_self {m : ByteArray} {n : Nat} {nm vl : Nat → ByteArray} {st : Int} (h : goodB m n nm vl st = true) : IsKey (lf (kbytes m n nm vl st)) (kbytes m n nm vl st).length m n nm vl st :=
  ⟨h, rfl, fun i hi => by simp [lf, List.getD_eq_getElem?_getD, hi]⟩
theorem isKey_bytes {L : List Int} {m : ByteArray} {n : Nat} {nm vl : Nat → ByteArray} {st : Int} (h : IsKey (lf L) L.length m n nm vl st) : kbytes m n nm vl st = L := by
  refine List.ext_getElem h.len (fun i h1 h2 => ?_)
  rw [← h.byte i h1]
  simp [lf, List.getD_eq_getElem?_getD, h2]
/-- A key, as the texts on windows have it. -/
def mkW (m : ByteArray) (n : Nat) (nm vl : Nat → ByteArray) (st : Int) : Wn := ⟨m, n, nm, vl, st, 0, 0, 0, 0, 0, fun _ => 0, false, 0, false⟩
/-- The order of two keys, by their bytes as texts. -/
theorem order_of {m m' : ByteArray} {n n' : Nat} {nm vl nm' vl' : Nat → ByteArray} {st st' : Int} (h : goodB m n nm vl st = true) (h' : goodB m' n' nm' vl' st' = true) :
    ∃ (c : Int) (a b : Bool), cmpAns m m' st st' n n' nm vl nm' vl' = c ∧ Op.bytesLess (strOfNums (kbytes m n nm vl st)).toList (strOfNums (kbytes m' n' nm' vl' st')).toList = a ∧ Op.bytesLess (strOfNums (kbytes m' n' nm' vl' st')).toList (strOfNums (kbytes m n nm vl st)).toList = b ∧ ((c = -1 ∧ a = true ∧ b = false) ∨ (c = 0 ∧ a = false ∧ b = false) ∨ (c = 1 ∧ a = false ∧ b = true)) := by
  have hk := key_order (x := mkW m n nm vl st) (y := mkW m' n' nm' vl' st') h h'
  have e : cmpAns m m' st st' n n' nm vl nm' vl' = kc (mkW m n nm vl st) (mkW m' n' nm' vl' st') := by simp [cmpAns, h, h', kc, mkW]
  exact ⟨_, _, _, rfl, rfl, rfl, by rw [e]; exact hk⟩

/-- What the law holds in memory: both keys in their boxes, with their tags. -/
structure FX (w0 : World) (A k k' : Nat) (m m' : ByteArray) (st st' : Int) (va va' : Option Addr) (vc vc' : Nat) (nm vl nm' vl' : Nat → ByteArray) (w : World) : Prop where
  ka : KAt w A m (.slice va k vc) st
  kb : KAt w (A + 1) m' (.slice va' k' vc') st'
  ta : TRow w va k nm vl
  tb : TRow w va' k' nm' vl'
  bel : Below w0.heap.size w0 w
theorem FX.keep {w0 w w' : World} {A k k' : Nat} {m m' : ByteArray} {st st' : Int} {va va' : Option Addr} {vc vc' : Nat} {nm vl nm' vl' : Nat → ByteArray} (h : FX w0 A k k' m m' st st' va va' vc vc' nm vl nm' vl' w) (hb : Below w.heap.size w w') : FX w0 A k k' m m' st st' va va' vc vc' nm vl nm' vl' w' :=
  ⟨h.ka.keep hb, h.kb.keep hb, h.ta.keep hb, h.tb.keep hb, h.bel.trans (hb.mono h.bel.size)⟩
theorem FX.new {w0 w1 : World} {k k' : Nat} {m m' : ByteArray} {st st' : Int} {va va' : Option Addr} {vc vc' : Nat} {nm vl nm' vl' : Nat → ByteArray} (T1 : TRow w1 va k nm vl) (T1' : TRow w1 va' k' nm' vl') (b1 : Below w0.heap.size w0 w1) :
    FX w0 w1.heap.size k k' m m' st st' va va' vc vc' nm vl nm' vl' ((w1.alloc (.cells #[.string m, .slice va k vc, .int .i64 st] 37)).alloc (.cells #[.string m', .slice va' k' vc', .int .i64 st'] 37)) := by
  have bn := ((Below.refl w1.heap.size w1).alloc (Nat.le_refl _) (.cells #[.string m, .slice va k vc, .int .i64 st] 37)).alloc (by simp) (.cells #[.string m', .slice va' k' vc', .int .i64 st'] 37)
  have KB := KAt.new (w1.alloc (.cells #[.string m, .slice va k vc, .int .i64 st] 37)) m' (.slice va' k' vc') st' 37
  rw [World.size_alloc] at KB
  exact ⟨KAt.keep (KAt.new w1 m (.slice va k vc) st 37) ((Below.refl _ _).alloc (Nat.le_refl _) _), KB, T1.keep bn, T1'.keep bn, b1.trans (bn.mono b1.size)⟩

set_option maxHeartbeats 4000000 in
theorem fnKeys_law (ao : Option Addr) (n cap : Nat) (f : Nat → Int) (w : World) (hr : Row w ao n f) (hmx : n ≤ maxLen) :
    Calls Try.prog 4 #[.slice ao n cap] w fun e w' => e = .returned (.bool true) ∧ Below w.heap.size w w' := by
  unfold maxLen at hmx
  by_cases hn : n ≤ 1048576
  · have hng : ¬ (1048576 : Int) < (n : Int) := by omega
    go_enter Try.func4, Try.ntmps4
    go_wp2_with fail
    refine (drawCompareKeys_any ao n cap f _ hr hn).mono ?_
    rintro e w1 ⟨m, va, vc, T, st, m', va', vc', T', st', rfl, T1, T1', hm, hm', hT, hT', hTz, hTz', b1⟩
    have hTs : TSize T.length (nmL T) (vlL T) 1048576 := tsz_T hTz (by omega)
    have hTs' : TSize T'.length (nmL T') (vlL T') 1048576 := tsz_T hTz' (by omega)
    clear hTz hTz'
    generalize nmL T = nm at *
    generalize vlL T = vl at *
    generalize nmL T' = nm' at *
    generalize vlL T' = vl' at *
    generalize T.length = k at *
    generalize T'.length = k' at *
    have hk : k ≤ 1048576 := by omega
    have hmb : m.size ≤ 1048576 := by omega
    have hmb' : m'.size ≤ 1048576 := by omega
    clear hm hm'
    have hk' : k' ≤ 1048576 := by omega
    have X0 := FX.new (m := m) (m' := m') (st := st) (st' := st') (vc := vc) (vc' := vc') T1 T1' b1
    clear T1 T1' b1
    obtain ⟨G1, hG1⟩ : ∃ G, goodB m k nm vl st = G := ⟨_, rfl⟩
    obtain ⟨G2, hG2⟩ : ∃ G, goodB m' k' nm' vl' st' = G := ⟨_, rfl⟩
    have HG1 : Hid (goodB m k nm vl st = G1) := hG1
    have HG2 : Hid (goodB m' k' nm' vl' st' = G2) := hG2
    clear hG1 hG2
    obtain ⟨_, p0, p1, p2⟩ := X0.ka
    go_wp2_with fail
    refine (keyBytes_any m st va k vc nm vl _ X0.ta hmb hk hTs G1 HG1).mono ?_
    rintro e w2 ⟨X, rfl, hX, b2⟩
    have HX : Hid (G1 = true → ∃ g c, X = .slice (some ⟨g, 0, none⟩) (kbytes m k nm vl st).length c ∧ (kbytes m k nm vl st).length ≤ c ∧ Own w2 g 0 (kbytes m k nm vl st).length (lf (kbytes m k nm vl st))) := hX
    have X2 := X0.keep b2
    clear hX X0 b2 p0 p1 p2
    obtain ⟨_, p0, p1, p2⟩ := X2.kb
    go_wp2_with fail
    refine (keyBytes_any m' st' va' k' vc' nm' vl' _ X2.tb hmb' hk' hTs' G2 HG2).mono ?_
    rintro e w3 ⟨Y, rfl, hY, b3⟩
    have HY : Hid (G2 = true → ∃ g c, Y = .slice (some ⟨g, 0, none⟩) (kbytes m' k' nm' vl' st').length c ∧ (kbytes m' k' nm' vl' st').length ≤ c ∧ Own w3 g 0 (kbytes m' k' nm' vl' st').length (lf (kbytes m' k' nm' vl' st'))) := hY
    have X3 := X2.keep b3
    have B3 : Hid (Below w2.heap.size w2 w3) := b3
    clear hY X2 b3 p0 p1 p2
    obtain ⟨_, p0, p1, p2⟩ := X3.ka
    go_wp2_with fail
    refine (goodKey_spec m st va k vc nm vl _ X3.ta hmb hk hTs).mono ?_
    rintro e w4 ⟨rfl, b4⟩
    rw [HG1.out]
    have X4 := X3.keep b4
    have B4 : Hid (Below w3.heap.size w3 w4) := b4
    clear X3 b4 p0 p1 p2
    obtain ⟨_, p0, p1, p2⟩ := X4.kb
    go_wp2_with fail
    refine (goodKey_spec m' st' va' k' vc' nm' vl' _ X4.tb hmb' hk' hTs').mono ?_
    rintro e w5 ⟨rfl, b5⟩
    rw [HG2.out]
    have X5 := X4.keep b5
    have B5 : Hid (Below w3.heap.size w3 w5) := B4.out.trans (b5.mono B4.out.size)
    clear X4 b5 p0 p1 p2 B4
    obtain ⟨_, p0, p1, p2⟩ := X5.ka
    obtain ⟨_, q0, q1, q2⟩ := X5.kb
    by_cases hGG : G1 = true ∧ G2 = true
    · obtain ⟨rfl, rfl⟩ := hGG
      obtain ⟨g, c, rfl, hLc, OX0⟩ := HX.out rfl
      obtain ⟨g', c', rfl, hLc', OY0⟩ := HY.out rfl
      have OX := (OX0.keep B3.out).keep B5.out
      have OY := OY0.keep B5.out
      clear HX HY OX0 OY0 B3 B5
      have hsz := goodB_sizes HG1.out
      have hL130 := kbytes_len (st := st) hsz.1 hsz.2.1 hsz.2.2.1
      have HS : Hid (IsKey (lf (kbytes m k nm vl st)) (kbytes m k nm vl st).length m k nm vl st) := isKey_self HG1.out
      obtain ⟨cv, a, b, hcv, ha, hb, hor⟩ := order_of HG1.out HG2.out
      have HCV : Hid (cmpAns m m' st st' k k' nm vl nm' vl' = cv) := hcv
      have HOR : Hid ((cv = -1 ∧ a = true ∧ b = false) ∨ (cv = 0 ∧ a = false ∧ b = false) ∨ (cv = 1 ∧ a = false ∧ b = true)) := hor
      clear hcv hor hsz
      generalize kbytes m k nm vl st = L at *
      generalize kbytes m' k' nm' vl' st' = L' at *
      go_wp2_with fail
      refine (readKey_impl g 0 L.length c (lf L) _ OX.bd OX.lt OX.cell (by omega) hLc).mono ?_
      rintro e w6 (⟨m3, k3, nm3, vl3, st3, sv, rfl, IK, hSV, b6⟩ | ⟨rfl, hno, b6⟩)
      · obtain ⟨va3, vc3, rfl, hsv⟩ := id hSV
        clear hsv
        have T6 := hSV.row
        have hz3 := goodB_sizes IK.good
        have hm3 : m3.size ≤ 1048576 := by have := hz3.1; omega
        have hk3 : k3 ≤ 1048576 := by have := hz3.2.1; omega
        have hs3 : TSize k3 nm3 vl3 1048576 := fun i hi => by have := hz3.2.2.1 i hi; omega
        have HG3 : Hid (goodB m3 k3 nm3 vl3 st3 = true) := IK.good
        have HL3 : Hid (kbytes m3 k3 nm3 vl3 st3 = L) := isKey_bytes IK
        clear IK hz3 hSV HS
        have bA : Below w6.heap.size w6 (w6.alloc (.cells #[.string m3, .slice va3 k3 vc3, .int .i64 st3] 37)) := (Below.refl _ _).alloc (Nat.le_refl _) _
        have X7 := (X5.keep b6).keep bA
        have OX7 := (OX.keep b6).keep bA
        have OY7 := (OY.keep b6).keep bA
        have T7 := T6.keep bA
        have K7 := KAt.new w6 m3 (.slice va3 k3 vc3) st3 37
        clear X5 OX OY b6 bA T6 p0 p1 p2 q0 q1 q2
        obtain ⟨_, p0, p1, p2⟩ := K7
        go_wp2_with fail
        refine (keyBytes_any m3 st3 va3 k3 vc3 nm3 vl3 _ T7 hm3 hk3 hs3 true HG3).mono ?_
        rintro e w8 ⟨Z, rfl, hZ, b8⟩
        rw [HL3.out] at hZ
        obtain ⟨g3, c3, rfl, hc3, OZ⟩ := hZ rfl
        have X8 := X7.keep b8
        have OX8 := OX7.keep b8
        have OY8 := OY7.keep b8
        clear X7 OX7 OY7 T7 b8 hZ HL3 HG3 hm3 hk3 hs3 p0 p1 p2
        have cx := conv_own w8 g c L OX8
        have cy := conv_own w8 g' c' L' OY8
        have cz := conv_own w8 g3 c3 L OZ
        obtain ⟨_, p0, p1, p2⟩ := X8.ka
        obtain ⟨_, q0, q1, q2⟩ := X8.kb
        clear OX8 OY8 OZ hLc hLc' hc3 hL130
        have HCC := (compareKeys_impl m m' st st' va va' k k' vc vc' nm vl nm' vl' w8 X8.ta X8.tb hmb hmb' hk hk' hTs hTs')
        rw [HCV.out] at HCC
        have HQ : Hid (Calls Try.prog 17 #[.agg #[.string m, .slice va k vc, .int .i64 st], .agg #[.string m', .slice va' k' vc', .int .i64 st']] w8 fun e w' => e = .returned (.int .i64 cv) ∧ Below w8.heap.size w8 w') := HCC
        clear HCC hk hk' hmb hmb' hTs hTs' hT hT' HCV HG1 HG2
        rcases HOR.out with ⟨rfl, rfl, rfl⟩ | ⟨rfl, rfl, rfl⟩ | ⟨rfl, rfl, rfl⟩
        all_goals clear HOR
        rotate_left
        · have hq : ((strOfNums L).toList == (strOfNums L').toList) = true := by
            cases hc : ((strOfNums L).toList == (strOfNums L').toList) with
            | true => rfl
            | false => have := (less_tri _ _).2 ha hc; rw [hb] at this; cases this
          go_wp2_with fail
          refine HQ.out.mono ?_
          rintro e w9 ⟨rfl, b9⟩
          have X9 := (X8.keep b9).bel
          clear X8 b9 p0 p1 p2 q0 q1 q2 cx cy cz HQ
          go_wp2
          go_ret
          exact ⟨rfl, X9⟩
        · have hq : ((strOfNums L).toList == (strOfNums L').toList) = false := by
            have := ((less_tri _ _).1 hb).2
            rw [beq_eq_false_iff_ne] at this ⊢
            exact this.symm
          go_wp2_with fail
          refine HQ.out.mono ?_
          rintro e w9 ⟨rfl, b9⟩
          have X9 := (X8.keep b9).bel
          clear X8 b9 p0 p1 p2 q0 q1 q2 cx cy cz HQ
          go_wp2
          go_ret
          exact ⟨rfl, X9⟩
        all_goals
          go_wp2_with fail
          refine HQ.out.mono ?_
          rintro e w9 ⟨rfl, b9⟩
          have X9 := (X8.keep b9).bel
          clear X8 b9 p0 p1 p2 q0 q1 q2 cx cy cz HQ
          go_wp2
          go_ret
          exact ⟨rfl, X9⟩
      · exact absurd HS.out (hno _ _ _ _ _)
    · have hc0 : cmpAns m m' st st' k k' nm vl nm' vl' = 0 := by
        unfold cmpAns
        rw [HG1.out, HG2.out]
        rw [if_neg]
        simpa using hGG
      have HC : Hid (cmpAns m m' st st' k k' nm vl nm' vl' = 0) := hc0
      clear hc0
      have hcase : G1 = false ∨ (G1 = true ∧ G2 = false) := by cases G1 <;> cases G2 <;> simp_all
      clear hGG HX HY B3 B5 HG1 HG2
      rcases hcase with rfl | ⟨rfl, rfl⟩
      · go_wp2_with fail
        refine (compareKeys_impl m m' st st' va va' k k' vc vc' nm vl nm' vl' _ X5.ta X5.tb hmb hmb' hk hk' hTs hTs').mono ?_
        rintro e w6 ⟨rfl, b6⟩
        rw [HC.out]
        have X6 := (X5.keep b6).bel
        clear X5 b6 p0 p1 p2 q0 q1 q2
        go_wp2
        go_ret
        exact ⟨rfl, X6⟩
      · go_wp2_with fail
        refine (compareKeys_impl m m' st st' va va' k k' vc vc' nm vl nm' vl' _ X5.ta X5.tb hmb hmb' hk hk' hTs hTs').mono ?_
        rintro e w6 ⟨rfl, b6⟩
        rw [HC.out]
        have X6 := (X5.keep b6).bel
        clear X5 b6 p0 p1 p2 q0 q1 q2
        go_wp2
        go_ret
        exact ⟨rfl, X6⟩
  · have hng : (1048576 : Int) < (n : Int) := by omega
    go_enter Try.func4, Try.ntmps4
    go_wp2
    go_ret
    exact ⟨rfl, Below.refl _ _⟩
end Go.Proofs.Ytpddodjecbcmlaa
