/- FindInTable, in the model. -/
import Derived.Test.YtohjjigkfdhklaaGreatQf
import Derived.Test.YtohjjigkfdhklaaGreatQb
import Derived.Test.YtohjjigkfdhklaaGreatIb
import Derived.Test.YtohjjigkfdhklaaGreatEe
import Derived.Test.YtohjjigkfdhklaaGreatOf
namespace Go.Proofs.YtohjjigkfdhklaaGreat
set_option maxRecDepth 100000
open Go.RowKit Go.Shelf
set_option linter.unusedSimpArgs false
set_option linter.unusedVariables false

section
variable {X : Nat → Ent} {m : Nat} {s : ByteArray}
theorem sd_stop {j : Nat} (h : (sd X m s j).2 = true) : ∀ d, sd X m s (j + d) = sd X m s j
  | 0 => rfl
  | d + 1 => by
    have ih := sd_stop h d
    have e : sd X m s (j + (d + 1)) = if (sd X m s (j + d)).2 = true ∨ Op.bytesLess (lastK X m (j + d)).toList s.toList = true then sd X m s (j + d) else if 0 < (sd X m s (j + d)).1 ∧ (lastK X m (j + d - 1)).toList ≠ s.toList then ((sd X m s (j + d)).1, true) else ((sd X m s (j + d)).1 + 1, false) := rfl
    rw [e, if_pos (.inl (by rw [ih]; exact h)), ih]
theorem sd_lt {j : Nat} (h : Op.bytesLess (lastK X m j).toList s.toList = true) : sd X m s (j + 1) = sd X m s j := by
  show (if _ then _ else _) = _
  rw [if_pos (.inr h)]
theorem sd_end {j : Nat} (h0 : (sd X m s j).2 = false) (h : Op.bytesLess (lastK X m j).toList s.toList = false) (h1 : 0 < (sd X m s j).1) (h2 : (lastK X m (j - 1)).toList ≠ s.toList) : sd X m s (j + 1) = ((sd X m s j).1, true) := by
  show (if _ then _ else _) = _
  rw [if_neg (by rintro (g | g); rw [h0] at g; cases g; rw [h] at g; cases g), if_pos ⟨h1, h2⟩]
theorem sd_more {j : Nat} (h0 : (sd X m s j).2 = false) (h : Op.bytesLess (lastK X m j).toList s.toList = false) (h1 : ¬ (0 < (sd X m s j).1 ∧ (lastK X m (j - 1)).toList ≠ s.toList)) : sd X m s (j + 1) = ((sd X m s j).1 + 1, false) := by
  show (if _ then _ else _) = _
  rw [if_neg (by rintro (g | g); rw [h0] at g; cases g; rw [h] at g; cases g), if_neg h1]
theorem sd_pos : ∀ j, 0 < (sd X m s j).1 → 0 < j
  | 0, h => h
  | j + 1, _ => Nat.succ_pos _
theorem sd_le (X : Nat → Ent) (m : Nat) (s : ByteArray) : ∀ j, (sd X m s j).1 ≤ j
  | 0 => Nat.le_refl _
  | j + 1 => by
    have := sd_le X m s j
    unfold sd
    split
    · omega
    · split
      · show (sd X m s j).1 ≤ _; omega
      · show (sd X m s j).1 + 1 ≤ _; omega
/-- Where the last key is less nothing is found. -/
theorem fd_less (h : RiseE X m) (hm : 0 < m) (hl : Op.bytesLess (X (m - 1)).key.toList s.toList = true) : ∀ j, j ≤ nbl m → fd X m s j = (0, false, [])
  | 0, _ => rfl
  | j + 1, hj => by
    have ih := fd_less h hm hl j (by omega)
    obtain ⟨h1, h2, h3, h4⟩ := eB_lt (show j < nbl m by omega)
    have hl2 : Op.bytesLess (lastK X m j).toList s.toList = true := lt_down h (show 4 * j + bsz m j - 1 ≤ m - 1 by rw [eB_succ, h1] at h4; omega) (by omega) hl
    show (if _ then _ else _) = _
    rw [if_pos (.inr hl2), ih]
end

set_option maxRecDepth 100000 in
set_option maxHeartbeats 8000000 in
theorem findInTable_spec (Z : Nat → Ent) (k : Nat) (K c : Int) (bb bo n cap : Nat) (f : Nat → Int) (s : ByteArray) (w : World) (hK : FTk f n s Z k K c) (hr : Row w (some ⟨bb, bo, none⟩) n f) (hbb : bb < w.heap.size) (hn : n ≤ 1048576) (hcap : n ≤ cap) (hs : s.size ≤ 1048576) :
    Calls Tryz.prog 14 #[.slice (some ⟨bb, bo, none⟩) n cap, .string s] w fun e w' => FTa Z k K c w e w' := by
  have HKK : Hid (FTk f n s Z k K c) := hK
  clear hK
  go_enter Tryz.func14, Tryz.ntmps14
  go_wp2_with fail
  refine (l7Read_any bb bo n cap f w hr hbb hn hcap).mono ?_
  rintro e w1 (⟨X0, m, p, v, V, hT, rfl, hO, hEB, hES, q1⟩ | ⟨hno, rfl, q1⟩)
  · obtain ⟨ec, ek, eK, hg⟩ := HKK.out.yes hT (gx_al hT hEB hES hO)
    have hm := hT.1.1.1
    obtain ⟨g, gc, rfl, hgc, hbg, hER⟩ := hO.erow hEB (by omega)
    have hGL := hT.1.1.2
    obtain ⟨X, hX⟩ : ∃ X, X = fun i => nrE (X0 i) := ⟨_, rfl⟩
    rw [← hX] at ek eK hg hER hGL hES hT
    have hfb := fbN_le X m p
    have hfw := @fwI_bd p
    have hl7 := fun W (hW : Below w.heap.size w W) => l7Filter_any X m p bb bo n cap f W hT (hr.keep hW) (by have := hW.size; omega) hcap
    obtain ⟨Y, hY⟩ : ∃ Y : Nat, fwI p = (Y : Int) := ⟨(fwI p).toNat, by omega⟩
    have HH : Hid (allSet (fl (fLt X m p)) (plL (hOf s 0) (hOf s 1) (8 * fbN X m p) Y) = hasF X m p s) := by
      unfold Hid hasF
      rw [hY, Int.toNat_natCast]
    unfold L7F at hl7
    rw [hY] at hfw hl7
    have HE : Hid (foE X m p s = if hasF X m p s = true then fX X s m else []) := rfl
    have HKe : Hid (foK X m p s = if hasF X m p s = true then (fd X m s (nbl m)).1 else 0) := rfl
    have hfa : Hid ((fd X m s (nbl m)).2.2 = fX X s m) := fd_all hGL.2.1
    have HRi : Hid (RiseE X m) := hGL.2.1
    have HA : Hid (c = 0 ∧ (foE X m p s).length = k ∧ K = (foK X m p s : Nat) ∧ GX k (eL (foE X m p s)) Z) := ⟨ec, ek, eK, hg⟩
    have hmh := fun fo fc W (hW : Row W fo (fbN X m p) (fl (fLt X m p))) => l6May_any s Y fo (fbN X m p) fc (fl (fLt X m p)) W hW hs (by omega) hfb
    rw [HH.out] at hmh
    generalize fLt X m p = FL at *
    generalize fbN X m p = fb at *
    generalize hhB : hasF X m p s = hB at *
    clear ec ek eK hg hO hEB hT hX hY HKK hfb hhB hGL HH
    have hz1 := q1.size
    go_wp2_with fail
    refine (hl7 _ q1).mono ?_
    rintro e w2 ⟨fo, fc, rfl, rF, b2⟩
    have B2 := q1.trans (b2.mono q1.size)
    have E2 := hER.keep b2
    clear hl7 b2 hER
    go_wp2_with fail
    refine (hmh fo fc _ rF).mono ?_
    rintro e w3 ⟨rfl, b3⟩
    have B3 := B2.trans (b3.mono B2.size)
    have E3 := E2.keep b3
    clear hmh b3 E2 rF
    have hcell : Hid (∀ q, q < m → w3.cell? ⟨g, q * 9, none⟩ = some (.string (X q).key)) := fun q hq => by
      obtain ⟨b', o', e, hgl, hcc⟩ := E3.lies.resolve_left (by omega)
      injection e with e
      injection e with e1' e2' _
      subst e1' e2'
      obtain ⟨da, dc, hE0, _⟩ := hcc q hq
      have k0 := hE0.c0
      simp only [Nat.zero_add, Nat.add_zero] at k0
      exact k0
    have HN : Hid (FTa Z 0 0 0 w (.returned (.tuple #[.slice none 0 0, .int .i64 0, .int .i64 0])) w3) := fta_none B3
    cases hB
    · go_wp2
      refine bodyPost_ret (v := .tuple #[.slice none 0 0, .int .i64 0, .int .i64 0]) (by simp [results, Tryz.results14, go_sem]) rfl ?_
      obtain ⟨e1, e2, e3, e4⟩ := HA.out
      rw [HE.out] at e2
      rw [HKe.out] at e3
      simp at e2 e3
      rw [e1, e3, ← e2]
      exact HN.out
    · obtain ⟨M1, hM1⟩ : ∃ M1, M1 = m - 1 := ⟨_, rfl⟩
      have hM1m : M1 < m := by omega
      have hM1i : (M1 : Int) < (m : Int) := by omega
      have hwM : IntKind.i64.wrap ((m : Int) - 1) = (M1 : Int) := by rw [IntKind.wrap_i64] <;> omega
      have kM := hcell.out M1 hM1m
      have HfN : Hid (Op.bytesLess (X M1).key.toList s.toList = true → k = 0 ∧ K = 0) := fun hl => by
        have h0 := fd_less HRi.out (by omega) (by rw [← hM1]; exact hl) (nbl m) (Nat.le_refl _)
        obtain ⟨e1, e2, e3, e4⟩ := HA.out
        have hf := hfa.out
        rw [h0] at hf
        rw [HE.out, if_pos rfl, ← hf] at e2
        rw [HKe.out, if_pos rfl, h0] at e3
        exact ⟨e2.symm, e3⟩
      clear hM1
      by_cases hlast : Op.bytesLess (X M1).key.toList s.toList = true
      · have HZ : Hid (k = 0 ∧ K = 0) := HfN.out hlast
        generalize (X M1).key = KM at *
        clear hcell E3
        go_wp2
        refine bodyPost_ret (v := .tuple #[.slice none 0 0, .int .i64 0, .int .i64 0]) (by simp [results, Tryz.results14, go_sem]) rfl ?_
        rw [HZ.out.1, HZ.out.2, HA.out.1]
        exact HN.out
      · have hlast2 : Op.bytesLess (X M1).key.toList s.toList = false := by simpa using hlast
        clear hlast
        have HFin : Hid (∀ w' v V, OutE w' w3.heap.size v (fX X s m).length (eL (fX X s m)) V → Below w.heap.size w w' → FTa Z k K c w (.returned (.tuple #[v, .int .i64 ((sd X m s (nbl m)).1 : Nat), .int .i64 0])) w') := fun w' v V hO hb => by
          obtain ⟨e1, e2, e3, e4⟩ := HA.out
          rw [HKe.out, if_pos rfl, ← (sd_fd (s := s) HRi.out (nbl m) (Nat.le_refl _)).1] at e3
          rw [HE.out, if_pos rfl] at e2 e4
          rw [e1, e3, ← e2]
          rw [← e2] at e4
          exact fta_found hO B3.size e4 hb
        have hof := l5Of_any (some ⟨g, 0, none⟩) m gc X s w3 E3 (by omega)
        have HSz : Hid (ESize (fX X s m).length (eL (fX X s m))) := fX_all (P := fun x => x.key.size ≤ 1048576 ∧ x.n ≤ 1048576) hES
        have hfl := fX_len X s m
        have HKM : Hid (Op.bytesLess (X M1).key.toList s.toList = false) := hlast2
        generalize (X M1).key = KM at *
        have hb100 : nbl m ≤ 25 := by unfold nbl; omega
        clear HfN HA HE HKe hfa HN HRi hES E3
        go_wp2
        clear kM hlast2 hwM
        go_loopw [9, 10] (fun u9 u10 wr => ∃ j i4 L : Nat, Hid (i4 = 4 * j) ∧ j ≤ nbl m ∧ L ≤ 25 ∧ i4 ≤ 104 ∧ u9 = .int .i64 (L : Int) ∧ u10 = .int .i64 (i4 : Int) ∧ Hid (sd X m s j = (L, false)) ∧ wr = w3) (fun _ u10 _ => (104 - (intOf u10).toNat))
        case atStart => exact ⟨0, 0, 0, rfl, Nat.zero_le _, by omega, by omega, rfl, rfl, rfl, rfl⟩
        case round =>
          obtain ⟨j, i4, L, HJ, hj, hL, hi4, rfl, rfl, HS, hw⟩ := hrel
          have hw2 := hw.symm
          clear hw
          subst hw2
          by_cases hlt : i4 < m
          · have hjl : j < nbl m := by have := HJ.out; unfold nbl; omega
            obtain ⟨eb1, eb2, eb3, eb4⟩ := eB_lt hjl
            obtain ⟨E, hE⟩ : ∃ E, E + 1 = i4 + bsz m j := ⟨i4 + bsz m j - 1, by omega⟩
            have hEm : E < m := by have := (bsz_le m j).2 eb2; have := HJ.out; omega
            have hEi : (E : Int) < (m : Int) := by omega
            have kE := hcell.out E hEm
            have HEl : Hid (lastK X m j = (X E).key) := by unfold Hid lastK; rw [show 4 * j + bsz m j - 1 = E by have := HJ.out; omega]
            have hb4 : (m < i4 + 4 ∧ E + 1 = m) ∨ (i4 + 4 ≤ m ∧ E + 1 = i4 + 4) := by have := HJ.out; unfold bsz at hE; omega
            have hwE1 : IntKind.i64.wrap ((i4 : Int) + 4) = (i4 : Int) + 4 := by rw [IntKind.wrap_i64] <;> omega
            have hwL : IntKind.i64.wrap ((L : Int) + 1) = ((L + 1 : Nat) : Int) := by rw [IntKind.wrap_i64] <;> omega
            have HJ2 : Hid (i4 + 4 = 4 * (j + 1)) := by have := HJ.out; unfold Hid; omega
            have HL25 : Hid (∀ M, sd X m s (j + 1) = (M, false) → M ≤ 25) := fun M h => by have := sd_le X m s (j + 1); rw [h] at this; simp only at this; omega
            have HP : Hid (0 < L → ∃ q, q < m ∧ IntKind.i64.wrap ((i4 : Int) - 1) = (q : Int) ∧ lastK X m (j - 1) = (X q).key) := fun h => by
              have hj0 := sd_pos (X := X) (m := m) (s := s) j (by rw [HS.out]; exact h)
              have := HJ.out
              refine ⟨i4 - 1, by omega, by rw [IntKind.wrap_i64] <;> omega, ?_⟩
              unfold lastK
              rw [show 4 * (j - 1) + bsz m (j - 1) - 1 = i4 - 1 by unfold bsz; omega]
            have HStop : Hid (∀ M, sd X m s (j + 1) = (M, true) → (sd X m s (nbl m)).1 = M) := fun M h => by
              have := sd_stop (X := X) (m := m) (s := s) (j := j + 1) (by rw [h]) (nbl m - (j + 1))
              rw [show j + 1 + (nbl m - (j + 1)) = nbl m by omega] at this
              rw [this, h]
            clear eb1 eb2 eb3 eb4 hE
            generalize (X E).key = KE at *
            rcases hb4 with ⟨c1, c2⟩ | ⟨c1, c2⟩
            · skip
              have hgt : (m : Int) < (i4 : Int) + 4 := by omega
              have hwE2 : IntKind.i64.wrap ((m : Int) - 1) = (E : Int) := by rw [IntKind.wrap_i64] <;> omega
              by_cases hless0 : Op.bytesLess KE.toList s.toList = true
              · have HR : Hid (sd X m s (j + 1) = (L, false)) := by unfold Hid; rw [sd_lt (by rw [HEl.out]; exact hless0), HS.out]
                go_wp2
                go_roundw
                case rel => exact ⟨j + 1, i4 + 4, L, HJ2, by omega, hL, by omega, rfl, by go_num, HR, by first | rfl | trivial⟩
                case measure => simp [intOf]; omega
              · have hless : Op.bytesLess KE.toList s.toList = false := by simpa using hless0
                clear hless0
                have HLs : Hid (Op.bytesLess (lastK X m j).toList s.toList = false) := by unfold Hid; rw [HEl.out]; exact hless
                by_cases hLp : 0 < L
                · obtain ⟨q, hqm, hwq, hlq⟩ := HP.out hLp
                  have hqi : (q : Int) < (m : Int) := by omega
                  have kq := hcell.out q hqm
                  have hLi : (0 : Int) < (L : Int) := by omega
                  have HQ : Hid (lastK X m (j - 1) = (X q).key) := hlq
                  clear hlq
                  generalize (X q).key = KQ at *
                  by_cases hne : KQ.toList = s.toList
                  · have hn1 : (KQ.toList == s.toList) = true := by simp [hne]
                    have hn2 : (KQ.toList != s.toList) = false := by simp [hne]
                    have HR : Hid (sd X m s (j + 1) = (L + 1, false)) := by
                      unfold Hid
                      rw [sd_more (by rw [HS.out]) HLs.out (by rintro ⟨_, h⟩; rw [HQ.out] at h; exact h hne), HS.out]
                    have hL2 := HL25.out _ HR.out
                    clear hne
                    go_wp2
                    go_roundw
                    case rel => exact ⟨j + 1, i4 + 4, L + 1, HJ2, by omega, hL2, by omega, rfl, by go_num, HR, by first | rfl | trivial⟩
                    case measure => simp [intOf]; omega
                  · have hn1 : (KQ.toList == s.toList) = false := by simp [hne]
                    have hn2 : (KQ.toList != s.toList) = true := by simp [hne]
                    have HLL : Hid ((sd X m s (nbl m)).1 = L) := HStop.out L (by rw [sd_end (by rw [HS.out]) HLs.out (by rw [HS.out]; exact hLp) (by rw [HQ.out]; exact hne), HS.out])
                    clear hne hcell
                    go_wp2_with fail
                    refine hof.mono ?_
                    rintro e w5 ⟨lo5, lc5, rfl, E5, b5⟩
                    have hown := l5Own_any lo5 (fX X s m).length lc5 (eL (fX X s m)) w5 E5 (by omega) HSz.out
                    have B5 := B3.trans (b5.mono B3.size)
                    clear E5 hof
                    go_wp2_with fail
                    refine hown.mono ?_
                    rintro e w6 ⟨v6, V6, rfl, O6, b6⟩
                    have B6 := B5.trans (b6.mono B5.size)
                    have HO : Hid (OutE w6 w3.heap.size v6 (fX X s m).length (eL (fX X s m)) V6) := outE_low O6 b5.size
                    obtain ⟨lo6, lc6, rfl⟩ := ownsRow_form O6.own
                    clear O6 b6 b5 hown hfl HSz
                    generalize (fX X s m).length = fl6 at *
                    go_wp2
                    refine bodyPost_ret (v := .tuple #[.slice lo6 fl6 lc6, .int .i64 (L : Int), .int .i64 0]) (by simp [results, Tryz.results14, go_sem]) rfl ?_
                    have := HFin.out _ _ _ HO.out B6
                    rw [HLL.out] at this
                    exact this
                · have hL0 : L = 0 := by omega
                  have hLi : ¬ (0 : Int) < (L : Int) := by omega
                  have HR : Hid (sd X m s (j + 1) = (L + 1, false)) := by
                    unfold Hid
                    rw [sd_more (by rw [HS.out]) HLs.out (by rintro ⟨h, _⟩; rw [HS.out] at h; exact hLp h), HS.out]
                  have hL2 := HL25.out _ HR.out
                  clear hL0
                  go_wp2
                  go_roundw
                  case rel => exact ⟨j + 1, i4 + 4, L + 1, HJ2, by omega, hL2, by omega, rfl, by go_num, HR, by first | rfl | trivial⟩
                  case measure => simp [intOf]; omega
            · skip
              have hgt : ¬ (m : Int) < (i4 : Int) + 4 := by omega
              have hwE2 : IntKind.i64.wrap (((i4 : Int) + 4) - 1) = (E : Int) := by rw [IntKind.wrap_i64] <;> omega
              by_cases hless0 : Op.bytesLess KE.toList s.toList = true
              · have HR : Hid (sd X m s (j + 1) = (L, false)) := by unfold Hid; rw [sd_lt (by rw [HEl.out]; exact hless0), HS.out]
                go_wp2
                go_roundw
                case rel => exact ⟨j + 1, i4 + 4, L, HJ2, by omega, hL, by omega, rfl, by go_num, HR, by first | rfl | trivial⟩
                case measure => simp [intOf]; omega
              · have hless : Op.bytesLess KE.toList s.toList = false := by simpa using hless0
                clear hless0
                have HLs : Hid (Op.bytesLess (lastK X m j).toList s.toList = false) := by unfold Hid; rw [HEl.out]; exact hless
                by_cases hLp : 0 < L
                · obtain ⟨q, hqm, hwq, hlq⟩ := HP.out hLp
                  have hqi : (q : Int) < (m : Int) := by omega
                  have kq := hcell.out q hqm
                  have hLi : (0 : Int) < (L : Int) := by omega
                  have HQ : Hid (lastK X m (j - 1) = (X q).key) := hlq
                  clear hlq
                  generalize (X q).key = KQ at *
                  by_cases hne : KQ.toList = s.toList
                  · have hn1 : (KQ.toList == s.toList) = true := by simp [hne]
                    have hn2 : (KQ.toList != s.toList) = false := by simp [hne]
                    have HR : Hid (sd X m s (j + 1) = (L + 1, false)) := by
                      unfold Hid
                      rw [sd_more (by rw [HS.out]) HLs.out (by rintro ⟨_, h⟩; rw [HQ.out] at h; exact h hne), HS.out]
                    have hL2 := HL25.out _ HR.out
                    clear hne
                    go_wp2
                    go_roundw
                    case rel => exact ⟨j + 1, i4 + 4, L + 1, HJ2, by omega, hL2, by omega, rfl, by go_num, HR, by first | rfl | trivial⟩
                    case measure => simp [intOf]; omega
                  · have hn1 : (KQ.toList == s.toList) = false := by simp [hne]
                    have hn2 : (KQ.toList != s.toList) = true := by simp [hne]
                    have HLL : Hid ((sd X m s (nbl m)).1 = L) := HStop.out L (by rw [sd_end (by rw [HS.out]) HLs.out (by rw [HS.out]; exact hLp) (by rw [HQ.out]; exact hne), HS.out])
                    clear hne hcell
                    go_wp2_with fail
                    refine hof.mono ?_
                    rintro e w5 ⟨lo5, lc5, rfl, E5, b5⟩
                    have hown := l5Own_any lo5 (fX X s m).length lc5 (eL (fX X s m)) w5 E5 (by omega) HSz.out
                    have B5 := B3.trans (b5.mono B3.size)
                    clear E5 hof
                    go_wp2_with fail
                    refine hown.mono ?_
                    rintro e w6 ⟨v6, V6, rfl, O6, b6⟩
                    have B6 := B5.trans (b6.mono B5.size)
                    have HO : Hid (OutE w6 w3.heap.size v6 (fX X s m).length (eL (fX X s m)) V6) := outE_low O6 b5.size
                    obtain ⟨lo6, lc6, rfl⟩ := ownsRow_form O6.own
                    clear O6 b6 b5 hown hfl HSz
                    generalize (fX X s m).length = fl6 at *
                    go_wp2
                    refine bodyPost_ret (v := .tuple #[.slice lo6 fl6 lc6, .int .i64 (L : Int), .int .i64 0]) (by simp [results, Tryz.results14, go_sem]) rfl ?_
                    have := HFin.out _ _ _ HO.out B6
                    rw [HLL.out] at this
                    exact this
                · have hL0 : L = 0 := by omega
                  have hLi : ¬ (0 : Int) < (L : Int) := by omega
                  have HR : Hid (sd X m s (j + 1) = (L + 1, false)) := by
                    unfold Hid
                    rw [sd_more (by rw [HS.out]) HLs.out (by rintro ⟨h, _⟩; rw [HS.out] at h; exact hLp h), HS.out]
                  have hL2 := HL25.out _ HR.out
                  clear hL0
                  go_wp2
                  go_roundw
                  case rel => exact ⟨j + 1, i4 + 4, L + 1, HJ2, by omega, hL2, by omega, rfl, by go_num, HR, by first | rfl | trivial⟩
                  case measure => simp [intOf]; omega
          · have hjn : j = nbl m := by have := HJ.out; unfold nbl at *; omega
            have HLL : Hid ((sd X m s (nbl m)).1 = L) := by unfold Hid; rw [← hjn, HS.out]
            have hnlt : ¬ (i4 : Int) < (m : Int) := by omega
            go_wp2_with fail
            refine hof.mono ?_
            rintro e w5 ⟨lo5, lc5, rfl, E5, b5⟩
            have hown := l5Own_any lo5 (fX X s m).length lc5 (eL (fX X s m)) w5 E5 (by omega) HSz.out
            have B5 := B3.trans (b5.mono B3.size)
            clear E5 hof
            go_wp2_with fail
            refine hown.mono ?_
            rintro e w6 ⟨v6, V6, rfl, O6, b6⟩
            have B6 := B5.trans (b6.mono B5.size)
            have HO : Hid (OutE w6 w3.heap.size v6 (fX X s m).length (eL (fX X s m)) V6) := outE_low O6 b5.size
            obtain ⟨lo6, lc6, rfl⟩ := ownsRow_form O6.own
            clear O6 b6 b5 hown hfl HSz
            generalize (fX X s m).length = fl6 at *
            go_wp2
            refine bodyPost_ret (v := .tuple #[.slice lo6 fl6 lc6, .int .i64 (L : Int), .int .i64 0]) (by simp [results, Tryz.results14, go_sem]) rfl ?_
            have := HFin.out _ _ _ HO.out B6
            rw [HLL.out] at this
            exact this
  · obtain ⟨e1, e2, e3⟩ := HKK.out.no hno
    have HA : Hid (k = 0 ∧ K = 0 ∧ c = noC f n) := ⟨e1, e2, e3⟩
    have hc0 : (noC f n != 0) = true := by have := noC_ne f n; simp [this]
    clear hno HKK e1 e2 e3
    generalize noC f n = c' at *
    go_wp2
    refine bodyPost_ret (v := .tuple #[.slice none 0 0, .int .i64 0, .int .i64 c']) (by simp [results, Tryz.results14, go_sem]) rfl ?_
    obtain ⟨e1, e2, e3⟩ := HA.out
    rw [e1, e2, e3]
    exact fta_none q1
end Go.Proofs.YtohjjigkfdhklaaGreat
