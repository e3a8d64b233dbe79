/- The model: l7Read. -/
import Derived.Test.YtohjjigkfdhklaaGreatEd
import Derived.Test.YtohjjigkfdhklaaGreatDh
import Derived.Test.YtohjjigkfdhklaaGreatGoS
import Derived.Test.YtohjjigkfdhklaaGreatBd
import Derived.Test.YtohjjigkfdhklaaGreatOh
import Derived.BigQuiet
namespace Go.Proofs.YtohjjigkfdhklaaGreat
set_option maxRecDepth 100000
open Go.RowKit
set_option linter.unusedSimpArgs false
set_option linter.unusedVariables false

/-- What l7Read leaves. -/
def SRO (f : Nat → Int) (n : Nat) (w : World) (e : Ending) (w' : World) : Prop :=
  (∃ (X : Nat → Ent) (m : Nat) (p : Int) (v : Value) (V : Nat → Value), IsTb f n (fun i => nrE (X i)) m p ∧ e = .returned (.tuple #[v, .int .i64 0]) ∧ OutH w' w.heap.size v m (fun i => nrE (X i)) V ∧ (∀ i, i < m → EB (nrE (X i))) ∧ ESize m (fun i => nrE (X i)) ∧ Below w.heap.size w w') ∨
  ((∀ X m p, ¬ IsTb f n X m p) ∧ e = .returned (.tuple #[.slice none 0 0, .int .i64 (noC f n)]) ∧ Below w.heap.size w w')
def pkL : List Int := [10, 1, 2, 3, 4, 5, 6, 7, 8, 9, 11, 12, 13, 14, 15, 16, 17, 18, 19, 20]
theorem pkL_bd (j : Nat) (h : j < 20) : 1 ≤ fi pkL j ∧ fi pkL j ≤ 20 := by
  have : ∀ j : Fin 20, 1 ≤ fi pkL j.1 ∧ fi pkL j.1 ≤ 20 := by decide
  exact this ⟨j, h⟩
theorem pkL_all (p : Int) (h : 1 ≤ p ∧ p ≤ 20) : ∃ j, j < 20 ∧ fi pkL j = p := by
  have : ∀ q : Fin 21, 1 ≤ q.1 → ∃ j : Fin 20, fi pkL j.1 = ((q.1 : Nat) : Int) := by decide
  obtain ⟨j, hj⟩ := this ⟨p.toNat, by omega⟩ (by show 1 ≤ p.toNat; omega)
  exact ⟨j.1, j.2, by rw [hj]; show ((p.toNat : Nat) : Int) = p; omega⟩
/-- A table's entries are read ahead of its end. -/
theorem IsTb.rdN {f : Nat → Int} {n : Nat} {X : Nat → Ent} {m : Nat} {p : Int} (h : IsTb f n X m p) : RdK f (n - 20) X m (tA X m) :=
  rdK_ens m h.1.1.2.1 h.plc.2.2.1 (by
    have h1 := h.plc.2.1
    have h2 : tB X m p = tA X m + 1 + fbN X m p := rfl
    show tA X m ≤ n - 20
    omega)

set_option maxRecDepth 100000 in
set_option maxHeartbeats 8000000 in
theorem l7Read_any (bb bo n cap : Nat) (f : Nat → Int) (w : World) (hr : Row w (some ⟨bb, bo, none⟩) n f) (hbb : bb < w.heap.size) (hn : n ≤ 1048576) (hcap : n ≤ cap) :
    Calls Tryz.prog 36 #[.slice (some ⟨bb, bo, none⟩) n cap] w fun e w' => SRO f n w e w' := by
  by_cases h1 : n < 20
  · have HC : Hid (endC f n = 1) := by unfold Hid endC; rw [if_pos (.inl h1)]
    have HM : Hid (noC f n = 1) := by unfold Hid noC; rw [HC.out]; rfl
    have HN : Hid (∀ X m p, ¬ IsTb f n X m p) := fun X m p h => by have := h.plc.1; omega
    have h1i : (n : Int) < 20 := by omega
    go_enter Tryz.func36, Tryz.ntmps36
    go_wp2
    exact bodyPost_ret (v := .tuple #[.slice none 0 0, .int .i64 1]) (by simp [results, Tryz.results36, go_sem]) rfl (.inr ⟨HN.out, by rw [HM.out], Below.refl _ _⟩)
  have h1i : ¬ (n : Int) < 20 := by omega
  by_cases h2 : 8000 < n
  · have HC : Hid (endC f n = 1) := by unfold Hid endC; rw [if_pos (.inr h2)]
    have HM : Hid (noC f n = 1) := by unfold Hid noC; rw [HC.out]; rfl
    have HN : Hid (∀ X m p, ¬ IsTb f n X m p) := fun X m p h => by have := h.plc.1; omega
    have h2i : (8000 : Int) < (n : Int) := by omega
    go_enter Tryz.func36, Tryz.ntmps36
    go_wp2
    exact bodyPost_ret (v := .tuple #[.slice none 0 0, .int .i64 1]) (by simp [results, Tryz.results36, go_sem]) rfl (.inr ⟨HN.out, by rw [HM.out], Below.refl _ _⟩)
  have h2i : ¬ (8000 : Int) < (n : Int) := by omega
  obtain ⟨s, hs⟩ : ∃ s, s = n - 4 := ⟨_, rfl⟩
  obtain ⟨u, hu⟩ : ∃ u, u = n - 8 := ⟨_, rfl⟩
  obtain ⟨x, hx⟩ : ∃ x, x = n - 12 := ⟨_, rfl⟩
  obtain ⟨y, hy⟩ : ∃ y, y = n - 20 := ⟨_, rfl⟩
  have HS : Hid (s + 4 = n ∧ u + 8 = n ∧ x + 12 = n ∧ y + 20 = n) := ⟨by omega, by omega, by omega, by omega⟩
  have hwS : IntKind.i64.wrap ((n : Int) - 4) = (s : Int) := by rw [IntKind.wrap_i64] <;> omega
  have hwU : IntKind.i64.wrap ((n : Int) - 8) = (u : Int) := by rw [IntKind.wrap_i64] <;> omega
  have hwX : IntKind.i64.wrap ((n : Int) - 12) = (x : Int) := by rw [IntKind.wrap_i64] <;> omega
  have hwY : IntKind.i64.wrap ((n : Int) - 20) = (y : Int) := by rw [IntKind.wrap_i64] <;> omega
  have hcs : ¬ cap = s := by omega
  have hcu' : ¬ cap = u := by omega
  have hcx : ¬ cap = x := by omega
  have hsn : s ≤ n := by omega
  have hun : u ≤ n := by omega
  have hus : u ≤ s := by omega
  have hxu : x ≤ u := by omega
  have hsc : s ≤ cap := by omega
  have hcu : u ≤ cap := by omega
  have hyc : y ≤ cap := by omega
  have hcv : (convert 22 9 (.slice (some ⟨bb, bo + s, none⟩) (n - s) (cap - s))).run Tryz.prog w = .ok (.string (strOfNums (segL f s 4))) w := by
    have := conv_row w (some ⟨bb, bo + s, none⟩) (cap - s) (segL f s 4) (hr.seg (by omega))
    rw [segL_len] at this
    rw [show n - s = 4 by omega]
    exact this
  have hT : ((strOfNums (segL f s 4)).toList == [84, 66, 76, 49]) = decide (segL f s 4 = [84, 66, 76, 49]) := by
    have := str_eql (segL_byt (q := s) (m := 4) hr.bd) (M := [84, 66, 76, 49]) (by intro x hx; simp at hx; omega)
    rw [tbl1_list] at this
    exact this
  have hsg : (segL f s 4 = [84, 66, 76, 49]) ↔ (f (n - 4) = 84 ∧ f (n - 3) = 66 ∧ f (n - 2) = 76 ∧ f (n - 1) = 49) := by
    rw [segL_four, hs, show n - 4 + 1 = n - 3 by omega, show n - 4 + 2 = n - 2 by omega, show n - 4 + 3 = n - 1 by omega]
    simp
  by_cases h3 : segL f s 4 = [84, 66, 76, 49]
  rotate_left
  · have HC : Hid (endC f n = 2) := by
      unfold Hid endC
      rw [if_neg (by omega), if_pos (fun hh => h3 (hsg.2 hh))]
    have HM : Hid (noC f n = 2) := by unfold Hid noC; rw [HC.out]; rfl
    have HN : Hid (∀ X m p, ¬ IsTb f n X m p) := fun X m p h => by have := h.plc.2.2.2.2.2.2.2.2; rw [HC.out] at this; omega
    have hT2 : ((strOfNums (segL f s 4)).toList == [84, 66, 76, 49]) = false := by rw [hT]; simp [h3]
    clear hsg h3 hT hs hu hx hy
    generalize strOfNums (segL f s 4) = S at *
    go_enter Tryz.func36, Tryz.ntmps36
    go_wp2
    exact bodyPost_ret (v := .tuple #[.slice none 0 0, .int .i64 2]) (by simp [results, Tryz.results36, go_sem]) rfl (.inr ⟨HN.out, by rw [HM.out], Below.refl _ _⟩)
  have HC : Hid (endC f n = if crcOf f u ≠ num f u 4 then 3 else 0) := by
    unfold Hid endC
    rw [if_neg (by omega), if_neg (fun hh => hh (hsg.1 h3)), hu]
  have hT1 : ((strOfNums (segL f s 4)).toList == [84, 66, 76, 49]) = true := by rw [hT]; simp [h3]
  have hb := num_bd f hr.bd u 4
  have hbm := num_bd f hr.bd x 4
  rw [show (256 : Int) ^ 4 = 4294967296 from by decide] at hb hbm
  have hcrc : Hid (∀ k, Calls Tryz.prog 61 #[.slice (some ⟨bb, bo, none⟩) u cap] (w.drewN k) fun e w' => e = .returned (.int .u32 (crcOf f u)) ∧ w' = w.drewN k) := fun k => crc_same _ u cap f _ ((hr.front hun).keep (below_drewN (Below.refl _ _) k)) (by omega)
  have hcb : 0 ≤ crcOf f u ∧ crcOf f u ≤ 4294967295 := xor_bd _ _
  have hwc : IntKind.i64.wrap (crcOf f u) = crcOf f u := by rw [IntKind.wrap_i64] <;> omega
  have hnb : ∀ q W, q + 4 ≤ n → Below w.heap.size w W → Calls Tryz.prog 70 #[.slice (some ⟨bb, bo + q, none⟩) 4 (cap - q)] W fun e w' => e = .returned (.int .i64 (num f q 4)) ∧ w' = W := fun q W hq hW => by
    have hb := num_bd f hr.bd q 4
    rw [show (256 : Int) ^ 4 = 4294967296 from by decide] at hb
    have rW := hr.keep hW
    have := l1Number_same bb (bo + q) 4 (cap - q) f q W hr.bd (by have := hW.size; omega) (fun i hi => by rw [Nat.add_assoc]; exact rW.cell (by omega)) (by omega)
    rw [show wrap64 (num f q 4) = num f q 4 from by unfold wrap64; omega] at this
    exact this
  have hnum : Hid (∀ k, Calls Tryz.prog 70 #[.slice (some ⟨bb, bo + u, none⟩) (s - u) (cap - u)] (w.drewN k) fun e w' => e = .returned (.int .i64 (num f u 4)) ∧ w' = w.drewN k) := fun k => by
    rw [show s - u = 4 by omega]
    exact hnb u _ (by omega) (below_drewN (Below.refl _ _) k)
  have HU : Hid (u - x = 4) := by show u - x = 4; omega
  clear hsg h3 hs hu hx hT hy
  generalize strOfNums (segL f s 4) = S at *
  generalize hA : num f u 4 = A at *
  have HA : Hid (num f u 4 = A) := hA
  clear hA
  obtain ⟨c, hc⟩ : ∃ c, crcOf f u = c := ⟨_, rfl⟩
  rw [hc] at hcrc hcb hwc HC
  clear hc
  go_enter Tryz.func36, Tryz.ntmps36
  by_cases h4 : c = A
  rotate_left
  · have h4b : (c != A) = true := by simp [h4]
    have HD : Hid (endC f n = 3) := by unfold Hid; rw [HC.out, if_pos h4]
    have HM : Hid (noC f n = 3) := by unfold Hid noC; rw [HD.out]; rfl
    have HN : Hid (∀ X m p, ¬ IsTb f n X m p) := fun X m p h => by have := h.plc.2.2.2.2.2.2.2.2; rw [HD.out] at this; omega
    clear h4
    go_wp2
    go_quiet (first | (go_at_call 61; exact Calls.quiet_of_same (hcrc.out _)) | (go_at_call 70; exact Calls.quiet_of_same (hnum.out _)))
    go_wp2
    exact bodyPost_ret (v := .tuple #[.slice none 0 0, .int .i64 3]) (by simp [results, Tryz.results36, go_sem]) rfl (.inr ⟨HN.out, by rw [HM.out], below_drewN (Below.refl _ _) _⟩)
  have h4b : (c != A) = false := by simp [h4]
  have HD : Hid (endC f n = 0) := by unfold Hid; rw [HC.out, if_neg (fun hh => hh h4)]
  have HM : Hid (noC f n = 4) := by unfold Hid noC; rw [HD.out]; rfl
  clear h4
  go_wp2
  go_quiet (first | (go_at_call 61; exact Calls.quiet_of_same (hcrc.out _)) | (go_at_call 70; exact Calls.quiet_of_same (hnum.out _)))
  have bw1 : Below w.heap.size w (w.drewN nq) := below_drewN (Below.refl _ _) nq
  generalize w.drewN nq = w1 at *
  obtain ⟨M, hMM⟩ : ∃ M : Nat, num f x 4 = (M : Int) := ⟨(num f x 4).toNat, by omega⟩
  have HMM : Hid (num f (n - 12) 4 = (M : Int)) := by have := HS.out; show num f (n - 12) 4 = _; rw [← hMM]; congr 1; omega
  have hcm : Calls Tryz.prog 70 #[.slice (some ⟨bb, bo + x, none⟩) (u - x) (cap - x)] w1 fun e w' => e = .returned (.int .i64 (M : Int)) ∧ w' = w1 := by
    rw [HU.out, ← hMM]
    exact hnb x w1 (by have := HS.out; omega) bw1
  have hMb : M < 4294967296 := by omega
  clear hcrc hnum hnb hcb hwc hb hbm hMM hcv hT1
  go_wp2_with fail
  refine hcm.mono ?_
  rintro e w2 ⟨rfl, hw2⟩
  subst w2
  clear hcm
  by_cases hM1 : 1 ≤ M ∧ M ≤ 100
  rotate_left
  · have hin := l1In_no (M : Int) 1 100 w1 (by omega)
    have HN : Hid (∀ X m p, ¬ IsTb f n X m p) := fun X m p h => by
      have e := h.plc.2.2.2.2.2.2.2.1
      rw [HMM.out] at e
      have := h.1.1.1
      omega
    go_wp2_with fail
    refine hin.mono ?_
    rintro e w2 ⟨rfl, hw2⟩
    subst w2
    go_wp2
    exact bodyPost_ret (v := .tuple #[.slice none 0 0, .int .i64 4]) (by simp [results, Tryz.results36, go_sem]) rfl (.inr ⟨HN.out, by rw [HM.out], bw1⟩)
  have hin := l1In_yes (M : Int) 1 100 w1 (by omega) (by omega)
  go_wp2_with fail
  refine hin.mono ?_
  rintro e w2 ⟨rfl, hw2⟩
  subst w2
  clear hin
  have hle := l7Entries_any bb bo y cap f M w1 ((hr.keep bw1).front (by have := HS.out; omega)) (by have := bw1.size; omega) (by have := HS.out; omega) (by have := HS.out; omega) (by omega)
  go_wp2_with fail
  refine hle.mono ?_
  rintro e w2 (⟨X0, V, v, q, hR0, rfl, hO0, q2⟩ | ⟨rfl, hno, q2⟩)
  rotate_left
  · have bw2 := bw1.trans (q2.mono bw1.size)
    have HN : Hid (∀ X m p, ¬ IsTb f n X m p) := fun X m p h => by
      have e := h.plc.2.2.2.2.2.2.2.1
      rw [HMM.out] at e
      obtain rfl : M = m := by omega
      have r := h.rdN
      rw [show n - 20 = y by have := HS.out; omega] at r
      exact hno X _ (fun i hi => h.1.1.2.1 i hi) r
    clear hno hle
    go_wp2
    exact bodyPost_ret (v := .tuple #[.slice none 0 0, .int .i64 4]) (by simp [results, Tryz.results36, go_sem]) rfl (.inr ⟨HN.out, by rw [HM.out], bw2⟩)
  have bw2 := bw1.trans (q2.mono bw1.size)
  have hR := rdK_nr hR0
  have hO := hO0.nr
  obtain ⟨hEB, hES⟩ := rdK_eb hR (by have := HS.out; omega)
  obtain ⟨g, gc, rfl, hgc, hgb, er2⟩ := hO.erow hEB (by omega)
  obtain ⟨X, hX⟩ : ∃ X, X = fun i => nrE (X0 i) := ⟨_, rfl⟩
  have HX : Hid (X = fun i => nrE (X0 i)) := hX
  have HR : Hid (RdK f y X M q) := by rw [hX]; exact hR
  have hO : OutH w2 w1.heap.size (.slice (some ⟨g, 0, none⟩) M gc) M X V := by rw [hX]; exact hO
  have hEB : Hid (∀ i, i < M → EB (X i)) := by rw [hX]; exact hEB
  have hES : ESize M X := by rw [hX]; exact hES
  have er2 : ERow w2 (some ⟨g, 0, none⟩) M X := by rw [hX]; exact er2
  have HAl : Hid (∀ X' m p, IsTb f n X' m p → m = M ∧ Alike X' X M) := fun X' m p h => by
    have e := h.plc.2.2.2.2.2.2.2.1
    rw [HMM.out] at e
    obtain rfl : M = m := by omega
    have r := h.rdN
    rw [show n - 20 = y by have := HS.out; omega] at r
    exact ⟨rfl, fun i hi => ⟨(rdK_det r HR.out).2 i hi, h.1.1.2.1 i hi⟩⟩
  have hgo := goodEntries_spec (some ⟨g, 0, none⟩) M gc X w2 er2 (by omega) hES
  clear hX hR0 hO0 hR hle q2
  go_wp2_with fail
  refine hgo.mono ?_
  rintro e w3 ⟨bq, rfl, hbq, q3⟩
  have bw3 := bw2.trans (q3.mono bw2.size)
  have O3 := hO.keep q3
  have er3 := er2.keep q3
  clear hgo hO er2
  cases bq
  · have HN : Hid (∀ X m p, ¬ IsTb f n X m p) := fun X' m p h => by
      obtain ⟨rfl, ha⟩ := HAl.out X' m p h
      have := hbq.2 (ha.fit h.1.1).2
      cases this
    clear hbq
    go_wp2
    exact bodyPost_ret (v := .tuple #[.slice none 0 0, .int .i64 4]) (by simp [results, Tryz.results36, go_sem]) rfl (.inr ⟨HN.out, by rw [HM.out], bw3⟩)
  have HF : Hid (FitT X M) := ⟨by omega, hbq.1 rfl⟩
  have hG := (hbq.1 rfl).1
  clear hbq
  have b4 := below_new w3 (.cells #[.int .i64 10, .int .i64 1, .int .i64 2, .int .i64 3, .int .i64 4, .int .i64 5, .int .i64 6, .int .i64 7, .int .i64 8, .int .i64 9, .int .i64 11, .int .i64 12, .int .i64 13, .int .i64 14, .int .i64 15, .int .i64 16, .int .i64 17, .int .i64 18, .int .i64 19, .int .i64 20] 3)
  have hcel := ints_new w3 pkL 3
  rw [show (pkL.map (Value.int .i64)).toArray = #[.int .i64 10, .int .i64 1, .int .i64 2, .int .i64 3, .int .i64 4, .int .i64 5, .int .i64 6, .int .i64 7, .int .i64 8, .int .i64 9, .int .i64 11, .int .i64 12, .int .i64 13, .int .i64 14, .int .i64 15, .int .i64 16, .int .i64 17, .int .i64 18, .int .i64 19, .int .i64 20] from rfl] at hcel
  have bw4 := bw3.trans (b4.mono bw3.size)
  have O4 := O3.keep b4
  have er4 := er3.keep b4
  have hBl : w3.heap.size < (w3.alloc (.cells #[.int .i64 10, .int .i64 1, .int .i64 2, .int .i64 3, .int .i64 4, .int .i64 5, .int .i64 6, .int .i64 7, .int .i64 8, .int .i64 9, .int .i64 11, .int .i64 12, .int .i64 13, .int .i64 14, .int .i64 15, .int .i64 16, .int .i64 17, .int .i64 18, .int .i64 19, .int .i64 20] 3)).heap.size := by simp
  clear O3 er3 b4
  go_wp2
  generalize w3.alloc (.cells #[.int .i64 10, .int .i64 1, .int .i64 2, .int .i64 3, .int .i64 4, .int .i64 5, .int .i64 6, .int .i64 7, .int .i64 8, .int .i64 9, .int .i64 11, .int .i64 12, .int .i64 13, .int .i64 14, .int .i64 15, .int .i64 16, .int .i64 17, .int .i64 18, .int .i64 19, .int .i64 20] 3) = w4 at *
  generalize w3.heap.size = BL at *
  have hcelF : Hid (∀ j, j < 20 → w4.cell? ⟨BL, j, none⟩ = some (.int .i64 (fi pkL j))) := fun j hj => hcel j hj
  clear hcel
  go_loopw [66] (fun i wr => ∃ k : Nat, k ≤ 20 ∧ i = .int .i64 k ∧ Hid (∀ j, j < k → tbP X M (fi pkL j) ≠ segL f 0 n) ∧ Below w4.heap.size w4 wr) (fun i _ => 20 - (intOf i).toNat)
  case atStart => exact ⟨0, by omega, rfl, (fun j hj => absurd hj (Nat.not_lt_zero _)), Below.refl _ _⟩
  case round =>
    obtain ⟨k, hk, rfl, HK, bk⟩ := hrel
    have bwk := bw4.trans (bk.mono bw4.size)
    by_cases hlt : k < 20
    rotate_left
    · obtain rfl : k = 20 := by omega
      have HN : Hid (∀ X m p, ¬ IsTb f n X m p) := fun X' m p h => by
        obtain ⟨rfl, ha⟩ := HAl.out X' m p h
        obtain ⟨j, hj, e⟩ := pkL_all p h.1.2.1
        refine HK.out j hj ?_
        rw [e, isTb_seg h, ha.tbP]
      go_wp2
      exact bodyPost_ret (v := .tuple #[.slice none 0 0, .int .i64 4]) (by simp [results, Tryz.results36, go_sem]) rfl (.inr ⟨HN.out, by rw [HM.out], bwk⟩)
    have hki : (k : Int) < 20 := by omega
    have ck := (bk.cell (p := ⟨BL, k, none⟩) hBl).trans (hcelF.out k hlt)
    have pb := pkL_bd k hlt
    obtain ⟨p, hp⟩ : ∃ p, fi pkL k = p := ⟨_, rfl⟩
    have HP : Hid (fi pkL k = p) := hp
    rw [hp] at ck pb
    clear hp
    have erk := er4.keep bk
    have hs4 := bk.size
    obtain ⟨T, hT⟩ : ∃ T, tbP X M p = T := ⟨_, rfl⟩
    have HT : Hid (tbP X M p = T) := hT
    have hbb2 : bb < wr.heap.size := by have := bwk.size; omega
    have hlb : ∀ W, ERow W (some ⟨g, 0, none⟩) M X → Calls Tryz.prog 29 #[.slice (some ⟨g, 0, none⟩) M gc, .int .i64 p] W fun e w' => ∃ ta tc, e = .returned (.slice ta T.length tc) ∧ Row w' ta T.length (fl T) ∧ Byt T ∧ Below W.heap.size W w' := fun W h => by
      refine (l7Build_any g 0 M gc X p W h hM1 hgc hG pb).mono ?_
      rintro e w' ⟨v, rfl, ho, hb⟩
      have ho : OwnL w' W.heap.size v T := by rw [← hT]; exact ho
      obtain ⟨ta, tc, rfl⟩ := ho.form
      exact ⟨ta, tc, rfl, ho.rowOf, ho.bd, hb⟩
    obtain ⟨SB, hSB⟩ : ∃ SB, strOfNums (segL f 0 n) = SB := ⟨_, rfl⟩
    obtain ⟨ST, hST⟩ : ∃ ST, strOfNums T = ST := ⟨_, rfl⟩
    have hcb : ∀ W, Below wr.heap.size wr W → (convert 22 9 (.slice (some ⟨bb, bo, none⟩) n cap)).run Tryz.prog W = .ok (.string SB) W := fun W hW => by
      have := conv_row W (some ⟨bb, bo, none⟩) cap (segL f 0 n) (((hr.keep bwk).keep hW).all)
      rw [segL_len, hSB] at this
      exact this
    have bd := (Below.refl wr.heap.size wr).drew
    clear hT
    by_cases hE : T = segL f 0 n
    · have heq : (ST.toList == SB.toList) = true := by rw [← hST, ← hSB, hE]; simp
      have HE : Hid (T = segL f 0 n) := hE
      clear hE
      obtain ⟨tn, htn⟩ : ∃ tn, T.length = tn := ⟨_, rfl⟩
      have HTl : Hid (T.length = tn) := htn
      rw [htn] at hlb
      clear htn
      go_wp2
      refine wp_region_w (fun w' : World => Below wr.heap.size wr w') (fun _ => true) (by kernel_rfl) ?_
      change wpW _ _ _ _ _ _ 7 _ _ wr.drew
      have hS0 : (fun w' : World => Below wr.heap.size wr w') wr.drew := bd
      refine wpW_take 0 _ (.slice (some ⟨g, 0, none⟩) M gc) rfl (by kernel_rfl) (by kernel_rfl) (by kernel_rfl) (fun _ _ _ h => h) (by kernel_rfl) (.inl ⟨rfl, fun w' hS' => by go_simp⟩) hS0 ?_
      simp only [Act.put, List.getElem_toArray, List.getElem_cons_succ, List.getElem_cons_zero, List.setIfInBounds_toArray, List.set_cons_zero, List.set_cons_succ]
      refine wpW_take 1 _ (.int .i64 p) rfl (by kernel_rfl) (by kernel_rfl) (by kernel_rfl) (fun _ _ _ h => h) (by kernel_rfl) (.inl ⟨rfl, fun w' hS' => by go_simp⟩) hS0 ?_
      simp only [Act.put, List.getElem_toArray, List.getElem_cons_succ, List.getElem_cons_zero, List.setIfInBounds_toArray, List.set_cons_zero, List.set_cons_succ]
      refine wpW_take 4 _ (.slice (some ⟨bb, bo, none⟩) n cap) rfl (by kernel_rfl) (by kernel_rfl) (by kernel_rfl) (fun _ _ _ h => h) (by kernel_rfl) (.inl ⟨rfl, fun w' hS' => by go_simp⟩) hS0 ?_
      simp only [Act.put, List.getElem_toArray, List.getElem_cons_succ, List.getElem_cons_zero, List.setIfInBounds_toArray, List.set_cons_zero, List.set_cons_succ]
      refine wpW_take 5 _ (.string SB) rfl (by kernel_rfl) (by kernel_rfl) (by kernel_rfl) (fun _ _ _ h => h) (by kernel_rfl) (.inl ⟨rfl, fun w' hS' => by have hq := hcb _ hS'; go_simp⟩) hS0 ?_
      simp only [Act.put, List.getElem_toArray, List.getElem_cons_succ, List.getElem_cons_zero, List.setIfInBounds_toArray, List.set_cons_zero, List.set_cons_succ]
      refine wpW_one 2 _ rfl (by kernel_rfl) (step_wanted rfl (op_call 29 #[.slice (some ⟨g, 0, none⟩) M gc, .int .i64 p] _ (by go_simp) (hlb _ (erk.keep bd)) ?_))
      rintro e w5 ⟨ta, tc, rfl, rt, tb, q5⟩
      have hS5 : (fun w' : World => Below wr.heap.size wr w') w5 := bd.trans (q5.mono bd.size)
      have hct := conv_row w5 ta tc T (by rw [HTl.out]; exact rt)
      rw [hST, HTl.out] at hct
      refine ⟨_, rfl, fun _ => hS5, ?_⟩
      simp only [Act.put, List.getElem_toArray, List.getElem_cons_succ, List.getElem_cons_zero, List.setIfInBounds_toArray, List.set_cons_zero, List.set_cons_succ]
      refine wpW_one 3 _ rfl (by kernel_rfl) (step_wanted rfl (op_val (.string ST) (w' := w5) (by go_simp) ?_))
      refine ⟨fun _ => hS5, ?_⟩
      simp only [Act.put, List.getElem_toArray, List.getElem_cons_succ, List.getElem_cons_zero, List.setIfInBounds_toArray, List.set_cons_zero, List.set_cons_succ]
      refine wpW_take 6 _ (.bool true) rfl (by kernel_rfl) (by kernel_rfl) (by kernel_rfl) (fun _ _ _ h => h) (by kernel_rfl) (.inl ⟨rfl, fun w' hS' => by go_simp⟩) hS5 ?_
      simp only [Act.put, List.getElem_toArray, List.getElem_cons_succ, List.getElem_cons_zero, List.setIfInBounds_toArray, List.set_cons_zero, List.set_cons_succ]
      refine wpW_done (by kernel_rfl) ?_
      try simp only [Act.put, List.getElem_toArray, List.getElem_cons_succ, List.getElem_cons_zero, List.setIfInBounds_toArray, List.set_cons_zero, List.set_cons_succ]
      have bw5 := bwk.trans (Below.mono hS5 bwk.size)
      go_wp2
      refine bodyPost_ret (v := .tuple #[.slice (some ⟨g, 0, none⟩) M gc, .int .i64 0]) (by simp [results, Tryz.results36, go_sem]) rfl (.inl ?_)
      have hTb : IsTb f n X M p := isTb_of HF.out pb (by have := HS.out; omega) (by rw [HT.out]; exact HE.out)
      have OF := (O4.keep (bk.trans (Below.mono hS5 bk.size))).lower (show w.heap.size ≤ w1.heap.size from bw1.size)
      obtain rfl := HX.out
      exact ⟨X0, M, p, _, V, hTb, rfl, OF, hEB.out, hES, bw5⟩
    · skip
      have HE : Hid (T ≠ segL f 0 n) := hE
      clear hE
      obtain ⟨tn, htn⟩ : ∃ tn, T.length = tn := ⟨_, rfl⟩
      have HTl : Hid (T.length = tn) := htn
      rw [htn] at hlb
      clear htn
      go_wp2
      refine wp_region_w (fun w' : World => Below wr.heap.size wr w') (fun _ => true) (by kernel_rfl) ?_
      change wpW _ _ _ _ _ _ 7 _ _ wr.drew
      have hS0 : (fun w' : World => Below wr.heap.size wr w') wr.drew := bd
      refine wpW_take 0 _ (.slice (some ⟨g, 0, none⟩) M gc) rfl (by kernel_rfl) (by kernel_rfl) (by kernel_rfl) (fun _ _ _ h => h) (by kernel_rfl) (.inl ⟨rfl, fun w' hS' => by go_simp⟩) hS0 ?_
      simp only [Act.put, List.getElem_toArray, List.getElem_cons_succ, List.getElem_cons_zero, List.setIfInBounds_toArray, List.set_cons_zero, List.set_cons_succ]
      refine wpW_take 1 _ (.int .i64 p) rfl (by kernel_rfl) (by kernel_rfl) (by kernel_rfl) (fun _ _ _ h => h) (by kernel_rfl) (.inl ⟨rfl, fun w' hS' => by go_simp⟩) hS0 ?_
      simp only [Act.put, List.getElem_toArray, List.getElem_cons_succ, List.getElem_cons_zero, List.setIfInBounds_toArray, List.set_cons_zero, List.set_cons_succ]
      refine wpW_take 4 _ (.slice (some ⟨bb, bo, none⟩) n cap) rfl (by kernel_rfl) (by kernel_rfl) (by kernel_rfl) (fun _ _ _ h => h) (by kernel_rfl) (.inl ⟨rfl, fun w' hS' => by go_simp⟩) hS0 ?_
      simp only [Act.put, List.getElem_toArray, List.getElem_cons_succ, List.getElem_cons_zero, List.setIfInBounds_toArray, List.set_cons_zero, List.set_cons_succ]
      refine wpW_take 5 _ (.string SB) rfl (by kernel_rfl) (by kernel_rfl) (by kernel_rfl) (fun _ _ _ h => h) (by kernel_rfl) (.inl ⟨rfl, fun w' hS' => by have hq := hcb _ hS'; go_simp⟩) hS0 ?_
      simp only [Act.put, List.getElem_toArray, List.getElem_cons_succ, List.getElem_cons_zero, List.setIfInBounds_toArray, List.set_cons_zero, List.set_cons_succ]
      refine wpW_one 2 _ rfl (by kernel_rfl) (step_wanted rfl (op_call 29 #[.slice (some ⟨g, 0, none⟩) M gc, .int .i64 p] _ (by go_simp) (hlb _ (erk.keep bd)) ?_))
      rintro e w5 ⟨ta, tc, rfl, rt, tb, q5⟩
      have hS5 : (fun w' : World => Below wr.heap.size wr w') w5 := bd.trans (q5.mono bd.size)
      have hct := conv_row w5 ta tc T (by rw [HTl.out]; exact rt)
      rw [hST, HTl.out] at hct
      have heq : (ST.toList == SB.toList) = false := (tl_ne fun e => HE.out (strOf_inj tb (segL_byt hr.bd) (by rw [hST, hSB]; exact e))).1
      refine ⟨_, rfl, fun _ => hS5, ?_⟩
      simp only [Act.put, List.getElem_toArray, List.getElem_cons_succ, List.getElem_cons_zero, List.setIfInBounds_toArray, List.set_cons_zero, List.set_cons_succ]
      refine wpW_one 3 _ rfl (by kernel_rfl) (step_wanted rfl (op_val (.string ST) (w' := w5) (by go_simp) ?_))
      refine ⟨fun _ => hS5, ?_⟩
      simp only [Act.put, List.getElem_toArray, List.getElem_cons_succ, List.getElem_cons_zero, List.setIfInBounds_toArray, List.set_cons_zero, List.set_cons_succ]
      refine wpW_take 6 _ (.bool false) rfl (by kernel_rfl) (by kernel_rfl) (by kernel_rfl) (fun _ _ _ h => h) (by kernel_rfl) (.inl ⟨rfl, fun w' hS' => by go_simp⟩) hS5 ?_
      simp only [Act.put, List.getElem_toArray, List.getElem_cons_succ, List.getElem_cons_zero, List.setIfInBounds_toArray, List.set_cons_zero, List.set_cons_succ]
      refine wpW_done (by kernel_rfl) ?_
      try simp only [Act.put, List.getElem_toArray, List.getElem_cons_succ, List.getElem_cons_zero, List.setIfInBounds_toArray, List.set_cons_zero, List.set_cons_succ]
      have bw5 := bwk.trans (Below.mono hS5 bwk.size)
      go_wp2
      go_roundw
      case rel =>
        refine ⟨k + 1, by omega, by go_num, (fun j hj => ?_), bk.trans (Below.mono hS5 bk.size)⟩
        by_cases e : j = k
        · subst e; rw [HP.out, HT.out]; exact HE.out
        · exact HK.out j (by omega)
      case measure => simp [intOf]; omega
end Go.Proofs.YtohjjigkfdhklaaGreat
