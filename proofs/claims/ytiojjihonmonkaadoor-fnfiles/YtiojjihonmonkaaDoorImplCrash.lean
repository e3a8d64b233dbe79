/- What crash leaves, as files. / CrashFiles, the program's text. -/
import Derived.Test.YtiojjihonmonkaaDoorCrX
import Derived.Test.YtiojjihonmonkaaDoorReadLaw
import Derived.Test.YtiojjihonmonkaaDoorDiskX
import Derived.Test.YtiojjihonmonkaaDoorRising
namespace Go.Proofs.YtiojjihonmonkaaDoor
open Go.RowKit
set_option linter.unusedSimpArgs false
set_option linter.unusedVariables false

theorem crF_at {F : Nat → Fil} {dn : Nat} {d : Nat → Int} {n i : Nat} (hi : i < n) : crF F dn d n i = crFil F dn d i := by unfold crF; rw [if_pos hi]
theorem crF_ok {F : Nat → Fil} {dn : Nat} {d : Nat → Int} {n : Nat} (hK : ∀ i, i < n → fileOk F i = true) : ∀ i, i < n → fileOk (crF F dn d n) i = true := by
  intro i hi
  have h := hK i hi
  obtain ⟨s0, s1⟩ := ok_sy h
  have hb := stay_bd (dn := dn) (d := d) s0 s1
  simp only [fileOk, Bool.and_eq_true, decide_eq_true_eq] at h ⊢
  rw [crF_nm, crF_nm]
  refine ⟨⟨⟨h.1.1.1, h.1.1.2⟩, ?_⟩, ?_⟩
  · rw [crF_at hi]
    unfold crFil
    split
    · exact s0
    · show 0 ≤ stayD F dn d i
      omega
  · rw [crF_at hi]
    unfold crFil
    split
    · exact s1
    · show stayD F dn d i ≤ ((stayD F dn d i).toNat : Int)
      omega
theorem cr_down {w w' : World} {bm n dn : Nat} {F : Nat → Fil} {S : Nat → Value} {d : Nat → Int} {G : Nat → Nat} (hK : ∀ i, i < n → fileOk F i = true) (hD : DOwn w (bm + 2) n F S G) (hs : w.heap.size ≤ w'.heap.size) (hoth : ∀ j, j < w.heap.size → j ≠ bm → w'.heap[j]? = w.heap[j]?) : DOwn w' (bm + 2) n (crF F dn d n) (Sk F S dn d n) G := by
  refine ⟨fun i hi => ?_, hD.low, fun i hi => Nat.le_trans (hD.up i hi) hs, hD.mono⟩
  obtain ⟨s0, s1⟩ := ok_sy (hK i hi)
  have hlow := hD.low i hi
  have kept : ∀ m, m ≤ (F i).len → Own w (G i) 0 (F i).len (F i).f → Own w' (G i) 0 m (F i).f := fun m hm ho => by
    have hb := hoth (G i) ho.lt (by omega)
    exact ⟨ho.bd, Nat.lt_of_lt_of_le ho.lt hs, fun j hj => (World.cell?_of_block (w := w) (a := ⟨G i, 0 + j, none⟩) hb).trans (ho.cell j (by omega)), fun j hj => (World.frozen?_of_block (w := w) (a := ⟨G i, 0 + j, none⟩) hb).trans (ho.free j (by omega))⟩
  rw [crF_at hi]
  by_cases hl : loose F i = 0
  · have e1 : crFil F dn d i = F i := by simp [crFil, hl]
    have e2 : Sk F S dn d n i = S i := by simp [Sk, hl]
    rw [e1, e2]
    rcases hD.data i hi with h | ⟨c, e, ho⟩
    · exact .inl h
    · exact .inr ⟨c, e, kept _ (Nat.le_refl _) ho⟩
  · have hb := stay_bd (dn := dn) (d := d) s0 s1
    rcases hD.data i hi with ⟨h0, _⟩ | ⟨c, e, ho⟩
    · exact absurd (show loose F i = 0 by unfold loose; omega) hl
    · have e1 : crFil F dn d i = { F i with len := (stayD F dn d i).toNat, sy := stayD F dn d i } := by simp [crFil, hl]
      refine .inr ⟨(stayD F dn d i).toNat, ?_, ?_⟩
      · rw [e1]
        simp [Sk, hl, hi, e, sAd]
      · rw [e1]
        exact kept (stayD F dn d i).toNat (by omega) ho

theorem dlen_of {w : World} {bm n : Nat} {F : Nat → Fil} {S : Nat → Value} {G : Nat → Nat} (hD : DOwn w (bm + 2) n F S G) (hDR : DRow w (bm + 2) n F S) : ∀ i, i < n → ∃ da dc, S i = .slice da (F i).len dc ∧ (F i).len ≤ dc ∧ ((F i).len ≠ 0 → ∃ g, da = some ⟨g, 0, none⟩) := by
  intro i hi
  rcases (hDR i hi).1.2 with ⟨e, h0⟩ | ⟨g, cap, cur, e, _, _, hc, _⟩
  · exact ⟨none, 0, by rw [e, h0], by omega, fun h => absurd h0 h⟩
  · exact ⟨some ⟨g, 0, none⟩, cap, e, hc, fun _ => ⟨g, rfl⟩⟩

theorem crash_out (Q : Int) (bm n : Nat) (F : Nat → Fil) (S : Nat → Value) (G : Nat → Nat) (bo : Option Addr) (dn bc : Nat) (d : Nat → Int) (hdn : dn ≤ bc) (hbc : dn ≤ 1048576) (HK : Hid (∀ i, i < n → fileOk F i = true)) (hbd : ∀ i, i < n → ∀ j, 0 ≤ (F i).f j ∧ (F i).f j ≤ 255) (hn : n ≤ 40) (hz : FSize n F 1048576) (w : World) (hb : w.heap[bm]? = some (.map (ents F S n) n)) (hD : DOwn w (bm + 2) n F S G) (hDR : DRow w (bm + 2) n F S) (hd : IRow w bo dn d) (hlo : ∀ b off, bo = some ⟨b, off, none⟩ → dn ≠ 0 → b ≠ bm) :
    Calls Tryd.prog 13 #[.agg #[.int .i64 Q, .map (some bm)], .slice bo dn bc] w fun e w' => ∃ (L : List (FT × Nat)) (zs : List FT), e = .returned (.tuple #[]) ∧ MHas w' bm L n ∧ L.length ≤ 1048576 ∧ zs.Perm (L.map (·.1)) ∧ zs.Pairwise (fun x y => Op.bytesLess x.1.toList y.1.toList = true) ∧ ZOwn w' bm n zs (crF F dn d n) G ∧ Below bm w w' ∧ ∀ j, j < w.heap.size → j ≠ bm → w'.heap[j]? = w.heap[j]? := by
  refine (crash_any Q bm n F S bo dn bc d hdn hbc HK hn hz w hb (dlen_of hD hDR) hd hlo).mono ?_
  rintro e w' ⟨rfl, hM, hbel, hoth⟩
  have hD' := cr_down (dn := dn) (d := d) HK.out hD hbel.size hoth
  exact ⟨_, _, rfl, hM, by rw [lOf_len]; omega, List.Perm.refl _, rising_of (crF_ok HK.out), zown_of hD' (fun i hi j => by rw [crF_f]; exact hbd i hi j), hbel, hoth⟩
end Go.Proofs.YtiojjihonmonkaaDoor
namespace Go.Proofs.YtiojjihonmonkaaDoor
open Go.RowKit
set_option linter.unusedSimpArgs false
set_option linter.unusedVariables false

set_option maxHeartbeats 2000000 in
theorem crashFiles_impl_bad (Q : Int) (ao : Option Addr) (n cap : Nat) (F Fo : Nat → Fil) (dv : Value) (HG : Hid (goodF Q n F = false)) (w : World) (hr : FRow w ao n F) (hq : -9223372036854775808 ≤ Q ∧ Q ≤ 9223372036854775807) (hn : n ≤ 1048576) (hz : FSize n F 1048576) :
    Calls Tryd.prog 5 #[.agg #[.int .i64 Q, .slice ao n cap], dv] w fun e w' => IOut 0 1 0 Fo w e w' := by
  have hB : Below w.heap.size w ((w.alloc (.cells #[.int .i64 Q, .slice ao n cap] 25)).alloc (.cells #[.int .i64 0, .slice none 0 0] 25)) := ((Below.refl _ _).alloc (Nat.le_refl _) _).alloc (by simp) _
  have Z0 := QAt.new (w.alloc (.cells #[.int .i64 Q, .slice ao n cap] 25)) 0 (.slice none 0 0) 25
  rw [World.size_alloc] at Z0
  have zf : ∀ j, ((w.alloc (.cells #[.int .i64 Q, .slice ao n cap] 25)).alloc (.cells #[.int .i64 0, .slice none 0 0] 25)).frozen? ⟨w.heap.size + 1, j, none⟩ = false := fun j => by simp [go_sem]
  go_enter Tryd.func5, Tryd.ntmps5
  go_wp2_with fail
  refine (openDiskN_bad _ Q ao n cap F HG _ (hr.keep hB) hq hn hz).mono ?_
  rintro e w1 ⟨rfl, hb1⟩
  have bw1 : Below w.heap.size w w1 := hB.trans (hb1.mono (by simp; omega))
  have hA : Below w1.heap.size w1 (w1.alloc (.cells #[.int .i64 0, .map none] 46)) := (Below.refl _ _).alloc (Nat.le_refl _) _
  have Z1 := (Z0.keep hb1).keep hA
  have zf1 : ∀ j, (w1.alloc (.cells #[.int .i64 0, .map none] 46)).frozen? ⟨w.heap.size + 1, j, none⟩ = false := fun j => (hA.frozen (p := ⟨w.heap.size + 1, j, none⟩) (Z0.keep hb1).lt).trans ((hb1.frozen (p := ⟨w.heap.size + 1, j, none⟩) Z0.lt).trans (zf j))
  have bwA : Below w.heap.size w (w1.alloc (.cells #[.int .i64 0, .map none] 46)) := bw1.trans (hA.mono bw1.size)
  clear hb1 hB Z0 zf hA
  go_wp2_with fail
  refine (tell_bad _ _ _ 0 none rfl (fun w => (is_kind w).mono fun e w' h => ⟨h.1, by rw [h.2]; exact Below.refl _ _⟩)).mono ?_
  rintro e w2 ⟨rfl, hb2⟩
  obtain ⟨lz, z0, z1⟩ := Z1.keep hb2
  have zf2 : ∀ j, w2.frozen? ⟨w.heap.size + 1, j, none⟩ = false := fun j => (hb2.frozen (p := ⟨w.heap.size + 1, j, none⟩) Z1.lt).trans (zf1 j)
  have bw2 : Below w.heap.size w w2 := bwA.trans (hb2.mono bwA.size)
  go_wp2
  refine bodyPost_ret (v := .tuple #[.agg #[.int .i64 0, .slice none 0 0], .int .i64 1]) (by simp [results, Tryd.results5, go_sem, z0, z1]) rfl ⟨none, 0, fun _ => 0, rfl, .inl rfl, ?_⟩
  exact (bw2.setCell (p := ⟨w.heap.size + 1, 0, none⟩) (Nat.le_succ _) _).setCell (p := ⟨w.heap.size + 1, 1, none⟩) (Nat.le_succ _) _

set_option maxHeartbeats 2000000 in
theorem crashFiles_impl_good (Q : Int) (ao : Option Addr) (n cap : Nat) (F : Nat → Fil) (bo : Option Addr) (dn bc : Nat) (d : Nat → Int) (hdn : dn ≤ bc) (hbc : dn ≤ 1048576) (HG : Hid (goodF Q n F = true)) (HK : Hid (∀ i, i < n → fileOk F i = true)) (hbd : ∀ i, i < n → ∀ j, 0 ≤ (F i).f j ∧ (F i).f j ≤ 255) (h40 : n ≤ 40)
    (w : World) (hd : IRow w bo dn d) (hE : ET w) (hr : FRow w ao n F) (hq : -9223372036854775808 ≤ Q ∧ Q ≤ 9223372036854775807) (hz : FSize n F 1048576) :
    Calls Tryd.prog 5 #[.agg #[.int .i64 Q, .slice ao n cap], .slice bo dn bc] w fun e w' => IOut Q 0 n (crF F dn d n) w e w' := by
  have hn : n ≤ 1048576 := by omega
  have HD : Hid (IRow w bo dn d) := hd
  have HBD : Hid (∀ i, i < n → ∀ j, 0 ≤ (F i).f j ∧ (F i).f j ≤ 255) := hbd
  clear hd hbd
  have hB : Below w.heap.size w ((w.alloc (.cells #[.int .i64 Q, .slice ao n cap] 25)).alloc (.cells #[.int .i64 0, .slice none 0 0] 25)) := ((Below.refl _ _).alloc (Nat.le_refl _) _).alloc (by simp) _
  have Z0 := QAt.new (w.alloc (.cells #[.int .i64 Q, .slice ao n cap] 25)) 0 (.slice none 0 0) 25
  rw [World.size_alloc] at Z0
  have zf : ∀ j, ((w.alloc (.cells #[.int .i64 Q, .slice ao n cap] 25)).alloc (.cells #[.int .i64 0, .slice none 0 0] 25)).frozen? ⟨w.heap.size + 1, j, none⟩ = false := fun j => by simp [go_sem]
  go_enter Tryd.func5, Tryd.ntmps5
  go_wp2_with fail
  refine (openDiskN_goodX none 0 0 (fun _ => ByteArray.empty) Q ao n cap F HG HK _ ⟨.inl rfl⟩ (by omega) (fun j h => by omega) (hr.keep hB) hq hn hz).mono ?_
  rintro e w1 ⟨bm, S, GG, rfl, hbm, hM, hD, hb1, hDR⟩
  have hbm2 : w.heap.size + 2 ≤ bm := by simp at hbm; omega
  have hA : Below w1.heap.size w1 (w1.alloc (.cells #[.int .i64 Q, .map (some bm)] 46)) := (Below.refl _ _).alloc (Nat.le_refl _) _
  have bw1 : Below w.heap.size w w1 := hB.trans (hb1.mono (by simp; omega))
  have bwA : Below w.heap.size w (w1.alloc (.cells #[.int .i64 Q, .map (some bm)] 46)) := bw1.trans (hA.mono bw1.size)
  have hbl : bm < w1.heap.size := (Array.getElem?_eq_some_iff.1 hM).1
  have hMA : (w1.alloc (.cells #[.int .i64 Q, .map (some bm)] 46)).heap[bm]? = some (.map (ents F S n) n) := (hA.block bm hbl).trans hM
  have hDA := hD.keep hA
  have hDRA : Hid (DRow (w1.alloc (.cells #[.int .i64 Q, .map (some bm)] 46)) (bm + 2) n F S) := hDR.to (fun b _ hlt => hA.block b hlt)
  have hDA' : Hid (IRow (w1.alloc (.cells #[.int .i64 Q, .map (some bm)] 46)) bo dn d) := HD.out.keep bwA
  have hlo : Hid (∀ b off, bo = some ⟨b, off, none⟩ → dn ≠ 0 → b ≠ bm) := fun b off e h0 => by
    obtain ⟨b', off', e', h1, _⟩ := HD.out.lies.resolve_left h0
    rw [e] at e'
    injection e' with e'
    injection e' with e' _ _
    omega
  have hD' := hD
  have D1 := QAt.new w1 Q (.map (some bm)) 46
  have Z1 := (Z0.keep hb1).keep hA
  have zf1 : ∀ j, (w1.alloc (.cells #[.int .i64 Q, .map (some bm)] 46)).frozen? ⟨w.heap.size + 1, j, none⟩ = false := fun j => (hA.frozen (p := ⟨w.heap.size + 1, j, none⟩) (Z0.keep hb1).lt).trans ((hb1.frozen (p := ⟨w.heap.size + 1, j, none⟩) Z0.lt).trans (zf j))
  clear hb1 hB Z0 zf hA hM hD bw1 hbm hDR
  go_wp2_with fail
  refine (crash_out Q bm n F S GG bo dn bc d hdn hbc HK HBD.out h40 hz _ hMA hDA hDRA.out hDA'.out hlo.out).mono ?_
  rintro e w2 ⟨L, zs, rfl, hM2, hL, hP, hR, hZ, hb2, hoth⟩
  have bD := hoth w1.heap.size (by simp) (by omega)
  have bZ := hoth (w.heap.size + 1) (by simp; omega) (by omega)
  have d0 : w2.cell? ⟨w1.heap.size, 0, none⟩ = some (.int .i64 Q) := (World.cell?_of_block (w := _) (a := ⟨w1.heap.size, 0, none⟩) bD).trans D1.c0
  have d1 : w2.cell? ⟨w1.heap.size, 1, none⟩ = some (.map (some bm)) := (World.cell?_of_block (w := _) (a := ⟨w1.heap.size, 1, none⟩) bD).trans D1.c1
  have z0 : w2.cell? ⟨w.heap.size + 1, 0, none⟩ = some (.int .i64 0) := (World.cell?_of_block (w := _) (a := ⟨w.heap.size + 1, 0, none⟩) bZ).trans Z1.c0
  have z1 : w2.cell? ⟨w.heap.size + 1, 1, none⟩ = some (.slice none 0 0) := (World.cell?_of_block (w := _) (a := ⟨w.heap.size + 1, 1, none⟩) bZ).trans Z1.c1
  have zf2 : ∀ j, w2.frozen? ⟨w.heap.size + 1, j, none⟩ = false := fun j => (World.frozen?_of_block (w := _) (a := ⟨w.heap.size + 1, j, none⟩) bZ).trans (zf1 j)
  have bw2 : Below w.heap.size w w2 := bwA.trans (hb2.mono (by omega))
  have hs2 : w1.heap.size + 1 ≤ w2.heap.size := by have := hb2.size; simpa using this
  have hE2 := hE.keep bw2
  clear hoth bD bZ D1 Z1 zf1 hMA hDA hD' bwA hb2
  go_wp2_with fail
  refine (tell_any Q 0 bm n L .nilIface _ hE2 hM2 hL sort_any errNil.1 errNil.2).mono ?_
  rintro e w3 ⟨v, ys, rfl, hp3, hs3, ho3, hb3⟩
  obtain rfl : ys = zs := eq_of_rising (hp3.trans hP.symm) hs3 hR
  obtain ⟨p, cc, rfl⟩ := row_slice ho3
  rw [hZ.len] at ho3 ⊢
  have hbase : w.heap.size ≤ bm := by omega
  have hl2 : w.heap.size + 1 < w2.heap.size := by omega
  have u0 := (hb3.cell (p := ⟨w.heap.size + 1, 0, none⟩) hl2).trans z0
  have u1 := (hb3.cell (p := ⟨w.heap.size + 1, 1, none⟩) hl2).trans z1
  have uf : ∀ j, w3.frozen? ⟨w.heap.size + 1, j, none⟩ = false := fun j => (hb3.frozen (p := ⟨w.heap.size + 1, j, none⟩) hl2).trans (zf2 j)
  have bw3 : Below w.heap.size w w3 := bw2.trans (hb3.mono bw2.size)
  have hfv := hZ.fv hb3 (show bm ≤ w2.heap.size + 2 by omega) (by omega) ho3
  have hfv4 : FV ((w3.setCell ⟨w.heap.size + 1, 0, none⟩ (.int .i64 Q)).setCell ⟨w.heap.size + 1, 1, none⟩ (.slice p n cc)) w.heap.size ((w3.setCell ⟨w.heap.size + 1, 0, none⟩ (.int .i64 Q)).setCell ⟨w.heap.size + 1, 1, none⟩ (.slice p n cc)).heap.size p n (crF F dn d n) GG :=
    (hfv.low (by simp) (fun k h1 _ => by rw [Below.heap_setCell _ _ _ _ (by show k ≠ w.heap.size + 1; omega), Below.heap_setCell _ _ _ _ (by show k ≠ w.heap.size + 1; omega)])).mono hbase (by simp)
  clear hZ hM2 ho3 hp3 hs3 hR hP hb3 hfv
  go_wp2
  refine bodyPost_ret (v := .tuple #[.agg #[.int .i64 Q, .slice p n cc], .int .i64 0]) (by simp [results, Tryd.results5, go_sem, u0, u1]) rfl ⟨p, cc, GG, rfl, hfv4, ?_⟩
  exact (bw3.setCell (p := ⟨w.heap.size + 1, 0, none⟩) (Nat.le_succ _) _).setCell (p := ⟨w.heap.size + 1, 1, none⟩) (Nat.le_succ _) _
end Go.Proofs.YtiojjihonmonkaaDoor
