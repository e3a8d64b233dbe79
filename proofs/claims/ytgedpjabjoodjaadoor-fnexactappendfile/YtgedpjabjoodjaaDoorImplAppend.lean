/- AppendFile, the program's text, over what the disk's method leaves. -/
import Derived.Test.YtgedpjabjoodjaaDoorMOut
import Derived.Test.YtgedpjabjoodjaaDoorReadF
import Derived.Test.YtgedpjabjoodjaaDoorDiskX
import Derived.Test.YtgedpjabjoodjaaDoorSpecAppend
namespace Go.Proofs.YtgedpjabjoodjaaDoor
open Go.RowKit
set_option linter.unusedSimpArgs false
set_option linter.unusedVariables false

set_option maxHeartbeats 2000000 in
theorem appendFile_impl_bad (Q : Int) (ao : Option Addr) (n cap : Nat) (F Fo : Nat → Fil) (s : ByteArray) (ad : Addr) (bl' bc : Nat) (hs : s.size ≤ 1048576) (G N : Bool) (HG : Hid (goodF Q n F = G)) (HN : Hid (fnB s = N)) (hbad : (G && N) = false) (w : World) (hr : FRow w ao n F) (hq : -9223372036854775808 ≤ Q ∧ Q ≤ 9223372036854775807) (hn : n ≤ 1048576) (hz : FSize n F 1048576) :
    Calls Tryd.prog 19 #[.agg #[.int .i64 Q, .slice ao n cap], .string s, .slice (some ad) bl' bc] w fun e w' => IOut 0 1 0 Fo w e w' := by
  have hB : Below w.heap.size w (((w.alloc (.cells #[.int .i64 Q, .slice ao n cap] 28)).alloc (.cells #[.int .i64 0, .slice none 0 0] 28)).alloc (.cells #[.string s] 9)) := (((Below.refl _ _).alloc (Nat.le_refl _) _).alloc (by simp) _).alloc (by simp; omega) _
  have Z0 : QAt (((w.alloc (.cells #[.int .i64 Q, .slice ao n cap] 28)).alloc (.cells #[.int .i64 0, .slice none 0 0] 28)).alloc (.cells #[.string s] 9)) (w.heap.size + 1) 0 (.slice none 0 0) := by
    have := (QAt.new (w.alloc (.cells #[.int .i64 Q, .slice ao n cap] 28)) 0 (.slice none 0 0) 28).keep ((Below.refl _ _).alloc (Nat.le_refl _) (.cells #[.string s] 9))
    rwa [World.size_alloc] at this
  have zf : ∀ j, (((w.alloc (.cells #[.int .i64 Q, .slice ao n cap] 28)).alloc (.cells #[.int .i64 0, .slice none 0 0] 28)).alloc (.cells #[.string s] 9)).frozen? ⟨w.heap.size + 1, j, none⟩ = false := fun j => by simp [go_sem]
  have hN1 := one_name ((w.alloc (.cells #[.int .i64 Q, .slice ao n cap] 28)).alloc (.cells #[.int .i64 0, .slice none 0 0] 28)) s 9
  rw [World.size_alloc, World.size_alloc] at hN1
  have hopen : ∃ E : Value, (∃ t v, E = .iface t v) ∧ (∀ w, Calls Tryd.prog 68 #[E, .iface 88 (.int .i64 1)] w fun e w' => e = .returned (.bool true) ∧ Below w.heap.size w w') ∧ Calls Tryd.prog 42 #[.agg #[.int .i64 Q, .slice ao n cap], .slice (some ⟨w.heap.size + 1 + 1, 0, none⟩) 1 1] (((w.alloc (.cells #[.int .i64 Q, .slice ao n cap] 28)).alloc (.cells #[.int .i64 0, .slice none 0 0] 28)).alloc (.cells #[.string s] 9)) fun e w' => e = .returned (.tuple #[.agg #[.int .i64 0, .map none], E]) ∧ Below (((w.alloc (.cells #[.int .i64 Q, .slice ao n cap] 28)).alloc (.cells #[.int .i64 0, .slice none 0 0] 28)).alloc (.cells #[.string s] 9)).heap.size (((w.alloc (.cells #[.int .i64 Q, .slice ao n cap] 28)).alloc (.cells #[.int .i64 0, .slice none 0 0] 28)).alloc (.cells #[.string s] 9)) w' := by
    cases G
    · exact ⟨_, ⟨_, _, rfl⟩, fun w => (is_kind w).mono fun e w' h => ⟨h.1, by rw [h.2]; exact Below.refl _ _⟩, openDiskN_bad _ Q ao n cap F HG _ (hr.keep hB) hq hn hz⟩
    · obtain rfl : N = false := by simpa using hbad
      exact ⟨_, ⟨_, _, rfl⟩, fun w => is_fault s 1 true rfl w, openDiskN_name _ 1 _ (fun _ => s) 0 (by omega) Q ao n cap F HG _ hN1 (by omega) (fun j h => by omega) HN.out hs (hr.keep hB) hq hn hz⟩
  obtain ⟨E, ⟨t, v, rfl⟩, hIs, hop⟩ := hopen
  go_enter Tryd.func19, Tryd.ntmps19
  go_wp2_with fail
  refine hop.mono ?_
  rintro e w1 ⟨rfl, hb1⟩
  have bw1 : Below w.heap.size w w1 := hB.trans (hb1.mono (by simp; omega))
  have hA : Below w1.heap.size w1 (w1.alloc (.cells #[.int .i64 0, .map none] 60)) := (Below.refl _ _).alloc (Nat.le_refl _) _
  have Z1 := (Z0.keep hb1).keep hA
  have zf1 : ∀ j, (w1.alloc (.cells #[.int .i64 0, .map none] 60)).frozen? ⟨w.heap.size + 1, j, none⟩ = false := fun j => (hA.frozen (p := ⟨w.heap.size + 1, j, none⟩) (Z0.keep hb1).lt).trans ((hb1.frozen (p := ⟨w.heap.size + 1, j, none⟩) Z0.lt).trans (zf j))
  have bwA : Below w.heap.size w (w1.alloc (.cells #[.int .i64 0, .map none] 60)) := bw1.trans (hA.mono bw1.size)
  clear hb1 hB Z0 zf hN1 hop hA
  go_wp2_with fail
  refine (tell_bad _ _ _ 0 none rfl hIs).mono ?_
  rintro e w2 ⟨rfl, hb2⟩
  obtain ⟨lz, z0, z1⟩ := Z1.keep hb2
  have zf2 : ∀ j, w2.frozen? ⟨w.heap.size + 1, j, none⟩ = false := fun j => (hb2.frozen (p := ⟨w.heap.size + 1, j, none⟩) Z1.lt).trans (zf1 j)
  have bw2 : Below w.heap.size w w2 := bwA.trans (hb2.mono bwA.size)
  go_wp2
  refine bodyPost_ret (v := .tuple #[.agg #[.int .i64 0, .slice none 0 0], .int .i64 1]) (by simp [results, Tryd.results19, go_sem, z0, z1]) rfl ⟨none, 0, fun _ => 0, rfl, .inl rfl, ?_⟩
  exact (bw2.setCell (p := ⟨w.heap.size + 1, 0, none⟩) (Nat.le_succ _) _).setCell (p := ⟨w.heap.size + 1, 1, none⟩) (Nat.le_succ _) _

set_option maxHeartbeats 2000000 in
theorem appendFile_impl_good (Q : Int) (ao : Option Addr) (n cap : Nat) (F : Nat → Fil) (s : ByteArray) (ad : Addr) (bl' bc : Nat) (h : Nat → Int) (hs : s.size ≤ 1048576) (HG : Hid (goodF Q n F = true)) (HK : Hid (∀ i, i < n → fileOk F i = true)) (HN : Hid (fnB s = true)) (c : Int) (m : Nat) (Fo : Nat → Fil)
    (hmeth : ∀ (w : World) (bm : Nat) (S : Nat → Value) (G : Nat → Nat), w.heap[bm]? = some (.map (ents F S n) n) → DOwn w (bm + 2) n F S G → DRow w (bm + 2) n F S → BA w ad bl' h → Calls Tryd.prog 49 #[.agg #[.int .i64 Q, .map (some bm)], .string s, .slice (some ad) bl' bc] w fun e w' => MOut c m Fo n F G bm w e w')
    (w : World) (HBA : Hid (BA w ad bl' h)) (hE : ET w) (hr : FRow w ao n F) (hq : -9223372036854775808 ≤ Q ∧ Q ≤ 9223372036854775807) (hn : n ≤ 1048576) (hz : FSize n F 1048576) :
    Calls Tryd.prog 19 #[.agg #[.int .i64 Q, .slice ao n cap], .string s, .slice (some ad) bl' bc] w fun e w' => IOut Q c m Fo w e w' := by
  have hB : Below w.heap.size w (((w.alloc (.cells #[.int .i64 Q, .slice ao n cap] 28)).alloc (.cells #[.int .i64 0, .slice none 0 0] 28)).alloc (.cells #[.string s] 9)) := (((Below.refl _ _).alloc (Nat.le_refl _) _).alloc (by simp) _).alloc (by simp; omega) _
  have Z0 : QAt (((w.alloc (.cells #[.int .i64 Q, .slice ao n cap] 28)).alloc (.cells #[.int .i64 0, .slice none 0 0] 28)).alloc (.cells #[.string s] 9)) (w.heap.size + 1) 0 (.slice none 0 0) := by
    have := (QAt.new (w.alloc (.cells #[.int .i64 Q, .slice ao n cap] 28)) 0 (.slice none 0 0) 28).keep ((Below.refl _ _).alloc (Nat.le_refl _) (.cells #[.string s] 9))
    rwa [World.size_alloc] at this
  have zf : ∀ j, (((w.alloc (.cells #[.int .i64 Q, .slice ao n cap] 28)).alloc (.cells #[.int .i64 0, .slice none 0 0] 28)).alloc (.cells #[.string s] 9)).frozen? ⟨w.heap.size + 1, j, none⟩ = false := fun j => by simp [go_sem]
  have hN1 := one_name ((w.alloc (.cells #[.int .i64 Q, .slice ao n cap] 28)).alloc (.cells #[.int .i64 0, .slice none 0 0] 28)) s 9
  rw [World.size_alloc, World.size_alloc] at hN1
  go_enter Tryd.func19, Tryd.ntmps19
  go_wp2_with fail
  refine (openDiskN_goodX _ 1 _ _ Q ao n cap F HG HK _ hN1 (by omega) (fun j h => HN.out) (hr.keep hB) hq hn hz).mono ?_
  rintro e w1 ⟨bm, S, GG, rfl, hbm, hM, hD, hb1, hDR⟩
  have hbm2 : w.heap.size + 3 ≤ bm := by simp at hbm; omega
  have hA : Below w1.heap.size w1 (w1.alloc (.cells #[.int .i64 Q, .map (some bm)] 60)) := (Below.refl _ _).alloc (Nat.le_refl _) _
  have bw1 : Below w.heap.size w w1 := hB.trans (hb1.mono (by simp; omega))
  have bwA : Below w.heap.size w (w1.alloc (.cells #[.int .i64 Q, .map (some bm)] 60)) := bw1.trans (hA.mono bw1.size)
  have hbl : bm < w1.heap.size := (Array.getElem?_eq_some_iff.1 hM).1
  have hMA : (w1.alloc (.cells #[.int .i64 Q, .map (some bm)] 60)).heap[bm]? = some (.map (ents F S n) n) := (hA.block bm hbl).trans hM
  have hDA := hD.keep hA
  have hDRA : Hid (DRow (w1.alloc (.cells #[.int .i64 Q, .map (some bm)] 60)) (bm + 2) n F S) := hDR.to (fun b _ hlt => hA.block b hlt)
  have hBAA : Hid (BA (w1.alloc (.cells #[.int .i64 Q, .map (some bm)] 60)) ad bl' h) := HBA.out.keep bwA
  have hD' := hD
  have D1 := QAt.new w1 Q (.map (some bm)) 60
  have Z1 := (Z0.keep hb1).keep hA
  have zf1 : ∀ j, (w1.alloc (.cells #[.int .i64 Q, .map (some bm)] 60)).frozen? ⟨w.heap.size + 1, j, none⟩ = false := fun j => (hA.frozen (p := ⟨w.heap.size + 1, j, none⟩) (Z0.keep hb1).lt).trans ((hb1.frozen (p := ⟨w.heap.size + 1, j, none⟩) Z0.lt).trans (zf j))
  clear hb1 hB Z0 zf hN1 hA hM hD bw1 hbm hDR
  go_wp2_with fail
  refine (hmeth _ bm S GG hMA hDA hDRA.out hBAA.out).mono ?_
  rintro e w2 ⟨E, L, clock, zs, G, rfl, hEr, hEf, hM2, hL, hP, hR, hZ, hb2, hoth⟩
  have hGl : ∀ i, i < n → (F i).len ≠ 0 → GG i < w1.heap.size ∧ bm + 2 ≤ GG i := fun i hi h0 => by
    refine ⟨?_, hDA.low i hi⟩
    rcases hD'.data i hi with ⟨h, _⟩ | ⟨c, e, ho⟩
    · exact absurd h h0
    · exact ho.lt
  have bD := hoth w1.heap.size (by simp) (by omega) (fun i hi h0 => by have := (hGl i hi h0).1; omega)
  have bZ := hoth (w.heap.size + 1) (by simp; omega) (by omega) (fun i hi h0 => by have := (hGl i hi h0).2; omega)
  have d0 : w2.cell? ⟨w1.heap.size, 0, none⟩ = some (.int .i64 Q) := (World.cell?_of_block (w := _) (a := ⟨w1.heap.size, 0, none⟩) bD).trans D1.c0
  have d1 : w2.cell? ⟨w1.heap.size, 1, none⟩ = some (.map (some bm)) := (World.cell?_of_block (w := _) (a := ⟨w1.heap.size, 1, none⟩) bD).trans D1.c1
  have z0 : w2.cell? ⟨w.heap.size + 1, 0, none⟩ = some (.int .i64 0) := (World.cell?_of_block (w := _) (a := ⟨w.heap.size + 1, 0, none⟩) bZ).trans Z1.c0
  have z1 : w2.cell? ⟨w.heap.size + 1, 1, none⟩ = some (.slice none 0 0) := (World.cell?_of_block (w := _) (a := ⟨w.heap.size + 1, 1, none⟩) bZ).trans Z1.c1
  have zf2 : ∀ j, w2.frozen? ⟨w.heap.size + 1, j, none⟩ = false := fun j => (World.frozen?_of_block (w := _) (a := ⟨w.heap.size + 1, j, none⟩) bZ).trans (zf1 j)
  have bw2 : Below w.heap.size w w2 := bwA.trans (hb2.mono (by omega))
  have hs2 : w1.heap.size + 1 ≤ w2.heap.size := by have := hb2.size; simpa using this
  have hE2 := hE.keep bw2
  clear hoth bD bZ D1 Z1 zf1 hMA hDA hD' bwA hb2 hGl hmeth
  go_wp2_with fail
  refine (tell_any Q c bm clock L E _ hE2 hM2 hL sort_any hEr.1 hEr.2).mono ?_
  rintro e w3 ⟨v, ys, rfl, hp3, hs3, ho3, hb3⟩
  obtain rfl : ys = zs := eq_of_rising (hp3.trans hP.symm) hs3 hR
  obtain ⟨p, cc, rfl⟩ := row_slice ho3
  rw [hZ.len] at ho3 ⊢
  have hbase : w.heap.size ≤ bm := by omega
  have hl2 : w.heap.size + 1 < w2.heap.size := by omega
  have u0 := (hb3.cell (p := ⟨w.heap.size + 1, 0, none⟩) hl2).trans z0
  have u1 := (hb3.cell (p := ⟨w.heap.size + 1, 1, none⟩) hl2).trans z1
  have uf : ∀ j, w3.frozen? ⟨w.heap.size + 1, j, none⟩ = false := fun j => (hb3.frozen (p := ⟨w.heap.size + 1, j, none⟩) hl2).trans (zf2 j)
  have bw3 : Below w.heap.size w w3 := bw2.trans (hb3.mono bw2.size)
  have hfv := hZ.fv hb3 (show bm ≤ w2.heap.size + 2 by omega) (by omega) ho3
  have hfv4 : FV ((w3.setCell ⟨w.heap.size + 1, 0, none⟩ (.int .i64 Q)).setCell ⟨w.heap.size + 1, 1, none⟩ (.slice p m cc)) w.heap.size ((w3.setCell ⟨w.heap.size + 1, 0, none⟩ (.int .i64 Q)).setCell ⟨w.heap.size + 1, 1, none⟩ (.slice p m cc)).heap.size p m Fo G :=
    (hfv.low (by simp) (fun k h1 _ => by rw [Below.heap_setCell _ _ _ _ (by show k ≠ w.heap.size + 1; omega), Below.heap_setCell _ _ _ _ (by show k ≠ w.heap.size + 1; omega)])).mono hbase (by simp)
  clear hZ hM2 ho3 hp3 hs3 hR hP hb3 hfv
  go_wp2
  refine bodyPost_ret (v := .tuple #[.agg #[.int .i64 Q, .slice p m cc], .int .i64 c]) (by simp [results, Tryd.results19, go_sem, u0, u1]) rfl ⟨p, cc, G, rfl, hfv4, ?_⟩
  exact (bw3.setCell (p := ⟨w.heap.size + 1, 0, none⟩) (Nat.le_succ _) _).setCell (p := ⟨w.heap.size + 1, 1, none⟩) (Nat.le_succ _) _
end Go.Proofs.YtgedpjabjoodjaaDoor
