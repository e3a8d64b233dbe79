/- Overlap, in both texts, and its law. -/
import Derived.Test.YtfdbhkjmkpgomaaGoS
import Derived.Test.YtfdbhkjmkpgomaaEnS
import Derived.BigQuiet
import Derived.Deep.RegionHeld3
namespace Go.Proofs.Ytfdbhkjmkpgomaa
open Go.RowKit
set_option linter.unusedSimpArgs false
set_option linter.unusedVariables false

/-- At most, by bytes. -/
def leS (a b : ByteArray) : Bool := Op.bytesLess a.toList b.toList || a.toList == b.toList
/-- Whether the spans overlap. -/
def ovP (X : Nat → Ent) (n : Nat) (Y : Nat → Ent) (m : Nat) : Bool := decide (0 < n) && decide (0 < m) && leS (X 0).key (Y (m - 1)).key && leS (Y 0).key (X (n - 1)).key
/-- What Overlap leaves. -/
def OvO (X : Nat → Ent) (n : Nat) (Y : Nat → Ent) (m : Nat) (w : World) (e : Ending) (w' : World) : Prop :=
  ∃ p q, e = .returned (.tuple #[.bool p, .bool q]) ∧ (q = true ↔ GoodL X n ∧ GoodL Y m) ∧ p = (q && ovP X n Y m) ∧ Below w.heap.size w w'

set_option maxHeartbeats 4000000 in
theorem overlap_impl (ao bo : Option Addr) (n m ca cb : Nat) (X Y : Nat → Ent) (w : World) (hr : ERow w ao n X) (hs : ERow w bo m Y) (hn : n ≤ 1048576) (hm : m ≤ 1048576) (hz : ESize n X) (hy : ESize m Y) :
    Calls Try.prog 24 #[.slice ao n ca, .slice bo m cb] w fun e w' => OvO X n Y m w e w' := by
  by_cases hX : GoodL X n
  rotate_left
  · have H : Hid (∀ W, Below w.heap.size w W → OvO X n Y m w (.returned (.tuple #[.bool false, .bool false])) W) := fun W hb => ⟨false, false, rfl, by simp [hX], rfl, hb⟩
    have hc : Calls Try.prog 31 #[.slice ao n ca] w fun e w' => e = .returned (.bool false) ∧ Below w.heap.size w w' := (goodEntries_impl ao n ca X w hr hn hz).mono (by
      rintro e w' ⟨b, rfl, h, hb⟩
      cases b
      · exact ⟨rfl, hb⟩
      · exact absurd (h.1 rfl) hX)
    clear hX
    go_enter Try.func24, Try.ntmps24
    go_wp2_with fail
    refine hc.mono ?_
    rintro e w1 ⟨rfl, hb1⟩
    go_wp2
    exact bodyPost_ret (v := .tuple #[.bool false, .bool false]) (by simp [results, Try.results24, go_sem]) rfl (H.out _ hb1)
  by_cases hY : GoodL Y m
  rotate_left
  · have H : Hid (∀ W, Below w.heap.size w W → OvO X n Y m w (.returned (.tuple #[.bool false, .bool false])) W) := fun W hb => ⟨false, false, rfl, by simp [hY], rfl, hb⟩
    have hc : Calls Try.prog 31 #[.slice ao n ca] w fun e w' => e = .returned (.bool true) ∧ Below w.heap.size w w' := (goodEntries_impl ao n ca X w hr hn hz).mono (by
      rintro e w' ⟨b, rfl, h, hb⟩
      exact ⟨by rw [h.2 hX], hb⟩)
    have hd : ∀ W, Below w.heap.size w W → Calls Try.prog 31 #[.slice bo m cb] W fun e w' => e = .returned (.bool false) ∧ Below W.heap.size W w' := fun W hW => (goodEntries_impl bo m cb Y W (hs.keep hW) hm hy).mono (by
      rintro e w' ⟨b, rfl, h, hb⟩
      cases b
      · exact ⟨rfl, hb⟩
      · exact absurd (h.1 rfl) hY)
    clear hX hY
    go_enter Try.func24, Try.ntmps24
    go_wp2_with fail
    refine hc.mono ?_
    rintro e w1 ⟨rfl, hb1⟩
    go_wp2_with fail
    refine (hd _ hb1).mono ?_
    rintro e w2 ⟨rfl, hb2⟩
    have bw2 := hb1.trans (hb2.mono hb1.size)
    go_wp2
    exact bodyPost_ret (v := .tuple #[.bool false, .bool false]) (by simp [results, Try.results24, go_sem]) rfl (H.out _ bw2)
  have H : Hid (∀ p W, p = ovP X n Y m → Below w.heap.size w W → OvO X n Y m w (.returned (.tuple #[.bool p, .bool true])) W) := fun p W hp hb => ⟨p, true, rfl, by simp [hX, hY], by simp [hp], hb⟩
  have hc : Calls Try.prog 31 #[.slice ao n ca] w fun e w' => e = .returned (.bool true) ∧ Below w.heap.size w w' := (goodEntries_impl ao n ca X w hr hn hz).mono (by
    rintro e w' ⟨b, rfl, h, hb⟩
    exact ⟨by rw [h.2 hX], hb⟩)
  have hd : ∀ W, Below w.heap.size w W → Calls Try.prog 31 #[.slice bo m cb] W fun e w' => e = .returned (.bool true) ∧ Below W.heap.size W w' := fun W hW => (goodEntries_impl bo m cb Y W (hs.keep hW) hm hy).mono (by
    rintro e w' ⟨b, rfl, h, hb⟩
    exact ⟨by rw [h.2 hY], hb⟩)
  clear hX hY
  by_cases h0 : n = 0
  · have HP : Hid (false = ovP X n Y m) := by simp [Hid, ovP, h0]
    have hnd : ((n : Int) == 0) = true := by simp [h0]
    clear h0
    go_enter Try.func24, Try.ntmps24
    go_wp2_with fail
    refine hc.mono ?_
    rintro e w1 ⟨rfl, hb1⟩
    go_wp2_with fail
    refine (hd _ hb1).mono ?_
    rintro e w2 ⟨rfl, hb2⟩
    have bw2 := hb1.trans (hb2.mono hb1.size)
    go_wp2
    exact bodyPost_ret (v := .tuple #[.bool false, .bool true]) (by simp [results, Try.results24, go_sem]) rfl (H.out _ _ HP.out bw2)
  have hnd : ((n : Int) == 0) = false := by simp; omega
  by_cases h1 : m = 0
  · have HP : Hid (false = ovP X n Y m) := by simp [Hid, ovP, h1]
    have hmd : ((m : Int) == 0) = true := by simp [h1]
    clear h1 h0
    go_enter Try.func24, Try.ntmps24
    go_wp2_with fail
    refine hc.mono ?_
    rintro e w1 ⟨rfl, hb1⟩
    go_wp2_with fail
    refine (hd _ hb1).mono ?_
    rintro e w2 ⟨rfl, hb2⟩
    have bw2 := hb1.trans (hb2.mono hb1.size)
    go_wp2
    exact bodyPost_ret (v := .tuple #[.bool false, .bool true]) (by simp [results, Try.results24, go_sem]) rfl (H.out _ _ HP.out bw2)
  have hmd : ((m : Int) == 0) = false := by simp; omega
  obtain ⟨b, off, rfl, hblt, hlx⟩ := hr.lies.resolve_left h0
  obtain ⟨b', off', rfl, hblt', hly⟩ := hs.lies.resolve_left h1
  obtain ⟨N, hN⟩ : ∃ N, n = N + 1 := ⟨n - 1, by omega⟩
  obtain ⟨M, hM⟩ : ∃ M, m = M + 1 := ⟨m - 1, by omega⟩
  obtain ⟨_, _, x0, _⟩ := hlx 0 (by omega)
  obtain ⟨_, _, x1, _⟩ := hlx N (by omega)
  obtain ⟨_, _, y0, _⟩ := hly 0 (by omega)
  obtain ⟨_, _, y1, _⟩ := hly M (by omega)
  have HV : Hid ((leS (X 0).key (Y M).key && leS (Y 0).key (X N).key) = ovP X n Y m) := by
    unfold Hid ovP
    rw [show n - 1 = N by omega, show m - 1 = M by omega]
    have e1 : 0 < n := by omega
    have e2 : 0 < m := by omega
    simp [e1, e2]
  have wn : IntKind.i64.wrap ((n : Int) - 1) = (N : Int) := by rw [IntKind.wrap_i64]; omega
  have wm : IntKind.i64.wrap ((m : Int) - 1) = (M : Int) := by rw [IntKind.wrap_i64]; omega
  have l1 : 0 < n := by omega
  have l2 : 0 < m := by omega
  have l3 : N < n := by omega
  have l4 : M < m := by omega
  have i1 : (0 : Int) < (n : Int) := by omega
  have i2 : (0 : Int) < (m : Int) := by omega
  have x0c := x0.c0
  have y0c := y0.c0
  rw [Nat.zero_mul, Nat.add_zero] at x0c y0c
  have x1c := x1.c0
  have y1c := y1.c0
  have hk : Hid (∀ W, Below w.heap.size w W → W.cell? ⟨b, off, none⟩ = some (.string (X 0).key) ∧ W.cell? ⟨b, off + N * 9, none⟩ = some (.string (X N).key) ∧ W.cell? ⟨b', off', none⟩ = some (.string (Y 0).key) ∧ W.cell? ⟨b', off' + M * 9, none⟩ = some (.string (Y M).key)) := fun W hW =>
    ⟨(hW.cell (p := ⟨b, off, none⟩) hblt).trans x0c, (hW.cell (p := ⟨b, off + N * 9, none⟩) hblt).trans x1c, (hW.cell (p := ⟨b', off', none⟩) hblt').trans y0c, (hW.cell (p := ⟨b', off' + M * 9, none⟩) hblt').trans y1c⟩
  clear hlx hly x0 x1 y0 y1 x0c x1c y0c y1c hN hM h0 h1 hr hs hz hy
  have V1 : Hid (leS (X 0).key (Y M).key = true → leS (Y 0).key (X N).key = ovP X n Y m) := fun h => by rw [← HV.out, h, Bool.true_and]
  have V0 : Hid (leS (X 0).key (Y M).key = false → false = ovP X n Y m) := fun h => by rw [← HV.out, h, Bool.false_and]
  clear HV
  cases hA : Op.bytesLess (X 0).key.toList (Y M).key.toList
  · cases hE : ((X 0).key.toList == (Y M).key.toList)
    · have HP : Hid (false = ovP X n Y m) := V0.out (by unfold leS; rw [hA, hE]; rfl)
      clear V0 V1
      go_enter Try.func24, Try.ntmps24
      go_wp2_with fail
      refine hc.mono ?_
      rintro e w1 ⟨rfl, hb1⟩
      go_wp2_with fail
      refine (hd _ hb1).mono ?_
      rintro e w2 ⟨rfl, hb2⟩
      have bw2 := hb1.trans (hb2.mono hb1.size)
      obtain ⟨k0, k1, k2, k3⟩ := hk.out _ bw2
      clear hb1 hb2 hc hd hk
      go_wp2
      go_quiet (fail)
      go_wp2
      exact bodyPost_ret (v := .tuple #[.bool false, .bool true]) (by simp [results, Try.results24, go_sem]) rfl (H.out _ _ HP.out (below_drewN bw2 _))
    · have HP := V1.out (by unfold leS; rw [hA, hE]; rfl)
      have HP : Hid (leS (Y 0).key (X N).key = ovP X n Y m) := HP
      clear V0 V1
      go_enter Try.func24, Try.ntmps24
      go_wp2_with fail
      refine hc.mono ?_
      rintro e w1 ⟨rfl, hb1⟩
      go_wp2_with fail
      refine (hd _ hb1).mono ?_
      rintro e w2 ⟨rfl, hb2⟩
      have bw2 := hb1.trans (hb2.mono hb1.size)
      obtain ⟨k0, k1, k2, k3⟩ := hk.out _ bw2
      clear hb1 hb2 hc hd hk
      go_wp2
      go_quiet (fail)
      go_wp2
      exact bodyPost_ret (v := .tuple #[.bool (leS (Y 0).key (X N).key), .bool true]) (by simp [results, Try.results24, go_sem, leS]) rfl (H.out _ _ HP.out (below_drewN bw2 _))
  · have HP := V1.out (by unfold leS; rw [hA]; rfl)
    have HP : Hid (leS (Y 0).key (X N).key = ovP X n Y m) := HP
    clear V0 V1
    go_enter Try.func24, Try.ntmps24
    go_wp2_with fail
    refine hc.mono ?_
    rintro e w1 ⟨rfl, hb1⟩
    go_wp2_with fail
    refine (hd _ hb1).mono ?_
    rintro e w2 ⟨rfl, hb2⟩
    have bw2 := hb1.trans (hb2.mono hb1.size)
    obtain ⟨k0, k1, k2, k3⟩ := hk.out _ bw2
    clear hb1 hb2 hc hd hk
    go_wp2
    go_quiet (fail)
    go_wp2
    exact bodyPost_ret (v := .tuple #[.bool (leS (Y 0).key (X N).key), .bool true]) (by simp [results, Try.results24, go_sem, leS]) rfl (H.out _ _ HP.out (below_drewN bw2 _))

set_option maxHeartbeats 4000000 in
theorem overlap_spec (ao bo : Option Addr) (n m ca cb : Nat) (X Y : Nat → Ent) (w : World) (hr : ERow w ao n X) (hs : ERow w bo m Y) (hn : n ≤ 1048576) (hm : m ≤ 1048576) (hz : ESize n X) (hy : ESize m Y) :
    Calls Try.prog 23 #[.slice ao n ca, .slice bo m cb] w fun e w' => OvO X n Y m w e w' := by
  by_cases hX : GoodL X n
  rotate_left
  · have H : Hid (∀ W, Below w.heap.size w W → OvO X n Y m w (.returned (.tuple #[.bool false, .bool false])) W) := fun W hb => ⟨false, false, rfl, by simp [hX], rfl, hb⟩
    have hc : Calls Try.prog 38 #[.slice ao n ca] w fun e w' => e = .returned (.bool false) ∧ Below w.heap.size w w' := (goodEntries_spec ao n ca X w hr hn hz).mono (by
      rintro e w' ⟨b, rfl, h, hb⟩
      cases b
      · exact ⟨rfl, hb⟩
      · exact absurd (h.1 rfl) hX)
    clear hX
    go_enter Try.func23, Try.ntmps23
    go_wp2_with fail
    refine hc.mono ?_
    rintro e w1 ⟨rfl, hb1⟩
    go_wp2
    exact bodyPost_ret (v := .tuple #[.bool false, .bool false]) (by simp [results, Try.results23, go_sem]) rfl (H.out _ hb1)
  by_cases hY : GoodL Y m
  rotate_left
  · have H : Hid (∀ W, Below w.heap.size w W → OvO X n Y m w (.returned (.tuple #[.bool false, .bool false])) W) := fun W hb => ⟨false, false, rfl, by simp [hY], rfl, hb⟩
    have hc : Calls Try.prog 38 #[.slice ao n ca] w fun e w' => e = .returned (.bool true) ∧ Below w.heap.size w w' := (goodEntries_spec ao n ca X w hr hn hz).mono (by
      rintro e w' ⟨b, rfl, h, hb⟩
      exact ⟨by rw [h.2 hX], hb⟩)
    have hd : ∀ W, Below w.heap.size w W → Calls Try.prog 38 #[.slice bo m cb] W fun e w' => e = .returned (.bool false) ∧ Below W.heap.size W w' := fun W hW => (goodEntries_spec bo m cb Y W (hs.keep hW) hm hy).mono (by
      rintro e w' ⟨b, rfl, h, hb⟩
      cases b
      · exact ⟨rfl, hb⟩
      · exact absurd (h.1 rfl) hY)
    clear hX hY
    go_enter Try.func23, Try.ntmps23
    go_wp2_with fail
    refine hc.mono ?_
    rintro e w1 ⟨rfl, hb1⟩
    go_wp2_with fail
    refine (hd _ hb1).mono ?_
    rintro e w2 ⟨rfl, hb2⟩
    have bw2 := hb1.trans (hb2.mono hb1.size)
    go_wp2
    exact bodyPost_ret (v := .tuple #[.bool false, .bool false]) (by simp [results, Try.results23, go_sem]) rfl (H.out _ bw2)
  have H : Hid (∀ p W, p = ovP X n Y m → Below w.heap.size w W → OvO X n Y m w (.returned (.tuple #[.bool p, .bool true])) W) := fun p W hp hb => ⟨p, true, rfl, by simp [hX, hY], by simp [hp], hb⟩
  have hc : Calls Try.prog 38 #[.slice ao n ca] w fun e w' => e = .returned (.bool true) ∧ Below w.heap.size w w' := (goodEntries_spec ao n ca X w hr hn hz).mono (by
    rintro e w' ⟨b, rfl, h, hb⟩
    exact ⟨by rw [h.2 hX], hb⟩)
  have hd : ∀ W, Below w.heap.size w W → Calls Try.prog 38 #[.slice bo m cb] W fun e w' => e = .returned (.bool true) ∧ Below W.heap.size W w' := fun W hW => (goodEntries_spec bo m cb Y W (hs.keep hW) hm hy).mono (by
    rintro e w' ⟨b, rfl, h, hb⟩
    exact ⟨by rw [h.2 hY], hb⟩)
  clear hX hY
  by_cases h0 : n = 0
  · have HP : Hid (false = ovP X n Y m) := by simp [Hid, ovP, h0]
    have hnd : ((n : Int) == 0) = true := by simp [h0]
    clear h0
    go_enter Try.func23, Try.ntmps23
    go_wp2_with fail
    refine hc.mono ?_
    rintro e w1 ⟨rfl, hb1⟩
    go_wp2_with fail
    refine (hd _ hb1).mono ?_
    rintro e w2 ⟨rfl, hb2⟩
    have bw2 := hb1.trans (hb2.mono hb1.size)
    go_wp2
    exact bodyPost_ret (v := .tuple #[.bool false, .bool true]) (by simp [results, Try.results23, go_sem]) rfl (H.out _ _ HP.out bw2)
  have hnd : ((n : Int) == 0) = false := by simp; omega
  by_cases h1 : m = 0
  · have HP : Hid (false = ovP X n Y m) := by simp [Hid, ovP, h1]
    have hmd : ((m : Int) == 0) = true := by simp [h1]
    clear h1 h0
    go_enter Try.func23, Try.ntmps23
    go_wp2_with fail
    refine hc.mono ?_
    rintro e w1 ⟨rfl, hb1⟩
    go_wp2_with fail
    refine (hd _ hb1).mono ?_
    rintro e w2 ⟨rfl, hb2⟩
    have bw2 := hb1.trans (hb2.mono hb1.size)
    go_wp2
    exact bodyPost_ret (v := .tuple #[.bool false, .bool true]) (by simp [results, Try.results23, go_sem]) rfl (H.out _ _ HP.out bw2)
  have hmd : ((m : Int) == 0) = false := by simp; omega
  obtain ⟨b, off, rfl, hblt, hlx⟩ := hr.lies.resolve_left h0
  obtain ⟨b', off', rfl, hblt', hly⟩ := hs.lies.resolve_left h1
  obtain ⟨N, hN⟩ : ∃ N, n = N + 1 := ⟨n - 1, by omega⟩
  obtain ⟨M, hM⟩ : ∃ M, m = M + 1 := ⟨m - 1, by omega⟩
  obtain ⟨_, _, x0, _⟩ := hlx 0 (by omega)
  obtain ⟨_, _, x1, _⟩ := hlx N (by omega)
  obtain ⟨_, _, y0, _⟩ := hly 0 (by omega)
  obtain ⟨_, _, y1, _⟩ := hly M (by omega)
  have HV : Hid ((leS (X 0).key (Y M).key && leS (Y 0).key (X N).key) = ovP X n Y m) := by
    unfold Hid ovP
    rw [show n - 1 = N by omega, show m - 1 = M by omega]
    have e1 : 0 < n := by omega
    have e2 : 0 < m := by omega
    simp [e1, e2]
  have wn : IntKind.i64.wrap ((n : Int) - 1) = (N : Int) := by rw [IntKind.wrap_i64]; omega
  have wm : IntKind.i64.wrap ((m : Int) - 1) = (M : Int) := by rw [IntKind.wrap_i64]; omega
  have l1 : 0 < n := by omega
  have l2 : 0 < m := by omega
  have l3 : N < n := by omega
  have l4 : M < m := by omega
  have i1 : (0 : Int) < (n : Int) := by omega
  have i2 : (0 : Int) < (m : Int) := by omega
  have x0c := x0.c0
  have y0c := y0.c0
  rw [Nat.zero_mul, Nat.add_zero] at x0c y0c
  have x1c := x1.c0
  have y1c := y1.c0
  have hk : Hid (∀ W, Below w.heap.size w W → W.cell? ⟨b, off, none⟩ = some (.string (X 0).key) ∧ W.cell? ⟨b, off + N * 9, none⟩ = some (.string (X N).key) ∧ W.cell? ⟨b', off', none⟩ = some (.string (Y 0).key) ∧ W.cell? ⟨b', off' + M * 9, none⟩ = some (.string (Y M).key)) := fun W hW =>
    ⟨(hW.cell (p := ⟨b, off, none⟩) hblt).trans x0c, (hW.cell (p := ⟨b, off + N * 9, none⟩) hblt).trans x1c, (hW.cell (p := ⟨b', off', none⟩) hblt').trans y0c, (hW.cell (p := ⟨b', off' + M * 9, none⟩) hblt').trans y1c⟩
  clear hlx hly x0 x1 y0 y1 x0c x1c y0c y1c hN hM h0 h1 hr hs hz hy
  have V1 : Hid (leS (X 0).key (Y M).key = true → leS (Y 0).key (X N).key = ovP X n Y m) := fun h => by rw [← HV.out, h, Bool.true_and]
  have V0 : Hid (leS (X 0).key (Y M).key = false → false = ovP X n Y m) := fun h => by rw [← HV.out, h, Bool.false_and]
  clear HV
  cases hA : Op.bytesLess (X 0).key.toList (Y M).key.toList
  · cases hE : ((X 0).key.toList == (Y M).key.toList)
    · have HP : Hid (false = ovP X n Y m) := V0.out (by unfold leS; rw [hA, hE]; rfl)
      clear V0 V1
      go_enter Try.func23, Try.ntmps23
      go_wp2_with fail
      refine hc.mono ?_
      rintro e w1 ⟨rfl, hb1⟩
      go_wp2_with fail
      refine (hd _ hb1).mono ?_
      rintro e w2 ⟨rfl, hb2⟩
      have bw2 := hb1.trans (hb2.mono hb1.size)
      obtain ⟨k0, k1, k2, k3⟩ := hk.out _ bw2
      clear hb1 hb2 hc hd hk
      go_wp2
      go_quiet (fail)
      go_wp2
      exact bodyPost_ret (v := .tuple #[.bool false, .bool true]) (by simp [results, Try.results23, go_sem]) rfl (H.out _ _ HP.out (below_drewN bw2 _))
    · have HP := V1.out (by unfold leS; rw [hA, hE]; rfl)
      have HP : Hid (leS (Y 0).key (X N).key = ovP X n Y m) := HP
      clear V0 V1
      go_enter Try.func23, Try.ntmps23
      go_wp2_with fail
      refine hc.mono ?_
      rintro e w1 ⟨rfl, hb1⟩
      go_wp2_with fail
      refine (hd _ hb1).mono ?_
      rintro e w2 ⟨rfl, hb2⟩
      have bw2 := hb1.trans (hb2.mono hb1.size)
      obtain ⟨k0, k1, k2, k3⟩ := hk.out _ bw2
      clear hb1 hb2 hc hd hk
      go_wp2
      go_quiet (fail)
      go_wp2
      exact bodyPost_ret (v := .tuple #[.bool (leS (Y 0).key (X N).key), .bool true]) (by simp [results, Try.results23, go_sem, leS]) rfl (H.out _ _ HP.out (below_drewN bw2 _))
  · have HP := V1.out (by unfold leS; rw [hA]; rfl)
    have HP : Hid (leS (Y 0).key (X N).key = ovP X n Y m) := HP
    clear V0 V1
    go_enter Try.func23, Try.ntmps23
    go_wp2_with fail
    refine hc.mono ?_
    rintro e w1 ⟨rfl, hb1⟩
    go_wp2_with fail
    refine (hd _ hb1).mono ?_
    rintro e w2 ⟨rfl, hb2⟩
    have bw2 := hb1.trans (hb2.mono hb1.size)
    obtain ⟨k0, k1, k2, k3⟩ := hk.out _ bw2
    clear hb1 hb2 hc hd hk
    go_wp2
    go_quiet (fail)
    go_wp2
    exact bodyPost_ret (v := .tuple #[.bool (leS (Y 0).key (X N).key), .bool true]) (by simp [results, Try.results23, go_sem, leS]) rfl (H.out _ _ HP.out (below_drewN bw2 _))

set_option maxHeartbeats 4000000 in
theorem overlap_law (ao : Option Addr) (n ca : Nat) (X : Nat → Ent) (bo : Option Addr) (m cb : Nat) (Y : Nat → Ent) (w : World) (hr : ERow w ao n X) (hs : ERow w bo m Y) (hnx : n ≤ 9223372036854775807) (hmx : m ≤ 9223372036854775807) :
    Calls Try.prog 6 #[.slice ao n ca, .slice bo m cb] w fun e w' => e = .returned (.bool true) ∧ Below w.heap.size w w' := by
  go_enter Try.func6, Try.ntmps6
  go_wp2_with fail
  refine (szEntryS_any ao n ca X 1048576 _ hr (by omega) hnx).mono ?_
  rintro e w1 ⟨v, rfl, hv1, hv2, hv3, bw1⟩
  by_cases hv : v < 0
  · clear hv3
    go_wp2
    go_ret
    exact ⟨rfl, bw1⟩
  obtain ⟨hn, hz⟩ := hv3 (by omega)
  clear hv3 hnx
  go_wp2_with fail
  refine (szEntryS_any bo m cb Y v _ (hs.keep bw1) (by omega) hmx).mono ?_
  rintro e w2 ⟨u, rfl, hu1, hu2, hu3, hb2⟩
  have bw2 := bw1.trans (hb2.mono bw1.size)
  clear hb2 bw1
  by_cases hu : u < 0
  · clear hu3
    go_wp2
    go_ret
    exact ⟨rfl, bw2⟩
  obtain ⟨hm, hy⟩ := hu3 (by omega)
  clear hu3 hmx
  go_wp2_with fail
  refine (toEntryS_any ao n ca X _ (hr.keep bw2) hn hz).mono ?_
  rintro e w3 ⟨G3, rfl, o3, hb3⟩
  have bw3 := bw2.trans (hb3.mono bw2.size)
  clear hb3
  go_wp2_with fail
  refine (toEntryS_any bo m cb Y _ (hs.keep bw3) hm hy).mono ?_
  rintro e w4 ⟨G4, rfl, o4, hb4⟩
  have bw4 := bw3.trans (hb4.mono bw3.size)
  have o34 := o3.keep hb4
  clear hb4 o3
  go_wp2_with fail
  refine (overlap_spec _ _ n m n m X Y _ (o34.row hr.bd) (o4.row hs.bd) hn hm hz hy).mono ?_
  rintro e w5 ⟨p, q, rfl, hq, hp, hb5⟩
  have H5 : Hid ((q = true ↔ GoodL X n ∧ GoodL Y m) ∧ p = (q && ovP X n Y m)) := ⟨hq, hp⟩
  have bw5 := bw4.trans (hb5.mono bw4.size)
  clear hb5 o34 o4 hq hp bw2 bw3 bw4
  go_wp2_with fail
  refine (toEntryS_any ao n ca X _ (hr.keep bw5) hn hz).mono ?_
  rintro e w6 ⟨G6, rfl, o6, hb6⟩
  have bw6 := bw5.trans (hb6.mono bw5.size)
  clear hb6
  go_wp2_with fail
  refine (toEntryS_any bo m cb Y _ (hs.keep bw6) hm hy).mono ?_
  rintro e w7 ⟨G7, rfl, o7, hb7⟩
  have bw7 := bw6.trans (hb7.mono bw6.size)
  have o67 := o6.keep hb7
  clear hb7 o6
  go_wp2_with fail
  refine (overlap_impl _ _ n m n m X Y _ (o67.row hr.bd) (o7.row hs.bd) hn hm hz hy).mono ?_
  rintro e w8 ⟨p', q', rfl, hq', hp', hb8⟩
  have hqq : q = q' := by
    have h1 := H5.out.1
    cases q <;> cases q' <;> simp_all
  have hpp : p = p' := by rw [H5.out.2, hp', hqq]
  subst hqq
  subst hpp
  have bw8 := bw7.trans (hb8.mono bw7.size)
  have o68 := o67.keep hb8
  have o78 := o7.keep hb8
  clear hb8 o67 o7 hq' hp' H5
  cases p <;> cases q
  all_goals
    go_wp2_with fail
    refine (toEntryS_any ao n ca X _ (hr.keep bw8) hn hz).mono ?_
    rintro e w9 ⟨G9, rfl, o9, hb9⟩
    have bw9 := bw8.trans (hb9.mono bw8.size)
    have o69 := o68.keep hb9
    have o79 := o78.keep hb9
    clear hb9
    go_wp2_with fail
    refine (eqEntryS_same _ _ n n n X _ (o69.row hr.bd) (o9.row hr.bd) hn hz).mono ?_
    rintro e w10 ⟨rfl, hb10⟩
    have bw10 := bw9.trans (hb10.mono bw9.size)
    have o710 := o79.keep hb10
    clear hb10
    go_wp2_with fail
    refine (toEntryS_any bo m cb Y _ (hs.keep bw10) hm hy).mono ?_
    rintro e w11 ⟨G11, rfl, o11, hb11⟩
    have bw11 := bw10.trans (hb11.mono bw10.size)
    have o711 := o710.keep hb11
    clear hb11
    go_wp2_with fail
    refine (eqEntryS_same _ _ m m m Y _ (o711.row hs.bd) (o11.row hs.bd) hm hy).mono ?_
    rintro e w12 ⟨rfl, hb12⟩
    have bw12 := bw11.trans (hb12.mono bw11.size)
    clear hb12
    go_wp2
    go_ret
    exact ⟨rfl, bw12⟩
end Go.Proofs.Ytfdbhkjmkpgomaa
