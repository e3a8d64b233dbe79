/- A window marked, and looked for. -/
import Derived.Test.YtflmbcgokiiedaaWf
namespace Go.Proofs.Ytflmbcgokiiedaa
open Go.RowKit
set_option linter.unusedSimpArgs false
set_option linter.unusedVariables false

theorem markKey_any (m : ByteArray) (st : Int) (g n cap : Nat) (w : World) (nm vl : Nat → ByteArray) (ho : TOwn w g n n nm vl) (hn : n ≤ 1048576) :
    Calls Try.prog 27 #[.agg #[.string m, .slice (some ⟨g, 0, none⟩) n cap, .int .i64 st], .int .i64 1] w fun e w' => e = .returned (.int .i64 (1 + 2 * (n : Int))) ∧ TOwn w' g n n (mtN 1) (mtV 1) ∧ Thru g w w' := by
  have bn := (Below.refl w.heap.size w).alloc (Nat.le_refl _) (.cells #[.string m, .slice (some ⟨g, 0, none⟩) n cap, .int .i64 st] 49)
  go_enter Try.func27, Try.ntmps27
  go_wp2_with fail
  refine (markTagS_any g n cap 1 _ nm vl (ho.keep bn) hn (by omega) (by omega)).mono ?_
  rintro e w1 ⟨rfl, o1, t1⟩
  go_wp2
  go_ret
  exact ⟨rfl, o1, (Thru.of_below bn).trans t1⟩
theorem markKey_none (m : ByteArray) (st : Int) (ao : Option Addr) (cap : Nat) (w : World) :
    Calls Try.prog 27 #[.agg #[.string m, .slice ao 0 cap, .int .i64 st], .int .i64 1] w fun e w' => e = .returned (.int .i64 1) ∧ Below w.heap.size w w' := by
  have bn := (Below.refl w.heap.size w).alloc (Nat.le_refl _) (.cells #[.string m, .slice ao 0 cap, .int .i64 st] 49)
  go_enter Try.func27, Try.ntmps27
  go_wp2_with fail
  refine (markT_zero ao cap 1 _).mono ?_
  rintro e w1 ⟨rfl, h1⟩
  subst h1
  go_wp2
  go_ret
  exact ⟨rfl, bn⟩
theorem heldKey_yes (m : ByteArray) (st : Int) (ao : Option Addr) (n cap : Nat) (w : World) (hr : TRow w ao n (mtN 1) (mtV 1)) (hn : n ≤ 1048576) :
    Calls Try.prog 60 #[.agg #[.string m, .slice ao n cap, .int .i64 st], .int .i64 1] w fun e w' => e = .returned (.int .i64 (1 + 2 * (n : Int))) ∧ Below w.heap.size w w' := by
  have bn := (Below.refl w.heap.size w).alloc (Nat.le_refl _) (.cells #[.string m, .slice ao n cap, .int .i64 st] 49)
  have hd : decide (1 + 2 * (n : Int) < 0) = false := by simp; omega
  go_enter Try.func60, Try.ntmps60
  go_wp2_with fail
  refine (heldTagS_yes ao n cap 1 _ (hr.keep bn) hn (by omega) (by omega)).mono ?_
  rintro e w1 ⟨rfl, q1⟩
  go_wp2
  go_ret
  exact ⟨rfl, bn.trans (q1.mono (by simp))⟩

theorem markAgg_from (x : Wn) (g c1 k0 : Nat) (w : World) (ho : IOwn w g 0 x.n x.f) (hn : x.n ≤ 1048576) (hk : k0 ≤ 8796093022208) :
    Calls Try.prog 59 #[.agg #[.int .i64 x.c, .int .i64 x.s, .int .i64 x.lo, .int .i64 x.hi, .slice (some ⟨g, 0, none⟩) x.n c1, .bool x.fu], .int .i64 k0] w fun e w' => e = .returned (.int .i64 ((k0 + x.n : Nat) : Int)) ∧ (∃ fy, IOwn w' g 0 x.n fy ∧ ∀ i, i < x.n → fy i = ((k0 + i : Nat) : Int)) ∧ Thru g w w' := by
  have bn := (Below.refl w.heap.size w).alloc (Nat.le_refl _) (.cells #[.int .i64 x.c, .int .i64 x.s, .int .i64 x.lo, .int .i64 x.hi, .slice (some ⟨g, 0, none⟩) x.n c1, .bool x.fu] 52)
  go_enter Try.func59, Try.ntmps59
  go_wp2_with fail
  refine (markI_any g 0 x.n c1 x.f k0 _ (ho.keep bn) hn hk).mono ?_
  rintro e w1 ⟨rfl, o1, t1⟩
  go_wp2
  refine bodyPost_ret (v := .int .i64 ((k0 + x.n : Nat) : Int)) (by simp [results, Try.results59, go_sem]) rfl ⟨rfl, o1, (Thru.of_below bn).trans (Thru.of_others t1)⟩
theorem markAgg_none (x : Wn) (a1 : Option Addr) (c1 : Nat) (k : Int) (w : World) (h0 : x.n = 0) :
    Calls Try.prog 59 #[.agg #[.int .i64 x.c, .int .i64 x.s, .int .i64 x.lo, .int .i64 x.hi, .slice a1 x.n c1, .bool x.fu], .int .i64 k] w fun e w' => e = .returned (.int .i64 k) ∧ Below w.heap.size w w' := by
  rw [h0]
  have bn := (Below.refl w.heap.size w).alloc (Nat.le_refl _) (.cells #[.int .i64 x.c, .int .i64 x.s, .int .i64 x.lo, .int .i64 x.hi, .slice a1 0 c1, .bool x.fu] 52)
  go_enter Try.func59, Try.ntmps59
  go_wp2_with fail
  refine (markI_zero a1 c1 k _).mono ?_
  rintro e w1 ⟨rfl, rfl⟩
  go_wp2
  exact bodyPost_ret (v := .int .i64 k) (by simp [results, Try.results59, go_sem]) rfl ⟨rfl, bn⟩
theorem heldAgg_from (x : Wn) (a1 : Option Addr) (c1 k0 : Nat) (f : Nat → Int) (w : World) (hr : IRow w a1 x.n f) (hf : ∀ i, i < x.n → f i = (k0 : Int) + i) (hn : x.n ≤ 1048576) (hk : k0 ≤ 8796093022208) :
    Calls Try.prog 61 #[.agg #[.int .i64 x.c, .int .i64 x.s, .int .i64 x.lo, .int .i64 x.hi, .slice a1 x.n c1, .bool x.fu], .int .i64 k0] w fun e w' => e = .returned (.int .i64 ((k0 : Int) + x.n)) ∧ Below w.heap.size w w' := by
  have bn := (Below.refl w.heap.size w).alloc (Nat.le_refl _) (.cells #[.int .i64 x.c, .int .i64 x.s, .int .i64 x.lo, .int .i64 x.hi, .slice a1 x.n c1, .bool x.fu] 52)
  have hd : decide ((k0 : Int) + (x.n : Int) < 0) = false := decide_eq_false (by omega)
  have HF : Hid (∀ i, i < x.n → f i = (k0 : Int) + i) := hf
  clear hf
  go_enter Try.func61, Try.ntmps61
  go_wp2_with fail
  refine (heldI_from a1 x.n c1 k0 f _ (hr.keep bn) HF.out hn (by omega)).mono ?_
  rintro e w1 ⟨rfl, q1⟩
  go_wp2
  exact bodyPost_ret (v := .int .i64 ((k0 : Int) + x.n)) (by simp [results, Try.results61, go_sem]) rfl ⟨rfl, bn.trans (q1.mono (by simp))⟩

theorem WA.markT {w : World} {base top : Nat} {x : Wn} {a0 a1 : Option Addr} (hA : WA w base top x a0 a1) (c0 : Nat) (hn : x.tn ≤ 1048576) :
    Calls Try.prog 27 #[.agg #[.string x.m, .slice a0 x.tn c0, .int .i64 x.st], .int .i64 1] w fun e w' => e = .returned (.int .i64 (1 + 2 * (x.tn : Int))) ∧ WA w' base top (x.wl_T (mtN 1) (mtV 1)) a0 a1 ∧ Rng base top w w' := by
  by_cases hp : 0 < x.tn
  · obtain ⟨g, rfl, h1, h2, h3, h4⟩ := hA.l0 hp
    refine (markKey_any x.m x.st g x.tn c0 w x.nm x.vl h3 hn).mono ?_
    rintro e w' ⟨rfl, o, t⟩
    refine ⟨rfl, ⟨Nat.le_trans hA.tp t.size, fun _ => ⟨g, rfl, h1, h2, o, h4⟩, fun hp1 => ?_⟩, t.rng h1 h2⟩
    obtain ⟨g', e', k1, k2, k3⟩ := hA.l1 hp1
    exact ⟨g', e', k1, k2, k3.blk (t.block g' (by have := hA.tp; omega) (Ne.symm (h4 g' hp1 e'))) t.size⟩
  · have h0 : x.tn = 0 := by omega
    rw [h0]
    refine (markKey_none x.m x.st a0 c0 w).mono ?_
    rintro e w' ⟨rfl, hb⟩
    refine ⟨by simp, ⟨Nat.le_trans hA.tp hb.size, fun h => absurd h hp, fun hp1 => ?_⟩, Rng.of_below hb⟩
    obtain ⟨g', e', k1, k2, k3⟩ := hA.l1 hp1
    exact ⟨g', e', k1, k2, k3.keep hb⟩
theorem WA.markN {w : World} {base top : Nat} {x : Wn} {a0 a1 : Option Addr} (hA : WA w base top x a0 a1) (c1 k0 : Nat) (hn : x.n ≤ 1048576) (hk : k0 ≤ 8796093022208) :
    Calls Try.prog 59 #[.agg #[.int .i64 x.c, .int .i64 x.s, .int .i64 x.lo, .int .i64 x.hi, .slice a1 x.n c1, .bool x.fu], .int .i64 k0] w fun e w' => e = .returned (.int .i64 ((k0 : Int) + (x.n : Int))) ∧ (∃ fy, WA w' base top (x.wl_N fy) a0 a1 ∧ ∀ i, i < x.n → fy i = (k0 : Int) + i) ∧ Rng base top w w' := by
  by_cases hp : 0 < x.n
  · obtain ⟨g, rfl, h1, h2, h3⟩ := hA.l1 hp
    refine (markAgg_from x g c1 k0 w h3 hn hk).mono ?_
    rintro e w' ⟨rfl, ⟨fy, o, hy⟩, t⟩
    refine ⟨by simp, ⟨fy, ⟨Nat.le_trans hA.tp t.size, fun hp0 => ?_, fun _ => ⟨g, rfl, h1, h2, o⟩⟩, fun i hi => by rw [hy i hi]; simp⟩, t.rng h1 h2⟩
    obtain ⟨g', e', k1, k2, k3, k4⟩ := hA.l0 hp0
    exact ⟨g', e', k1, k2, k3.blk (t.block g' (by have := hA.tp; omega) (k4 g hp rfl)) t.size, k4⟩
  · have h0 : x.n = 0 := by omega
    refine (markAgg_none x a1 c1 k0 w h0).mono ?_
    rintro e w' ⟨rfl, hb⟩
    refine ⟨by rw [h0]; simp, ⟨x.f, (by have := hA.keep hb; exact ⟨this.tp, this.l0, this.l1⟩), fun i hi => by omega⟩, Rng.of_below hb⟩
/-- A window with its marks. -/
def WMk (w : World) (base top : Nat) (x : Wn) (a0 a1 : Option Addr) : Prop := ∃ fy, WA w base top ((x.wl_T (mtN 1) (mtV 1)).wl_N fy) a0 a1 ∧ ∀ i, i < x.n → fy i = (1 + 2 * (x.tn : Int)) + i

set_option maxHeartbeats 1600000 in
theorem markWin_any {w : World} {base top : Nat} {x : Wn} {a0 a1 : Option Addr} (hA : WA w base top x a0 a1) (c0 c1 : Nat) (hn : x.tn ≤ 1048576) (hn1 : x.n ≤ 1048576) :
    Calls Try.prog 28 #[.agg #[.string x.m, .slice a0 x.tn c0, .int .i64 x.st, .int .i64 x.c, .int .i64 x.s, .int .i64 x.lo, .int .i64 x.hi, .slice a1 x.n c1, .bool x.fu, .int .i64 x.ver, .bool x.di], .int .i64 1] w fun e w' => e = .returned (.int .i64 (1 + 2 * (x.tn : Int) + (x.n : Int))) ∧ WMk w' base top x a0 a1 ∧ Rng base top w w' := by
  have hB := below_new w (.cells #[.string x.m, .slice a0 x.tn c0, .int .i64 x.st, .int .i64 x.c, .int .i64 x.s, .int .i64 x.lo, .int .i64 x.hi, .slice a1 x.n c1, .bool x.fu, .int .i64 x.ver, .bool x.di] 54)
  have AW := WiAt.new w x a0 a1 c0 c1 54
  have htp := hA.tp
  go_enter Try.func28, Try.ntmps28
  go_wp2_with fail
  refine ((hA.keep hB).markT c0 hn).mono ?_
  rintro e w1 ⟨rfl, A1, R1⟩
  obtain ⟨_, d0, d1, d2, d3, d4, d5, d6, d7, d8, d9, d10⟩ := AW.move (w' := w1) (Nat.lt_of_lt_of_le AW.lt R1.size) (fun j => World.cell?_of_block (a := ⟨w.heap.size, j, none⟩) (R1.block w.heap.size (by simp) (Or.inr htp)))
  simp only [Nat.zero_add] at d1 d2 d3 d4 d5 d6 d7 d8 d9 d10
  have hk : (1 : Int) + 2 * (x.tn : Int) = ((1 + 2 * x.tn : Nat) : Int) := by omega
  have hc := A1.markN c1 (1 + 2 * x.tn) hn1 (by omega)
  rw [← hk] at hc
  have HC := hc
  clear hk
  go_wp2_with fail
  refine HC.mono ?_
  rintro e w2 ⟨rfl, ⟨fy, A2, hy⟩, R2⟩
  have HY : Hid (WMk w2 base top x a0 a1) := ⟨fy, A2, hy⟩
  have RR := ((Rng.of_below hB).trans R1).trans R2
  clear hc HC hy A2 A1 R1 R2
  go_wp2
  exact bodyPost_ret (v := .int .i64 (1 + 2 * (x.tn : Int) + (x.n : Int))) (by simp [results, Try.results28, go_sem]; rfl) rfl ⟨rfl, HY.out, RR⟩
theorem WMk.keep {w w' : World} {base top : Nat} {x : Wn} {a0 a1 : Option Addr} (h : WMk w base top x a0 a1) (hb : Below w.heap.size w w') : WMk w' base top x a0 a1 := by
  obtain ⟨fy, h1, h2⟩ := h
  exact ⟨fy, h1.keep hb, h2⟩
theorem WMk.rows {w : World} {base top : Nat} {x : Wn} {a0 a1 : Option Addr} (h : WMk w base top x a0 a1) : TRow w a0 x.tn (mtN 1) (mtV 1) ∧ ∃ fy, (0 < x.n → IRow w a1 x.n fy) ∧ ∀ i, i < x.n → fy i = (1 + 2 * (x.tn : Int)) + i := by
  obtain ⟨fy, h1, h2⟩ := h
  refine ⟨?_, fy, fun hp => ?_, h2⟩
  · by_cases hp : 0 < x.tn
    · obtain ⟨g, e, _, _, o, _⟩ := h1.l0 hp
      rw [e]; exact TOwn.row o
    · exact ⟨.inl (by omega)⟩
  · obtain ⟨g, e, _, _, o⟩ := h1.l1 hp
    rw [e]; exact IOwn.row o

set_option maxHeartbeats 1600000 in
theorem heldWin_yes {w : World} {base top : Nat} {x : Wn} {a0 a1 : Option Addr} (hM : WMk w base top x a0 a1) (c0 c1 : Nat) (hn : x.tn ≤ 1048576) (hn1 : x.n ≤ 1048576) :
    Calls Try.prog 29 #[.agg #[.string x.m, .slice a0 x.tn c0, .int .i64 x.st, .int .i64 x.c, .int .i64 x.s, .int .i64 x.lo, .int .i64 x.hi, .slice a1 x.n c1, .bool x.fu, .int .i64 x.ver, .bool x.di], .int .i64 1] w fun e w' => e = .returned (.int .i64 (1 + 2 * (x.tn : Int) + (x.n : Int))) ∧ Below w.heap.size w w' := by
  have hB := below_new w (.cells #[.string x.m, .slice a0 x.tn c0, .int .i64 x.st, .int .i64 x.c, .int .i64 x.s, .int .i64 x.lo, .int .i64 x.hi, .slice a1 x.n c1, .bool x.fu, .int .i64 x.ver, .bool x.di] 54)
  have AW := WiAt.new w x a0 a1 c0 c1 54
  have r0 := (hM.keep hB).rows.1
  go_enter Try.func29, Try.ntmps29
  go_wp2_with fail
  refine (heldKey_yes x.m x.st a0 x.tn c0 _ r0 hn).mono ?_
  rintro e w1 ⟨rfl, q1⟩
  obtain ⟨_, d0, d1, d2, d3, d4, d5, d6, d7, d8, d9, d10⟩ := AW.keep q1
  simp only [Nat.zero_add] at d1 d2 d3 d4 d5 d6 d7 d8 d9 d10
  obtain ⟨_, fy, rI, hy⟩ := ((hM.keep hB).keep q1).rows
  have hr1 : ∃ f, IRow w1 a1 x.n f ∧ ∀ i, i < x.n → f i = ((1 + 2 * x.tn : Nat) : Int) + i := by
    by_cases hp : 0 < x.n
    · exact ⟨fy, rI hp, fun i hi => by rw [hy i hi]; omega⟩
    · exact ⟨fun _ => 0, ⟨fun i => by omega, .inl (by omega)⟩, fun i hi => by omega⟩
  obtain ⟨f, rf, hf⟩ := hr1
  have hk : (1 : Int) + 2 * (x.tn : Int) = ((1 + 2 * x.tn : Nat) : Int) := by omega
  have hc := heldAgg_from x a1 c1 (1 + 2 * x.tn) f w1 rf hf hn1 (by omega)
  rw [← hk] at hc
  have HC : Hid (Calls Try.prog 61 #[.agg #[.int .i64 x.c, .int .i64 x.s, .int .i64 x.lo, .int .i64 x.hi, .slice a1 x.n c1, .bool x.fu], .int .i64 (1 + 2 * (x.tn : Int))] w1 fun e w' => e = .returned (.int .i64 (1 + 2 * (x.tn : Int) + x.n)) ∧ Below w1.heap.size w1 w') := hc
  have b1 := hB.trans (q1.mono hB.size)
  have hd1 : decide (1 + 2 * (x.tn : Int) < 0) = false := decide_eq_false (by omega)
  have hd2 : decide (1 + 2 * (x.tn : Int) + (x.n : Int) < 0) = false := decide_eq_false (by omega)
  clear hc hk hf rf rI hy q1 r0 hM hB
  go_wp2_with fail
  refine HC.out.mono ?_
  rintro e w2 ⟨rfl, q2⟩
  have b2 := b1.trans (q2.mono b1.size)
  clear HC q2
  go_wp2
  exact bodyPost_ret (v := .int .i64 (1 + 2 * (x.tn : Int) + (x.n : Int))) (by simp [results, Try.results29, go_sem]) rfl ⟨rfl, b2⟩
end Go.Proofs.Ytflmbcgokiiedaa
