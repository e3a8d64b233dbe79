/- Told windows: where they lie, measured, copied, compared. (What one holds is told by a window's record, whose last field is not looked at.) -/
import Derived.Test.YtjdijikmdlklkaaWr
namespace Go.Proofs.Ytjdijikmdlklkaa
open Go.RowKit
set_option linter.unusedSimpArgs false
set_option linter.unusedVariables false

/-- A told one in the ten cells from off on. -/
structure ToAt (w : World) (b off : Nat) (x : Wn) (a0 a1 : Option Addr) (k0 k1 : Nat) : Prop where
  lt : b < w.heap.size
  c0 : w.cell? ⟨b, off, none⟩ = some (.string x.m)
  c1 : w.cell? ⟨b, off + 1, none⟩ = some (.slice a0 x.tn k0)
  c2 : w.cell? ⟨b, off + 2, none⟩ = some (.int .i64 x.st)
  c3 : w.cell? ⟨b, off + 3, none⟩ = some (.int .i64 x.ver)
  c4 : w.cell? ⟨b, off + 4, none⟩ = some (.int .i64 x.c)
  c5 : w.cell? ⟨b, off + 5, none⟩ = some (.int .i64 x.s)
  c6 : w.cell? ⟨b, off + 6, none⟩ = some (.int .i64 x.lo)
  c7 : w.cell? ⟨b, off + 7, none⟩ = some (.int .i64 x.hi)
  c8 : w.cell? ⟨b, off + 8, none⟩ = some (.slice a1 x.n k1)
  c9 : w.cell? ⟨b, off + 9, none⟩ = some (.bool x.fu)
section
variable {w w' : World} {b off k0 k1 : Nat} {x : Wn} {a0 a1 : Option Addr}
theorem ToAt.move (h : ToAt w b off x a0 a1 k0 k1) (lt : b < w'.heap.size) (k : ∀ j, w'.cell? ⟨b, j, none⟩ = w.cell? ⟨b, j, none⟩) : ToAt w' b off x a0 a1 k0 k1 :=
  ⟨lt, (k _).trans h.c0, (k _).trans h.c1, (k _).trans h.c2, (k _).trans h.c3, (k _).trans h.c4, (k _).trans h.c5, (k _).trans h.c6, (k _).trans h.c7, (k _).trans h.c8, (k _).trans h.c9⟩
theorem ToAt.keep (h : ToAt w b off x a0 a1 k0 k1) (hb : Below w.heap.size w w') : ToAt w' b off x a0 a1 k0 k1 :=
  h.move (Nat.lt_of_lt_of_le h.lt hb.size) fun j => hb.cell (p := ⟨b, j, none⟩) h.lt
theorem ToAt.others {d : Nat} (h : ToAt w b off x a0 a1 k0 k1) (ho : Others d w w') (hne : b ≠ d) : ToAt w' b off x a0 a1 k0 k1 :=
  h.move (by rw [ho.size]; exact h.lt) fun j => World.cell?_of_block (w := w) (a := ⟨b, j, none⟩) (ho.block b hne)
end
theorem ToAt.new (w : World) (x : Wn) (a0 a1 : Option Addr) (k0 k1 : Nat) (T : Nat) : ToAt (w.alloc (.cells #[.string x.m, .slice a0 x.tn k0, .int .i64 x.st, .int .i64 x.ver, .int .i64 x.c, .int .i64 x.s, .int .i64 x.lo, .int .i64 x.hi, .slice a1 x.n k1, .bool x.fu] T)) w.heap.size 0 x a0 a1 k0 k1 := by
  refine ⟨by simp, ?_, ?_, ?_, ?_, ?_, ?_, ?_, ?_, ?_, ?_⟩ <;> simp [go_sem]

/-- What its type says of a told window. -/
def TlB (x : Wn) : Prop := WiB x
/-- One that is no greater than what is measured. -/
def ToS (x : Wn) : Prop := WiS x

set_option maxHeartbeats 800000 in
theorem szTold_any (x : Wn) (a0 a1 : Option Addr) (c0 c1 : Nat) (left : Int) (w : World) (hr : TRow w a0 x.tn x.nm x.vl) (hi : IRow w a1 x.n x.f) (hl : 0 ≤ left ∧ left ≤ 1048576) (hE : TlB x) :
    Calls Try.prog 11 #[.agg #[.string x.m, .slice a0 x.tn c0, .int .i64 x.st, .int .i64 x.ver, .int .i64 x.c, .int .i64 x.s, .int .i64 x.lo, .int .i64 x.hi, .slice a1 x.n c1, .bool x.fu], .int .i64 left] w fun e w' => SzOut left (ToS x) w e w' := by
  have hB := below_new w (.cells #[.string x.m, .slice a0 x.tn c0, .int .i64 x.st, .int .i64 x.ver, .int .i64 x.c, .int .i64 x.s, .int .i64 x.lo, .int .i64 x.hi, .slice a1 x.n c1, .bool x.fu] 39)
  have A := ToAt.new w x a0 a1 c0 c1 39
  have hn := (show WiB x from hE).n
  go_enter Try.func11, Try.ntmps11
  go_wp2_with fail
  refine (szKey_any x.m x.st a0 x.tn c0 x.nm x.vl left _ (hr.keep hB) hl (show WiB x from hE).m (show WiB x from hE).tn (show WiB x from hE).ts).mono ?_
  rintro e w1 ⟨v, rfl, hv1, hv2, hv3, hb⟩
  have bw : Below w.heap.size w w1 := hB.trans (hb.mono (by simp))
  obtain ⟨_, d0, d1, d2, d3, d4, d5, d6, d7, d8, d9⟩ := A.keep hb
  clear hb A hB
  simp only [Nat.zero_add] at d1 d2 d3 d4 d5 d6 d7 d8 d9
  by_cases hv : v < 0
  · clear hv3
    go_wp2
    go_ret
    exact ⟨-1, rfl, by omega, by omega, fun h => by omega, bw⟩
  · have H : Hid (x.m.size ≤ 1048576 ∧ x.tn ≤ 1048576 ∧ TSize x.tn x.nm x.vl 1048576) := hv3 (by omega)
    clear hv3
    go_wp2_with fail
    refine (szAgg_left _ _ _ _ a1 _ c1 _ _ _ (by omega) hn).mono ?_
    rintro e w2 ⟨v2, rfl, hu1, hu2, hu3, hb2⟩
    have bw2 : Below w.heap.size w w2 := bw.trans (hb2.mono bw.size)
    clear hb2 bw
    by_cases hu : v2 < 0
    · clear hu3
      go_wp2
      go_ret
      exact ⟨-1, rfl, by omega, by omega, fun h => by omega, bw2⟩
    · have H2 : Hid (x.n ≤ 1048576) := hu3 (by omega)
      clear hu3
      go_wp2
      go_ret
      exact ⟨v2, rfl, by omega, by omega, fun _ => ⟨H.out.1, H.out.2.1, H.out.2.2, H2.out⟩, bw2⟩

set_option maxHeartbeats 3200000 in
theorem toTold_any (x : Wn) (a0 a1 : Option Addr) (c0 c1 : Nat) (w : World) (hr : TRow w a0 x.tn x.nm x.vl) (hi : IRow w a1 x.n x.f) (hS : ToS x) :
    Calls Try.prog 15 #[.agg #[.string x.m, .slice a0 x.tn c0, .int .i64 x.st, .int .i64 x.ver, .int .i64 x.c, .int .i64 x.s, .int .i64 x.lo, .int .i64 x.hi, .slice a1 x.n c1, .bool x.fu]] w
      fun e w' => ∃ g0 g1, e = .returned (.agg #[.string x.m, .slice (some ⟨g0, 0, none⟩) x.tn x.tn, .int .i64 x.st, .int .i64 x.ver, .int .i64 x.c, .int .i64 x.s, .int .i64 x.lo, .int .i64 x.hi, .slice (some ⟨g1, 0, none⟩) x.n x.n, .bool x.fu]) ∧ w.heap.size ≤ g0 ∧ g0 < g1 ∧ TOwn w' g0 x.tn x.tn x.nm x.vl ∧ IOwn w' g1 0 x.n x.f ∧ Below w.heap.size w w' := by
  go_enter Try.func15, Try.ntmps15
  go_wp2_with fail
  refine (toKey_any x.m x.st a0 x.tn c0 x.nm x.vl _ (hr.keep ?_) (show WiS x from hS).tn).mono ?_
  · exact (((Below.refl _ _).alloc (Nat.le_refl _) _).alloc (by simp) _).alloc (by simp; omega) _
  rintro e w1 ⟨g, rfl, hg, ho, hb⟩
  have bw : Below w.heap.size w w1 := ((((Below.refl _ _).alloc (Nat.le_refl _) _).alloc (by simp) _).alloc (by simp; omega) _).trans (hb.mono (by simp; omega))
  obtain ⟨hA, hB, hC, hf1, hf2, hsz⟩ := new3 w _ _ _ _ _ _ hb
  have A : ToAt w1 w.heap.size 0 x a0 a1 c0 c1 := by
    refine ⟨by omega, (hA _).trans ?_, (hA _).trans ?_, (hA _).trans ?_, (hA _).trans ?_, (hA _).trans ?_, (hA _).trans ?_, (hA _).trans ?_, (hA _).trans ?_, (hA _).trans ?_, (hA _).trans ?_⟩ <;> simp
  obtain ⟨_, d0, d1, d2, d3, d4, d5, d6, d7, d8, d9⟩ := A
  simp only [Nat.zero_add] at d1 d2 d3 d4 d5 d6 d7 d8 d9
  have b0 := hB 0
  have b1 := hB 1
  have b2 := hB 2
  have b3 := hB 3
  have b4 := hB 4
  have b5 := hB 5
  have b6 := hB 6
  have b7 := hB 7
  have b8 := hB 8
  have b9 := hB 9
  have k0 := hC 0
  have k1 := hC 1
  have k2 := hC 2
  have k3 := hC 3
  have k4 := hC 4
  have k5 := hC 5
  have k6 := hC 6
  have k7 := hC 7
  have k8 := hC 8
  have k9 := hC 9
  simp at b0 b1 b2 b3 b4 b5 b6 b7 b8 b9 k0 k1 k2 k3 k4 k5 k6 k7 k8 k9
  simp at hg
  have hglt := ho.lt
  clear hb hA hB hC
  go_wp2_with fail
  refine (toAgg_any x.c x.s x.lo x.hi a1 x.n c1 x.f x.fu _ (hi.keep ?_) (show WiS x from hS).n).mono ?_
  · repeat' refine Below.setCell ?_ (by first | (simp; done) | (simp; omega)) _
    exact bw
  rintro e w2 ⟨g2, rfl, hg2, ho2, hb2⟩
  have q0 := hb2.cell (p := ⟨w.heap.size, 0, none⟩) (by simp; try omega)
  have q1 := hb2.cell (p := ⟨w.heap.size, 1, none⟩) (by simp; try omega)
  have q2 := hb2.cell (p := ⟨w.heap.size, 2, none⟩) (by simp; try omega)
  have q3 := hb2.cell (p := ⟨w.heap.size, 3, none⟩) (by simp; try omega)
  have q4 := hb2.cell (p := ⟨w.heap.size, 4, none⟩) (by simp; try omega)
  have q5 := hb2.cell (p := ⟨w.heap.size, 5, none⟩) (by simp; try omega)
  have q6 := hb2.cell (p := ⟨w.heap.size, 6, none⟩) (by simp; try omega)
  have q7 := hb2.cell (p := ⟨w.heap.size, 7, none⟩) (by simp; try omega)
  have q8 := hb2.cell (p := ⟨w.heap.size, 8, none⟩) (by simp; try omega)
  have q9 := hb2.cell (p := ⟨w.heap.size, 9, none⟩) (by simp; try omega)
  have r0 := hb2.cell (p := ⟨w.heap.size + 1, 0, none⟩) (by simp; try omega)
  have r1 := hb2.cell (p := ⟨w.heap.size + 1, 1, none⟩) (by simp; try omega)
  have r2 := hb2.cell (p := ⟨w.heap.size + 1, 2, none⟩) (by simp; try omega)
  have r3 := hb2.cell (p := ⟨w.heap.size + 1, 3, none⟩) (by simp; try omega)
  have r4 := hb2.cell (p := ⟨w.heap.size + 1, 4, none⟩) (by simp; try omega)
  have r5 := hb2.cell (p := ⟨w.heap.size + 1, 5, none⟩) (by simp; try omega)
  have r6 := hb2.cell (p := ⟨w.heap.size + 1, 6, none⟩) (by simp; try omega)
  have r7 := hb2.cell (p := ⟨w.heap.size + 1, 7, none⟩) (by simp; try omega)
  have r8 := hb2.cell (p := ⟨w.heap.size + 1, 8, none⟩) (by simp; try omega)
  have r9 := hb2.cell (p := ⟨w.heap.size + 1, 9, none⟩) (by simp; try omega)
  have t0 := hb2.cell (p := ⟨w.heap.size + 1 + 1, 0, none⟩) (by simp; try omega)
  have t1 := hb2.cell (p := ⟨w.heap.size + 1 + 1, 1, none⟩) (by simp; try omega)
  have t2 := hb2.cell (p := ⟨w.heap.size + 1 + 1, 2, none⟩) (by simp; try omega)
  have t3 := hb2.cell (p := ⟨w.heap.size + 1 + 1, 3, none⟩) (by simp; try omega)
  have t4 := hb2.cell (p := ⟨w.heap.size + 1 + 1, 4, none⟩) (by simp; try omega)
  have t5 := hb2.cell (p := ⟨w.heap.size + 1 + 1, 5, none⟩) (by simp; try omega)
  have t6 := hb2.cell (p := ⟨w.heap.size + 1 + 1, 6, none⟩) (by simp; try omega)
  have t7 := hb2.cell (p := ⟨w.heap.size + 1 + 1, 7, none⟩) (by simp; try omega)
  have t8 := hb2.cell (p := ⟨w.heap.size + 1 + 1, 8, none⟩) (by simp; try omega)
  have t9 := hb2.cell (p := ⟨w.heap.size + 1 + 1, 9, none⟩) (by simp; try omega)
  have rf : ∀ j, w2.frozen? ⟨w.heap.size + 1, j, none⟩ = false := fun j => (hb2.frozen (p := ⟨w.heap.size + 1, j, none⟩) (by simp; try omega)).trans (by simp [go_sem, hf1])
  have tf : ∀ j, w2.frozen? ⟨w.heap.size + 1 + 1, j, none⟩ = false := fun j => (hb2.frozen (p := ⟨w.heap.size + 1 + 1, j, none⟩) (by simp; try omega)).trans (by simp [go_sem, hf2])
  simp [go_sem, d0, d1, d2, d3, d4, d5, d6, d7, d8, d9, b0, b1, b2, b3, b4, b5, b6, b7, b8, b9, k0, k1, k2, k3, k4, k5, k6, k7, k8, k9] at q0 q1 q2 q3 q4 q5 q6 q7 q8 q9 r0 r1 r2 r3 r4 r5 r6 r7 r8 r9 t0 t1 t2 t3 t4 t5 t6 t7 t8 t9
  have bw2 : Below w.heap.size w w2 := by
    refine Below.trans ?_ (hb2.mono (by simp; omega))
    repeat' refine Below.setCell ?_ (by first | (simp; done) | (simp; omega)) _
    exact bw
  have ho1 : TOwn w2 g x.tn x.tn x.nm x.vl := by
    refine TOwn.keep ?_ hb2
    repeat' refine TOwn.others ?_ (Others.setCell _ _ _ _) (by omega)
    exact ho
  have hs2 := hb2.size
  simp at hs2 hg2
  clear hb2 ho d0 d1 d2 d3 d4 d5 d6 d7 d8 d9 b0 b1 b2 b3 b4 b5 b6 b7 b8 b9 k0 k1 k2 k3 k4 k5 k6 k7 k8 k9 hf1 hf2
  go_wp2
  refine bodyPost_ret (v := .agg #[.string x.m, .slice (some ⟨g, 0, none⟩) x.tn x.tn, .int .i64 x.st, .int .i64 x.ver, .int .i64 x.c, .int .i64 x.s, .int .i64 x.lo, .int .i64 x.hi, .slice (some ⟨g2, 0, none⟩) x.n x.n, .bool x.fu]) (by simp [results, Try.results15, go_sem, r0, r1, r2, r3, r4, r5, r6, r7, r8, r9]) rfl ⟨g, g2, rfl, by omega, by omega, ?_, ?_, ?_⟩
  · repeat' refine TOwn.others ?_ (Others.setCell _ _ _ _) (by omega)
    exact ho1
  · repeat' refine (Others.setCell _ _ _ _).irow ?_ (by omega)
    exact ho2
  · repeat' refine Below.setCell ?_ (by first | (simp; done) | (simp; omega)) _
    exact bw2

set_option maxHeartbeats 1600000 in
theorem eqTold_same (x : Wn) (a0 a1 e0 e1 : Option Addr) (c0 c1 h0 h1 : Nat) (w : World) (r0 : TRow w a0 x.tn x.nm x.vl) (r1 : IRow w a1 x.n x.f) (s0 : TRow w e0 x.tn x.nm x.vl) (s1 : IRow w e1 x.n x.f) (hS : ToS x) :
    Calls Try.prog 22 #[.agg #[.string x.m, .slice a0 x.tn c0, .int .i64 x.st, .int .i64 x.ver, .int .i64 x.c, .int .i64 x.s, .int .i64 x.lo, .int .i64 x.hi, .slice a1 x.n c1, .bool x.fu], .agg #[.string x.m, .slice e0 x.tn h0, .int .i64 x.st, .int .i64 x.ver, .int .i64 x.c, .int .i64 x.s, .int .i64 x.lo, .int .i64 x.hi, .slice e1 x.n h1, .bool x.fu]] w fun e w' => e = .returned (.bool true) ∧ Below w.heap.size w w' := by
  have hB : Below w.heap.size w ((w.alloc (.cells #[.string x.m, .slice a0 x.tn c0, .int .i64 x.st, .int .i64 x.ver, .int .i64 x.c, .int .i64 x.s, .int .i64 x.lo, .int .i64 x.hi, .slice a1 x.n c1, .bool x.fu] 45)).alloc (.cells #[.string x.m, .slice e0 x.tn h0, .int .i64 x.st, .int .i64 x.ver, .int .i64 x.c, .int .i64 x.s, .int .i64 x.lo, .int .i64 x.hi, .slice e1 x.n h1, .bool x.fu] 45)) := (below_new w _).alloc (by simp) _
  have A := (ToAt.new w x a0 a1 c0 c1 45).keep (below_new _ (.cells #[.string x.m, .slice e0 x.tn h0, .int .i64 x.st, .int .i64 x.ver, .int .i64 x.c, .int .i64 x.s, .int .i64 x.lo, .int .i64 x.hi, .slice e1 x.n h1, .bool x.fu] 45))
  have B := ToAt.new (w.alloc (.cells #[.string x.m, .slice a0 x.tn c0, .int .i64 x.st, .int .i64 x.ver, .int .i64 x.c, .int .i64 x.s, .int .i64 x.lo, .int .i64 x.hi, .slice a1 x.n c1, .bool x.fu] 45)) x e0 e1 h0 h1 45
  rw [World.size_alloc] at B
  go_enter Try.func22, Try.ntmps22
  go_wp2_with fail
  refine (eqKey_same x.m x.st a0 e0 x.tn c0 h0 x.nm x.vl _ (r0.keep hB) (s0.keep hB) (show WiS x from hS).tn).mono ?_
  rintro e w1 ⟨rfl, hb⟩
  have bw : Below w.heap.size w w1 := hB.trans (hb.mono (by simp; omega))
  have A1 := A.keep hb
  have B1 := B.keep hb
  clear hb hB A B
  obtain ⟨_, d0, d1, d2, d3, d4, d5, d6, d7, d8, d9⟩ := id A1
  obtain ⟨_, t0, t1, t2, t3, t4, t5, t6, t7, t8, t9⟩ := id B1
  simp only [Nat.zero_add] at d1 d2 d3 d4 d5 d6 d7 d8 d9 t1 t2 t3 t4 t5 t6 t7 t8 t9
  go_wp2_with fail
  refine (eqAgg_same _ _ _ _ a1 e1 _ c1 h1 x.f _ _ (r1.keep bw) (s1.keep bw) (show WiS x from hS).n).mono ?_
  rintro e w2 ⟨rfl, hb⟩
  have bw2 : Below w.heap.size w w2 := bw.trans (hb.mono bw.size)
  have A2 := A1.keep hb
  have B2 := B1.keep hb
  clear hb A1 B1 d0 d1 d2 d3 d4 d5 d6 d7 d8 d9 t0 t1 t2 t3 t4 t5 t6 t7 t8 t9
  obtain ⟨_, d0, d1, d2, d3, d4, d5, d6, d7, d8, d9⟩ := A2
  obtain ⟨_, t0, t1, t2, t3, t4, t5, t6, t7, t8, t9⟩ := B2
  simp only [Nat.zero_add] at d1 d2 d3 d4 d5 d6 d7 d8 d9 t1 t2 t3 t4 t5 t6 t7 t8 t9
  go_wp2
  go_ret
  exact ⟨rfl, bw2⟩
end Go.Proofs.Ytjdijikmdlklkaa
