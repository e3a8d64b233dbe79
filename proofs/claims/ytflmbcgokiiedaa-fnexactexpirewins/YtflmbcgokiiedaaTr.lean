/- Told windows: where they lie, measured, copied, compared. (What one holds is told by a window's record, whose last field is not looked at.) / Rows of told windows: measured, copied, compared. -/
import Derived.Test.YtflmbcgokiiedaaWr
import Derived.Laws.IdiomCopy
import Derived.Deep.RegionHeld3
namespace Go.Proofs.Ytflmbcgokiiedaa
open Go.RowKit
set_option linter.unusedSimpArgs false
set_option linter.unusedVariables false

/-- A told one in the ten cells from off on. -/
structure ToAt (w : World) (b off : Nat) (x : Wn) (a0 a1 : Option Addr) (k0 k1 : Nat) : Prop where
  lt : b < w.heap.size
  c0 : w.cell? ⟨b, off, none⟩ = some (.string x.m)
  c1 : w.cell? ⟨b, off + 1, none⟩ = some (.slice a0 x.tn k0)
  c2 : w.cell? ⟨b, off + 2, none⟩ = some (.int .i64 x.st)
  c3 : w.cell? ⟨b, off + 3, none⟩ = some (.int .i64 x.ver)
  c4 : w.cell? ⟨b, off + 4, none⟩ = some (.int .i64 x.c)
  c5 : w.cell? ⟨b, off + 5, none⟩ = some (.int .i64 x.s)
  c6 : w.cell? ⟨b, off + 6, none⟩ = some (.int .i64 x.lo)
  c7 : w.cell? ⟨b, off + 7, none⟩ = some (.int .i64 x.hi)
  c8 : w.cell? ⟨b, off + 8, none⟩ = some (.slice a1 x.n k1)
  c9 : w.cell? ⟨b, off + 9, none⟩ = some (.bool x.fu)
section
variable {w w' : World} {b off k0 k1 : Nat} {x : Wn} {a0 a1 : Option Addr}
theorem ToAt.move (h : ToAt w b off x a0 a1 k0 k1) (lt : b < w'.heap.size) (k : ∀ j, w'.cell? ⟨b, j, none⟩ = w.cell? ⟨b, j, none⟩) : ToAt w' b off x a0 a1 k0 k1 :=
  ⟨lt, (k _).trans h.c0, (k _).trans h.c1, (k _).trans h.c2, (k _).trans h.c3, (k _).trans h.c4, (k _).trans h.c5, (k _).trans h.c6, (k _).trans h.c7, (k _).trans h.c8, (k _).trans h.c9⟩
theorem ToAt.keep (h : ToAt w b off x a0 a1 k0 k1) (hb : Below w.heap.size w w') : ToAt w' b off x a0 a1 k0 k1 :=
  h.move (Nat.lt_of_lt_of_le h.lt hb.size) fun j => hb.cell (p := ⟨b, j, none⟩) h.lt
theorem ToAt.others {d : Nat} (h : ToAt w b off x a0 a1 k0 k1) (ho : Others d w w') (hne : b ≠ d) : ToAt w' b off x a0 a1 k0 k1 :=
  h.move (by rw [ho.size]; exact h.lt) fun j => World.cell?_of_block (w := w) (a := ⟨b, j, none⟩) (ho.block b hne)
end
theorem ToAt.new (w : World) (x : Wn) (a0 a1 : Option Addr) (k0 k1 : Nat) (T : Nat) : ToAt (w.alloc (.cells #[.string x.m, .slice a0 x.tn k0, .int .i64 x.st, .int .i64 x.ver, .int .i64 x.c, .int .i64 x.s, .int .i64 x.lo, .int .i64 x.hi, .slice a1 x.n k1, .bool x.fu] T)) w.heap.size 0 x a0 a1 k0 k1 := by
  refine ⟨by simp, ?_, ?_, ?_, ?_, ?_, ?_, ?_, ?_, ?_, ?_⟩ <;> simp [go_sem]

/-- What its type says of a told window. -/
def TlB (x : Wn) : Prop := WiB x
/-- One that is no greater than what is measured. -/
def ToS (x : Wn) : Prop := WiS x

set_option maxHeartbeats 1600000 in
theorem eqTold_same (x : Wn) (a0 a1 e0 e1 : Option Addr) (c0 c1 h0 h1 : Nat) (w : World) (r0 : TRow w a0 x.tn x.nm x.vl) (r1 : IRow w a1 x.n x.f) (s0 : TRow w e0 x.tn x.nm x.vl) (s1 : IRow w e1 x.n x.f) (hS : ToS x) :
    Calls Try.prog 42 #[.agg #[.string x.m, .slice a0 x.tn c0, .int .i64 x.st, .int .i64 x.ver, .int .i64 x.c, .int .i64 x.s, .int .i64 x.lo, .int .i64 x.hi, .slice a1 x.n c1, .bool x.fu], .agg #[.string x.m, .slice e0 x.tn h0, .int .i64 x.st, .int .i64 x.ver, .int .i64 x.c, .int .i64 x.s, .int .i64 x.lo, .int .i64 x.hi, .slice e1 x.n h1, .bool x.fu]] w fun e w' => e = .returned (.bool true) ∧ Below w.heap.size w w' := by
  have hB : Below w.heap.size w ((w.alloc (.cells #[.string x.m, .slice a0 x.tn c0, .int .i64 x.st, .int .i64 x.ver, .int .i64 x.c, .int .i64 x.s, .int .i64 x.lo, .int .i64 x.hi, .slice a1 x.n c1, .bool x.fu] 69)).alloc (.cells #[.string x.m, .slice e0 x.tn h0, .int .i64 x.st, .int .i64 x.ver, .int .i64 x.c, .int .i64 x.s, .int .i64 x.lo, .int .i64 x.hi, .slice e1 x.n h1, .bool x.fu] 69)) := (below_new w _).alloc (by simp) _
  have A := (ToAt.new w x a0 a1 c0 c1 69).keep (below_new _ (.cells #[.string x.m, .slice e0 x.tn h0, .int .i64 x.st, .int .i64 x.ver, .int .i64 x.c, .int .i64 x.s, .int .i64 x.lo, .int .i64 x.hi, .slice e1 x.n h1, .bool x.fu] 69))
  have B := ToAt.new (w.alloc (.cells #[.string x.m, .slice a0 x.tn c0, .int .i64 x.st, .int .i64 x.ver, .int .i64 x.c, .int .i64 x.s, .int .i64 x.lo, .int .i64 x.hi, .slice a1 x.n c1, .bool x.fu] 69)) x e0 e1 h0 h1 69
  rw [World.size_alloc] at B
  go_enter Try.func42, Try.ntmps42
  go_wp2_with fail
  refine (eqKey_same x.m x.st a0 e0 x.tn c0 h0 x.nm x.vl _ (r0.keep hB) (s0.keep hB) (show WiS x from hS).tn).mono ?_
  rintro e w1 ⟨rfl, hb⟩
  have bw : Below w.heap.size w w1 := hB.trans (hb.mono (by simp; omega))
  have A1 := A.keep hb
  have B1 := B.keep hb
  clear hb hB A B
  obtain ⟨_, d0, d1, d2, d3, d4, d5, d6, d7, d8, d9⟩ := id A1
  obtain ⟨_, t0, t1, t2, t3, t4, t5, t6, t7, t8, t9⟩ := id B1
  simp only [Nat.zero_add] at d1 d2 d3 d4 d5 d6 d7 d8 d9 t1 t2 t3 t4 t5 t6 t7 t8 t9
  go_wp2_with fail
  refine (eqAgg_same _ _ _ _ a1 e1 _ c1 h1 x.f _ _ (r1.keep bw) (s1.keep bw) (show WiS x from hS).n).mono ?_
  rintro e w2 ⟨rfl, hb⟩
  have bw2 : Below w.heap.size w w2 := bw.trans (hb.mono bw.size)
  have A2 := A1.keep hb
  have B2 := B1.keep hb
  clear hb A1 B1 d0 d1 d2 d3 d4 d5 d6 d7 d8 d9 t0 t1 t2 t3 t4 t5 t6 t7 t8 t9
  obtain ⟨_, d0, d1, d2, d3, d4, d5, d6, d7, d8, d9⟩ := A2
  obtain ⟨_, t0, t1, t2, t3, t4, t5, t6, t7, t8, t9⟩ := B2
  simp only [Nat.zero_add] at d1 d2 d3 d4 d5 d6 d7 d8 d9 t1 t2 t3 t4 t5 t6 t7 t8 t9
  go_wp2
  go_ret
  exact ⟨rfl, bw2⟩
end Go.Proofs.Ytflmbcgokiiedaa
namespace Go.Proofs.Ytflmbcgokiiedaa
open Go.RowKit
set_option linter.unusedSimpArgs false
set_option linter.unusedVariables false

theorem Try.infoTo : (Try.prog.info? 69).map (fun i => (i.zero, i.size, i.bytes)) = some (some (.agg #[.string ByteArray.empty, .slice none 0 0, .int .i64 0, .int .i64 0, .int .i64 0, .int .i64 0, .int .i64 0, .int .i64 0, .slice none 0 0, .bool false]), 10, 120) := by kernel_rfl

/-- n of them lie at ao. -/
structure ToRow (w : World) (ao : Option Addr) (n : Nat) (X : Nat → Wn) : Prop where
  bd : ∀ i, i < n → TlB (X i)
  lies : n = 0 ∨ ∃ b off, ao = some ⟨b, off, none⟩ ∧ b < w.heap.size ∧ ∀ i, i < n → ∃ a0 a1 c0 c1, ToAt w b (off + i * 10) (X i) a0 a1 c0 c1 ∧ TRow w a0 (X i).tn (X i).nm (X i).vl ∧ IRow w a1 (X i).n (X i).f
theorem ToRow.keep {w w' : World} {ao : Option Addr} {n : Nat} {X : Nat → Wn} (h : ToRow w ao n X) (hb : Below w.heap.size w w') : ToRow w' ao n X :=
  ⟨h.bd, h.lies.elim .inl fun ⟨b, off, e, hlt, hc⟩ => .inr ⟨b, off, e, Nat.lt_of_lt_of_le hlt hb.size, fun i hi => by obtain ⟨a0, a1, c0, c1, h1, r0, r1⟩ := hc i hi; exact ⟨a0, a1, c0, c1, h1.keep hb, r0.keep hb, r1.keep hb⟩⟩⟩

/-- Each is no greater than what is measured. -/
def ToSize (n : Nat) (X : Nat → Wn) : Prop := ∀ i, i < n → ToS (X i)

/-- n of the call's own in block b, the first k of them laid, their lists in blocks of their own. -/
structure ToOwn (w : World) (b n k : Nat) (X : Nat → Wn) (G0 G1 : Nat → Nat) : Prop where
  lt : b < w.heap.size
  ent : ∀ i, i < k → ToAt w b (i * 10) (X i) (some ⟨G0 i, 0, none⟩) (some ⟨G1 i, 0, none⟩) (X i).tn (X i).n
  data : ∀ i, i < k → b < G0 i ∧ TOwn w (G0 i) (X i).tn (X i).tn (X i).nm (X i).vl ∧ IOwn w (G1 i) 0 (X i).n (X i).f ∧ G0 i < G1 i
  mono : ∀ i j, i < j → j < k → G1 i < G0 j
  there : ∀ j, j < n * 10 → (w.cell? ⟨b, j, none⟩).isSome = true
  free : ∀ j, j < n * 10 → w.frozen? ⟨b, j, none⟩ = false
section
variable {w w' : World} {b n k : Nat} {X : Nat → Wn} {G0 G1 : Nat → Nat}
theorem ToOwn.row (h : ToOwn w b n n X G0 G1) (hbd : ∀ i, i < n → TlB (X i)) : ToRow w (some ⟨b, 0, none⟩) n X :=
  ⟨hbd, .inr ⟨b, 0, rfl, h.lt, fun i hi => ⟨_, _, _, _, by rw [Nat.zero_add]; exact h.ent i hi, (h.data i hi).2.1.row, (h.data i hi).2.2.1.row⟩⟩⟩
theorem ToOwn.keep (h : ToOwn w b n k X G0 G1) (hb : Below w.heap.size w w') : ToOwn w' b n k X G0 G1 :=
  ⟨Nat.lt_of_lt_of_le h.lt hb.size, fun i hi => (h.ent i hi).keep hb, fun i hi => by
      obtain ⟨h0, o0, o1, m0⟩ := h.data i hi
      exact ⟨h0, o0.keep hb, o1.keep hb, m0⟩, h.mono,
    fun j hj => by rw [hb.cell (p := ⟨b, j, none⟩) h.lt]; exact h.there j hj, fun j hj => (hb.frozen (p := ⟨b, j, none⟩) h.lt).trans (h.free j hj)⟩
end

set_option maxRecDepth 10000 in
set_option maxHeartbeats 800000 in
theorem ToOwn.store {w : World} {b n k : Nat} {X : Nat → Wn} {G0 G1 : Nat → Nat} (h : ToOwn w b n k X G0 G1) (hk : k < n) {g0 g1 : Nat} (ho0 : TOwn w g0 (X k).tn (X k).tn (X k).nm (X k).vl) (ho1 : IOwn w g1 0 (X k).n (X k).f) (hg : b < g0) (hg0 : g0 < g1) (hm : ∀ i, i < k → G1 i < g0) :
    ToOwn (w.setCells b (k * 10) [.string (X k).m, .slice (some ⟨g0, 0, none⟩) (X k).tn (X k).tn, .int .i64 (X k).st, .int .i64 (X k).ver, .int .i64 (X k).c, .int .i64 (X k).s, .int .i64 (X k).lo, .int .i64 (X k).hi, .slice (some ⟨g1, 0, none⟩) (X k).n (X k).n, .bool (X k).fu]) b n (k + 1) X (fun i => if i = k then g0 else G0 i) (fun i => if i = k then g1 else G1 i) := by
  generalize hL : ([.string (X k).m, .slice (some ⟨g0, 0, none⟩) (X k).tn (X k).tn, .int .i64 (X k).st, .int .i64 (X k).ver, .int .i64 (X k).c, .int .i64 (X k).s, .int .i64 (X k).lo, .int .i64 (X k).hi, .slice (some ⟨g1, 0, none⟩) (X k).n (X k).n, .bool (X k).fu] : List Value) = L
  have hlen : L.length = 10 := by rw [← hL]; rfl
  have hoth := setCells_others b L (k * 10) w
  have hin := World.cell?_setCells_in b L (k * 10) w (fun j hj => h.there _ (by omega))
  have hout : ∀ j, j < k * 10 ∨ k * 10 + 10 ≤ j → (w.setCells b (k * 10) L).cell? ⟨b, j, none⟩ = w.cell? ⟨b, j, none⟩ := fun j hj => World.cell?_setCells_out b L (k * 10) w ⟨b, j, none⟩ (fun _ _ => by simp only [hlen]; exact hj)
  have hlt : b < (w.setCells b (k * 10) L).heap.size := by rw [hoth.size]; exact h.lt
  refine ⟨hlt, fun i hi => ?_, fun i hi => ?_, fun i j hij hj => ?_, fun j hj => ?_, fun j hj => by rw [World.frozen?_setCells]; exact h.free j hj⟩
  · by_cases e : i = k
    · subst e
      simp only [if_true]
      subst hL
      exact ⟨hlt, hin 0 (by simp), hin 1 (by simp), hin 2 (by simp), hin 3 (by simp), hin 4 (by simp), hin 5 (by simp), hin 6 (by simp), hin 7 (by simp), hin 8 (by simp), hin 9 (by simp)⟩
    · simp only [e, if_false]
      have h0 := h.ent i (by omega)
      have c : ∀ q, q < 10 → (w.setCells b (k * 10) L).cell? ⟨b, i * 10 + q, none⟩ = w.cell? ⟨b, i * 10 + q, none⟩ := fun q hq => hout _ (by omega)
      exact ⟨hlt, (c 0 (by omega)).trans h0.c0, (c 1 (by omega)).trans h0.c1, (c 2 (by omega)).trans h0.c2, (c 3 (by omega)).trans h0.c3, (c 4 (by omega)).trans h0.c4, (c 5 (by omega)).trans h0.c5, (c 6 (by omega)).trans h0.c6, (c 7 (by omega)).trans h0.c7, (c 8 (by omega)).trans h0.c8, (c 9 (by omega)).trans h0.c9⟩
  · by_cases e : i = k
    · subst e
      simp only [if_true]
      exact ⟨hg, ho0.others hoth (by omega), hoth.irow ho1 (by omega), hg0⟩
    · simp only [e, if_false]
      obtain ⟨h0, o0, o1, m0⟩ := h.data i (by omega)
      exact ⟨h0, o0.others hoth (by omega), hoth.irow o1 (by omega), m0⟩
  · by_cases e : j = k
    · subst e
      simp only [if_true, show ¬ i = j by omega, if_false]
      exact hm i hij
    · simp only [e, show ¬ i = k by omega, if_false]
      exact h.mono i j hij (by omega)
  · by_cases hj2 : j < k * 10 ∨ k * 10 + 10 ≤ j
    · rw [hout j hj2]; exact h.there j hj
    · obtain ⟨q, rfl⟩ : ∃ q, j = k * 10 + q := ⟨j - k * 10, by omega⟩
      rw [hin q (by omega)]
      rfl

set_option maxHeartbeats 3200000 in
theorem eqToldS_same (ao bo : Option Addr) (n ca cb : Nat) (X : Nat → Wn) (w : World) (hr : ToRow w ao n X) (hs : ToRow w bo n X) (hn : n ≤ 1048576) (hz : ToSize n X) :
    Calls Try.prog 11 #[.slice ao n ca, .slice bo n cb] w fun e w' => e = .returned (.bool true) ∧ Below w.heap.size w w' := by
  obtain ⟨_, hl⟩ := hr
  obtain ⟨_, hm⟩ := hs
  go_enter Try.func11, Try.ntmps11
  go_wp2
  go_loopw [5] (fun i wr => ∃ k : Nat, k ≤ n ∧ i = .int .i64 k ∧ Below w.heap.size w wr) (fun i _ => n - (intOf i).toNat)
  case atStart => exact ⟨0, Nat.zero_le _, rfl, Below.refl _ _⟩
  case round =>
    obtain ⟨k, hk, rfl, hbk⟩ := hrel
    by_cases hlt : k < n
    · obtain ⟨b, off, rfl, hblt, hc⟩ := hl.resolve_left (by omega)
      obtain ⟨b', off', rfl, hblt', hc'⟩ := hm.resolve_left (by omega)
      obtain ⟨a0, a1, c0, c1, ea, r0, r1⟩ := hc k hlt
      obtain ⟨e0, e1, h0, h1, eb, s0, s1⟩ := hc' k hlt
      have hS := hz k hlt
      have ea1 := ea.keep hbk
      have eb1 := eb.keep hbk
      obtain ⟨_, d0, d1, d2, d3, d4, d5, d6, d7, d8, d9⟩ := id ea1
      obtain ⟨_, t0, t1, t2, t3, t4, t5, t6, t7, t8, t9⟩ := id eb1
      have r0 := (r0.keep hbk).keep (Below.refl _ _).drew
      have s0 := (s0.keep hbk).keep (Below.refl _ _).drew
      have r1 := (r1.keep hbk).keep (Below.refl _ _).drew
      have s1 := (s1.keep hbk).keep (Below.refl _ _).drew
      clear hc hc' hl hm ea eb
      go_wp2
      go_region_held3 (fun w' => w'.cell? ⟨b, off + k * 10, none⟩ = some (.string (X k).m) ∧ w'.cell? ⟨b, off + k * 10 + 1, none⟩ = some (.slice a0 (X k).tn c0) ∧ w'.cell? ⟨b, off + k * 10 + 2, none⟩ = some (.int .i64 (X k).st) ∧ w'.cell? ⟨b, off + k * 10 + 3, none⟩ = some (.int .i64 (X k).ver) ∧ w'.cell? ⟨b, off + k * 10 + 4, none⟩ = some (.int .i64 (X k).c) ∧ w'.cell? ⟨b, off + k * 10 + 5, none⟩ = some (.int .i64 (X k).s) ∧ w'.cell? ⟨b, off + k * 10 + 6, none⟩ = some (.int .i64 (X k).lo) ∧ w'.cell? ⟨b, off + k * 10 + 7, none⟩ = some (.int .i64 (X k).hi) ∧ w'.cell? ⟨b, off + k * 10 + 8, none⟩ = some (.slice a1 (X k).n c1) ∧ w'.cell? ⟨b, off + k * 10 + 9, none⟩ = some (.bool (X k).fu) ∧ w'.cell? ⟨b', off' + k * 10, none⟩ = some (.string (X k).m) ∧ w'.cell? ⟨b', off' + k * 10 + 1, none⟩ = some (.slice e0 (X k).tn h0) ∧ w'.cell? ⟨b', off' + k * 10 + 2, none⟩ = some (.int .i64 (X k).st) ∧ w'.cell? ⟨b', off' + k * 10 + 3, none⟩ = some (.int .i64 (X k).ver) ∧ w'.cell? ⟨b', off' + k * 10 + 4, none⟩ = some (.int .i64 (X k).c) ∧ w'.cell? ⟨b', off' + k * 10 + 5, none⟩ = some (.int .i64 (X k).s) ∧ w'.cell? ⟨b', off' + k * 10 + 6, none⟩ = some (.int .i64 (X k).lo) ∧ w'.cell? ⟨b', off' + k * 10 + 7, none⟩ = some (.int .i64 (X k).hi) ∧ w'.cell? ⟨b', off' + k * 10 + 8, none⟩ = some (.slice e1 (X k).n h1) ∧ w'.cell? ⟨b', off' + k * 10 + 9, none⟩ = some (.bool (X k).fu)) (go_keep) (first | (go_at_call 42; refine (eqTold_same (X k) _ _ _ _ _ _ _ _ _ r0 r1 s0 s1 hS).mono ?_; rintro e w6 ⟨rfl, hb6⟩; have hb6' := (Below.refl _ wr).drew.trans hb6; obtain ⟨_, p0, p1, p2, p3, p4, p5, p6, p7, p8, p9⟩ := ea1.keep hb6'; obtain ⟨_, q0, q1, q2, q3, q4, q5, q6, q7, q8, q9⟩ := eb1.keep hb6'; have bw6 := hbk.trans (hb6'.mono hbk.size); clear hb6 hb6'))
      go_wp2
      go_roundw
      case rel => exact ⟨k + 1, by omega, by go_num, bw6⟩
      case measure => simp [intOf]; omega
    · go_wp2
      go_ret
      exact ⟨rfl, hbk⟩
end Go.Proofs.Ytflmbcgokiiedaa
