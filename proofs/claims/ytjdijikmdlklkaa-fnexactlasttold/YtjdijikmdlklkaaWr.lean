/- Aggs compared by the laws. / Windows: where they lie, measured, copied, compared. / Rows of windows: measured, copied, compared. -/
import Derived.Test.YtjdijikmdlklkaaAg
import Derived.Test.YtjdijikmdlklkaaSzKey
import Derived.Laws.IdiomCopy
import Derived.Deep.RegionHeld3
namespace Go.Proofs.Ytjdijikmdlklkaa
open Go.RowKit
set_option linter.unusedSimpArgs false
set_option linter.unusedVariables false

set_option maxHeartbeats 800000 in
theorem eqAgg_same (c s lo hi : Int) (ao bo : Option Addr) (n ca cb : Nat) (f : Nat → Int) (fu : Bool) (w : World) (hr : IRow w ao n f) (hs : IRow w bo n f) (hn : n ≤ 1048576) :
    Calls Try.prog 46 #[.agg #[.int .i64 c, .int .i64 s, .int .i64 lo, .int .i64 hi, .slice ao n ca, .bool fu], .agg #[.int .i64 c, .int .i64 s, .int .i64 lo, .int .i64 hi, .slice bo n cb, .bool fu]] w
      fun e w' => e = .returned (.bool true) ∧ Below w.heap.size w w' := by
  have hB : ∀ o p, Below w.heap.size w ((w.alloc o).alloc p) := fun o p => (below_new w o).alloc (by simp) _
  go_enter Try.func46, Try.ntmps46
  go_wp2_with fail
  refine (eqIntS_same ao bo n ca cb f _ (hr.keep (hB _ _)) (hs.keep (hB _ _)) hn).mono ?_
  rintro e w1 ⟨rfl, hb⟩
  have hbw : Below w.heap.size w w1 := (hB _ _).trans (hb.mono (by simp; omega))
  have c5 : w1.cell? ⟨w.heap.size, 5, none⟩ = some (.bool fu) := (hb.cell (p := ⟨w.heap.size, 5, none⟩) (by simp; omega)).trans (by simp [go_sem])
  have d5 : w1.cell? ⟨w.heap.size + 1, 5, none⟩ = some (.bool fu) := (hb.cell (p := ⟨w.heap.size + 1, 5, none⟩) (by simp)).trans (by simp [go_sem])
  clear hb
  cases fu
  all_goals
    go_wp2
    go_ret
    exact ⟨rfl, hbw⟩
end Go.Proofs.Ytjdijikmdlklkaa
namespace Go.Proofs.Ytjdijikmdlklkaa
open Go.RowKit
set_option linter.unusedSimpArgs false
set_option linter.unusedVariables false

/-- What a window holds. -/
structure Wn where
  m : ByteArray
  tn : Nat
  nm : Nat → ByteArray
  vl : Nat → ByteArray
  st : Int
  c : Int
  s : Int
  lo : Int
  hi : Int
  n : Nat
  f : Nat → Int
  fu : Bool
  ver : Int
  di : Bool

/-- A window in the eleven cells from off on. -/
structure WiAt (w : World) (b off : Nat) (x : Wn) (a0 a1 : Option Addr) (k0 k1 : Nat) : Prop where
  lt : b < w.heap.size
  c0 : w.cell? ⟨b, off, none⟩ = some (.string x.m)
  c1 : w.cell? ⟨b, off + 1, none⟩ = some (.slice a0 x.tn k0)
  c2 : w.cell? ⟨b, off + 2, none⟩ = some (.int .i64 x.st)
  c3 : w.cell? ⟨b, off + 3, none⟩ = some (.int .i64 x.c)
  c4 : w.cell? ⟨b, off + 4, none⟩ = some (.int .i64 x.s)
  c5 : w.cell? ⟨b, off + 5, none⟩ = some (.int .i64 x.lo)
  c6 : w.cell? ⟨b, off + 6, none⟩ = some (.int .i64 x.hi)
  c7 : w.cell? ⟨b, off + 7, none⟩ = some (.slice a1 x.n k1)
  c8 : w.cell? ⟨b, off + 8, none⟩ = some (.bool x.fu)
  c9 : w.cell? ⟨b, off + 9, none⟩ = some (.int .i64 x.ver)
  c10 : w.cell? ⟨b, off + 10, none⟩ = some (.bool x.di)
section
variable {w w' : World} {b off k0 k1 : Nat} {x : Wn} {a0 a1 : Option Addr}
theorem WiAt.move (h : WiAt w b off x a0 a1 k0 k1) (lt : b < w'.heap.size) (k : ∀ j, w'.cell? ⟨b, j, none⟩ = w.cell? ⟨b, j, none⟩) : WiAt w' b off x a0 a1 k0 k1 :=
  ⟨lt, (k _).trans h.c0, (k _).trans h.c1, (k _).trans h.c2, (k _).trans h.c3, (k _).trans h.c4, (k _).trans h.c5, (k _).trans h.c6, (k _).trans h.c7, (k _).trans h.c8, (k _).trans h.c9, (k _).trans h.c10⟩
theorem WiAt.keep (h : WiAt w b off x a0 a1 k0 k1) (hb : Below w.heap.size w w') : WiAt w' b off x a0 a1 k0 k1 :=
  h.move (Nat.lt_of_lt_of_le h.lt hb.size) fun j => hb.cell (p := ⟨b, j, none⟩) h.lt
theorem WiAt.others {d : Nat} (h : WiAt w b off x a0 a1 k0 k1) (ho : Others d w w') (hne : b ≠ d) : WiAt w' b off x a0 a1 k0 k1 :=
  h.move (by rw [ho.size]; exact h.lt) fun j => World.cell?_of_block (w := w) (a := ⟨b, j, none⟩) (ho.block b hne)
end
theorem WiAt.new (w : World) (x : Wn) (a0 a1 : Option Addr) (k0 k1 : Nat) (T : Nat) : WiAt (w.alloc (.cells #[.string x.m, .slice a0 x.tn k0, .int .i64 x.st, .int .i64 x.c, .int .i64 x.s, .int .i64 x.lo, .int .i64 x.hi, .slice a1 x.n k1, .bool x.fu, .int .i64 x.ver, .bool x.di] T)) w.heap.size 0 x a0 a1 k0 k1 := by
  refine ⟨by simp, ?_, ?_, ?_, ?_, ?_, ?_, ?_, ?_, ?_, ?_, ?_⟩ <;> simp [go_sem]

/-- What its type says of a window. -/
structure WiB (x : Wn) : Prop where
  st : -9223372036854775808 ≤ x.st ∧ x.st ≤ 9223372036854775807
  c : -9223372036854775808 ≤ x.c ∧ x.c ≤ 9223372036854775807
  s : -9223372036854775808 ≤ x.s ∧ x.s ≤ 9223372036854775807
  ver : -9223372036854775808 ≤ x.ver ∧ x.ver ≤ 9223372036854775807
  m : x.m.size ≤ 9223372036854775807
  tn : x.tn ≤ 9223372036854775807
  ts : TSize x.tn x.nm x.vl 9223372036854775807
  n : x.n ≤ 9223372036854775807
/-- A window that is no greater than what is measured. -/
structure WiS (x : Wn) : Prop where
  m : x.m.size ≤ 1048576
  tn : x.tn ≤ 1048576
  ts : TSize x.tn x.nm x.vl 1048576
  n : x.n ≤ 1048576

theorem szIntS_left (ao : Option Addr) (n cap : Nat) (left : Int) (w : World) (hl : 0 ≤ left ∧ left ≤ 1048576) (hn : n ≤ 9223372036854775807) :
    Calls Try.prog 48 #[.slice ao n cap, .int .i64 left] w fun e w' => SzOut left (n ≤ 1048576) w e w' := by
  have hw : IntKind.i64.wrap (left - (n : Int)) = left - (n : Int) := by rw [IntKind.wrap_i64] <;> omega
  by_cases h1 : left - (n : Int) < 0
  · go_enter Try.func48, Try.ntmps48
    go_wp2
    go_ret
    exact ⟨-1, rfl, by omega, by omega, fun h => by omega, Below.refl _ _⟩
  · go_enter Try.func48, Try.ntmps48
    go_wp2
    go_ret
    exact ⟨_, rfl, by omega, by omega, fun h => by omega, Below.refl _ _⟩

theorem szAgg_left (c s lo hi : Int) (ao : Option Addr) (n cap : Nat) (fu : Bool) (left : Int) (w : World) (hl : 0 ≤ left ∧ left ≤ 1048576) (hn : n ≤ 9223372036854775807) :
    Calls Try.prog 29 #[.agg #[.int .i64 c, .int .i64 s, .int .i64 lo, .int .i64 hi, .slice ao n cap, .bool fu], .int .i64 left] w
      fun e w' => SzOut left (n ≤ 1048576) w e w' := by
  have hB := fun o => below_new w o
  go_enter Try.func29, Try.ntmps29
  go_wp2_with fail
  refine (szIntS_left ao n cap left _ hl hn).mono ?_
  rintro e w1 ⟨v, rfl, h1, h2, h3, hb⟩
  have bw : Below w.heap.size w w1 := (hB _).trans (hb.mono (by simp))
  clear hb
  by_cases hv : v < 0
  · clear h3
    go_wp2
    go_ret
    exact ⟨-1, rfl, by omega, by omega, fun h => by omega, bw⟩
  · have h4 : Hid (n ≤ 1048576) := h3 (by omega)
    clear h3
    go_wp2
    go_ret
    exact ⟨v, rfl, by omega, by omega, fun _ => h4.out, bw⟩

end Go.Proofs.Ytjdijikmdlklkaa
namespace Go.Proofs.Ytjdijikmdlklkaa
open Go.RowKit
set_option linter.unusedSimpArgs false
set_option linter.unusedVariables false

/-- n of them lie at ao. -/
structure WiRow (w : World) (ao : Option Addr) (n : Nat) (X : Nat → Wn) : Prop where
  bd : ∀ i, i < n → WiB (X i)
  lies : n = 0 ∨ ∃ b off, ao = some ⟨b, off, none⟩ ∧ b < w.heap.size ∧ ∀ i, i < n → ∃ a0 a1 c0 c1, WiAt w b (off + i * 11) (X i) a0 a1 c0 c1 ∧ TRow w a0 (X i).tn (X i).nm (X i).vl ∧ IRow w a1 (X i).n (X i).f
theorem WiRow.keep {w w' : World} {ao : Option Addr} {n : Nat} {X : Nat → Wn} (h : WiRow w ao n X) (hb : Below w.heap.size w w') : WiRow w' ao n X :=
  ⟨h.bd, h.lies.elim .inl fun ⟨b, off, e, hlt, hc⟩ => .inr ⟨b, off, e, Nat.lt_of_lt_of_le hlt hb.size, fun i hi => by obtain ⟨a0, a1, c0, c1, h1, r0, r1⟩ := hc i hi; exact ⟨a0, a1, c0, c1, h1.keep hb, r0.keep hb, r1.keep hb⟩⟩⟩

/-- Each is no greater than what is measured. -/
def WiSize (n : Nat) (X : Nat → Wn) : Prop := ∀ i, i < n → WiS (X i)

/-- n of the call's own in block b, the first k of them laid, their lists in blocks of their own. -/
structure WiOwn (w : World) (b n k : Nat) (X : Nat → Wn) (G0 G1 : Nat → Nat) : Prop where
  lt : b < w.heap.size
  ent : ∀ i, i < k → WiAt w b (i * 11) (X i) (some ⟨G0 i, 0, none⟩) (some ⟨G1 i, 0, none⟩) (X i).tn (X i).n
  data : ∀ i, i < k → b < G0 i ∧ TOwn w (G0 i) (X i).tn (X i).tn (X i).nm (X i).vl ∧ IOwn w (G1 i) 0 (X i).n (X i).f ∧ G0 i < G1 i
  mono : ∀ i j, i < j → j < k → G1 i < G0 j
  there : ∀ j, j < n * 11 → (w.cell? ⟨b, j, none⟩).isSome = true
  free : ∀ j, j < n * 11 → w.frozen? ⟨b, j, none⟩ = false
section
variable {w w' : World} {b n k : Nat} {X : Nat → Wn} {G0 G1 : Nat → Nat}
theorem WiOwn.row (h : WiOwn w b n n X G0 G1) (hbd : ∀ i, i < n → WiB (X i)) : WiRow w (some ⟨b, 0, none⟩) n X :=
  ⟨hbd, .inr ⟨b, 0, rfl, h.lt, fun i hi => ⟨_, _, _, _, by rw [Nat.zero_add]; exact h.ent i hi, (h.data i hi).2.1.row, (h.data i hi).2.2.1.row⟩⟩⟩
theorem WiOwn.keep (h : WiOwn w b n k X G0 G1) (hb : Below w.heap.size w w') : WiOwn w' b n k X G0 G1 :=
  ⟨Nat.lt_of_lt_of_le h.lt hb.size, fun i hi => (h.ent i hi).keep hb, fun i hi => by
      obtain ⟨h0, o0, o1, m0⟩ := h.data i hi
      exact ⟨h0, o0.keep hb, o1.keep hb, m0⟩, h.mono,
    fun j hj => by rw [hb.cell (p := ⟨b, j, none⟩) h.lt]; exact h.there j hj, fun j hj => (hb.frozen (p := ⟨b, j, none⟩) h.lt).trans (h.free j hj)⟩
end
theorem setCells_others (b : Nat) : ∀ (vs : List Value) (o : Nat) (w : World), Others b w (w.setCells b o vs)
  | [], _, _ => Others.refl _ _
  | v :: r, o, w => (Others.setCell w b o v).trans (setCells_others b r (o + 1) _)

set_option maxRecDepth 10000 in
set_option maxHeartbeats 800000 in
theorem WiOwn.store {w : World} {b n k : Nat} {X : Nat → Wn} {G0 G1 : Nat → Nat} (h : WiOwn w b n k X G0 G1) (hk : k < n) {g0 g1 : Nat} (ho0 : TOwn w g0 (X k).tn (X k).tn (X k).nm (X k).vl) (ho1 : IOwn w g1 0 (X k).n (X k).f) (hg : b < g0) (hg0 : g0 < g1) (hm : ∀ i, i < k → G1 i < g0) :
    WiOwn (w.setCells b (k * 11) [.string (X k).m, .slice (some ⟨g0, 0, none⟩) (X k).tn (X k).tn, .int .i64 (X k).st, .int .i64 (X k).c, .int .i64 (X k).s, .int .i64 (X k).lo, .int .i64 (X k).hi, .slice (some ⟨g1, 0, none⟩) (X k).n (X k).n, .bool (X k).fu, .int .i64 (X k).ver, .bool (X k).di]) b n (k + 1) X (fun i => if i = k then g0 else G0 i) (fun i => if i = k then g1 else G1 i) := by
  generalize hL : ([.string (X k).m, .slice (some ⟨g0, 0, none⟩) (X k).tn (X k).tn, .int .i64 (X k).st, .int .i64 (X k).c, .int .i64 (X k).s, .int .i64 (X k).lo, .int .i64 (X k).hi, .slice (some ⟨g1, 0, none⟩) (X k).n (X k).n, .bool (X k).fu, .int .i64 (X k).ver, .bool (X k).di] : List Value) = L
  have hlen : L.length = 11 := by rw [← hL]; rfl
  have hoth := setCells_others b L (k * 11) w
  have hin := World.cell?_setCells_in b L (k * 11) w (fun j hj => h.there _ (by omega))
  have hout : ∀ j, j < k * 11 ∨ k * 11 + 11 ≤ j → (w.setCells b (k * 11) L).cell? ⟨b, j, none⟩ = w.cell? ⟨b, j, none⟩ := fun j hj => World.cell?_setCells_out b L (k * 11) w ⟨b, j, none⟩ (fun _ _ => by simp only [hlen]; exact hj)
  have hlt : b < (w.setCells b (k * 11) L).heap.size := by rw [hoth.size]; exact h.lt
  refine ⟨hlt, fun i hi => ?_, fun i hi => ?_, fun i j hij hj => ?_, fun j hj => ?_, fun j hj => by rw [World.frozen?_setCells]; exact h.free j hj⟩
  · by_cases e : i = k
    · subst e
      simp only [if_true]
      subst hL
      exact ⟨hlt, hin 0 (by simp), hin 1 (by simp), hin 2 (by simp), hin 3 (by simp), hin 4 (by simp), hin 5 (by simp), hin 6 (by simp), hin 7 (by simp), hin 8 (by simp), hin 9 (by simp), hin 10 (by simp)⟩
    · simp only [e, if_false]
      have h0 := h.ent i (by omega)
      have c : ∀ q, q < 11 → (w.setCells b (k * 11) L).cell? ⟨b, i * 11 + q, none⟩ = w.cell? ⟨b, i * 11 + q, none⟩ := fun q hq => hout _ (by omega)
      exact ⟨hlt, (c 0 (by omega)).trans h0.c0, (c 1 (by omega)).trans h0.c1, (c 2 (by omega)).trans h0.c2, (c 3 (by omega)).trans h0.c3, (c 4 (by omega)).trans h0.c4, (c 5 (by omega)).trans h0.c5, (c 6 (by omega)).trans h0.c6, (c 7 (by omega)).trans h0.c7, (c 8 (by omega)).trans h0.c8, (c 9 (by omega)).trans h0.c9, (c 10 (by omega)).trans h0.c10⟩
  · by_cases e : i = k
    · subst e
      simp only [if_true]
      exact ⟨hg, ho0.others hoth (by omega), hoth.irow ho1 (by omega), hg0⟩
    · simp only [e, if_false]
      obtain ⟨h0, o0, o1, m0⟩ := h.data i (by omega)
      exact ⟨h0, o0.others hoth (by omega), hoth.irow o1 (by omega), m0⟩
  · by_cases e : j = k
    · subst e
      simp only [if_true, show ¬ i = j by omega, if_false]
      exact hm i hij
    · simp only [e, show ¬ i = k by omega, if_false]
      exact h.mono i j hij (by omega)
  · by_cases hj2 : j < k * 11 ∨ k * 11 + 11 ≤ j
    · rw [hout j hj2]; exact h.there j hj
    · obtain ⟨q, rfl⟩ : ∃ q, j = k * 11 + q := ⟨j - k * 11, by omega⟩
      rw [hin q (by omega)]
      rfl

end Go.Proofs.Ytjdijikmdlklkaa
