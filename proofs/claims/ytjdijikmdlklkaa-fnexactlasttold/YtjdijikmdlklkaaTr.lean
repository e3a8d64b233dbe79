/- Rows of told windows: measured, copied, compared. -/
import Derived.Test.YtjdijikmdlklkaaTn
import Derived.Laws.IdiomCopy
import Derived.Deep.RegionHeld3
namespace Go.Proofs.Ytjdijikmdlklkaa
open Go.RowKit
set_option linter.unusedSimpArgs false
set_option linter.unusedVariables false

theorem Try.infoTo : (Try.prog.info? 45).map (fun i => (i.zero, i.size, i.bytes)) = some (some (.agg #[.string ByteArray.empty, .slice none 0 0, .int .i64 0, .int .i64 0, .int .i64 0, .int .i64 0, .int .i64 0, .int .i64 0, .slice none 0 0, .bool false]), 10, 120) := by kernel_rfl

/-- n of them lie at ao. -/
structure ToRow (w : World) (ao : Option Addr) (n : Nat) (X : Nat → Wn) : Prop where
  bd : ∀ i, i < n → TlB (X i)
  lies : n = 0 ∨ ∃ b off, ao = some ⟨b, off, none⟩ ∧ b < w.heap.size ∧ ∀ i, i < n → ∃ a0 a1 c0 c1, ToAt w b (off + i * 10) (X i) a0 a1 c0 c1 ∧ TRow w a0 (X i).tn (X i).nm (X i).vl ∧ IRow w a1 (X i).n (X i).f
theorem ToRow.keep {w w' : World} {ao : Option Addr} {n : Nat} {X : Nat → Wn} (h : ToRow w ao n X) (hb : Below w.heap.size w w') : ToRow w' ao n X :=
  ⟨h.bd, h.lies.elim .inl fun ⟨b, off, e, hlt, hc⟩ => .inr ⟨b, off, e, Nat.lt_of_lt_of_le hlt hb.size, fun i hi => by obtain ⟨a0, a1, c0, c1, h1, r0, r1⟩ := hc i hi; exact ⟨a0, a1, c0, c1, h1.keep hb, r0.keep hb, r1.keep hb⟩⟩⟩

/-- Each is no greater than what is measured. -/
def ToSize (n : Nat) (X : Nat → Wn) : Prop := ∀ i, i < n → ToS (X i)

set_option maxHeartbeats 1600000 in
theorem szToldS_any (ao : Option Addr) (n cap : Nat) (X : Nat → Wn) (left : Int) (w : World) (hr : ToRow w ao n X) (hl : 0 ≤ left ∧ left ≤ 1048576) (hn : n ≤ 9223372036854775807) :
    Calls Try.prog 4 #[.slice ao n cap, .int .i64 left] w fun e w' => SzOut left (n ≤ 1048576 ∧ ToSize n X) w e w' := by
  obtain ⟨hbd, hlies⟩ := hr
  have hw : IntKind.i64.wrap (left - (n : Int)) = left - (n : Int) := by rw [IntKind.wrap_i64] <;> omega
  by_cases h1 : left - (n : Int) < 0
  · go_enter Try.func4, Try.ntmps4
    go_wp2
    go_ret
    exact ⟨-1, rfl, by omega, by omega, fun h => by omega, Below.refl _ _⟩
  · go_enter Try.func4, Try.ntmps4
    go_wp2
    go_loopw [1, 5] (fun q i wr => ∃ (k : Nat) (l : Int), k ≤ n ∧ i = .int .i64 k ∧ q = .int .i64 l ∧ 0 ≤ l ∧ l ≤ left ∧ Hid (ToSize k X) ∧ Below w.heap.size w wr) (fun _ i _ => n - (intOf i).toNat)
    case atStart => exact ⟨0, _, Nat.zero_le _, rfl, rfl, by omega, by omega, fun i h => by omega, Below.refl _ _⟩
    case round =>
      obtain ⟨k, l, hk, rfl, rfl, hl0, hl1, HS, hbk⟩ := hrel
      by_cases hlt : k < n
      · obtain ⟨b, off, rfl, hblt, hc⟩ := hlies.resolve_left (by omega)
        obtain ⟨a0, a1, c0, c1, ea, r0, r1⟩ := hc k hlt
        obtain ⟨_, d0, d1, d2, d3, d4, d5, d6, d7, d8, d9⟩ := ea.keep hbk
        have hE := hbd k hlt
        have r0 := r0.keep hbk
        have r1 := r1.keep hbk
        clear hc hlies ea
        go_wp2_with fail
        refine (szTold_any (X k) a0 a1 c0 c1 _ _ r0 r1 (by omega) hE).mono ?_
        rintro e w2 ⟨v, rfl, hv1, hv2, hv3, hb2⟩
        have hbw := hbk.trans (hb2.mono hbk.size)
        by_cases hv : v < 0
        · clear hv3
          go_wp2
          go_ret
          exact ⟨-1, rfl, by omega, by omega, fun h => by omega, hbw⟩
        · have hq := hv3 (by omega)
          have HS' : Hid (ToSize (k + 1) X) := fun i h => by
            rcases Nat.lt_succ_iff_lt_or_eq.1 h with h | h
            · exact HS.out i h
            · subst h; exact hq
          clear hv3 hq
          go_wp2
          go_roundw
          case rel => exact ⟨k + 1, v, by omega, by go_num, rfl, by omega, by omega, HS', hbw⟩
          case measure => simp [intOf]; omega
      · have e : k = n := by omega
        subst e
        go_wp2
        go_ret
        exact ⟨l, rfl, by omega, by omega, fun _ => ⟨by omega, HS.out⟩, hbk⟩

/-- n of the call's own in block b, the first k of them laid, their lists in blocks of their own. -/
structure ToOwn (w : World) (b n k : Nat) (X : Nat → Wn) (G0 G1 : Nat → Nat) : Prop where
  lt : b < w.heap.size
  ent : ∀ i, i < k → ToAt w b (i * 10) (X i) (some ⟨G0 i, 0, none⟩) (some ⟨G1 i, 0, none⟩) (X i).tn (X i).n
  data : ∀ i, i < k → b < G0 i ∧ TOwn w (G0 i) (X i).tn (X i).tn (X i).nm (X i).vl ∧ IOwn w (G1 i) 0 (X i).n (X i).f ∧ G0 i < G1 i
  mono : ∀ i j, i < j → j < k → G1 i < G0 j
  there : ∀ j, j < n * 10 → (w.cell? ⟨b, j, none⟩).isSome = true
  free : ∀ j, j < n * 10 → w.frozen? ⟨b, j, none⟩ = false
section
variable {w w' : World} {b n k : Nat} {X : Nat → Wn} {G0 G1 : Nat → Nat}
theorem ToOwn.row (h : ToOwn w b n n X G0 G1) (hbd : ∀ i, i < n → TlB (X i)) : ToRow w (some ⟨b, 0, none⟩) n X :=
  ⟨hbd, .inr ⟨b, 0, rfl, h.lt, fun i hi => ⟨_, _, _, _, by rw [Nat.zero_add]; exact h.ent i hi, (h.data i hi).2.1.row, (h.data i hi).2.2.1.row⟩⟩⟩
theorem ToOwn.keep (h : ToOwn w b n k X G0 G1) (hb : Below w.heap.size w w') : ToOwn w' b n k X G0 G1 :=
  ⟨Nat.lt_of_lt_of_le h.lt hb.size, fun i hi => (h.ent i hi).keep hb, fun i hi => by
      obtain ⟨h0, o0, o1, m0⟩ := h.data i hi
      exact ⟨h0, o0.keep hb, o1.keep hb, m0⟩, h.mono,
    fun j hj => by rw [hb.cell (p := ⟨b, j, none⟩) h.lt]; exact h.there j hj, fun j hj => (hb.frozen (p := ⟨b, j, none⟩) h.lt).trans (h.free j hj)⟩
end

set_option maxRecDepth 10000 in
set_option maxHeartbeats 800000 in
theorem ToOwn.store {w : World} {b n k : Nat} {X : Nat → Wn} {G0 G1 : Nat → Nat} (h : ToOwn w b n k X G0 G1) (hk : k < n) {g0 g1 : Nat} (ho0 : TOwn w g0 (X k).tn (X k).tn (X k).nm (X k).vl) (ho1 : IOwn w g1 0 (X k).n (X k).f) (hg : b < g0) (hg0 : g0 < g1) (hm : ∀ i, i < k → G1 i < g0) :
    ToOwn (w.setCells b (k * 10) [.string (X k).m, .slice (some ⟨g0, 0, none⟩) (X k).tn (X k).tn, .int .i64 (X k).st, .int .i64 (X k).ver, .int .i64 (X k).c, .int .i64 (X k).s, .int .i64 (X k).lo, .int .i64 (X k).hi, .slice (some ⟨g1, 0, none⟩) (X k).n (X k).n, .bool (X k).fu]) b n (k + 1) X (fun i => if i = k then g0 else G0 i) (fun i => if i = k then g1 else G1 i) := by
  generalize hL : ([.string (X k).m, .slice (some ⟨g0, 0, none⟩) (X k).tn (X k).tn, .int .i64 (X k).st, .int .i64 (X k).ver, .int .i64 (X k).c, .int .i64 (X k).s, .int .i64 (X k).lo, .int .i64 (X k).hi, .slice (some ⟨g1, 0, none⟩) (X k).n (X k).n, .bool (X k).fu] : List Value) = L
  have hlen : L.length = 10 := by rw [← hL]; rfl
  have hoth := setCells_others b L (k * 10) w
  have hin := World.cell?_setCells_in b L (k * 10) w (fun j hj => h.there _ (by omega))
  have hout : ∀ j, j < k * 10 ∨ k * 10 + 10 ≤ j → (w.setCells b (k * 10) L).cell? ⟨b, j, none⟩ = w.cell? ⟨b, j, none⟩ := fun j hj => World.cell?_setCells_out b L (k * 10) w ⟨b, j, none⟩ (fun _ _ => by simp only [hlen]; exact hj)
  have hlt : b < (w.setCells b (k * 10) L).heap.size := by rw [hoth.size]; exact h.lt
  refine ⟨hlt, fun i hi => ?_, fun i hi => ?_, fun i j hij hj => ?_, fun j hj => ?_, fun j hj => by rw [World.frozen?_setCells]; exact h.free j hj⟩
  · by_cases e : i = k
    · subst e
      simp only [if_true]
      subst hL
      exact ⟨hlt, hin 0 (by simp), hin 1 (by simp), hin 2 (by simp), hin 3 (by simp), hin 4 (by simp), hin 5 (by simp), hin 6 (by simp), hin 7 (by simp), hin 8 (by simp), hin 9 (by simp)⟩
    · simp only [e, if_false]
      have h0 := h.ent i (by omega)
      have c : ∀ q, q < 10 → (w.setCells b (k * 10) L).cell? ⟨b, i * 10 + q, none⟩ = w.cell? ⟨b, i * 10 + q, none⟩ := fun q hq => hout _ (by omega)
      exact ⟨hlt, (c 0 (by omega)).trans h0.c0, (c 1 (by omega)).trans h0.c1, (c 2 (by omega)).trans h0.c2, (c 3 (by omega)).trans h0.c3, (c 4 (by omega)).trans h0.c4, (c 5 (by omega)).trans h0.c5, (c 6 (by omega)).trans h0.c6, (c 7 (by omega)).trans h0.c7, (c 8 (by omega)).trans h0.c8, (c 9 (by omega)).trans h0.c9⟩
  · by_cases e : i = k
    · subst e
      simp only [if_true]
      exact ⟨hg, ho0.others hoth (by omega), hoth.irow ho1 (by omega), hg0⟩
    · simp only [e, if_false]
      obtain ⟨h0, o0, o1, m0⟩ := h.data i (by omega)
      exact ⟨h0, o0.others hoth (by omega), hoth.irow o1 (by omega), m0⟩
  · by_cases e : j = k
    · subst e
      simp only [if_true, show ¬ i = j by omega, if_false]
      exact hm i hij
    · simp only [e, show ¬ i = k by omega, if_false]
      exact h.mono i j hij (by omega)
  · by_cases hj2 : j < k * 10 ∨ k * 10 + 10 ≤ j
    · rw [hout j hj2]; exact h.there j hj
    · obtain ⟨q, rfl⟩ : ∃ q, j = k * 10 + q := ⟨j - k * 10, by omega⟩
      rw [hin q (by omega)]
      rfl

set_option maxRecDepth 10000 in
set_option maxHeartbeats 3200000 in
theorem toToldS_any (ao : Option Addr) (n cap : Nat) (X : Nat → Wn) (w : World) (hr : ToRow w ao n X) (hn : n ≤ 1048576) (hz : ToSize n X) :
    Calls Try.prog 6 #[.slice ao n cap] w fun e w' => ∃ G0 G1, e = .returned (.slice (some ⟨w.heap.size, 0, none⟩) n n) ∧ ToOwn w' w.heap.size n n X G0 G1 ∧ Below w.heap.size w w' := by
  obtain ⟨i0, hi, hz0, hz1, hz2⟩ := info_parts Try.infoTo
  obtain ⟨hbd, hlies⟩ := hr
  go_enter Try.func6, Try.ntmps6
  go_wp2_with (at_make; refine wpList_make_full _ rfl (.tmp 6) (.tmp 6) 24 rfl w.heap.size 45 i0 (.agg #[.string ByteArray.empty, .slice none 0 0, .int .i64 0, .int .i64 0, .int .i64 0, .int .i64 0, .int .i64 0, .int .i64 0, .slice none 0 0, .bool false]) 10 Try.underlying24 hi hz0 hz1 .i64 .i64 _ _ n rfl rfl rfl rfl (by rw [hz2]; omega) (by unfold maxLen; omega) (Nat.le_refl _) ?_; intro w1 hown hgrow)
  have hb1 : Below w.heap.size w w1 := (Below.refl _ _).grown hgrow (Nat.le_refl _) (fun k h => by simp at h)
  have hlt1 : w.heap.size < w1.heap.size := by
    rcases hown.2 with ⟨h, _⟩ | ⟨g', cap', cur, h, _, hg, _⟩
    · simp at h
    · simp at h; obtain ⟨rfl, _⟩ := h
      exact (Array.getElem?_eq_some_iff.1 hg).1
  have ho : ToOwn w1 w.heap.size n 0 X (fun _ => 0) (fun _ => 0) := by
    refine ⟨hlt1, fun i h => by omega, fun i h => by omega, fun i j _ h => by omega, fun j hj => ?_, fun j _ => hown.frozenAt j⟩
    have h1 := hown.cellAt j hj
    have h2 : j < (madeCells (Value.agg #[.string ByteArray.empty, .slice none 0 0, .int .i64 0, .int .i64 0, .int .i64 0, .int .i64 0, .int .i64 0, .int .i64 0, .slice none 0 0, .bool false]).cells (n * 10)).toList.length := by
      rw [Array.length_toList, size_madeCells]; exact hj
    rw [h1.trans (List.getElem?_eq_getElem h2)]
    rfl
  clear hown hgrow
  go_loopw [4] (fun i wr => ∃ (k : Nat) (G0 G1 : Nat → Nat), k ≤ n ∧ i = .int .i64 k ∧ ToOwn wr w.heap.size n k X G0 G1 ∧ Below w.heap.size w wr) (fun i _ => n - (intOf i).toNat)
  case atStart => exact ⟨0, _, _, Nat.zero_le _, rfl, ho, hb1⟩
  case round =>
    obtain ⟨k, G0, G1, hk, rfl, hok, hbk⟩ := hrel
    by_cases hlt : k < n
    · obtain ⟨b, off, rfl, hblt, hc⟩ := hlies.resolve_left (by omega)
      obtain ⟨a0, a1, c0, c1, ea, r0, r1⟩ := hc k hlt
      obtain ⟨_, d0, d1, d2, d3, d4, d5, d6, d7, d8, d9⟩ := ea.keep hbk
      have r0 := r0.keep hbk
      have r1 := r1.keep hbk
      have hS := hz k hlt
      clear hc hlies ho ea
      go_wp2_with fail
      refine (toTold_any (X k) a0 a1 c0 c1 _ r0 r1 hS).mono ?_
      rintro e w2 ⟨g0, g1, rfl, hg, hg0, ho0, ho1, hb2⟩
      have hok2 := hok.keep hb2
      obtain ⟨v0, hv0⟩ := Option.isSome_iff_exists.1 (hok2.there (k * 10) (by omega))
      have hf0 := hok2.free (k * 10) (by omega)
      obtain ⟨v1, hv1⟩ := Option.isSome_iff_exists.1 (hok2.there (k * 10 + 1) (by omega))
      have hf1 := hok2.free (k * 10 + 1) (by omega)
      obtain ⟨v2, hv2⟩ := Option.isSome_iff_exists.1 (hok2.there (k * 10 + 2) (by omega))
      have hf2 := hok2.free (k * 10 + 2) (by omega)
      obtain ⟨v3, hv3⟩ := Option.isSome_iff_exists.1 (hok2.there (k * 10 + 3) (by omega))
      have hf3 := hok2.free (k * 10 + 3) (by omega)
      obtain ⟨v4, hv4⟩ := Option.isSome_iff_exists.1 (hok2.there (k * 10 + 4) (by omega))
      have hf4 := hok2.free (k * 10 + 4) (by omega)
      obtain ⟨v5, hv5⟩ := Option.isSome_iff_exists.1 (hok2.there (k * 10 + 5) (by omega))
      have hf5 := hok2.free (k * 10 + 5) (by omega)
      obtain ⟨v6, hv6⟩ := Option.isSome_iff_exists.1 (hok2.there (k * 10 + 6) (by omega))
      have hf6 := hok2.free (k * 10 + 6) (by omega)
      obtain ⟨v7, hv7⟩ := Option.isSome_iff_exists.1 (hok2.there (k * 10 + 7) (by omega))
      have hf7 := hok2.free (k * 10 + 7) (by omega)
      obtain ⟨v8, hv8⟩ := Option.isSome_iff_exists.1 (hok2.there (k * 10 + 8) (by omega))
      have hf8 := hok2.free (k * 10 + 8) (by omega)
      obtain ⟨v9, hv9⟩ := Option.isSome_iff_exists.1 (hok2.there (k * 10 + 9) (by omega))
      have hf9 := hok2.free (k * 10 + 9) (by omega)
      have hst := hok2.store hlt ho0 ho1 (by have := hok.lt; omega) hg0 (fun i hi => by have := (hok.data i hi).2.2.1.lt; omega)
      have hbw : Below w.heap.size w w2 := hbk.trans (hb2.mono hbk.size)
      have hbs : Below w.heap.size w (w2.setCells w.heap.size (k * 10) [.string (X k).m, .slice (some ⟨g0, 0, none⟩) (X k).tn (X k).tn, .int .i64 (X k).st, .int .i64 (X k).ver, .int .i64 (X k).c, .int .i64 (X k).s, .int .i64 (X k).lo, .int .i64 (X k).hi, .slice (some ⟨g1, 0, none⟩) (X k).n (X k).n, .bool (X k).fu]) := hbw.trans ((setCells_others _ _ _ _).below (Nat.le_refl _))
      clear hok hok2 ho0 ho1 hb2 r0 r1
      go_wp2
      go_roundw
      case rel => exact ⟨k + 1, _, _, by omega, by go_num, hst, hbs⟩
      case measure => simp [intOf]; omega
    · go_wp2
      go_ret
      have e : k = n := by omega
      subst e
      first | exact ⟨G0, G1, rfl, hok, hbk⟩ | exact ⟨rfl, ⟨G0, G1, hok⟩, hbk⟩

set_option maxHeartbeats 3200000 in
theorem eqToldS_same (ao bo : Option Addr) (n ca cb : Nat) (X : Nat → Wn) (w : World) (hr : ToRow w ao n X) (hs : ToRow w bo n X) (hn : n ≤ 1048576) (hz : ToSize n X) :
    Calls Try.prog 8 #[.slice ao n ca, .slice bo n cb] w fun e w' => e = .returned (.bool true) ∧ Below w.heap.size w w' := by
  obtain ⟨_, hl⟩ := hr
  obtain ⟨_, hm⟩ := hs
  go_enter Try.func8, Try.ntmps8
  go_wp2
  go_loopw [5] (fun i wr => ∃ k : Nat, k ≤ n ∧ i = .int .i64 k ∧ Below w.heap.size w wr) (fun i _ => n - (intOf i).toNat)
  case atStart => exact ⟨0, Nat.zero_le _, rfl, Below.refl _ _⟩
  case round =>
    obtain ⟨k, hk, rfl, hbk⟩ := hrel
    by_cases hlt : k < n
    · obtain ⟨b, off, rfl, hblt, hc⟩ := hl.resolve_left (by omega)
      obtain ⟨b', off', rfl, hblt', hc'⟩ := hm.resolve_left (by omega)
      obtain ⟨a0, a1, c0, c1, ea, r0, r1⟩ := hc k hlt
      obtain ⟨e0, e1, h0, h1, eb, s0, s1⟩ := hc' k hlt
      have hS := hz k hlt
      have ea1 := ea.keep hbk
      have eb1 := eb.keep hbk
      obtain ⟨_, d0, d1, d2, d3, d4, d5, d6, d7, d8, d9⟩ := id ea1
      obtain ⟨_, t0, t1, t2, t3, t4, t5, t6, t7, t8, t9⟩ := id eb1
      have r0 := (r0.keep hbk).keep (Below.refl _ _).drew
      have s0 := (s0.keep hbk).keep (Below.refl _ _).drew
      have r1 := (r1.keep hbk).keep (Below.refl _ _).drew
      have s1 := (s1.keep hbk).keep (Below.refl _ _).drew
      clear hc hc' hl hm ea eb
      go_wp2
      go_region_held3 (fun w' => w'.cell? ⟨b, off + k * 10, none⟩ = some (.string (X k).m) ∧ w'.cell? ⟨b, off + k * 10 + 1, none⟩ = some (.slice a0 (X k).tn c0) ∧ w'.cell? ⟨b, off + k * 10 + 2, none⟩ = some (.int .i64 (X k).st) ∧ w'.cell? ⟨b, off + k * 10 + 3, none⟩ = some (.int .i64 (X k).ver) ∧ w'.cell? ⟨b, off + k * 10 + 4, none⟩ = some (.int .i64 (X k).c) ∧ w'.cell? ⟨b, off + k * 10 + 5, none⟩ = some (.int .i64 (X k).s) ∧ w'.cell? ⟨b, off + k * 10 + 6, none⟩ = some (.int .i64 (X k).lo) ∧ w'.cell? ⟨b, off + k * 10 + 7, none⟩ = some (.int .i64 (X k).hi) ∧ w'.cell? ⟨b, off + k * 10 + 8, none⟩ = some (.slice a1 (X k).n c1) ∧ w'.cell? ⟨b, off + k * 10 + 9, none⟩ = some (.bool (X k).fu) ∧ w'.cell? ⟨b', off' + k * 10, none⟩ = some (.string (X k).m) ∧ w'.cell? ⟨b', off' + k * 10 + 1, none⟩ = some (.slice e0 (X k).tn h0) ∧ w'.cell? ⟨b', off' + k * 10 + 2, none⟩ = some (.int .i64 (X k).st) ∧ w'.cell? ⟨b', off' + k * 10 + 3, none⟩ = some (.int .i64 (X k).ver) ∧ w'.cell? ⟨b', off' + k * 10 + 4, none⟩ = some (.int .i64 (X k).c) ∧ w'.cell? ⟨b', off' + k * 10 + 5, none⟩ = some (.int .i64 (X k).s) ∧ w'.cell? ⟨b', off' + k * 10 + 6, none⟩ = some (.int .i64 (X k).lo) ∧ w'.cell? ⟨b', off' + k * 10 + 7, none⟩ = some (.int .i64 (X k).hi) ∧ w'.cell? ⟨b', off' + k * 10 + 8, none⟩ = some (.slice e1 (X k).n h1) ∧ w'.cell? ⟨b', off' + k * 10 + 9, none⟩ = some (.bool (X k).fu)) (go_keep) (first | (go_at_call 22; refine (eqTold_same (X k) _ _ _ _ _ _ _ _ _ r0 r1 s0 s1 hS).mono ?_; rintro e w6 ⟨rfl, hb6⟩; have hb6' := (Below.refl _ wr).drew.trans hb6; obtain ⟨_, p0, p1, p2, p3, p4, p5, p6, p7, p8, p9⟩ := ea1.keep hb6'; obtain ⟨_, q0, q1, q2, q3, q4, q5, q6, q7, q8, q9⟩ := eb1.keep hb6'; have bw6 := hbk.trans (hb6'.mono hbk.size); clear hb6 hb6'))
      go_wp2
      go_roundw
      case rel => exact ⟨k + 1, by omega, by go_num, bw6⟩
      case measure => simp [intOf]; omega
    · go_wp2
      go_ret
      exact ⟨rfl, hbk⟩
end Go.Proofs.Ytjdijikmdlklkaa
