/- Rows of entries: measured, copied, compared. -/
import Derived.Test.YtfdbhkjmkpgomaaRw
import Derived.Laws.IdiomCopy
import Derived.Deep.RegionHeld3
namespace Go.Proofs.Ytfdbhkjmkpgomaa
open Go.RowKit
set_option linter.unusedSimpArgs false
set_option linter.unusedVariables false

theorem Try.infoEnt : (Try.prog.info? 54).map (fun i => (i.zero, i.size, i.bytes)) = some (some (.agg #[.string ByteArray.empty, .int .i64 0, .int .i64 0, .int .i64 0, .int .i64 0, .int .i64 0, .int .i64 0, .slice none 0 0, .bool false]), 9, 96) := by kernel_rfl

/-- Each entry's text and Hist are no longer than what is measured. -/
def ESize (n : Nat) (X : Nat → Ent) : Prop := ∀ i, i < n → (X i).key.size ≤ 1048576 ∧ (X i).n ≤ 1048576

set_option maxHeartbeats 800000 in
theorem szEntryS_any (ao : Option Addr) (n cap : Nat) (X : Nat → Ent) (left : Int) (w : World) (hr : ERow w ao n X) (hl : 0 ≤ left ∧ left ≤ 1048576) (hn : n ≤ 9223372036854775807) :
    Calls Try.prog 16 #[.slice ao n cap, .int .i64 left] w fun e w' => SzOut left (n ≤ 1048576 ∧ ESize n X) w e w' := by
  obtain ⟨hbd, hlies⟩ := hr
  have hw : IntKind.i64.wrap (left - (n : Int)) = left - (n : Int) := by rw [IntKind.wrap_i64] <;> omega
  by_cases h1 : left - (n : Int) < 0
  · go_enter Try.func16, Try.ntmps16
    go_wp2
    go_ret
    exact ⟨-1, rfl, by omega, by omega, fun h => by omega, Below.refl _ _⟩
  · go_enter Try.func16, Try.ntmps16
    go_wp2
    go_loopw [1, 5] (fun q i wr => ∃ (k : Nat) (l : Int), k ≤ n ∧ i = .int .i64 k ∧ q = .int .i64 l ∧ 0 ≤ l ∧ l ≤ left ∧ Hid (ESize k X) ∧ Below w.heap.size w wr) (fun _ i _ => n - (intOf i).toNat)
    case atStart => exact ⟨0, _, Nat.zero_le _, rfl, rfl, by omega, by omega, fun i h => by omega, Below.refl _ _⟩
    case round =>
      obtain ⟨k, l, hk, rfl, rfl, hl0, hl1, HS, hbk⟩ := hrel
      by_cases hlt : k < n
      · obtain ⟨b, off, rfl, hblt, hc⟩ := hlies.resolve_left (by omega)
        obtain ⟨da, dc, ea, _⟩ := hc k hlt
        obtain ⟨_, a0, a1, a2, a3, a4, a5, a6, a7, a8⟩ := ea.keep hbk
        have hE := hbd k hlt
        clear hc hlies ea
        go_wp2_with fail
        refine (szEntry_any (X k) _ _ _ _ (by omega) hE.key hE.n).mono ?_
        rintro e w2 ⟨v, rfl, hv1, hv2, hv3, hb2⟩
        have hbw := hbk.trans (hb2.mono hbk.size)
        by_cases hv : v < 0
        · clear hv3
          go_wp2
          go_ret
          exact ⟨-1, rfl, by omega, by omega, fun h => by omega, hbw⟩
        · have hq := hv3 (by omega)
          have HS' : Hid (ESize (k + 1) X) := fun i h => by
            rcases Nat.lt_succ_iff_lt_or_eq.1 h with h | h
            · exact HS.out i h
            · subst h; exact hq
          clear hv3 hq
          go_wp2
          go_roundw
          case rel => exact ⟨k + 1, v, by omega, by go_num, rfl, by omega, by omega, HS', hbw⟩
          case measure => simp [intOf]; omega
      · have e : k = n := by omega
        subst e
        go_wp2
        go_ret
        exact ⟨l, rfl, by omega, by omega, fun _ => ⟨by omega, HS.out⟩, hbk⟩

/-- n entries of the call's own in block b, the first k of them laid, their lists in blocks of their own. -/
structure EOwn (w : World) (b n k : Nat) (X : Nat → Ent) (G : Nat → Nat) : Prop where
  lt : b < w.heap.size
  ent : ∀ i, i < k → EAt w b (i * 9) (X i) (some ⟨G i, 0, none⟩) (X i).n
  data : ∀ i, i < k → b < G i ∧ IOwn w (G i) 0 (X i).n (X i).f
  mono : ∀ i j, i < j → j < k → G i < G j
  there : ∀ j, j < n * 9 → (w.cell? ⟨b, j, none⟩).isSome = true
  free : ∀ j, j < n * 9 → w.frozen? ⟨b, j, none⟩ = false
section
variable {w w' : World} {b n k : Nat} {X : Nat → Ent} {G : Nat → Nat}
theorem EOwn.row (h : EOwn w b n n X G) (hbd : ∀ i, i < n → EB (X i)) : ERow w (some ⟨b, 0, none⟩) n X :=
  ⟨hbd, .inr ⟨b, 0, rfl, h.lt, fun i hi => ⟨_, _, by rw [Nat.zero_add]; exact h.ent i hi, (h.data i hi).2.row⟩⟩⟩
theorem EOwn.keep (h : EOwn w b n k X G) (hb : Below w.heap.size w w') : EOwn w' b n k X G :=
  ⟨Nat.lt_of_lt_of_le h.lt hb.size, fun i hi => (h.ent i hi).keep hb, fun i hi => ⟨(h.data i hi).1, (h.data i hi).2.keep hb⟩, h.mono,
    fun j hj => by rw [hb.cell (p := ⟨b, j, none⟩) h.lt]; exact h.there j hj, fun j hj => (hb.frozen (p := ⟨b, j, none⟩) h.lt).trans (h.free j hj)⟩
end
theorem setCells_others (b : Nat) : ∀ (vs : List Value) (o : Nat) (w : World), Others b w (w.setCells b o vs)
  | [], _, _ => Others.refl _ _
  | v :: r, o, w => (Others.setCell w b o v).trans (setCells_others b r (o + 1) _)

set_option maxRecDepth 10000 in
theorem EOwn.store {w : World} {b n k : Nat} {X : Nat → Ent} {G : Nat → Nat} (h : EOwn w b n k X G) (hk : k < n) {g : Nat} (ho : IOwn w g 0 (X k).n (X k).f) (hg : b < g) (hm : ∀ i, i < k → G i < g) :
    EOwn (w.setCells b (k * 9) [.string (X k).key, .int .i64 (X k).seq, .int .i64 (X k).kind, .int .i64 (X k).c, .int .i64 (X k).s, .int .i64 (X k).lo, .int .i64 (X k).hi, .slice (some ⟨g, 0, none⟩) (X k).n (X k).n, .bool (X k).fu]) b n (k + 1) X (fun i => if i = k then g else G i) := by
  generalize hL : ([.string (X k).key, .int .i64 (X k).seq, .int .i64 (X k).kind, .int .i64 (X k).c, .int .i64 (X k).s, .int .i64 (X k).lo, .int .i64 (X k).hi, .slice (some ⟨g, 0, none⟩) (X k).n (X k).n, .bool (X k).fu] : List Value) = L
  have hlen : L.length = 9 := by rw [← hL]; rfl
  have hoth := setCells_others b L (k * 9) w
  have hin := World.cell?_setCells_in b L (k * 9) w (fun j hj => h.there _ (by omega))
  have hout : ∀ j, j < k * 9 ∨ k * 9 + 9 ≤ j → (w.setCells b (k * 9) L).cell? ⟨b, j, none⟩ = w.cell? ⟨b, j, none⟩ := fun j hj => World.cell?_setCells_out b L (k * 9) w ⟨b, j, none⟩ (fun _ _ => by simp only [hlen]; exact hj)
  have hlt : b < (w.setCells b (k * 9) L).heap.size := by rw [hoth.size]; exact h.lt
  refine ⟨hlt, fun i hi => ?_, fun i hi => ?_, fun i j hij hj => ?_, fun j hj => ?_, fun j hj => by rw [World.frozen?_setCells]; exact h.free j hj⟩
  · by_cases e : i = k
    · subst e
      simp only [if_true]
      subst hL
      exact ⟨hlt, hin 0 (by simp), hin 1 (by simp), hin 2 (by simp), hin 3 (by simp), hin 4 (by simp), hin 5 (by simp), hin 6 (by simp), hin 7 (by simp), hin 8 (by simp)⟩
    · simp only [e, if_false]
      have h0 := h.ent i (by omega)
      have c : ∀ q, q < 9 → (w.setCells b (k * 9) L).cell? ⟨b, i * 9 + q, none⟩ = w.cell? ⟨b, i * 9 + q, none⟩ := fun q hq => hout _ (by omega)
      exact ⟨hlt, (c 0 (by omega)).trans h0.c0, (c 1 (by omega)).trans h0.c1, (c 2 (by omega)).trans h0.c2, (c 3 (by omega)).trans h0.c3, (c 4 (by omega)).trans h0.c4, (c 5 (by omega)).trans h0.c5, (c 6 (by omega)).trans h0.c6, (c 7 (by omega)).trans h0.c7, (c 8 (by omega)).trans h0.c8⟩
  · by_cases e : i = k
    · subst e
      simp only [if_true]
      exact ⟨hg, hoth.irow ho (by omega)⟩
    · simp only [e, if_false]
      have := h.data i (by omega)
      exact ⟨this.1, hoth.irow this.2 (by omega)⟩
  · by_cases e : j = k
    · subst e
      simp only [if_true, show ¬ i = j by omega, if_false]
      exact hm i hij
    · simp only [e, show ¬ i = k by omega, if_false]
      exact h.mono i j hij (by omega)
  · by_cases hj2 : j < k * 9 ∨ k * 9 + 9 ≤ j
    · rw [hout j hj2]; exact h.there j hj
    · obtain ⟨q, rfl⟩ : ∃ q, j = k * 9 + q := ⟨j - k * 9, by omega⟩
      rw [hin q (by omega)]
      rfl

set_option maxRecDepth 10000 in
set_option maxHeartbeats 1600000 in
theorem toEntryS_any (ao : Option Addr) (n cap : Nat) (X : Nat → Ent) (w : World) (hr : ERow w ao n X) (hn : n ≤ 1048576) (hz : ESize n X) :
    Calls Try.prog 18 #[.slice ao n cap] w fun e w' => ∃ G, e = .returned (.slice (some ⟨w.heap.size, 0, none⟩) n n) ∧ EOwn w' w.heap.size n n X G ∧ Below w.heap.size w w' := by
  obtain ⟨i0, hi, hz0, hz1, hz2⟩ := info_parts Try.infoEnt
  obtain ⟨hbd, hlies⟩ := hr
  go_enter Try.func18, Try.ntmps18
  go_wp2_with (at_make; refine wpList_make_full _ rfl (.tmp 6) (.tmp 6) 24 rfl w.heap.size 54 i0 (.agg #[.string ByteArray.empty, .int .i64 0, .int .i64 0, .int .i64 0, .int .i64 0, .int .i64 0, .int .i64 0, .slice none 0 0, .bool false]) 9 Try.underlying24 hi hz0 hz1 .i64 .i64 _ _ n rfl rfl rfl rfl (by rw [hz2]; omega) (by unfold maxLen; omega) (Nat.le_refl _) ?_; intro w1 hown hgrow)
  have hb1 : Below w.heap.size w w1 := (Below.refl _ _).grown hgrow (Nat.le_refl _) (fun k h => by simp at h)
  have hlt1 : w.heap.size < w1.heap.size := by
    rcases hown.2 with ⟨h, _⟩ | ⟨g', cap', cur, h, _, hg, _⟩
    · simp at h
    · simp at h; obtain ⟨rfl, _⟩ := h
      exact (Array.getElem?_eq_some_iff.1 hg).1
  have ho : EOwn w1 w.heap.size n 0 X (fun _ => 0) := by
    refine ⟨hlt1, fun i h => by omega, fun i h => by omega, fun i j _ h => by omega, fun j hj => ?_, fun j _ => hown.frozenAt j⟩
    have h1 := hown.cellAt j hj
    have h2 : j < (madeCells (Value.agg #[.string ByteArray.empty, .int .i64 0, .int .i64 0, .int .i64 0, .int .i64 0, .int .i64 0, .int .i64 0, .slice none 0 0, .bool false]).cells (n * 9)).toList.length := by
      rw [Array.length_toList, size_madeCells]; exact hj
    rw [h1.trans (List.getElem?_eq_getElem h2)]
    rfl
  clear hown hgrow
  go_loopw [4] (fun i wr => ∃ (k : Nat) (G : Nat → Nat), k ≤ n ∧ i = .int .i64 k ∧ EOwn wr w.heap.size n k X G ∧ Below w.heap.size w wr) (fun i _ => n - (intOf i).toNat)
  case atStart => exact ⟨0, _, Nat.zero_le _, rfl, ho, hb1⟩
  case round =>
    obtain ⟨k, G, hk, rfl, hok, hbk⟩ := hrel
    by_cases hlt : k < n
    · obtain ⟨b, off, rfl, hblt, hc⟩ := hlies.resolve_left (by omega)
      obtain ⟨da, dc, ea, ir⟩ := hc k hlt
      obtain ⟨_, a0, a1, a2, a3, a4, a5, a6, a7, a8⟩ := ea.keep hbk
      have irk := ir.keep hbk
      have hlen := (hz k hlt).2
      clear hc hlies ho ea ir
      go_wp2_with fail
      refine (toEntry_any (X k) _ _ _ irk hlen).mono ?_
      rintro e w2 ⟨g, rfl, hg, ho2, hb2⟩
      have hok2 := hok.keep hb2
      obtain ⟨v0, hv0⟩ := Option.isSome_iff_exists.1 (hok2.there (k * 9) (by omega))
      have hf0 := hok2.free (k * 9) (by omega)
      obtain ⟨v1, hv1⟩ := Option.isSome_iff_exists.1 (hok2.there (k * 9 + 1) (by omega))
      have hf1 := hok2.free (k * 9 + 1) (by omega)
      obtain ⟨v2, hv2⟩ := Option.isSome_iff_exists.1 (hok2.there (k * 9 + 2) (by omega))
      have hf2 := hok2.free (k * 9 + 2) (by omega)
      obtain ⟨v3, hv3⟩ := Option.isSome_iff_exists.1 (hok2.there (k * 9 + 3) (by omega))
      have hf3 := hok2.free (k * 9 + 3) (by omega)
      obtain ⟨v4, hv4⟩ := Option.isSome_iff_exists.1 (hok2.there (k * 9 + 4) (by omega))
      have hf4 := hok2.free (k * 9 + 4) (by omega)
      obtain ⟨v5, hv5⟩ := Option.isSome_iff_exists.1 (hok2.there (k * 9 + 5) (by omega))
      have hf5 := hok2.free (k * 9 + 5) (by omega)
      obtain ⟨v6, hv6⟩ := Option.isSome_iff_exists.1 (hok2.there (k * 9 + 6) (by omega))
      have hf6 := hok2.free (k * 9 + 6) (by omega)
      obtain ⟨v7, hv7⟩ := Option.isSome_iff_exists.1 (hok2.there (k * 9 + 7) (by omega))
      have hf7 := hok2.free (k * 9 + 7) (by omega)
      obtain ⟨v8, hv8⟩ := Option.isSome_iff_exists.1 (hok2.there (k * 9 + 8) (by omega))
      have hf8 := hok2.free (k * 9 + 8) (by omega)
      have hst := hok2.store hlt ho2 (by have := hok.lt; omega) (fun i hi => by have := (hok.data i hi).2.lt; omega)
      have hbw : Below w.heap.size w w2 := hbk.trans (hb2.mono hbk.size)
      have hbs : Below w.heap.size w (w2.setCells w.heap.size (k * 9) [.string (X k).key, .int .i64 (X k).seq, .int .i64 (X k).kind, .int .i64 (X k).c, .int .i64 (X k).s, .int .i64 (X k).lo, .int .i64 (X k).hi, .slice (some ⟨g, 0, none⟩) (X k).n (X k).n, .bool (X k).fu]) := hbw.trans ((setCells_others _ _ _ _).below (Nat.le_refl _))
      clear hok hok2 ho2 hb2 irk
      go_wp2
      go_roundw
      case rel => exact ⟨k + 1, _, by omega, by go_num, hst, hbs⟩
      case measure => simp [intOf]; omega
    · go_wp2
      go_ret
      have e : k = n := by omega
      subst e
      exact ⟨G, rfl, hok, hbk⟩

set_option maxHeartbeats 1600000 in
theorem eqEntryS_same (ao bo : Option Addr) (n ca cb : Nat) (X : Nat → Ent) (w : World) (hr : ERow w ao n X) (hs : ERow w bo n X) (hn : n ≤ 1048576) (hz : ESize n X) :
    Calls Try.prog 11 #[.slice ao n ca, .slice bo n cb] w fun e w' => e = .returned (.bool true) ∧ Below w.heap.size w w' := by
  obtain ⟨_, hl⟩ := hr
  obtain ⟨_, hm⟩ := hs
  go_enter Try.func11, Try.ntmps11
  go_wp2
  go_loopw [5] (fun i wr => ∃ k : Nat, k ≤ n ∧ i = .int .i64 k ∧ Below w.heap.size w wr) (fun i _ => n - (intOf i).toNat)
  case atStart => exact ⟨0, Nat.zero_le _, rfl, Below.refl _ _⟩
  case round =>
    obtain ⟨k, hk, rfl, hbk⟩ := hrel
    by_cases hlt : k < n
    · obtain ⟨b, off, rfl, hblt, hc⟩ := hl.resolve_left (by omega)
      obtain ⟨b', off', rfl, hblt', hc'⟩ := hm.resolve_left (by omega)
      obtain ⟨da, dc, ea, ia⟩ := hc k hlt
      obtain ⟨db, ec, eb, ib⟩ := hc' k hlt
      have hlen := (hz k hlt).2
      have ea1 := ea.keep hbk
      have eb1 := eb.keep hbk
      obtain ⟨_, a0, a1, a2, a3, a4, a5, a6, a7, a8⟩ := id ea1
      obtain ⟨_, b0, b1, b2, b3, b4, b5, b6, b7, b8⟩ := id eb1
      have r1 := (ia.keep hbk).keep (Below.refl _ _).drew
      have r2 := (ib.keep hbk).keep (Below.refl _ _).drew
      clear hc hc' hl hm ea eb ia ib
      go_wp2
      go_region_held3 (fun w' => w'.cell? ⟨b, off + k * 9, none⟩ = some (.string (X k).key) ∧ w'.cell? ⟨b, off + k * 9 + 1, none⟩ = some (.int .i64 (X k).seq) ∧ w'.cell? ⟨b, off + k * 9 + 2, none⟩ = some (.int .i64 (X k).kind) ∧ w'.cell? ⟨b, off + k * 9 + 3, none⟩ = some (.int .i64 (X k).c) ∧ w'.cell? ⟨b, off + k * 9 + 4, none⟩ = some (.int .i64 (X k).s) ∧ w'.cell? ⟨b, off + k * 9 + 5, none⟩ = some (.int .i64 (X k).lo) ∧ w'.cell? ⟨b, off + k * 9 + 6, none⟩ = some (.int .i64 (X k).hi) ∧ w'.cell? ⟨b, off + k * 9 + 7, none⟩ = some (.slice da (X k).n dc) ∧ w'.cell? ⟨b, off + k * 9 + 8, none⟩ = some (.bool (X k).fu) ∧ w'.cell? ⟨b', off' + k * 9, none⟩ = some (.string (X k).key) ∧ w'.cell? ⟨b', off' + k * 9 + 1, none⟩ = some (.int .i64 (X k).seq) ∧ w'.cell? ⟨b', off' + k * 9 + 2, none⟩ = some (.int .i64 (X k).kind) ∧ w'.cell? ⟨b', off' + k * 9 + 3, none⟩ = some (.int .i64 (X k).c) ∧ w'.cell? ⟨b', off' + k * 9 + 4, none⟩ = some (.int .i64 (X k).s) ∧ w'.cell? ⟨b', off' + k * 9 + 5, none⟩ = some (.int .i64 (X k).lo) ∧ w'.cell? ⟨b', off' + k * 9 + 6, none⟩ = some (.int .i64 (X k).hi) ∧ w'.cell? ⟨b', off' + k * 9 + 7, none⟩ = some (.slice db (X k).n ec) ∧ w'.cell? ⟨b', off' + k * 9 + 8, none⟩ = some (.bool (X k).fu)) (go_keep) (first | (go_at_call 33; refine (eqEntry_same (X k) _ _ _ _ _ r1 r2 hlen).mono ?_; rintro e w6 ⟨rfl, hb6⟩; have hb6' := (Below.refl _ wr).drew.trans hb6; obtain ⟨_, p0, p1, p2, p3, p4, p5, p6, p7, p8⟩ := ea1.keep hb6'; obtain ⟨_, q0, q1, q2, q3, q4, q5, q6, q7, q8⟩ := eb1.keep hb6'; have bw6 := hbk.trans (hb6'.mono hbk.size); clear hb6 hb6'))
      go_wp2
      go_roundw
      case rel => exact ⟨k + 1, by omega, by go_num, bw6⟩
      case measure => simp [intOf]; omega
    · go_wp2
      go_ret
      exact ⟨rfl, hbk⟩
end Go.Proofs.Ytfdbhkjmkpgomaa
