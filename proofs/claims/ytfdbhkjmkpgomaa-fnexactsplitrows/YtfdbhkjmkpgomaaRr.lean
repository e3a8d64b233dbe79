/- Rows of entries: measured, copied, compared, marked. -/
import Derived.Test.YtfdbhkjmkpgomaaLw
import Derived.Laws.IdiomCopy
import Derived.Deep.RegionHeld3
namespace Go.Proofs.Ytfdbhkjmkpgomaa
open Go.RowKit
set_option linter.unusedSimpArgs false
set_option linter.unusedVariables false

theorem Try.infoES : (Try.prog.info? 24).map (fun i => (i.zero, i.size, i.bytes)) = some (some (.slice none 0 0), 1, 24) := by kernel_rfl

/-- N rows of entries lie at ao: the i-th has M i entries R i. -/
structure RRow (w : World) (ao : Option Addr) (N : Nat) (R : Nat → Nat → Ent) (M : Nat → Nat) : Prop where
  bd : ∀ i, i < N → ∀ j, j < M i → EB (R i j)
  len : ∀ i, i < N → M i ≤ 9223372036854775807
  lies : N = 0 ∨ ∃ b off, ao = some ⟨b, off, none⟩ ∧ b < w.heap.size ∧ ∀ i, i < N → ∃ da dc, w.cell? ⟨b, off + i, none⟩ = some (.slice da (M i) dc) ∧ ERow w da (M i) (R i)
theorem RRow.keep {w w' : World} {ao : Option Addr} {N : Nat} {R : Nat → Nat → Ent} {M : Nat → Nat} (h : RRow w ao N R M) (hb : Below w.heap.size w w') : RRow w' ao N R M :=
  ⟨h.bd, h.len, h.lies.elim .inl fun ⟨b, off, e, hlt, hc⟩ => .inr ⟨b, off, e, Nat.lt_of_lt_of_le hlt hb.size, fun i hi => by obtain ⟨da, dc, h1, h2⟩ := hc i hi; exact ⟨da, dc, (hb.cell (p := ⟨b, off + i, none⟩) hlt).trans h1, h2.keep hb⟩⟩⟩
/-- All together. -/
def totR (R : Nat → Nat → Ent) (M : Nat → Nat) : Nat → Nat
  | 0 => 0
  | k + 1 => totR R M k + (M k + tot (R k) (M k))
theorem totR_le {R : Nat → Nat → Ent} {M : Nat → Nat} : ∀ {N i : Nat}, i < N → M i + tot (R i) (M i) ≤ totR R M N
  | N + 1, i, h => by
    unfold totR
    rcases Nat.lt_succ_iff_lt_or_eq.1 h with h | rfl
    · have := totR_le (R := R) (M := M) h; omega
    · omega

set_option maxHeartbeats 800000 in
theorem szEntryS_ex (ao : Option Addr) (n cap : Nat) (X : Nat → Ent) (left : Int) (w : World) (hr : ERow w ao n X) (hl : 0 ≤ left ∧ left ≤ 1048576) (hn : n ≤ 9223372036854775807) :
    Calls Try.prog 16 #[.slice ao n cap, .int .i64 left] w fun e w' => SzX left ((n + tot X n : Nat) : Int) w e w' := by
  obtain ⟨hbd, hlies⟩ := hr
  have hw : IntKind.i64.wrap (left - (n : Int)) = left - (n : Int) := by rw [IntKind.wrap_i64] <;> omega
  by_cases h1 : left - (n : Int) < 0
  · go_enter Try.func16, Try.ntmps16
    go_wp2
    go_ret
    exact ⟨-1, rfl, by omega, fun h => by omega, Below.refl _ _⟩
  · go_enter Try.func16, Try.ntmps16
    go_wp2
    go_loopw [1, 5] (fun q i wr => ∃ (k : Nat) (l : Int), k ≤ n ∧ i = .int .i64 k ∧ q = .int .i64 l ∧ 0 ≤ l ∧ l ≤ left ∧ Hid (l + n + tot X k = left) ∧ Below w.heap.size w wr) (fun _ i _ => n - (intOf i).toNat)
    case atStart => exact ⟨0, _, Nat.zero_le _, rfl, rfl, by omega, by omega, by simp [Hid, tot], Below.refl _ _⟩
    case round =>
      obtain ⟨k, l, hk, rfl, rfl, hl0, hl1, HS, hbk⟩ := hrel
      by_cases hlt : k < n
      · obtain ⟨b, off, rfl, hblt, hc⟩ := hlies.resolve_left (by omega)
        obtain ⟨da, dc, ea, _⟩ := hc k hlt
        obtain ⟨_, a0, a1, a2, a3, a4, a5, a6, a7, a8⟩ := ea.keep hbk
        have hE := hbd k hlt
        clear hc hlies ea
        go_wp2_with fail
        refine (szEntry_ex (X k) _ _ _ _ (by omega) hE.key hE.n).mono ?_
        rintro e w2 ⟨v, rfl, hv1, hv3, hb2⟩
        have hbw := hbk.trans (hb2.mono hbk.size)
        by_cases hv : v < 0
        · clear hv3
          go_wp2
          go_ret
          exact ⟨-1, rfl, by omega, fun h => by omega, hbw⟩
        · have hq := hv3 (by omega)
          have hvl : v ≤ left := by omega
          have HS' : Hid (v + n + tot X (k + 1) = left) := by
            have := HS.out
            unfold Hid tot
            omega
          clear hv3 hq
          go_wp2
          go_roundw
          case rel => exact ⟨k + 1, v, by omega, by go_num, rfl, by omega, hvl, HS', hbw⟩
          case measure => simp [intOf]; omega
      · have e : k = n := by omega
        subst e
        go_wp2
        go_ret
        exact ⟨l, rfl, by omega, fun _ => by have := HS.out; omega, hbk⟩

set_option maxHeartbeats 800000 in
theorem szEntrySS_tot (ao : Option Addr) (N cap : Nat) (R : Nat → Nat → Ent) (M : Nat → Nat) (left : Int) (w : World) (hr : RRow w ao N R M) (hl : 0 ≤ left ∧ left ≤ 1048576) (hn : N ≤ 9223372036854775807) :
    Calls Try.prog 7 #[.slice ao N cap, .int .i64 left] w fun e w' => SzOut left (N + totR R M N ≤ 1048576) w e w' := by
  obtain ⟨_, hlen, hlies⟩ := hr
  have hw : IntKind.i64.wrap (left - (N : Int)) = left - (N : Int) := by rw [IntKind.wrap_i64] <;> omega
  by_cases h1 : left - (N : Int) < 0
  · go_enter Try.func7, Try.ntmps7
    go_wp2
    go_ret
    exact ⟨-1, rfl, by omega, by omega, fun h => by omega, Below.refl _ _⟩
  · go_enter Try.func7, Try.ntmps7
    go_wp2
    go_loopw [1, 5] (fun q i wr => ∃ (k : Nat) (l : Int), k ≤ N ∧ i = .int .i64 k ∧ q = .int .i64 l ∧ 0 ≤ l ∧ l ≤ left ∧ Hid (l + N + totR R M k = left) ∧ Below w.heap.size w wr) (fun _ i _ => N - (intOf i).toNat)
    case atStart => exact ⟨0, _, Nat.zero_le _, rfl, rfl, by omega, by omega, by simp [Hid, totR], Below.refl _ _⟩
    case round =>
      obtain ⟨k, l, hk, rfl, rfl, hl0, hl1, HS, hbk⟩ := hrel
      by_cases hlt : k < N
      · obtain ⟨b, off, rfl, hblt, hc⟩ := hlies.resolve_left (by omega)
        obtain ⟨da, dc, ea, er⟩ := hc k hlt
        have a0 := (hbk.cell (p := ⟨b, off + k, none⟩) hblt).trans ea
        have erk := er.keep hbk
        have hE := hlen k hlt
        clear hc hlies ea
        go_wp2_with fail
        refine (szEntryS_ex _ (M k) _ (R k) _ _ erk (by omega) hE).mono ?_
        rintro e w2 ⟨v, rfl, hv1, hv3, hb2⟩
        have hbw := hbk.trans (hb2.mono hbk.size)
        by_cases hv : v < 0
        · clear hv3
          go_wp2
          go_ret
          exact ⟨-1, rfl, by omega, by omega, fun h => by omega, hbw⟩
        · have hq := hv3 (by omega)
          have hvl : v ≤ left := by omega
          have HS' : Hid (v + N + totR R M (k + 1) = left) := by
            have := HS.out
            unfold Hid totR
            omega
          clear hv3 hq
          go_wp2
          go_roundw
          case rel => exact ⟨k + 1, v, by omega, by go_num, rfl, by omega, hvl, HS', hbw⟩
          case measure => simp [intOf]; omega
      · have e : k = N := by omega
        subst e
        go_wp2
        go_ret
        exact ⟨l, rfl, by omega, by omega, fun _ => by have := HS.out; omega, hbk⟩

/-- The first k of N rows copied, each behind the one before. -/
structure RO (w : World) (b N k : Nat) (R : Nat → Nat → Ent) (M A H : Nat → Nat) : Prop where
  lt : b < w.heap.size
  cell : ∀ i, i < k → w.cell? ⟨b, i, none⟩ = some (.slice (some ⟨A i, 0, none⟩) (M i) (M i))
  la : ∀ i, i < k → LA w (A i) (H i) (M i) (R i)
  ord : ∀ i, i < k → b < A i
  mono : ∀ i j, i < j → j < k → H i ≤ A j
  there : ∀ j, j < N → (w.cell? ⟨b, j, none⟩).isSome = true
  free : ∀ j, j < N → w.frozen? ⟨b, j, none⟩ = false
theorem LA.same {w w' : World} {lo hi n : Nat} {X : Nat → Ent} (h : LA w lo hi n X) (hs : w.heap.size ≤ w'.heap.size) (hb : ∀ c, lo ≤ c → c < hi → w'.heap[c]? = w.heap[c]?) : LA w' lo hi n X := by
  obtain ⟨G, h, h1, h2, h3⟩ := h
  have c := fun b off (h : lo ≤ b ∧ b < hi) => World.cell?_of_block (w := w) (a := ⟨b, off, none⟩) (hb b h.1 h.2)
  have f := fun b off (h : lo ≤ b ∧ b < hi) => World.frozen?_of_block (w := w) (a := ⟨b, off, none⟩) (hb b h.1 h.2)
  have hl : lo ≤ lo ∧ lo < hi := ⟨Nat.le_refl _, h1⟩
  refine ⟨G, ⟨Nat.lt_of_lt_of_le h.lt hs, fun i hi => (h.ent i hi).move (Nat.lt_of_lt_of_le h.lt hs) (fun j => c lo j hl), fun i hi' => ?_, h.mono, fun j hj => by rw [c lo j hl]; exact h.there j hj, fun j hj => (f lo j hl).trans (h.free j hj)⟩, h1, Nat.le_trans h2 hs, h3⟩
  obtain ⟨g1, g2⟩ := h.data i hi'
  have g3 := h3 i hi'
  exact ⟨g1, g2.bd, Nat.lt_of_lt_of_le g2.lt hs, fun j hj => (c (G i) _ ⟨by omega, g3⟩).trans (g2.cell j hj), fun j hj => (f (G i) _ ⟨by omega, g3⟩).trans (g2.free j hj)⟩
theorem RO.keep {w w' : World} {b N k : Nat} {R : Nat → Nat → Ent} {M A H : Nat → Nat} (h : RO w b N k R M A H) (hb : Below w.heap.size w w') : RO w' b N k R M A H :=
  ⟨Nat.lt_of_lt_of_le h.lt hb.size, fun i hi => (hb.cell (p := ⟨b, i, none⟩) h.lt).trans (h.cell i hi), fun i hi => (h.la i hi).keep hb, h.ord, h.mono, fun j hj => by rw [hb.cell (p := ⟨b, j, none⟩) h.lt]; exact h.there j hj, fun j hj => (hb.frozen (p := ⟨b, j, none⟩) h.lt).trans (h.free j hj)⟩
theorem RO.store {w : World} {b N k a h' : Nat} {R : Nat → Nat → Ent} {M A H : Nat → Nat} (h : RO w b N k R M A H) (hk : k < N) (hl : LA w a h' (M k) (R k)) (ha : b < a) (hm : ∀ i, i < k → H i ≤ a) :
    RO (w.setCell ⟨b, k, none⟩ (.slice (some ⟨a, 0, none⟩) (M k) (M k))) b N (k + 1) R M (fun i => if i = k then a else A i) (fun i => if i = k then h' else H i) := by
  have hoth : Others b w (w.setCell ⟨b, k, none⟩ (.slice (some ⟨a, 0, none⟩) (M k) (M k))) := Others.setCell _ _ _ _
  have hs : w.heap.size ≤ (w.setCell ⟨b, k, none⟩ (.slice (some ⟨a, 0, none⟩) (M k) (M k))).heap.size := by rw [hoth.size]; exact Nat.le_refl _
  obtain ⟨v0, hv0⟩ := Option.isSome_iff_exists.1 (h.there k hk)
  have hsame : (w.setCell ⟨b, k, none⟩ (.slice (some ⟨a, 0, none⟩) (M k) (M k))).cell? ⟨b, k, none⟩ = some (.slice (some ⟨a, 0, none⟩) (M k) (M k)) := World.cell?_setCell_same _ _ _ hv0
  have hother : ∀ j, j ≠ k → (w.setCell ⟨b, k, none⟩ (.slice (some ⟨a, 0, none⟩) (M k) (M k))).cell? ⟨b, j, none⟩ = w.cell? ⟨b, j, none⟩ := fun j hj => World.cell?_setCell_other _ _ _ _ (by intro hh; injection hh with _ h2 _; omega)
  refine ⟨by rw [hoth.size]; exact h.lt, fun i hi => ?_, fun i hi => ?_, fun i hi => ?_, fun i j hij hj => ?_, fun j hj => ?_, fun j hj => by simpa using h.free j hj⟩
  · by_cases e : i = k
    · subst e; simp only [if_true]; exact hsame
    · simp only [e, if_false]; rw [hother i e]; exact h.cell i (by omega)
  · by_cases e : i = k
    · subst e; simp only [if_true]; exact hl.same hs (fun c hc _ => hoth.block c (by omega))
    · simp only [e, if_false]; exact (h.la i (by omega)).same hs (fun c hc _ => hoth.block c (by have := h.ord i (by omega); omega))
  · by_cases e : i = k
    · subst e; simpa using ha
    · simp only [e, if_false]; exact h.ord i (by omega)
  · by_cases e : j = k
    · subst e
      simp only [if_true, show ¬ i = j by omega, if_false]
      exact hm i hij
    · simp only [e, show ¬ i = k by omega, if_false]
      exact h.mono i j hij (by omega)
  · by_cases e : j = k
    · subst e; rw [hsame]; rfl
    · rw [hother j e]; exact h.there j hj
/-- A copy of rows, all in blocks from lo on and below hi. -/
def RA (w : World) (lo hi N : Nat) (R : Nat → Nat → Ent) (M : Nat → Nat) : Prop := ∃ A H, RO w lo N N R M A H ∧ lo < hi ∧ hi ≤ w.heap.size ∧ ∀ i, i < N → H i ≤ hi
section
variable {w w' : World} {lo hi N : Nat} {R : Nat → Nat → Ent} {M : Nat → Nat}
theorem RA.keep (h : RA w lo hi N R M) (hb : Below w.heap.size w w') : RA w' lo hi N R M := by obtain ⟨A, H, h, h1, h2, h3⟩ := h; exact ⟨A, H, h.keep hb, h1, Nat.le_trans h2 hb.size, h3⟩
theorem RA.lt (h : RA w lo hi N R M) : lo < hi ∧ hi ≤ w.heap.size := by obtain ⟨A, H, _, h1, h2, _⟩ := h; exact ⟨h1, h2⟩
theorem RA.row (h : RA w lo hi N R M) (hbd : ∀ i, i < N → ∀ j, j < M i → EB (R i j)) (hlen : ∀ i, i < N → M i ≤ 9223372036854775807) : RRow w (some ⟨lo, 0, none⟩) N R M := by
  obtain ⟨A, H, h, h1, h2, h3⟩ := h
  exact ⟨hbd, hlen, .inr ⟨lo, 0, rfl, h.lt, fun i hi => ⟨_, _, by rw [Nat.zero_add]; exact h.cell i hi, (h.la i hi).row (hbd i hi)⟩⟩⟩
end

set_option maxRecDepth 10000 in
set_option maxHeartbeats 1600000 in
theorem toRA (ao : Option Addr) (N cap : Nat) (R : Nat → Nat → Ent) (M : Nat → Nat) (w : World) (hr : RRow w ao N R M) (ht : N + totR R M N ≤ 1048576) :
    Calls Try.prog 9 #[.slice ao N cap] w fun e w' => e = .returned (.slice (some ⟨w.heap.size, 0, none⟩) N N) ∧ RA w' w.heap.size w'.heap.size N R M ∧ Below w.heap.size w w' := by
  obtain ⟨i0, hi, hz0, hz1, hz2⟩ := info_parts Try.infoES
  obtain ⟨hbd, hlen, hlies⟩ := hr
  go_enter Try.func9, Try.ntmps9
  go_wp2_with (at_make; refine wpList_make_full _ rfl (.tmp 6) (.tmp 6) 27 rfl w.heap.size 24 i0 (.slice none 0 0) 1 Try.underlying27 hi hz0 hz1 .i64 .i64 _ _ N rfl rfl rfl rfl (by rw [hz2]; omega) (by unfold maxLen; omega) (Nat.le_refl _) ?_; intro w1 hown hgrow)
  have hb1 : Below w.heap.size w w1 := (Below.refl _ _).grown hgrow (Nat.le_refl _) (fun k h => by simp at h)
  have hlt1 : w.heap.size < w1.heap.size := by
    rcases hown.2 with ⟨h, _⟩ | ⟨g', cap', cur, h, _, hg, _⟩
    · simp at h
    · simp at h; obtain ⟨rfl, _⟩ := h
      exact (Array.getElem?_eq_some_iff.1 hg).1
  have ho : RO w1 w.heap.size N 0 R M (fun _ => 0) (fun _ => 0) := by
    refine ⟨hlt1, fun i h => by omega, fun i h => by omega, fun i h => by omega, fun i j _ h => by omega, fun j hj => ?_, fun j _ => hown.frozenAt j⟩
    have h1 := hown.cellAt j (by omega)
    have h2 : j < (madeCells (Value.slice none 0 0).cells (N * 1)).toList.length := by
      rw [Array.length_toList, size_madeCells]; omega
    rw [h1.trans (List.getElem?_eq_getElem h2)]
    rfl
  clear hown hgrow
  go_loopw [4] (fun i wr => ∃ (k : Nat) (A H : Nat → Nat), k ≤ N ∧ i = .int .i64 k ∧ RO wr w.heap.size N k R M A H ∧ Below w.heap.size w wr) (fun i _ => N - (intOf i).toNat)
  case atStart => exact ⟨0, _, _, Nat.zero_le _, rfl, ho, hb1⟩
  case round =>
    obtain ⟨k, A, H, hk, rfl, hok, hbk⟩ := hrel
    by_cases hlt : k < N
    · obtain ⟨b, off, rfl, hblt, hc⟩ := hlies.resolve_left (by omega)
      obtain ⟨da, dc, ea, er⟩ := hc k hlt
      have a0 := (hbk.cell (p := ⟨b, off + k, none⟩) hblt).trans ea
      have erk := er.keep hbk
      have hle := totR_le (R := R) (M := M) hlt
      clear hc hlies ho ea er
      have hmk : M k ≤ 1048576 := by omega
      have hzk : ESize (M k) (R k) := tot_size (by omega)
      go_wp2_with fail
      refine (toLA _ (M k) _ (R k) _ erk hmk hzk).mono ?_
      rintro e w2 ⟨rfl, hla, hb2⟩
      have hok2 := hok.keep hb2
      obtain ⟨v0, hv0⟩ := Option.isSome_iff_exists.1 (hok2.there k hlt)
      have hf0 := hok2.free k hlt
      have hst := hok2.store hlt hla hok.lt (fun i hi => (hok.la i hi).lt.2)
      have hbw : Below w.heap.size w w2 := hbk.trans (hb2.mono hbk.size)
      have hbs := hbw.setCell (p := ⟨w.heap.size, k, none⟩) (Nat.le_refl _) (.slice (some ⟨wr.heap.size, 0, none⟩) (M k) (M k))
      clear hok hok2 hla hb2 erk
      go_wp2
      go_roundw
      case rel => exact ⟨k + 1, _, _, by omega, by go_num, hst, hbs⟩
      case measure => simp [intOf]; omega
    · go_wp2
      go_ret
      have e : k = N := by omega
      subst e
      exact ⟨rfl, ⟨A, H, hok, hok.lt, Nat.le_refl _, fun i hi => (hok.la i hi).lt.2⟩, hbk⟩

set_option maxHeartbeats 1600000 in
theorem eqEntrySS_same (ao bo : Option Addr) (N ca cb : Nat) (R : Nat → Nat → Ent) (M : Nat → Nat) (w : World) (hr : RRow w ao N R M) (hs : RRow w bo N R M) (ht : N + totR R M N ≤ 1048576) :
    Calls Try.prog 12 #[.slice ao N ca, .slice bo N cb] w fun e w' => e = .returned (.bool true) ∧ Below w.heap.size w w' := by
  obtain ⟨_, _, hl⟩ := hr
  obtain ⟨_, _, hm⟩ := hs
  go_enter Try.func12, Try.ntmps12
  go_wp2
  go_loopw [5] (fun i wr => ∃ k : Nat, k ≤ N ∧ i = .int .i64 k ∧ Below w.heap.size w wr) (fun i _ => N - (intOf i).toNat)
  case atStart => exact ⟨0, Nat.zero_le _, rfl, Below.refl _ _⟩
  case round =>
    obtain ⟨k, hk, rfl, hbk⟩ := hrel
    by_cases hlt : k < N
    · obtain ⟨b, off, rfl, hblt, hc⟩ := hl.resolve_left (by omega)
      obtain ⟨b', off', rfl, hblt', hc'⟩ := hm.resolve_left (by omega)
      obtain ⟨da, dc, ea, ia⟩ := hc k hlt
      obtain ⟨db, ec, eb, ib⟩ := hc' k hlt
      have hle := totR_le (R := R) (M := M) hlt
      have hmk : M k ≤ 1048576 := by omega
      have hzk : ESize (M k) (R k) := tot_size (by omega)
      have a0 := (hbk.cell (p := ⟨b, off + k, none⟩) hblt).trans ea
      have b0 := (hbk.cell (p := ⟨b', off' + k, none⟩) hblt').trans eb
      have r1 := (ia.keep hbk).keep (Below.refl _ _).drew
      have r2 := (ib.keep hbk).keep (Below.refl _ _).drew
      have g1 : b < wr.heap.size := Nat.lt_of_lt_of_le hblt hbk.size
      have g2 : b' < wr.heap.size := Nat.lt_of_lt_of_le hblt' hbk.size
      clear hc hc' hl hm ea eb ia ib
      go_wp2
      go_region_held3 (fun w' => w'.cell? ⟨b, off + k, none⟩ = some (.slice da (M k) dc) ∧ w'.cell? ⟨b', off' + k, none⟩ = some (.slice db (M k) ec)) (go_keep) (first | (go_at_call 11; refine (eqEntryS_same _ _ (M k) _ _ (R k) _ r1 r2 hmk hzk).mono ?_; rintro e w6 ⟨rfl, hb6⟩; have hb6' := (Below.refl _ wr).drew.trans hb6; have p0 := (hb6'.cell (p := ⟨b, off + k, none⟩) g1).trans a0; have q0 := (hb6'.cell (p := ⟨b', off' + k, none⟩) g2).trans b0; have bw6 := hbk.trans (hb6'.mono hbk.size); clear hb6 hb6'))
      go_wp2
      go_roundw
      case rel => exact ⟨k + 1, by omega, by go_num, bw6⟩
      case measure => simp [intOf]; omega
    · go_wp2
      go_ret
      exact ⟨rfl, hbk⟩

/-- The mark behind k rows. -/
def kOfR (R : Nat → Nat → Ent) (M : Nat → Nat) (k0 : Nat) : Nat → Nat
  | 0 => k0
  | i + 1 => kOf (R i) (kOfR R M k0 i) (M i)
theorem kOf_le (X : Nat → Ent) (k0 : Nat) : ∀ n, k0 ≤ kOf X k0 n ∧ kOf X k0 n ≤ k0 + 8 * n + tot X n
  | 0 => by simp [kOf, tot]
  | n + 1 => by
    have := kOf_le X k0 n
    unfold kOf tot
    omega
theorem kOfR_le (R : Nat → Nat → Ent) (M : Nat → Nat) (k0 : Nat) : ∀ N, k0 ≤ kOfR R M k0 N ∧ kOfR R M k0 N ≤ k0 + 8 * totR R M N
  | 0 => by simp [kOfR, totR]
  | N + 1 => by
    have h1 := kOfR_le R M k0 N
    have h2 := kOf_le (R N) (kOfR R M k0 N) (M N)
    unfold kOfR totR
    omega
theorem kOfR_tot (R : Nat → Nat → Ent) (M : Nat → Nat) (N : Nat) : kOfR R M 1 N ≤ 1 + 8 * totR R M N := (kOfR_le R M 1 N).2
theorem totR_mono {R : Nat → Nat → Ent} {M : Nat → Nat} : ∀ {N i : Nat}, i ≤ N → totR R M i ≤ totR R M N
  | 0, i, h => by obtain rfl : i = 0 := by omega
                  exact Nat.le_refl _
  | N + 1, i, h => by
    rcases Nat.lt_or_ge i (N + 1) with h1 | h1
    · have := totR_mono (R := R) (M := M) (show i ≤ N by omega)
      exact Nat.le_trans this (Nat.le_add_right _ _)
    · obtain rfl : i = N + 1 := by omega
      exact Nat.le_refl _

set_option maxHeartbeats 1600000 in
theorem markRA (lo hi N k0 : Nat) (R : Nat → Nat → Ent) (M : Nat → Nat) (w : World) (h : RA w lo hi N R M) (hk0 : k0 = 1) (ht : N + totR R M N ≤ 1048576) (hbd : kOfR R M k0 N ≤ 16000000) :
    Calls Try.prog 13 #[.slice (some ⟨lo, 0, none⟩) N N, .int .i64 k0] w fun e w' => e = .returned (.int .i64 (kOfR R M k0 N : Int)) ∧ Rng lo hi w w' := by
  obtain ⟨A, H, h, h1, h2, h3⟩ := h
  go_enter Try.func13, Try.ntmps13
  go_wp2
  go_loopw [1, 5] (fun q i wr => ∃ k : Nat, k ≤ N ∧ i = .int .i64 k ∧ q = .int .i64 (kOfR R M k0 k : Int) ∧ Hid (∀ i, k ≤ i → i < N → LA wr (A i) (H i) (M i) (R i)) ∧ wr.heap[lo]? = w.heap[lo]? ∧ Rng lo hi w wr) (fun _ i _ => N - (intOf i).toNat)
  case atStart => exact ⟨0, Nat.zero_le _, rfl, rfl, fun i _ hi => h.la i hi, rfl, Rng.refl _ _ _⟩
  case round =>
    obtain ⟨k, hk, rfl, rfl, HL, hblk, hrg⟩ := hrel
    by_cases hlt : k < N
    · have a0 := (World.cell?_of_block (w := w) (a := ⟨lo, k, none⟩) hblk).trans (h.cell k hlt)
      have hlk := HL.out k (Nat.le_refl _) hlt
      have hle := totR_le (R := R) (M := M) hlt
      have hmk : M k ≤ 1048576 := by omega
      have hzk : ESize (M k) (R k) := tot_size (by omega)
      have hkl := kOfR_le R M k0 k
      have hkm := (kOf_le (R k) (kOfR R M k0 k) (M k)).2
      have htk : totR R M (k + 1) ≤ totR R M N := totR_mono (by omega)
      have hkk : kOf (R k) (kOfR R M k0 k) (M k) ≤ 16000000 := by
        have : totR R M (k + 1) = totR R M k + (M k + tot (R k) (M k)) := rfl
        omega
      have hmark := markLA (A k) (H k) (M k) (kOfR R M k0 k) (R k) wr hlk (by omega) (fun i hi => (hzk i hi).2) hmk hkk
      have ek : kOfR R M k0 (k + 1) = kOf (R k) (kOfR R M k0 k) (M k) := rfl
      have HK : Hid ((kOf (R k) (kOfR R M k0 k) (M k) : Int) = (kOfR R M k0 (k + 1) : Int)) := by rw [ek]; rfl
      generalize ((kOf (R k) (kOfR R M k0 k) (M k) : Nat) : Int) = kk at hmark HK
      generalize ((kOfR R M k0 k : Nat) : Int) = k1 at hmark ⊢
      clear hkl hkm htk hkk ek hle
      go_wp2_with fail
      refine hmark.mono ?_
      rintro e w2 ⟨rfl, hr2⟩
      have ho := h.ord k hlt
      have hb2 : w2.heap[lo]? = w.heap[lo]? := (hr2.block lo (by have := h.lt; have := hrg.size; omega) (.inl ho)).trans hblk
      have hr3 : Rng lo hi w w2 := hrg.trans ⟨hr2.os, hr2.tape, hr2.output, hr2.size, fun c hc hd => hr2.block c hc (by have := h3 k hlt; omega)⟩
      have HL2 : Hid (∀ i, k + 1 ≤ i → i < N → LA w2 (A i) (H i) (M i) (R i)) := fun i hi1 hi2 => by
        have g1 := HL.out i (by omega) hi2
        have g2 := h.mono k i (by omega) hi2
        exact g1.same hr2.size (fun c hc1 hc2 => hr2.block c (by have := g1.lt.2; omega) (.inr (by omega)))
      clear HL hblk hlk hmark
      go_wp2
      go_roundw
      case rel => exact ⟨k + 1, by omega, by go_num, by rw [HK.out], HL2, hb2, hr3⟩
      case measure => simp [intOf]; omega
    · obtain rfl : k = N := by omega
      clear HL
      go_wp2
      go_ret
      exact ⟨rfl, hrg⟩
end Go.Proofs.Ytfdbhkjmkpgomaa
