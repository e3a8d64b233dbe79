/- Rows of edits: measured, copied, compared, marked. -/
import Derived.Test.YtofdhgffnkhdfaaCeA
import Derived.Laws.IdiomCopy
import Derived.Deep.RegionHeld3
namespace Go.Proofs.Ytofdhgffnkhdfaa
open Go.RowKit
set_option linter.unusedSimpArgs false
set_option linter.unusedVariables false

/-- What an edit holds. -/
structure Edt where
  nx : Int
  lg : Int
  sq : Int
  D : List Int
  A : List Adm
theorem Try.infoEd : (Try.prog.info? 45).map (fun i => (i.zero, i.size, i.bytes)) = some (some (.agg #[.int .i64 0, .int .i64 0, .int .i64 0, .slice none 0 0, .slice none 0 0]), 5, 72) := by kernel_rfl
/-- An edit in the five cells from off on. -/
structure EdAt (w : World) (b off : Nat) (x : Edt) (da aa : Option Addr) (cd ca : Nat) : Prop where
  lt : b < w.heap.size
  c0 : w.cell? ⟨b, off, none⟩ = some (.int .i64 x.nx)
  c1 : w.cell? ⟨b, off + 1, none⟩ = some (.int .i64 x.lg)
  c2 : w.cell? ⟨b, off + 2, none⟩ = some (.int .i64 x.sq)
  c3 : w.cell? ⟨b, off + 3, none⟩ = some (.slice da x.D.length cd)
  c4 : w.cell? ⟨b, off + 4, none⟩ = some (.slice aa x.A.length ca)
theorem EdAt.move {w w' : World} {b off : Nat} {x : Edt} {da aa : Option Addr} {cd ca : Nat} (h : EdAt w b off x da aa cd ca) (lt : b < w'.heap.size) (k : ∀ j, w'.cell? ⟨b, j, none⟩ = w.cell? ⟨b, j, none⟩) : EdAt w' b off x da aa cd ca :=
  ⟨lt, (k _).trans h.c0, (k _).trans h.c1, (k _).trans h.c2, (k _).trans h.c3, (k _).trans h.c4⟩
theorem EdAt.keep {w w' : World} {b off : Nat} {x : Edt} {da aa : Option Addr} {cd ca : Nat} (h : EdAt w b off x da aa cd ca) (hb : Below w.heap.size w w') : EdAt w' b off x da aa cd ca :=
  h.move (Nat.lt_of_lt_of_le h.lt hb.size) fun j => hb.cell (p := ⟨b, j, none⟩) h.lt
/-- n of them lie at ao; where c is asked, the lists' room is told. -/
structure EdRow (c : Bool) (w : World) (ao : Option Addr) (n : Nat) (E : Nat → Edt) : Prop where
  bd : ∀ i, i < n → (E i).D.length ≤ 9223372036854775807 ∧ (E i).A.length ≤ 9223372036854775807
  lies : n = 0 ∨ ∃ b off, ao = some ⟨b, off, none⟩ ∧ b < w.heap.size ∧ ∀ i, i < n → ∃ da aa cd ca, EdAt w b (off + i * 5) (E i) da aa cd ca ∧ IRow w da (E i).D.length (fi (E i).D) ∧ DRow w aa (E i).A.length (dL (E i).A) ∧ (c = true → (E i).D.length ≤ cd)
theorem EdRow.keep {c : Bool} {w w' : World} {ao : Option Addr} {n : Nat} {E : Nat → Edt} (h : EdRow c w ao n E) (hb : Below w.heap.size w w') : EdRow c w' ao n E :=
  ⟨h.bd, h.lies.elim .inl fun ⟨b, off, e, hlt, hc⟩ => .inr ⟨b, off, e, Nat.lt_of_lt_of_le hlt hb.size, fun i hi => by obtain ⟨da, aa, cd, ca, h1, r0, r1, h2⟩ := hc i hi; exact ⟨da, aa, cd, ca, h1.keep hb, r0.keep hb, r1.keep hb, h2⟩⟩⟩
/-- How much the first k bear. -/
def etot (E : Nat → Edt) : Nat → Nat
  | 0 => 0
  | k + 1 => etot E k + ((E k).D.length + (E k).A.length)
theorem etot_mono (E : Nat → Edt) : ∀ {i j : Nat}, i ≤ j → etot E i ≤ etot E j
  | i, 0, h => by obtain rfl : i = 0 := (by omega); exact Nat.le_refl _
  | i, j + 1, h => by
    by_cases e : i = j + 1
    · subst e; exact Nat.le_refl _
    · have := etot_mono E (show i ≤ j by omega)
      show _ ≤ etot E j + _
      omega
theorem etot_le (E : Nat → Edt) {n i : Nat} (h : i < n) : (E i).D.length + (E i).A.length ≤ etot E n := by
  have := etot_mono E (show i + 1 ≤ n by omega)
  have e : etot E (i + 1) = etot E i + ((E i).D.length + (E i).A.length) := rfl
  omega
/-- The next mark behind the first k. -/
def kOE (E : Nat → Edt) (k0 : Nat) : Nat → Nat
  | 0 => k0
  | k + 1 => kOE E k0 k + 3 + (E k).D.length + 5 * (E k).A.length
theorem kOE_le (E : Nat → Edt) (k0 : Nat) : ∀ k, kOE E k0 k ≤ k0 + 5 * (k + etot E k)
  | 0 => Nat.le_add_right _ _
  | k + 1 => by
    have h1 := kOE_le E k0 k
    show kOE E k0 k + 3 + _ + _ ≤ k0 + 5 * (k + 1 + (etot E k + _))
    omega
theorem kOE_ge (E : Nat → Edt) (k0 : Nat) : ∀ k, k0 ≤ kOE E k0 k
  | 0 => Nat.le_refl _
  | k + 1 => by have := kOE_ge E k0 k; show k0 ≤ kOE E k0 k + 3 + _ + _; omega

set_option maxHeartbeats 1600000 in
theorem szEditS_any (ao : Option Addr) (n cap : Nat) (E : Nat → Edt) (w : World) (hr : EdRow false w ao n E) (hn : n ≤ 9223372036854775807) :
    Calls Try.prog 4 #[.slice ao n cap, .int .i64 1048576] w fun e w' => ∃ v : Int, e = .returned (.int .i64 v) ∧ -1 ≤ v ∧ v ≤ 1048576 ∧ (0 ≤ v → n + etot E n ≤ 1048576) ∧ Below w.heap.size w w' := by
  obtain ⟨hbd, hlies⟩ := hr
  have hw : IntKind.i64.wrap (1048576 - (n : Int)) = 1048576 - (n : Int) := by rw [IntKind.wrap_i64] <;> omega
  by_cases h1 : 1048576 - (n : Int) < 0
  · go_enter Try.func4, Try.ntmps4
    go_wp2
    go_ret
    exact ⟨-1, rfl, by omega, by omega, fun h => by omega, Below.refl _ _⟩
  · go_enter Try.func4, Try.ntmps4
    go_wp2
    go_loopw [1, 5] (fun q i wr => ∃ (k : Nat) (l : Int), k ≤ n ∧ i = .int .i64 k ∧ q = .int .i64 l ∧ 0 ≤ l ∧ l + ((n + etot E k : Nat) : Int) ≤ 1048576 ∧ Below w.heap.size w wr) (fun _ i _ => n - (intOf i).toNat)
    case atStart => exact ⟨0, _, Nat.zero_le _, rfl, rfl, by omega, by simp [etot], Below.refl _ _⟩
    case round =>
      obtain ⟨k, l, hk, rfl, rfl, hl0, hl1, hbk⟩ := hrel
      by_cases hlt : k < n
      · obtain ⟨b, off, rfl, hblt, hc⟩ := hlies.resolve_left (by omega)
        obtain ⟨da, aa, cd, ca, ea, r0, r1, _⟩ := hc k hlt
        obtain ⟨_, d0, d1, d2, d3, d4⟩ := ea.keep hbk
        have hE := hbd k hlt
        have r1 := r1.keep hbk
        have es : etot E (k + 1) = etot E k + ((E k).D.length + (E k).A.length) := rfl
        have ES : Hid (etot E (k + 1) = etot E k + ((E k).D.length + (E k).A.length)) := es
        clear hc hlies ea es
        go_wp2_with fail
        refine (szEdit_ex (E k).nx (E k).lg (E k).sq da (E k).D.length cd aa (E k).A.length ca (dL (E k).A) l _ r1 (by omega) hE.1 hE.2).mono ?_
        rintro e w2 ⟨v, rfl, hv1, hv3, hb2⟩
        have hbw := hbk.trans (hb2.mono hbk.size)
        by_cases hv : v < 0
        · clear hv3
          go_wp2
          go_ret
          exact ⟨-1, rfl, by omega, by omega, fun h => by omega, hbw⟩
        · have hq := hv3 (by omega)
          have hle : v + ((n + etot E (k + 1) : Nat) : Int) ≤ 1048576 := by have := ES.out; omega
          clear hv3 hq
          go_wp2
          go_roundw
          case rel => exact ⟨k + 1, v, by omega, by go_num, rfl, by omega, hle, hbw⟩
          case measure => simp [intOf]; omega
      · have e : k = n := by omega
        subst e
        go_wp2
        go_ret
        exact ⟨l, rfl, by omega, by omega, fun _ => by omega, hbk⟩

/-- n of the call's own in block b, the first k of them laid, their lists in blocks of their own behind it. -/
structure EdOwn (w : World) (b n k : Nat) (E : Nat → Edt) (G0 G1 H : Nat → Nat) : Prop where
  lt : b < w.heap.size
  ent : ∀ i, i < k → EdAt w b (i * 5) (E i) (some ⟨G0 i, 0, none⟩) (some ⟨G1 i, 0, none⟩) (E i).D.length (E i).A.length
  data : ∀ i, i < k → EA w (H i) (H (i + 1)) (some ⟨G0 i, 0, none⟩) (E i).D.length (fi (E i).D) (some ⟨G1 i, 0, none⟩) (E i).A.length (dL (E i).A)
  h0 : b < H 0
  mono : ∀ i, i < k → H i ≤ H (i + 1)
  top : H k ≤ w.heap.size
  there : ∀ j, j < n * 5 → (w.cell? ⟨b, j, none⟩).isSome = true
  free : ∀ j, j < n * 5 → w.frozen? ⟨b, j, none⟩ = false
theorem hmono {H : Nat → Nat} {k : Nat} (h : ∀ i, i < k → H i ≤ H (i + 1)) : ∀ {i j : Nat}, i ≤ j → j ≤ k → H i ≤ H j
  | i, 0, hij, _ => by obtain rfl : i = 0 := (by omega); exact Nat.le_refl _
  | i, j + 1, hij, hj => by
    by_cases e : i = j + 1
    · subst e; exact Nat.le_refl _
    · exact Nat.le_trans (hmono h (show i ≤ j by omega) (by omega)) (h j (by omega))
section
variable {w w' : World} {b n k : Nat} {E : Nat → Edt} {G0 G1 H : Nat → Nat}
theorem EdOwn.row (h : EdOwn w b n n E G0 G1 H) (hbd : ∀ i, i < n → (E i).D.length ≤ 9223372036854775807 ∧ (E i).A.length ≤ 9223372036854775807) (hdb : ∀ i, i < n → ∀ j, j < (E i).A.length → DB (dL (E i).A j)) (c : Bool) : EdRow c w (some ⟨b, 0, none⟩) n E :=
  ⟨hbd, .inr ⟨b, 0, rfl, h.lt, fun i hi => ⟨_, _, _, _, by rw [Nat.zero_add]; exact h.ent i hi, (h.data i hi).irow, (h.data i hi).drow (hdb i hi), fun _ => Nat.le_refl _⟩⟩⟩
theorem EdOwn.keep (h : EdOwn w b n k E G0 G1 H) (hb : Below w.heap.size w w') : EdOwn w' b n k E G0 G1 H :=
  ⟨Nat.lt_of_lt_of_le h.lt hb.size, fun i hi => (h.ent i hi).keep hb, fun i hi => (h.data i hi).keep hb, h.h0, h.mono, Nat.le_trans h.top hb.size,
    fun j hj => by rw [hb.cell (p := ⟨b, j, none⟩) h.lt]; exact h.there j hj, fun j hj => (hb.frozen (p := ⟨b, j, none⟩) h.lt).trans (h.free j hj)⟩
end
set_option maxRecDepth 10000 in
set_option maxHeartbeats 800000 in
theorem EdOwn.store {w : World} {b n k : Nat} {E : Nat → Edt} {G0 G1 H : Nat → Nat} (h : EdOwn w b n k E G0 G1 H) (hk : k < n) {g0 g1 : Nat} (hd : EA w (H k) w.heap.size (some ⟨g0, 0, none⟩) (E k).D.length (fi (E k).D) (some ⟨g1, 0, none⟩) (E k).A.length (dL (E k).A)) :
    EdOwn (w.setCells b (k * 5) [.int .i64 (E k).nx, .int .i64 (E k).lg, .int .i64 (E k).sq, .slice (some ⟨g0, 0, none⟩) (E k).D.length (E k).D.length, .slice (some ⟨g1, 0, none⟩) (E k).A.length (E k).A.length]) b n (k + 1) E (fun i => if i = k then g0 else G0 i) (fun i => if i = k then g1 else G1 i) (fun i => if i = k + 1 then w.heap.size else H i) := by
  generalize hL : ([.int .i64 (E k).nx, .int .i64 (E k).lg, .int .i64 (E k).sq, .slice (some ⟨g0, 0, none⟩) (E k).D.length (E k).D.length, .slice (some ⟨g1, 0, none⟩) (E k).A.length (E k).A.length] : List Value) = L
  have hlen : L.length = 5 := by rw [← hL]; rfl
  have hoth := setCells_others b L (k * 5) w
  have hin := World.cell?_setCells_in b L (k * 5) w (fun j hj => h.there _ (by omega))
  have hout : ∀ j, j < k * 5 ∨ k * 5 + 5 ≤ j → (w.setCells b (k * 5) L).cell? ⟨b, j, none⟩ = w.cell? ⟨b, j, none⟩ := fun j hj => World.cell?_setCells_out b L (k * 5) w ⟨b, j, none⟩ (fun _ _ => by simp only [hlen]; exact hj)
  have hlt : b < (w.setCells b (k * 5) L).heap.size := by rw [hoth.size]; exact h.lt
  have bl : ∀ i, i ≤ k → b < H i := fun i hi => Nat.lt_of_lt_of_le h.h0 (hmono h.mono (Nat.zero_le i) hi)
  refine ⟨hlt, fun i hi => ?_, fun i hi => ?_, ?_, fun i hi => ?_, ?_, fun j hj => ?_, fun j hj => by rw [World.frozen?_setCells]; exact h.free j hj⟩
  · by_cases e : i = k
    · subst e
      simp only [if_true]
      subst hL
      exact ⟨hlt, hin 0 (by simp), hin 1 (by simp), hin 2 (by simp), hin 3 (by simp), hin 4 (by simp)⟩
    · simp only [e, if_false]
      have h0 := h.ent i (by omega)
      have c : ∀ q, q < 5 → (w.setCells b (k * 5) L).cell? ⟨b, i * 5 + q, none⟩ = w.cell? ⟨b, i * 5 + q, none⟩ := fun q hq => hout _ (by omega)
      exact ⟨hlt, (c 0 (by omega)).trans h0.c0, (c 1 (by omega)).trans h0.c1, (c 2 (by omega)).trans h0.c2, (c 3 (by omega)).trans h0.c3, (c 4 (by omega)).trans h0.c4⟩
  · by_cases e : i = k
    · subst e
      simp only [if_true, show ¬ i = i + 1 by omega, if_false]
      exact hd.same (by rw [hoth.size]; exact Nat.le_refl _) (fun c h1 h2 => hoth.block c (by have := bl i (Nat.le_refl _); omega))
    · simp only [e, show ¬ i = k + 1 by omega, show ¬ i + 1 = k + 1 by omega, if_false]
      exact (h.data i (by omega)).same (by rw [hoth.size]; exact Nat.le_refl _) (fun c h1 h2 => hoth.block c (by have := bl i (by omega); omega))
  · simp only [show ¬ 0 = k + 1 by omega, if_false]
    exact h.h0
  · by_cases e : i = k
    · subst e
      simp only [if_true, show ¬ i = i + 1 by omega, if_false]
      exact h.top
    · simp only [show ¬ i = k + 1 by omega, show ¬ i + 1 = k + 1 by omega, if_false]
      exact h.mono i (by omega)
  · simp only [if_true]
    rw [hoth.size]
    exact Nat.le_refl _
  · by_cases hj2 : j < k * 5 ∨ k * 5 + 5 ≤ j
    · rw [hout j hj2]; exact h.there j hj
    · obtain ⟨q, rfl⟩ : ∃ q, j = k * 5 + q := ⟨j - k * 5, by omega⟩
      rw [hin q (by omega)]
      rfl

/-- Each is no greater than what is measured. -/
def EdSize (n : Nat) (E : Nat → Edt) : Prop := ∀ i, i < n → (E i).D.length ≤ 1048576 ∧ (E i).A.length ≤ 1048576
theorem edSize_of {n : Nat} {E : Nat → Edt} (h : n + etot E n ≤ 1048576) : EdSize n E := fun i hi => by have := etot_le E hi; omega
set_option maxRecDepth 10000 in
set_option maxHeartbeats 3200000 in
theorem toEditS_any (ao : Option Addr) (n cap : Nat) (E : Nat → Edt) (w : World) (hr : EdRow false w ao n E) (hn : n ≤ 1048576) (hz : EdSize n E) :
    Calls Try.prog 6 #[.slice ao n cap] w fun e w' => ∃ G0 G1 H, e = .returned (.slice (some ⟨w.heap.size, 0, none⟩) n n) ∧ EdOwn w' w.heap.size n n E G0 G1 H ∧ Below w.heap.size w w' := by
  obtain ⟨i0, hi, hz0, hz1, hz2⟩ := info_parts Try.infoEd
  obtain ⟨hbd, hlies⟩ := hr
  go_enter Try.func6, Try.ntmps6
  go_wp2_with (at_make; refine wpList_make_full _ rfl (.tmp 6) (.tmp 6) 29 rfl w.heap.size 45 i0 (.agg #[.int .i64 0, .int .i64 0, .int .i64 0, .slice none 0 0, .slice none 0 0]) 5 Try.underlying29 hi hz0 hz1 .i64 .i64 _ _ n rfl rfl rfl rfl (by rw [hz2]; omega) (by unfold maxLen; omega) (Nat.le_refl _) ?_; intro w1 hown hgrow)
  have hb1 : Below w.heap.size w w1 := (Below.refl _ _).grown hgrow (Nat.le_refl _) (fun k h => by simp at h)
  have hlt1 : w.heap.size < w1.heap.size := by
    rcases hown.2 with ⟨h, _⟩ | ⟨g', cap', cur, h, _, hg, _⟩
    · simp at h
    · simp at h; obtain ⟨rfl, _⟩ := h
      exact (Array.getElem?_eq_some_iff.1 hg).1
  have ho : EdOwn w1 w.heap.size n 0 E (fun _ => 0) (fun _ => 0) (fun _ => w1.heap.size) := by
    refine ⟨hlt1, fun i h => by omega, fun i h => by omega, hlt1, fun i h => by omega, Nat.le_refl _, fun j hj => ?_, fun j _ => hown.frozenAt j⟩
    have h1 := hown.cellAt j hj
    have h2 : j < (madeCells (Value.agg #[.int .i64 0, .int .i64 0, .int .i64 0, .slice none 0 0, .slice none 0 0]).cells (n * 5)).toList.length := by
      rw [Array.length_toList, size_madeCells]; exact hj
    rw [h1.trans (List.getElem?_eq_getElem h2)]
    rfl
  clear hown hgrow
  go_loopw [4] (fun i wr => ∃ (k : Nat) (G0 G1 H : Nat → Nat), k ≤ n ∧ i = .int .i64 k ∧ EdOwn wr w.heap.size n k E G0 G1 H ∧ Below w.heap.size w wr) (fun i _ => n - (intOf i).toNat)
  case atStart => exact ⟨0, _, _, _, Nat.zero_le _, rfl, ho, hb1⟩
  case round =>
    obtain ⟨k, G0, G1, H, hk, rfl, hok, hbk⟩ := hrel
    by_cases hlt : k < n
    · obtain ⟨b, off, rfl, hblt, hc⟩ := hlies.resolve_left (by omega)
      obtain ⟨da, aa, cd, ca, ea, r0, r1, _⟩ := hc k hlt
      obtain ⟨_, d0, d1, d2, d3, d4⟩ := ea.keep hbk
      have r0 := r0.keep hbk
      have r1 := r1.keep hbk
      have hS := hz k hlt
      clear hc hlies ho ea
      go_wp2_with fail
      refine (toEdit_any (E k).nx (E k).lg (E k).sq da (E k).D.length cd (fi (E k).D) aa (E k).A.length ca (dL (E k).A) _ r0 r1 hS.1 hS.2).mono ?_
      rintro e w2 ⟨g0, g1, rfl, hEA, _, hb2⟩
      have hok2 := hok.keep hb2
      obtain ⟨v0, hv0⟩ := Option.isSome_iff_exists.1 (hok2.there (k * 5) (by omega))
      have hf0 := hok2.free (k * 5) (by omega)
      obtain ⟨v1, hv1⟩ := Option.isSome_iff_exists.1 (hok2.there (k * 5 + 1) (by omega))
      have hf1 := hok2.free (k * 5 + 1) (by omega)
      obtain ⟨v2, hv2⟩ := Option.isSome_iff_exists.1 (hok2.there (k * 5 + 2) (by omega))
      have hf2 := hok2.free (k * 5 + 2) (by omega)
      obtain ⟨v3, hv3⟩ := Option.isSome_iff_exists.1 (hok2.there (k * 5 + 3) (by omega))
      have hf3 := hok2.free (k * 5 + 3) (by omega)
      obtain ⟨v4, hv4⟩ := Option.isSome_iff_exists.1 (hok2.there (k * 5 + 4) (by omega))
      have hf4 := hok2.free (k * 5 + 4) (by omega)
      have hst := hok2.store hlt (hEA.mono hok.top (Nat.le_refl _) (Nat.le_refl _))
      have hbw : Below w.heap.size w w2 := hbk.trans (hb2.mono hbk.size)
      have hbs : Below w.heap.size w (w2.setCells w.heap.size (k * 5) [.int .i64 (E k).nx, .int .i64 (E k).lg, .int .i64 (E k).sq, .slice (some ⟨g0, 0, none⟩) (E k).D.length (E k).D.length, .slice (some ⟨g1, 0, none⟩) (E k).A.length (E k).A.length]) := hbw.trans ((setCells_others _ _ _ _).below (Nat.le_refl _))
      clear hok hok2 hEA hb2 r0 r1
      go_wp2
      go_roundw
      case rel => exact ⟨k + 1, _, _, _, by omega, by go_num, hst, hbs⟩
      case measure => simp [intOf]; omega
    · go_wp2
      go_ret
      have e : k = n := by omega
      subst e
      first | exact ⟨G0, G1, H, rfl, hok, hbk⟩ | exact ⟨rfl, ⟨G0, G1, H, hok⟩, hbk⟩

set_option maxHeartbeats 3200000 in
theorem eqEditS_same (ao bo : Option Addr) (n ca cb : Nat) (E : Nat → Edt) (w : World) (hr : EdRow false w ao n E) (hs : EdRow false w bo n E) (hn : n ≤ 1048576) (hz : EdSize n E) :
    Calls Try.prog 9 #[.slice ao n ca, .slice bo n cb] w fun e w' => e = .returned (.bool true) ∧ Below w.heap.size w w' := by
  obtain ⟨_, hl⟩ := hr
  obtain ⟨_, hm⟩ := hs
  go_enter Try.func9, Try.ntmps9
  go_wp2
  go_loopw [5] (fun i wr => ∃ k : Nat, k ≤ n ∧ i = .int .i64 k ∧ Below w.heap.size w wr) (fun i _ => n - (intOf i).toNat)
  case atStart => exact ⟨0, Nat.zero_le _, rfl, Below.refl _ _⟩
  case round =>
    obtain ⟨k, hk, rfl, hbk⟩ := hrel
    by_cases hlt : k < n
    · obtain ⟨b, off, rfl, hblt, hc⟩ := hl.resolve_left (by omega)
      obtain ⟨b', off', rfl, hblt', hc'⟩ := hm.resolve_left (by omega)
      obtain ⟨a0, a1, c0, c1, ea, r0, r1, _⟩ := hc k hlt
      obtain ⟨e0, e1, h0, h1, eb, s0, s1, _⟩ := hc' k hlt
      have hS := hz k hlt
      have ea1 := ea.keep hbk
      have eb1 := eb.keep hbk
      obtain ⟨_, d0, d1, d2, d3, d4⟩ := id ea1
      obtain ⟨_, t0, t1, t2, t3, t4⟩ := id eb1
      have r0 := (r0.keep hbk).keep (Below.refl _ _).drew
      have s0 := (s0.keep hbk).keep (Below.refl _ _).drew
      have r1 := (r1.keep hbk).keep (Below.refl _ _).drew
      have s1 := (s1.keep hbk).keep (Below.refl _ _).drew
      clear hc hc' hl hm ea eb
      go_wp2
      go_region_held3 (fun w' => w'.cell? ⟨b, off + k * 5, none⟩ = some (.int .i64 (E k).nx) ∧ w'.cell? ⟨b, off + k * 5 + 1, none⟩ = some (.int .i64 (E k).lg) ∧ w'.cell? ⟨b, off + k * 5 + 2, none⟩ = some (.int .i64 (E k).sq) ∧ w'.cell? ⟨b, off + k * 5 + 3, none⟩ = some (.slice a0 (E k).D.length c0) ∧ w'.cell? ⟨b, off + k * 5 + 4, none⟩ = some (.slice a1 (E k).A.length c1) ∧ w'.cell? ⟨b', off' + k * 5, none⟩ = some (.int .i64 (E k).nx) ∧ w'.cell? ⟨b', off' + k * 5 + 1, none⟩ = some (.int .i64 (E k).lg) ∧ w'.cell? ⟨b', off' + k * 5 + 2, none⟩ = some (.int .i64 (E k).sq) ∧ w'.cell? ⟨b', off' + k * 5 + 3, none⟩ = some (.slice e0 (E k).D.length h0) ∧ w'.cell? ⟨b', off' + k * 5 + 4, none⟩ = some (.slice e1 (E k).A.length h1)) (go_keep) (first | (go_at_call 19; refine (eqEdit_same (E k).nx (E k).lg (E k).sq a0 e0 (E k).D.length c0 h0 (fi (E k).D) a1 e1 (E k).A.length c1 h1 (dL (E k).A) _ r0 s0 r1 s1 hS.1 hS.2).mono ?_; rintro e w6 ⟨rfl, q6⟩; have q6' := (Below.refl _ wr).drew.trans q6; have bw6 := hbk.trans (q6'.mono hbk.size); obtain ⟨_, p0, p1, p2, p3, p4⟩ := ea1.keep q6'; obtain ⟨_, y0, y1, y2, y3, y4⟩ := eb1.keep q6'; clear q6 q6'))
      go_wp2
      go_roundw
      case rel => exact ⟨k + 1, by omega, by go_num, bw6⟩
      case measure => simp [intOf]; omega
    · go_wp2
      go_ret
      exact ⟨rfl, hbk⟩
end Go.Proofs.Ytofdhgffnkhdfaa
