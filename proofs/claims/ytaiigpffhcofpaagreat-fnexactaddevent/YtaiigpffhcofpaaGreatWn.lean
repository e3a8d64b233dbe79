/- Tags and keys copied by the laws. / The laws' own measure of a key, and two keys compared. / Windows: where they lie, measured, copied, compared. -/
import Derived.Test.YtaiigpffhcofpaaGreatTags
namespace Go.Proofs.YtaiigpffhcofpaaGreat
set_option maxRecDepth 100000
open Go.RowKit
set_option linter.unusedSimpArgs false
set_option linter.unusedVariables false

theorem Tryz.info69 : (Tryz.prog.info? 84).map (fun i => (i.zero, i.size, i.bytes)) = some (some (.agg #[.string ByteArray.empty, .string ByteArray.empty]), 2, 32) := by kernel_rfl

theorem toTag_any (a b : ByteArray) (w : World) :
    Calls Tryz.prog 45 #[.agg #[.string a, .string b]] w fun e w' => e = .returned (.agg #[.string a, .string b]) ∧ Below w.heap.size w w' := by
  go_enter Tryz.func45, Tryz.ntmps45
  go_wp2
  exact bodyPost_ret (v := .agg #[.string a, .string b]) (by simp [results, Tryz.results45, go_sem]) rfl ⟨rfl, (((Below.refl _ _).alloc (Nat.le_refl _) _).alloc (by simp) _).alloc (by simp; omega) _⟩

/-- n tags of the call's own in block b, the first k of them laid. -/
structure TOwn (w : World) (b n k : Nat) (nm vl : Nat → ByteArray) : Prop where
  lt : b < w.heap.size
  cell : ∀ i, i < k → i < n → w.cell? ⟨b, i * 2, none⟩ = some (.string (nm i)) ∧ w.cell? ⟨b, i * 2 + 1, none⟩ = some (.string (vl i))
  there : ∀ j, j < n * 2 → ∃ v, w.cell? ⟨b, j, none⟩ = some v
  free : ∀ j, j < n * 2 → w.frozen? ⟨b, j, none⟩ = false

theorem TOwn.row {w : World} {b n : Nat} {nm vl : Nat → ByteArray} (h : TOwn w b n n nm vl) : TRow w (some ⟨b, 0, none⟩) n nm vl :=
  ⟨.inr ⟨b, 0, rfl, h.lt, fun i hi => by simpa using h.cell i hi hi⟩⟩
theorem TOwn.keep {w w' : World} {b n k : Nat} {nm vl : Nat → ByteArray} (h : TOwn w b n k nm vl) (hb : Below w.heap.size w w') : TOwn w' b n k nm vl :=
  ⟨Nat.lt_of_lt_of_le h.lt hb.size, fun i hk hi => ⟨(hb.cell (p := ⟨b, i * 2, none⟩) h.lt).trans (h.cell i hk hi).1, (hb.cell (p := ⟨b, i * 2 + 1, none⟩) h.lt).trans (h.cell i hk hi).2⟩,
    fun j hj => by obtain ⟨v, hv⟩ := h.there j hj; exact ⟨v, (hb.cell (p := ⟨b, j, none⟩) h.lt).trans hv⟩, fun j hj => (hb.frozen (p := ⟨b, j, none⟩) h.lt).trans (h.free j hj)⟩

theorem TOwn.store {w : World} {b n k : Nat} {nm vl : Nat → ByteArray} (h : TOwn w b n k nm vl) (hk : k < n) :
    TOwn ((w.setCell ⟨b, k * 2, none⟩ (.string (nm k))).setCell ⟨b, k * 2 + 1, none⟩ (.string (vl k))) b n (k + 1) nm vl := by
  obtain ⟨v1, hv1⟩ := h.there (k * 2) (by omega)
  obtain ⟨v2, hv2⟩ := h.there (k * 2 + 1) (by omega)
  have e1 : (w.setCell ⟨b, k * 2, none⟩ (.string (nm k))).cell? ⟨b, k * 2 + 1, none⟩ = some v2 := by
    rw [World.cell?_setCell_other _ _ _ _ (by intro hh; injection hh with _ h2 _; omega)]; exact hv2
  have other : ∀ j, j ≠ k * 2 → j ≠ k * 2 + 1 → ((w.setCell ⟨b, k * 2, none⟩ (.string (nm k))).setCell ⟨b, k * 2 + 1, none⟩ (.string (vl k))).cell? ⟨b, j, none⟩ = w.cell? ⟨b, j, none⟩ := fun j h1 h2 => by
    rw [World.cell?_setCell_other _ _ _ _ (by intro hh; injection hh with _ h3 _; omega), World.cell?_setCell_other _ _ _ _ (by intro hh; injection hh with _ h3 _; omega)]
  have at0 : ((w.setCell ⟨b, k * 2, none⟩ (.string (nm k))).setCell ⟨b, k * 2 + 1, none⟩ (.string (vl k))).cell? ⟨b, k * 2, none⟩ = some (.string (nm k)) := by
    rw [World.cell?_setCell_other _ _ _ _ (by intro hh; injection hh with _ h3 _; omega), World.cell?_setCell_same _ _ _ hv1]
  have at1 : ((w.setCell ⟨b, k * 2, none⟩ (.string (nm k))).setCell ⟨b, k * 2 + 1, none⟩ (.string (vl k))).cell? ⟨b, k * 2 + 1, none⟩ = some (.string (vl k)) :=
    World.cell?_setCell_same _ _ _ e1
  refine ⟨by simpa using h.lt, fun i hi hin => ?_, fun j hj => ?_, fun j hj => by simpa using h.free j hj⟩
  · by_cases e : i = k
    · subst e; exact ⟨at0, at1⟩
    · rw [other _ (by omega) (by omega), other _ (by omega) (by omega)]
      exact h.cell i (by omega) hin
  · by_cases e0 : j = k * 2
    · subst e0; exact ⟨_, at0⟩
    · by_cases e1 : j = k * 2 + 1
      · subst e1; exact ⟨_, at1⟩
      · rw [other _ e0 e1]; exact h.there j hj

set_option maxHeartbeats 400000 in
theorem toTagS_any (ao : Option Addr) (n cap : Nat) (nm vl : Nat → ByteArray) (w : World) (hr : TRow w ao n nm vl) (hn : n ≤ 1048576) :
    Calls Tryz.prog 27 #[.slice ao n cap] w fun e w' => e = .returned (.slice (some ⟨w.heap.size, 0, none⟩) n n) ∧ TOwn w' w.heap.size n n nm vl ∧ Below w.heap.size w w' := by
  obtain ⟨i0, hi, hz0, hz1, hz2⟩ := info_parts Tryz.info69
  obtain ⟨hlies⟩ := hr
  go_enter Tryz.func27, Tryz.ntmps27
  go_wp2_with (at_make; refine wpList_make_full _ rfl (.tmp 6) (.tmp 6) 36 rfl w.heap.size 84 i0 (.agg #[.string ByteArray.empty, .string ByteArray.empty]) 2 Tryz.underlying36 hi hz0 hz1 .i64 .i64 _ _ n rfl rfl rfl rfl (by rw [hz2]; omega) (by unfold maxLen; omega) (Nat.le_refl _) ?_; intro w1 hown hgrow)
  have hb1 : Below w.heap.size w w1 := (Below.refl _ _).grown hgrow (Nat.le_refl _) (fun k h => by simp at h)
  have hlt1 : w.heap.size < w1.heap.size := by
    rcases hown.2 with ⟨h, _⟩ | ⟨g', cap', cur, h, _, hg, _⟩
    · simp at h
    · simp at h; obtain ⟨rfl, _⟩ := h
      exact (Array.getElem?_eq_some_iff.1 hg).1
  have ho : TOwn w1 w.heap.size n 0 nm vl := by
    refine ⟨hlt1, fun i h _ => by omega, fun j hj => ?_, fun j _ => hown.frozenAt j⟩
    have h1 := hown.cellAt j hj
    have h2 : j < (madeCells (Value.agg #[.string ByteArray.empty, .string ByteArray.empty]).cells (n * 2)).toList.length := by
      rw [Array.length_toList, size_madeCells]; exact hj
    exact ⟨_, h1.trans (List.getElem?_eq_getElem h2)⟩
  clear hown hgrow
  go_loopw [4] (fun i wr => ∃ k : Nat, k ≤ n ∧ i = .int .i64 k ∧ TOwn wr w.heap.size n k nm vl ∧ Below w.heap.size w wr) (fun i _ => n - (intOf i).toNat)
  case atStart => exact ⟨0, Nat.zero_le _, rfl, ho, hb1⟩
  case round =>
    obtain ⟨k, hk, rfl, hok, hbk⟩ := hrel
    by_cases hlt : k < n
    · obtain ⟨b, off, rfl, hblt, hc⟩ := hlies.resolve_left (by omega)
      have hc1 : wr.cell? ⟨b, off + k * 2, none⟩ = some (.string (nm k)) := (hbk.cell (p := ⟨b, off + k * 2, none⟩) hblt).trans (hc k hlt).1
      have hc2 : wr.cell? ⟨b, off + k * 2 + 1, none⟩ = some (.string (vl k)) := (hbk.cell (p := ⟨b, off + k * 2 + 1, none⟩) hblt).trans (hc k hlt).2
      clear hc hlies ho
      go_wp2_with fail
      refine (toTag_any _ _ _).mono ?_
      rintro e w2 ⟨rfl, hb2⟩
      have hok2 := hok.keep hb2
      obtain ⟨v1, hv1⟩ := hok2.there (k * 2) (by omega)
      obtain ⟨v2, hv2⟩ := hok2.there (k * 2 + 1) (by omega)
      have hf1 := hok2.free (k * 2) (by omega)
      have hf2 := hok2.free (k * 2 + 1) (by omega)
      go_wp2
      go_roundw
      case rel => exact ⟨k + 1, by omega, by go_num, hok2.store hlt, ((hbk.trans (hb2.mono hbk.size)).setCell (Nat.le_refl _) _).setCell (Nat.le_refl _) _⟩
      case measure => simp [intOf]; omega
    · go_wp2
      go_ret
      have e : k = n := by omega
      subst e
      exact ⟨rfl, hok, hbk⟩

/-- Three new blocks of three cells. -/
theorem three_new (w : World) (a0 a1 a2 b0 b1 b2 c0 c1 c2 : Value) (T U V : Nat) {w1 : World}
    (hb : Below (((w.alloc (.cells #[a0, a1, a2] T)).alloc (.cells #[b0, b1, b2] U)).alloc (.cells #[c0, c1, c2] V)).heap.size (((w.alloc (.cells #[a0, a1, a2] T)).alloc (.cells #[b0, b1, b2] U)).alloc (.cells #[c0, c1, c2] V)) w1) :
    (w1.cell? ⟨w.heap.size, 2, none⟩ = some a2) ∧
    (w1.cell? ⟨w.heap.size + 1, 0, none⟩ = some b0 ∧ w1.cell? ⟨w.heap.size + 1, 1, none⟩ = some b1 ∧ w1.cell? ⟨w.heap.size + 1, 2, none⟩ = some b2) ∧
    (w1.cell? ⟨w.heap.size + 1 + 1, 0, none⟩ = some c0 ∧ w1.cell? ⟨w.heap.size + 1 + 1, 1, none⟩ = some c1 ∧ w1.cell? ⟨w.heap.size + 1 + 1, 2, none⟩ = some c2) ∧
    (∀ j, w1.frozen? ⟨w.heap.size + 1, j, none⟩ = false) ∧ (∀ j, w1.frozen? ⟨w.heap.size + 1 + 1, j, none⟩ = false) ∧ w.heap.size + 3 ≤ w1.heap.size := by
  have hs := hb.size
  simp at hs
  have c : ∀ b j, b < w.heap.size + 3 → w1.cell? ⟨b, j, none⟩ = _ := fun b j h => hb.cell (p := ⟨b, j, none⟩) (by simp; omega)
  have d : ∀ b j, b < w.heap.size + 3 → w1.frozen? ⟨b, j, none⟩ = _ := fun b j h => hb.frozen (p := ⟨b, j, none⟩) (by simp; omega)
  refine ⟨(c _ _ (by omega)).trans ?_, ⟨(c _ _ (by omega)).trans ?_, (c _ _ (by omega)).trans ?_, (c _ _ (by omega)).trans ?_⟩, ⟨(c _ _ (by omega)).trans ?_, (c _ _ (by omega)).trans ?_, (c _ _ (by omega)).trans ?_⟩, fun j => (d _ _ (by omega)).trans ?_, fun j => (d _ _ (by omega)).trans ?_, by omega⟩
  all_goals simp [go_sem]

theorem TOwn.others {w w' : World} {b c n k : Nat} {nm vl : Nat → ByteArray} (h : TOwn w b n k nm vl) (ho : Others c w w') (hne : b ≠ c) : TOwn w' b n k nm vl :=
  have cl : ∀ j, w'.cell? ⟨b, j, none⟩ = w.cell? ⟨b, j, none⟩ := fun j => World.cell?_of_block (w := w) (a := ⟨b, j, none⟩) (ho.block b hne)
  have fz : ∀ j, w'.frozen? ⟨b, j, none⟩ = w.frozen? ⟨b, j, none⟩ := fun j => World.frozen?_of_block (w := w) (a := ⟨b, j, none⟩) (ho.block b hne)
  ⟨by rw [ho.size]; exact h.lt, fun i hk hi => by rw [cl, cl]; exact h.cell i hk hi, fun j hj => by rw [cl]; exact h.there j hj, fun j hj => by rw [fz]; exact h.free j hj⟩

set_option maxHeartbeats 400000 in
theorem toKey_any (m : ByteArray) (st : Int) (ao : Option Addr) (n cap : Nat) (nm vl : Nat → ByteArray) (w : World) (hr : TRow w ao n nm vl) (hn : n ≤ 1048576) :
    Calls Tryz.prog 8 #[.agg #[.string m, .slice ao n cap, .int .i64 st]] w fun e w' => ∃ g, e = .returned (.agg #[.string m, .slice (some ⟨g, 0, none⟩) n n, .int .i64 st]) ∧ w.heap.size ≤ g ∧ TOwn w' g n n nm vl ∧ Below w.heap.size w w' := by
  go_enter Tryz.func8, Tryz.ntmps8
  go_wp2_with fail
  refine (toTagS_any ao n cap nm vl _ (hr.keep ((((Below.refl _ _).alloc (Nat.le_refl _) _).alloc (by simp) _).alloc (by simp; omega) _)) hn).mono ?_
  rintro e w1 ⟨rfl, ho, hb⟩
  obtain ⟨f2, ⟨g0, g1, g2⟩, ⟨k0, k1, k2⟩, hf1, hf2, hsz⟩ := three_new w _ _ _ _ _ _ _ _ _ _ _ _ hb
  have hbw : Below w.heap.size w w1 := ((((Below.refl _ _).alloc (Nat.le_refl _) _).alloc (by simp) _).alloc (by simp; omega) _).trans (hb.mono (by simp; omega))
  simp only [World.size_alloc] at ho
  clear hb
  go_wp2
  refine bodyPost_ret (v := .agg #[.string m, .slice (some ⟨w.heap.size + 1 + 1 + 1, 0, none⟩) n n, .int .i64 st]) (by simp [results, Tryz.results8, go_sem, g0, g1, g2]) rfl ⟨w.heap.size + 1 + 1 + 1, rfl, by omega, ?_, ?_⟩
  · exact ((((ho.others (Others.setCell _ _ _ _) (by omega)).others (Others.setCell _ _ _ _) (by omega)).others (Others.setCell _ _ _ _) (by omega)).others (Others.setCell _ _ _ _) (by omega)).others (Others.setCell _ _ _ _) (by omega)
  · exact ((((hbw.setCell (by simp; omega) _).setCell (by simp; omega) _).setCell (by simp) _).setCell (by simp) _).setCell (by simp) _
end Go.Proofs.YtaiigpffhcofpaaGreat
namespace Go.Proofs.YtaiigpffhcofpaaGreat
set_option maxRecDepth 100000
open Go.RowKit
set_option linter.unusedSimpArgs false
set_option linter.unusedVariables false

/-- What szTag leaves. -/
def SzOut (left : Int) (P : Prop) (w : World) (e : Ending) (w' : World) : Prop :=
  ∃ v : Int, e = .returned (.int .i64 v) ∧ -1 ≤ v ∧ v ≤ left ∧ (0 ≤ v → P) ∧ Below w.heap.size w w'

set_option maxHeartbeats 400000 in
theorem szTag_any (a b : ByteArray) (left : Int) (w : World) (hl : 0 ≤ left ∧ left ≤ 1048576) (ha : a.size ≤ 9223372036854775807) (hb : b.size ≤ 9223372036854775807) :
    Calls Tryz.prog 37 #[.agg #[.string a, .string b], .int .i64 left] w fun e w' => SzOut left (a.size ≤ 1048576 ∧ b.size ≤ 1048576) w e w' := by
  by_cases h1 : left - (a.size : Int) < 0
  · go_enter Tryz.func37, Tryz.ntmps37
    go_wp2
    go_ret
    exact ⟨-1, rfl, by omega, by omega, fun h => by omega, (Below.refl _ _).alloc (Nat.le_refl _) _⟩
  · by_cases h2 : left - (a.size : Int) - (b.size : Int) < 0
    · go_enter Tryz.func37, Tryz.ntmps37
      go_wp2
      go_ret
      exact ⟨-1, rfl, by omega, by omega, fun h => by omega, (Below.refl _ _).alloc (Nat.le_refl _) _⟩
    · go_enter Tryz.func37, Tryz.ntmps37
      go_wp2
      go_ret
      exact ⟨_, rfl, by omega, by omega, fun h => by omega, (Below.refl _ _).alloc (Nat.le_refl _) _⟩

def TSize (n : Nat) (nm vl : Nat → ByteArray) (B : Nat) : Prop := ∀ i, i < n → (nm i).size ≤ B ∧ (vl i).size ≤ B

set_option maxHeartbeats 400000 in
theorem szTagS_any (ao : Option Addr) (n cap : Nat) (nm vl : Nat → ByteArray) (left : Int) (w : World) (hr : TRow w ao n nm vl) (hl : 0 ≤ left ∧ left ≤ 1048576) (hn : n ≤ 9223372036854775807) (hs : TSize n nm vl 9223372036854775807) :
    Calls Tryz.prog 16 #[.slice ao n cap, .int .i64 left] w fun e w' => SzOut left (n ≤ 1048576 ∧ TSize n nm vl 1048576) w e w' := by
  obtain ⟨hlies⟩ := hr
  by_cases h1 : left - (n : Int) < 0
  · go_enter Tryz.func16, Tryz.ntmps16
    go_wp2
    go_ret
    exact ⟨-1, rfl, by omega, by omega, fun h => by omega, Below.refl _ _⟩
  · go_enter Tryz.func16, Tryz.ntmps16
    go_wp2
    go_loopw [1, 5] (fun q i wr => ∃ (k : Nat) (l : Int), k ≤ n ∧ i = .int .i64 k ∧ q = .int .i64 l ∧ 0 ≤ l ∧ l ≤ left ∧ Hid (∀ i, i < k → (nm i).size ≤ 1048576 ∧ (vl i).size ≤ 1048576) ∧ Below w.heap.size w wr) (fun _ i _ => n - (intOf i).toNat)
    case atStart => exact ⟨0, _, Nat.zero_le _, rfl, rfl, by omega, by omega, fun i h => by omega, Below.refl _ _⟩
    case round =>
      obtain ⟨k, l, hk, rfl, rfl, hl0, hl1, HS, hbk⟩ := hrel
      by_cases hlt : k < n
      · obtain ⟨b, off, rfl, hblt, hc⟩ := hlies.resolve_left (by omega)
        have hc1 : wr.cell? ⟨b, off + k * 2, none⟩ = some (.string (nm k)) := (hbk.cell (p := ⟨b, off + k * 2, none⟩) hblt).trans (hc k hlt).1
        have hc2 : wr.cell? ⟨b, off + k * 2 + 1, none⟩ = some (.string (vl k)) := (hbk.cell (p := ⟨b, off + k * 2 + 1, none⟩) hblt).trans (hc k hlt).2
        have hsk := hs k hlt
        clear hc hlies
        go_wp2_with fail
        refine (szTag_any _ _ _ _ (by omega) hsk.1 hsk.2).mono ?_
        rintro e w2 ⟨v, rfl, hv1, hv2, hv3, hb2⟩
        have hbw := hbk.trans (hb2.mono hbk.size)
        by_cases hv : v < 0
        · clear hv3
          go_wp2
          go_ret
          exact ⟨-1, rfl, by omega, by omega, fun h => by omega, hbw⟩
        · have hq := hv3 (by omega)
          have HS' : Hid (∀ i, i < k + 1 → (nm i).size ≤ 1048576 ∧ (vl i).size ≤ 1048576) := fun i h => by
            rcases Nat.lt_succ_iff_lt_or_eq.1 h with h | h
            · exact HS.out i h
            · subst h; exact hq
          clear hv3 hq
          go_wp2
          go_roundw
          case rel => exact ⟨k + 1, v, by omega, by go_num, rfl, by omega, by omega, HS', hbw⟩
          case measure => simp [intOf]; omega
      · have e : k = n := by omega
        subst e
        go_wp2
        go_ret
        exact ⟨l, rfl, by omega, by omega, fun _ => ⟨by omega, HS.out⟩, hbk⟩

set_option maxHeartbeats 400000 in
theorem szKey_any (m : ByteArray) (st : Int) (ao : Option Addr) (n cap : Nat) (nm vl : Nat → ByteArray) (left : Int) (w : World) (hr : TRow w ao n nm vl) (hl : 0 ≤ left ∧ left ≤ 1048576) (hm : m.size ≤ 9223372036854775807) (hn : n ≤ 9223372036854775807) (hs : TSize n nm vl 9223372036854775807) :
    Calls Tryz.prog 5 #[.agg #[.string m, .slice ao n cap, .int .i64 st], .int .i64 left] w fun e w' => SzOut left (m.size ≤ 1048576 ∧ n ≤ 1048576 ∧ TSize n nm vl 1048576) w e w' := by
  by_cases h1 : left - (m.size : Int) < 0
  · go_enter Tryz.func5, Tryz.ntmps5
    go_wp2
    go_ret
    exact ⟨-1, rfl, by omega, by omega, fun h => by omega, (Below.refl _ _).alloc (Nat.le_refl _) _⟩
  · go_enter Tryz.func5, Tryz.ntmps5
    go_wp2_with fail
    refine (szTagS_any ao n cap nm vl _ _ (hr.keep ((Below.refl _ _).alloc (Nat.le_refl _) _)) (by omega) hn hs).mono ?_
    rintro e w1 ⟨v, rfl, hv1, hv2, hv3, hb⟩
    have hbw : Below w.heap.size w w1 := ((Below.refl _ _).alloc (Nat.le_refl _) _).trans (hb.mono (by simp))
    by_cases hv : v < 0
    · clear hv3
      go_wp2
      go_ret
      exact ⟨-1, rfl, by omega, by omega, fun h => by omega, hbw⟩
    · have H : Hid (n ≤ 1048576 ∧ TSize n nm vl 1048576) := hv3 (by omega)
      clear hv3
      go_wp2
      go_ret
      exact ⟨v, rfl, by omega, by omega, fun _ => ⟨by omega, H.out⟩, hbw⟩

set_option maxHeartbeats 400000 in
theorem eqKey_same (m : ByteArray) (st : Int) (ao bo : Option Addr) (n ca cb : Nat) (nm vl : Nat → ByteArray) (w : World) (hr : TRow w ao n nm vl) (hs : TRow w bo n nm vl) (hn : n ≤ 1048576) :
    Calls Tryz.prog 11 #[.agg #[.string m, .slice ao n ca, .int .i64 st], .agg #[.string m, .slice bo n cb, .int .i64 st]] w fun e w' => e = .returned (.bool true) ∧ Below w.heap.size w w' := by
  have hB : Below w.heap.size w ((w.alloc (.cells #[.string m, .slice ao n ca, .int .i64 st] 38)).alloc (.cells #[.string m, .slice bo n cb, .int .i64 st] 38)) := ((Below.refl _ _).alloc (Nat.le_refl _) _).alloc (by simp) _
  go_enter Tryz.func11, Tryz.ntmps11
  go_wp2_with fail
  refine (eqTagS_same ao bo n ca cb nm vl _ (hr.keep hB) (hs.keep hB) hn).mono ?_
  rintro e w1 ⟨rfl, hb⟩
  have hbw : Below w.heap.size w w1 := hB.trans (hb.mono (by simp; omega))
  have c0 : w1.cell? ⟨w.heap.size, 2, none⟩ = some (.int .i64 st) := (hb.cell (p := ⟨w.heap.size, 2, none⟩) (by simp; omega)).trans (by simp [go_sem])
  have c1 : w1.cell? ⟨w.heap.size + 1, 2, none⟩ = some (.int .i64 st) := (hb.cell (p := ⟨w.heap.size + 1, 2, none⟩) (by simp)).trans (by simp [go_sem])
  clear hb hB
  go_wp2
  go_ret
  exact ⟨rfl, hbw⟩
end Go.Proofs.YtaiigpffhcofpaaGreat
namespace Go.Proofs.YtaiigpffhcofpaaGreat
set_option maxRecDepth 100000
open Go.RowKit
set_option linter.unusedSimpArgs false
set_option linter.unusedVariables false

/-- What a window holds. -/
structure Wn where
  m : ByteArray
  tn : Nat
  nm : Nat → ByteArray
  vl : Nat → ByteArray
  st : Int
  c : Int
  s : Int
  lo : Int
  hi : Int
  n : Nat
  f : Nat → Int
  fu : Bool
  ver : Int
  di : Bool

/-- A window in the eleven cells from off on. -/
structure WiAt (w : World) (b off : Nat) (x : Wn) (a0 a1 : Option Addr) (k0 k1 : Nat) : Prop where
  lt : b < w.heap.size
  c0 : w.cell? ⟨b, off, none⟩ = some (.string x.m)
  c1 : w.cell? ⟨b, off + 1, none⟩ = some (.slice a0 x.tn k0)
  c2 : w.cell? ⟨b, off + 2, none⟩ = some (.int .i64 x.st)
  c3 : w.cell? ⟨b, off + 3, none⟩ = some (.int .i64 x.c)
  c4 : w.cell? ⟨b, off + 4, none⟩ = some (.int .i64 x.s)
  c5 : w.cell? ⟨b, off + 5, none⟩ = some (.int .i64 x.lo)
  c6 : w.cell? ⟨b, off + 6, none⟩ = some (.int .i64 x.hi)
  c7 : w.cell? ⟨b, off + 7, none⟩ = some (.slice a1 x.n k1)
  c8 : w.cell? ⟨b, off + 8, none⟩ = some (.bool x.fu)
  c9 : w.cell? ⟨b, off + 9, none⟩ = some (.int .i64 x.ver)
  c10 : w.cell? ⟨b, off + 10, none⟩ = some (.bool x.di)
section
variable {w w' : World} {b off k0 k1 : Nat} {x : Wn} {a0 a1 : Option Addr}
theorem WiAt.move (h : WiAt w b off x a0 a1 k0 k1) (lt : b < w'.heap.size) (k : ∀ j, w'.cell? ⟨b, j, none⟩ = w.cell? ⟨b, j, none⟩) : WiAt w' b off x a0 a1 k0 k1 :=
  ⟨lt, (k _).trans h.c0, (k _).trans h.c1, (k _).trans h.c2, (k _).trans h.c3, (k _).trans h.c4, (k _).trans h.c5, (k _).trans h.c6, (k _).trans h.c7, (k _).trans h.c8, (k _).trans h.c9, (k _).trans h.c10⟩
theorem WiAt.keep (h : WiAt w b off x a0 a1 k0 k1) (hb : Below w.heap.size w w') : WiAt w' b off x a0 a1 k0 k1 :=
  h.move (Nat.lt_of_lt_of_le h.lt hb.size) fun j => hb.cell (p := ⟨b, j, none⟩) h.lt
theorem WiAt.others {d : Nat} (h : WiAt w b off x a0 a1 k0 k1) (ho : Others d w w') (hne : b ≠ d) : WiAt w' b off x a0 a1 k0 k1 :=
  h.move (by rw [ho.size]; exact h.lt) fun j => World.cell?_of_block (w := w) (a := ⟨b, j, none⟩) (ho.block b hne)
end
theorem WiAt.new (w : World) (x : Wn) (a0 a1 : Option Addr) (k0 k1 : Nat) (T : Nat) : WiAt (w.alloc (.cells #[.string x.m, .slice a0 x.tn k0, .int .i64 x.st, .int .i64 x.c, .int .i64 x.s, .int .i64 x.lo, .int .i64 x.hi, .slice a1 x.n k1, .bool x.fu, .int .i64 x.ver, .bool x.di] T)) w.heap.size 0 x a0 a1 k0 k1 := by
  refine ⟨by simp, ?_, ?_, ?_, ?_, ?_, ?_, ?_, ?_, ?_, ?_, ?_⟩ <;> simp [go_sem]

/-- What its type says of a window. -/
structure WiB (x : Wn) : Prop where
  st : -9223372036854775808 ≤ x.st ∧ x.st ≤ 9223372036854775807
  c : -9223372036854775808 ≤ x.c ∧ x.c ≤ 9223372036854775807
  s : -9223372036854775808 ≤ x.s ∧ x.s ≤ 9223372036854775807
  ver : -9223372036854775808 ≤ x.ver ∧ x.ver ≤ 9223372036854775807
  m : x.m.size ≤ 9223372036854775807
  tn : x.tn ≤ 9223372036854775807
  ts : TSize x.tn x.nm x.vl 9223372036854775807
  n : x.n ≤ 9223372036854775807
/-- A window that is no greater than what is measured. -/
structure WiS (x : Wn) : Prop where
  m : x.m.size ≤ 1048576
  tn : x.tn ≤ 1048576
  ts : TSize x.tn x.nm x.vl 1048576
  n : x.n ≤ 1048576

theorem szIntS_left (ao : Option Addr) (n cap : Nat) (left : Int) (w : World) (hl : 0 ≤ left ∧ left ≤ 1048576) (hn : n ≤ 9223372036854775807) :
    Calls Tryz.prog 83 #[.slice ao n cap, .int .i64 left] w fun e w' => SzOut left (n ≤ 1048576) w e w' := by
  have hw : IntKind.i64.wrap (left - (n : Int)) = left - (n : Int) := by rw [IntKind.wrap_i64] <;> omega
  by_cases h1 : left - (n : Int) < 0
  · go_enter Tryz.func83, Tryz.ntmps83
    go_wp2
    go_ret
    exact ⟨-1, rfl, by omega, by omega, fun h => by omega, Below.refl _ _⟩
  · go_enter Tryz.func83, Tryz.ntmps83
    go_wp2
    go_ret
    exact ⟨_, rfl, by omega, by omega, fun h => by omega, Below.refl _ _⟩

theorem szAgg_left (c s lo hi : Int) (ao : Option Addr) (n cap : Nat) (fu : Bool) (left : Int) (w : World) (hl : 0 ≤ left ∧ left ≤ 1048576) (hn : n ≤ 9223372036854775807) :
    Calls Tryz.prog 65 #[.agg #[.int .i64 c, .int .i64 s, .int .i64 lo, .int .i64 hi, .slice ao n cap, .bool fu], .int .i64 left] w
      fun e w' => SzOut left (n ≤ 1048576) w e w' := by
  have hB := fun o => below_new w o
  go_enter Tryz.func65, Tryz.ntmps65
  go_wp2_with fail
  refine (szIntS_left ao n cap left _ hl hn).mono ?_
  rintro e w1 ⟨v, rfl, h1, h2, h3, hb⟩
  have bw : Below w.heap.size w w1 := (hB _).trans (hb.mono (by simp))
  clear hb
  by_cases hv : v < 0
  · clear h3
    go_wp2
    go_ret
    exact ⟨-1, rfl, by omega, by omega, fun h => by omega, bw⟩
  · have h4 : Hid (n ≤ 1048576) := h3 (by omega)
    clear h3
    go_wp2
    go_ret
    exact ⟨v, rfl, by omega, by omega, fun _ => h4.out, bw⟩

set_option maxHeartbeats 800000 in
theorem szWin_any (x : Wn) (a0 a1 : Option Addr) (c0 c1 : Nat) (left : Int) (w : World) (hr : TRow w a0 x.tn x.nm x.vl) (hi : IRow w a1 x.n x.f) (hl : 0 ≤ left ∧ left ≤ 1048576) (hE : WiB x) :
    Calls Tryz.prog 36 #[.agg #[.string x.m, .slice a0 x.tn c0, .int .i64 x.st, .int .i64 x.c, .int .i64 x.s, .int .i64 x.lo, .int .i64 x.hi, .slice a1 x.n c1, .bool x.fu, .int .i64 x.ver, .bool x.di], .int .i64 left] w fun e w' => SzOut left (WiS x) w e w' := by
  have hB := below_new w (.cells #[.string x.m, .slice a0 x.tn c0, .int .i64 x.st, .int .i64 x.c, .int .i64 x.s, .int .i64 x.lo, .int .i64 x.hi, .slice a1 x.n c1, .bool x.fu, .int .i64 x.ver, .bool x.di] 75)
  have A := WiAt.new w x a0 a1 c0 c1 75
  have hn := hE.n
  go_enter Tryz.func36, Tryz.ntmps36
  go_wp2_with fail
  refine (szKey_any x.m x.st a0 x.tn c0 x.nm x.vl left _ (hr.keep hB) hl hE.m hE.tn hE.ts).mono ?_
  rintro e w1 ⟨v, rfl, hv1, hv2, hv3, hb⟩
  have bw : Below w.heap.size w w1 := hB.trans (hb.mono (by simp))
  obtain ⟨_, d0, d1, d2, d3, d4, d5, d6, d7, d8, d9, d10⟩ := A.keep hb
  clear hb A hB
  simp only [Nat.zero_add] at d1 d2 d3 d4 d5 d6 d7 d8 d9 d10
  by_cases hv : v < 0
  · clear hv3
    go_wp2
    go_ret
    exact ⟨-1, rfl, by omega, by omega, fun h => by omega, bw⟩
  · have H : Hid (x.m.size ≤ 1048576 ∧ x.tn ≤ 1048576 ∧ TSize x.tn x.nm x.vl 1048576) := hv3 (by omega)
    clear hv3
    go_wp2_with fail
    refine (szAgg_left _ _ _ _ a1 _ c1 _ _ _ (by omega) hn).mono ?_
    rintro e w2 ⟨v2, rfl, hu1, hu2, hu3, hb2⟩
    have bw2 : Below w.heap.size w w2 := bw.trans (hb2.mono bw.size)
    clear hb2 bw
    by_cases hu : v2 < 0
    · clear hu3
      go_wp2
      go_ret
      exact ⟨-1, rfl, by omega, by omega, fun h => by omega, bw2⟩
    · have H2 : Hid (x.n ≤ 1048576) := hu3 (by omega)
      clear hu3
      go_wp2
      go_ret
      exact ⟨v2, rfl, by omega, by omega, fun _ => ⟨H.out.1, H.out.2.1, H.out.2.2, H2.out⟩, bw2⟩

set_option maxHeartbeats 3200000 in
theorem toWin_any (x : Wn) (a0 a1 : Option Addr) (c0 c1 : Nat) (w : World) (hr : TRow w a0 x.tn x.nm x.vl) (hi : IRow w a1 x.n x.f) (hS : WiS x) :
    Calls Tryz.prog 44 #[.agg #[.string x.m, .slice a0 x.tn c0, .int .i64 x.st, .int .i64 x.c, .int .i64 x.s, .int .i64 x.lo, .int .i64 x.hi, .slice a1 x.n c1, .bool x.fu, .int .i64 x.ver, .bool x.di]] w
      fun e w' => ∃ g0 g1, e = .returned (.agg #[.string x.m, .slice (some ⟨g0, 0, none⟩) x.tn x.tn, .int .i64 x.st, .int .i64 x.c, .int .i64 x.s, .int .i64 x.lo, .int .i64 x.hi, .slice (some ⟨g1, 0, none⟩) x.n x.n, .bool x.fu, .int .i64 x.ver, .bool x.di]) ∧ w.heap.size ≤ g0 ∧ g0 < g1 ∧ TOwn w' g0 x.tn x.tn x.nm x.vl ∧ IOwn w' g1 0 x.n x.f ∧ Below w.heap.size w w' := by
  go_enter Tryz.func44, Tryz.ntmps44
  go_wp2_with fail
  refine (toKey_any x.m x.st a0 x.tn c0 x.nm x.vl _ (hr.keep ?_) hS.tn).mono ?_
  · exact (((Below.refl _ _).alloc (Nat.le_refl _) _).alloc (by simp) _).alloc (by simp; omega) _
  rintro e w1 ⟨g, rfl, hg, ho, hb⟩
  have bw : Below w.heap.size w w1 := ((((Below.refl _ _).alloc (Nat.le_refl _) _).alloc (by simp) _).alloc (by simp; omega) _).trans (hb.mono (by simp; omega))
  obtain ⟨hA, hB, hC, hf1, hf2, hsz⟩ := new3 w _ _ _ _ _ _ hb
  have A : WiAt w1 w.heap.size 0 x a0 a1 c0 c1 := by
    refine ⟨by omega, (hA _).trans ?_, (hA _).trans ?_, (hA _).trans ?_, (hA _).trans ?_, (hA _).trans ?_, (hA _).trans ?_, (hA _).trans ?_, (hA _).trans ?_, (hA _).trans ?_, (hA _).trans ?_, (hA _).trans ?_⟩ <;> simp
  obtain ⟨_, d0, d1, d2, d3, d4, d5, d6, d7, d8, d9, d10⟩ := A
  simp only [Nat.zero_add] at d1 d2 d3 d4 d5 d6 d7 d8 d9 d10
  have b0 := hB 0
  have b1 := hB 1
  have b2 := hB 2
  have b3 := hB 3
  have b4 := hB 4
  have b5 := hB 5
  have b6 := hB 6
  have b7 := hB 7
  have b8 := hB 8
  have b9 := hB 9
  have b10 := hB 10
  have k0 := hC 0
  have k1 := hC 1
  have k2 := hC 2
  have k3 := hC 3
  have k4 := hC 4
  have k5 := hC 5
  have k6 := hC 6
  have k7 := hC 7
  have k8 := hC 8
  have k9 := hC 9
  have k10 := hC 10
  simp at b0 b1 b2 b3 b4 b5 b6 b7 b8 b9 b10 k0 k1 k2 k3 k4 k5 k6 k7 k8 k9 k10
  simp at hg
  have hglt := ho.lt
  clear hb hA hB hC
  go_wp2_with fail
  refine (toAgg_any x.c x.s x.lo x.hi a1 x.n c1 x.f x.fu _ (hi.keep ?_) hS.n).mono ?_
  · repeat' refine Below.setCell ?_ (by first | (simp; done) | (simp; omega)) _
    exact bw
  rintro e w2 ⟨g2, rfl, hg2, ho2, hb2⟩
  have q0 := hb2.cell (p := ⟨w.heap.size, 0, none⟩) (by simp; try omega)
  have q1 := hb2.cell (p := ⟨w.heap.size, 1, none⟩) (by simp; try omega)
  have q2 := hb2.cell (p := ⟨w.heap.size, 2, none⟩) (by simp; try omega)
  have q3 := hb2.cell (p := ⟨w.heap.size, 3, none⟩) (by simp; try omega)
  have q4 := hb2.cell (p := ⟨w.heap.size, 4, none⟩) (by simp; try omega)
  have q5 := hb2.cell (p := ⟨w.heap.size, 5, none⟩) (by simp; try omega)
  have q6 := hb2.cell (p := ⟨w.heap.size, 6, none⟩) (by simp; try omega)
  have q7 := hb2.cell (p := ⟨w.heap.size, 7, none⟩) (by simp; try omega)
  have q8 := hb2.cell (p := ⟨w.heap.size, 8, none⟩) (by simp; try omega)
  have q9 := hb2.cell (p := ⟨w.heap.size, 9, none⟩) (by simp; try omega)
  have q10 := hb2.cell (p := ⟨w.heap.size, 10, none⟩) (by simp; try omega)
  have r0 := hb2.cell (p := ⟨w.heap.size + 1, 0, none⟩) (by simp; try omega)
  have r1 := hb2.cell (p := ⟨w.heap.size + 1, 1, none⟩) (by simp; try omega)
  have r2 := hb2.cell (p := ⟨w.heap.size + 1, 2, none⟩) (by simp; try omega)
  have r3 := hb2.cell (p := ⟨w.heap.size + 1, 3, none⟩) (by simp; try omega)
  have r4 := hb2.cell (p := ⟨w.heap.size + 1, 4, none⟩) (by simp; try omega)
  have r5 := hb2.cell (p := ⟨w.heap.size + 1, 5, none⟩) (by simp; try omega)
  have r6 := hb2.cell (p := ⟨w.heap.size + 1, 6, none⟩) (by simp; try omega)
  have r7 := hb2.cell (p := ⟨w.heap.size + 1, 7, none⟩) (by simp; try omega)
  have r8 := hb2.cell (p := ⟨w.heap.size + 1, 8, none⟩) (by simp; try omega)
  have r9 := hb2.cell (p := ⟨w.heap.size + 1, 9, none⟩) (by simp; try omega)
  have r10 := hb2.cell (p := ⟨w.heap.size + 1, 10, none⟩) (by simp; try omega)
  have t0 := hb2.cell (p := ⟨w.heap.size + 1 + 1, 0, none⟩) (by simp; try omega)
  have t1 := hb2.cell (p := ⟨w.heap.size + 1 + 1, 1, none⟩) (by simp; try omega)
  have t2 := hb2.cell (p := ⟨w.heap.size + 1 + 1, 2, none⟩) (by simp; try omega)
  have t3 := hb2.cell (p := ⟨w.heap.size + 1 + 1, 3, none⟩) (by simp; try omega)
  have t4 := hb2.cell (p := ⟨w.heap.size + 1 + 1, 4, none⟩) (by simp; try omega)
  have t5 := hb2.cell (p := ⟨w.heap.size + 1 + 1, 5, none⟩) (by simp; try omega)
  have t6 := hb2.cell (p := ⟨w.heap.size + 1 + 1, 6, none⟩) (by simp; try omega)
  have t7 := hb2.cell (p := ⟨w.heap.size + 1 + 1, 7, none⟩) (by simp; try omega)
  have t8 := hb2.cell (p := ⟨w.heap.size + 1 + 1, 8, none⟩) (by simp; try omega)
  have t9 := hb2.cell (p := ⟨w.heap.size + 1 + 1, 9, none⟩) (by simp; try omega)
  have t10 := hb2.cell (p := ⟨w.heap.size + 1 + 1, 10, none⟩) (by simp; try omega)
  have rf : ∀ j, w2.frozen? ⟨w.heap.size + 1, j, none⟩ = false := fun j => (hb2.frozen (p := ⟨w.heap.size + 1, j, none⟩) (by simp; try omega)).trans (by simp [go_sem, hf1])
  have tf : ∀ j, w2.frozen? ⟨w.heap.size + 1 + 1, j, none⟩ = false := fun j => (hb2.frozen (p := ⟨w.heap.size + 1 + 1, j, none⟩) (by simp; try omega)).trans (by simp [go_sem, hf2])
  simp [go_sem, d0, d1, d2, d3, d4, d5, d6, d7, d8, d9, d10, b0, b1, b2, b3, b4, b5, b6, b7, b8, b9, b10, k0, k1, k2, k3, k4, k5, k6, k7, k8, k9, k10] at q0 q1 q2 q3 q4 q5 q6 q7 q8 q9 q10 r0 r1 r2 r3 r4 r5 r6 r7 r8 r9 r10 t0 t1 t2 t3 t4 t5 t6 t7 t8 t9 t10
  have bw2 : Below w.heap.size w w2 := by
    refine Below.trans ?_ (hb2.mono (by simp; omega))
    repeat' refine Below.setCell ?_ (by first | (simp; done) | (simp; omega)) _
    exact bw
  have ho1 : TOwn w2 g x.tn x.tn x.nm x.vl := by
    refine TOwn.keep ?_ hb2
    exact ((ho.others (Others.setCell _ _ _ _) (by omega)).others (Others.setCell _ _ _ _) (by omega)).others (Others.setCell _ _ _ _) (by omega)
  have hs2 := hb2.size
  simp at hs2 hg2
  clear hb2 ho d0 d1 d2 d3 d4 d5 d6 d7 d8 d9 d10 b0 b1 b2 b3 b4 b5 b6 b7 b8 b9 b10 k0 k1 k2 k3 k4 k5 k6 k7 k8 k9 k10 hf1 hf2
  go_wp2
  refine bodyPost_ret (v := .agg #[.string x.m, .slice (some ⟨g, 0, none⟩) x.tn x.tn, .int .i64 x.st, .int .i64 x.c, .int .i64 x.s, .int .i64 x.lo, .int .i64 x.hi, .slice (some ⟨g2, 0, none⟩) x.n x.n, .bool x.fu, .int .i64 x.ver, .bool x.di]) (by simp [results, Tryz.results44, go_sem, r0, r1, r2, r3, r4, r5, r6, r7, r8, r9, r10]) rfl ⟨g, g2, rfl, by omega, by omega, ?_, ?_, ?_⟩
  · repeat' refine TOwn.others ?_ (Others.setCell _ _ _ _) (by omega)
    exact ho1
  · repeat' refine (Others.setCell _ _ _ _).irow ?_ (by omega)
    exact ho2
  · repeat' refine Below.setCell ?_ (by first | (simp; done) | (simp; omega)) _
    exact bw2

set_option maxHeartbeats 1600000 in
theorem eqWin_same (x : Wn) (a0 a1 e0 e1 : Option Addr) (c0 c1 h0 h1 : Nat) (w : World) (r0 : TRow w a0 x.tn x.nm x.vl) (r1 : IRow w a1 x.n x.f) (s0 : TRow w e0 x.tn x.nm x.vl) (s1 : IRow w e1 x.n x.f) (hS : WiS x) :
    Calls Tryz.prog 59 #[.agg #[.string x.m, .slice a0 x.tn c0, .int .i64 x.st, .int .i64 x.c, .int .i64 x.s, .int .i64 x.lo, .int .i64 x.hi, .slice a1 x.n c1, .bool x.fu, .int .i64 x.ver, .bool x.di], .agg #[.string x.m, .slice e0 x.tn h0, .int .i64 x.st, .int .i64 x.c, .int .i64 x.s, .int .i64 x.lo, .int .i64 x.hi, .slice e1 x.n h1, .bool x.fu, .int .i64 x.ver, .bool x.di]] w fun e w' => e = .returned (.bool true) ∧ Below w.heap.size w w' := by
  have hB : Below w.heap.size w ((w.alloc (.cells #[.string x.m, .slice a0 x.tn c0, .int .i64 x.st, .int .i64 x.c, .int .i64 x.s, .int .i64 x.lo, .int .i64 x.hi, .slice a1 x.n c1, .bool x.fu, .int .i64 x.ver, .bool x.di] 59)).alloc (.cells #[.string x.m, .slice e0 x.tn h0, .int .i64 x.st, .int .i64 x.c, .int .i64 x.s, .int .i64 x.lo, .int .i64 x.hi, .slice e1 x.n h1, .bool x.fu, .int .i64 x.ver, .bool x.di] 59)) := (below_new w _).alloc (by simp) _
  have A := (WiAt.new w x a0 a1 c0 c1 59).keep (below_new _ (.cells #[.string x.m, .slice e0 x.tn h0, .int .i64 x.st, .int .i64 x.c, .int .i64 x.s, .int .i64 x.lo, .int .i64 x.hi, .slice e1 x.n h1, .bool x.fu, .int .i64 x.ver, .bool x.di] 59))
  have B := WiAt.new (w.alloc (.cells #[.string x.m, .slice a0 x.tn c0, .int .i64 x.st, .int .i64 x.c, .int .i64 x.s, .int .i64 x.lo, .int .i64 x.hi, .slice a1 x.n c1, .bool x.fu, .int .i64 x.ver, .bool x.di] 59)) x e0 e1 h0 h1 59
  rw [World.size_alloc] at B
  go_enter Tryz.func59, Tryz.ntmps59
  go_wp2_with fail
  refine (eqKey_same x.m x.st a0 e0 x.tn c0 h0 x.nm x.vl _ (r0.keep hB) (s0.keep hB) hS.tn).mono ?_
  rintro e w1 ⟨rfl, hb⟩
  have bw : Below w.heap.size w w1 := hB.trans (hb.mono (by simp; omega))
  have A1 := A.keep hb
  have B1 := B.keep hb
  clear hb hB A B
  obtain ⟨_, d0, d1, d2, d3, d4, d5, d6, d7, d8, d9, d10⟩ := id A1
  obtain ⟨_, t0, t1, t2, t3, t4, t5, t6, t7, t8, t9, t10⟩ := id B1
  simp only [Nat.zero_add] at d1 d2 d3 d4 d5 d6 d7 d8 d9 d10 t1 t2 t3 t4 t5 t6 t7 t8 t9 t10
  go_wp2_with fail
  refine (eqAgg_same _ _ _ _ a1 e1 _ c1 h1 x.f _ _ (r1.keep bw) (s1.keep bw) hS.n).mono ?_
  rintro e w2 ⟨rfl, hb⟩
  have bw2 : Below w.heap.size w w2 := bw.trans (hb.mono bw.size)
  have A2 := A1.keep hb
  have B2 := B1.keep hb
  clear hb A1 B1 d0 d1 d2 d3 d4 d5 d6 d7 d8 d9 d10 t0 t1 t2 t3 t4 t5 t6 t7 t8 t9 t10
  obtain ⟨_, d0, d1, d2, d3, d4, d5, d6, d7, d8, d9, d10⟩ := A2
  obtain ⟨_, t0, t1, t2, t3, t4, t5, t6, t7, t8, t9, t10⟩ := B2
  simp only [Nat.zero_add] at d1 d2 d3 d4 d5 d6 d7 d8 d9 d10 t1 t2 t3 t4 t5 t6 t7 t8 t9 t10
  generalize x.di = di at *
  cases di
  all_goals
    go_wp2
    go_ret
    exact ⟨rfl, bw2⟩
end Go.Proofs.YtaiigpffhcofpaaGreat
