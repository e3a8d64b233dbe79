/- Tags and keys copied by the laws. -/
import Derived.Test.YtjdijikmdlklkaaTags
namespace Go.Proofs.Ytjdijikmdlklkaa
open Go.RowKit
set_option linter.unusedSimpArgs false
set_option linter.unusedVariables false

theorem Try.info69 : (Try.prog.info? 63).map (fun i => (i.zero, i.size, i.bytes)) = some (some (.agg #[.string ByteArray.empty, .string ByteArray.empty]), 2, 32) := by kernel_rfl

theorem toTag_any (a b : ByteArray) (w : World) :
    Calls Try.prog 59 #[.agg #[.string a, .string b]] w fun e w' => e = .returned (.agg #[.string a, .string b]) ∧ Below w.heap.size w w' := by
  go_enter Try.func59, Try.ntmps59
  go_wp2
  exact bodyPost_ret (v := .agg #[.string a, .string b]) (by simp [results, Try.results59, go_sem]) rfl ⟨rfl, (((Below.refl _ _).alloc (Nat.le_refl _) _).alloc (by simp) _).alloc (by simp; omega) _⟩

/-- n tags of the call's own in block b, the first k of them laid. -/
structure TOwn (w : World) (b n k : Nat) (nm vl : Nat → ByteArray) : Prop where
  lt : b < w.heap.size
  cell : ∀ i, i < k → i < n → w.cell? ⟨b, i * 2, none⟩ = some (.string (nm i)) ∧ w.cell? ⟨b, i * 2 + 1, none⟩ = some (.string (vl i))
  there : ∀ j, j < n * 2 → ∃ v, w.cell? ⟨b, j, none⟩ = some v
  free : ∀ j, j < n * 2 → w.frozen? ⟨b, j, none⟩ = false

theorem TOwn.row {w : World} {b n : Nat} {nm vl : Nat → ByteArray} (h : TOwn w b n n nm vl) : TRow w (some ⟨b, 0, none⟩) n nm vl :=
  ⟨.inr ⟨b, 0, rfl, h.lt, fun i hi => by simpa using h.cell i hi hi⟩⟩
theorem TOwn.keep {w w' : World} {b n k : Nat} {nm vl : Nat → ByteArray} (h : TOwn w b n k nm vl) (hb : Below w.heap.size w w') : TOwn w' b n k nm vl :=
  ⟨Nat.lt_of_lt_of_le h.lt hb.size, fun i hk hi => ⟨(hb.cell (p := ⟨b, i * 2, none⟩) h.lt).trans (h.cell i hk hi).1, (hb.cell (p := ⟨b, i * 2 + 1, none⟩) h.lt).trans (h.cell i hk hi).2⟩,
    fun j hj => by obtain ⟨v, hv⟩ := h.there j hj; exact ⟨v, (hb.cell (p := ⟨b, j, none⟩) h.lt).trans hv⟩, fun j hj => (hb.frozen (p := ⟨b, j, none⟩) h.lt).trans (h.free j hj)⟩

theorem TOwn.store {w : World} {b n k : Nat} {nm vl : Nat → ByteArray} (h : TOwn w b n k nm vl) (hk : k < n) :
    TOwn ((w.setCell ⟨b, k * 2, none⟩ (.string (nm k))).setCell ⟨b, k * 2 + 1, none⟩ (.string (vl k))) b n (k + 1) nm vl := by
  obtain ⟨v1, hv1⟩ := h.there (k * 2) (by omega)
  obtain ⟨v2, hv2⟩ := h.there (k * 2 + 1) (by omega)
  have e1 : (w.setCell ⟨b, k * 2, none⟩ (.string (nm k))).cell? ⟨b, k * 2 + 1, none⟩ = some v2 := by
    rw [World.cell?_setCell_other _ _ _ _ (by intro hh; injection hh with _ h2 _; omega)]; exact hv2
  have other : ∀ j, j ≠ k * 2 → j ≠ k * 2 + 1 → ((w.setCell ⟨b, k * 2, none⟩ (.string (nm k))).setCell ⟨b, k * 2 + 1, none⟩ (.string (vl k))).cell? ⟨b, j, none⟩ = w.cell? ⟨b, j, none⟩ := fun j h1 h2 => by
    rw [World.cell?_setCell_other _ _ _ _ (by intro hh; injection hh with _ h3 _; omega), World.cell?_setCell_other _ _ _ _ (by intro hh; injection hh with _ h3 _; omega)]
  have at0 : ((w.setCell ⟨b, k * 2, none⟩ (.string (nm k))).setCell ⟨b, k * 2 + 1, none⟩ (.string (vl k))).cell? ⟨b, k * 2, none⟩ = some (.string (nm k)) := by
    rw [World.cell?_setCell_other _ _ _ _ (by intro hh; injection hh with _ h3 _; omega), World.cell?_setCell_same _ _ _ hv1]
  have at1 : ((w.setCell ⟨b, k * 2, none⟩ (.string (nm k))).setCell ⟨b, k * 2 + 1, none⟩ (.string (vl k))).cell? ⟨b, k * 2 + 1, none⟩ = some (.string (vl k)) :=
    World.cell?_setCell_same _ _ _ e1
  refine ⟨by simpa using h.lt, fun i hi hin => ?_, fun j hj => ?_, fun j hj => by simpa using h.free j hj⟩
  · by_cases e : i = k
    · subst e; exact ⟨at0, at1⟩
    · rw [other _ (by omega) (by omega), other _ (by omega) (by omega)]
      exact h.cell i (by omega) hin
  · by_cases e0 : j = k * 2
    · subst e0; exact ⟨_, at0⟩
    · by_cases e1 : j = k * 2 + 1
      · subst e1; exact ⟨_, at1⟩
      · rw [other _ e0 e1]; exact h.there j hj

set_option maxHeartbeats 400000 in
theorem toTagS_any (ao : Option Addr) (n cap : Nat) (nm vl : Nat → ByteArray) (w : World) (hr : TRow w ao n nm vl) (hn : n ≤ 1048576) :
    Calls Try.prog 49 #[.slice ao n cap] w fun e w' => e = .returned (.slice (some ⟨w.heap.size, 0, none⟩) n n) ∧ TOwn w' w.heap.size n n nm vl ∧ Below w.heap.size w w' := by
  obtain ⟨i0, hi, hz0, hz1, hz2⟩ := info_parts Try.info69
  obtain ⟨hlies⟩ := hr
  go_enter Try.func49, Try.ntmps49
  go_wp2_with (at_make; refine wpList_make_full _ rfl (.tmp 6) (.tmp 6) 40 rfl w.heap.size 63 i0 (.agg #[.string ByteArray.empty, .string ByteArray.empty]) 2 Try.underlying40 hi hz0 hz1 .i64 .i64 _ _ n rfl rfl rfl rfl (by rw [hz2]; omega) (by unfold maxLen; omega) (Nat.le_refl _) ?_; intro w1 hown hgrow)
  have hb1 : Below w.heap.size w w1 := (Below.refl _ _).grown hgrow (Nat.le_refl _) (fun k h => by simp at h)
  have hlt1 : w.heap.size < w1.heap.size := by
    rcases hown.2 with ⟨h, _⟩ | ⟨g', cap', cur, h, _, hg, _⟩
    · simp at h
    · simp at h; obtain ⟨rfl, _⟩ := h
      exact (Array.getElem?_eq_some_iff.1 hg).1
  have ho : TOwn w1 w.heap.size n 0 nm vl := by
    refine ⟨hlt1, fun i h _ => by omega, fun j hj => ?_, fun j _ => hown.frozenAt j⟩
    have h1 := hown.cellAt j hj
    have h2 : j < (madeCells (Value.agg #[.string ByteArray.empty, .string ByteArray.empty]).cells (n * 2)).toList.length := by
      rw [Array.length_toList, size_madeCells]; exact hj
    exact ⟨_, h1.trans (List.getElem?_eq_getElem h2)⟩
  clear hown hgrow
  go_loopw [4] (fun i wr => ∃ k : Nat, k ≤ n ∧ i = .int .i64 k ∧ TOwn wr w.heap.size n k nm vl ∧ Below w.heap.size w wr) (fun i _ => n - (intOf i).toNat)
  case atStart => exact ⟨0, Nat.zero_le _, rfl, ho, hb1⟩
  case round =>
    obtain ⟨k, hk, rfl, hok, hbk⟩ := hrel
    by_cases hlt : k < n
    · obtain ⟨b, off, rfl, hblt, hc⟩ := hlies.resolve_left (by omega)
      have hc1 : wr.cell? ⟨b, off + k * 2, none⟩ = some (.string (nm k)) := (hbk.cell (p := ⟨b, off + k * 2, none⟩) hblt).trans (hc k hlt).1
      have hc2 : wr.cell? ⟨b, off + k * 2 + 1, none⟩ = some (.string (vl k)) := (hbk.cell (p := ⟨b, off + k * 2 + 1, none⟩) hblt).trans (hc k hlt).2
      clear hc hlies ho
      go_wp2_with fail
      refine (toTag_any _ _ _).mono ?_
      rintro e w2 ⟨rfl, hb2⟩
      have hok2 := hok.keep hb2
      obtain ⟨v1, hv1⟩ := hok2.there (k * 2) (by omega)
      obtain ⟨v2, hv2⟩ := hok2.there (k * 2 + 1) (by omega)
      have hf1 := hok2.free (k * 2) (by omega)
      have hf2 := hok2.free (k * 2 + 1) (by omega)
      go_wp2
      go_roundw
      case rel => exact ⟨k + 1, by omega, by go_num, hok2.store hlt, ((hbk.trans (hb2.mono hbk.size)).setCell (Nat.le_refl _) _).setCell (Nat.le_refl _) _⟩
      case measure => simp [intOf]; omega
    · go_wp2
      go_ret
      have e : k = n := by omega
      subst e
      exact ⟨rfl, hok, hbk⟩

/-- Three new blocks of three cells. -/
theorem three_new (w : World) (a0 a1 a2 b0 b1 b2 c0 c1 c2 : Value) (T U V : Nat) {w1 : World}
    (hb : Below (((w.alloc (.cells #[a0, a1, a2] T)).alloc (.cells #[b0, b1, b2] U)).alloc (.cells #[c0, c1, c2] V)).heap.size (((w.alloc (.cells #[a0, a1, a2] T)).alloc (.cells #[b0, b1, b2] U)).alloc (.cells #[c0, c1, c2] V)) w1) :
    (w1.cell? ⟨w.heap.size, 2, none⟩ = some a2) ∧
    (w1.cell? ⟨w.heap.size + 1, 0, none⟩ = some b0 ∧ w1.cell? ⟨w.heap.size + 1, 1, none⟩ = some b1 ∧ w1.cell? ⟨w.heap.size + 1, 2, none⟩ = some b2) ∧
    (w1.cell? ⟨w.heap.size + 1 + 1, 0, none⟩ = some c0 ∧ w1.cell? ⟨w.heap.size + 1 + 1, 1, none⟩ = some c1 ∧ w1.cell? ⟨w.heap.size + 1 + 1, 2, none⟩ = some c2) ∧
    (∀ j, w1.frozen? ⟨w.heap.size + 1, j, none⟩ = false) ∧ (∀ j, w1.frozen? ⟨w.heap.size + 1 + 1, j, none⟩ = false) ∧ w.heap.size + 3 ≤ w1.heap.size := by
  have hs := hb.size
  simp at hs
  have c : ∀ b j, b < w.heap.size + 3 → w1.cell? ⟨b, j, none⟩ = _ := fun b j h => hb.cell (p := ⟨b, j, none⟩) (by simp; omega)
  have d : ∀ b j, b < w.heap.size + 3 → w1.frozen? ⟨b, j, none⟩ = _ := fun b j h => hb.frozen (p := ⟨b, j, none⟩) (by simp; omega)
  refine ⟨(c _ _ (by omega)).trans ?_, ⟨(c _ _ (by omega)).trans ?_, (c _ _ (by omega)).trans ?_, (c _ _ (by omega)).trans ?_⟩, ⟨(c _ _ (by omega)).trans ?_, (c _ _ (by omega)).trans ?_, (c _ _ (by omega)).trans ?_⟩, fun j => (d _ _ (by omega)).trans ?_, fun j => (d _ _ (by omega)).trans ?_, by omega⟩
  all_goals simp [go_sem]

theorem TOwn.others {w w' : World} {b c n k : Nat} {nm vl : Nat → ByteArray} (h : TOwn w b n k nm vl) (ho : Others c w w') (hne : b ≠ c) : TOwn w' b n k nm vl :=
  have cl : ∀ j, w'.cell? ⟨b, j, none⟩ = w.cell? ⟨b, j, none⟩ := fun j => World.cell?_of_block (w := w) (a := ⟨b, j, none⟩) (ho.block b hne)
  have fz : ∀ j, w'.frozen? ⟨b, j, none⟩ = w.frozen? ⟨b, j, none⟩ := fun j => World.frozen?_of_block (w := w) (a := ⟨b, j, none⟩) (ho.block b hne)
  ⟨by rw [ho.size]; exact h.lt, fun i hk hi => by rw [cl, cl]; exact h.cell i hk hi, fun j hj => by rw [cl]; exact h.there j hj, fun j hj => by rw [fz]; exact h.free j hj⟩

set_option maxHeartbeats 400000 in
theorem toKey_any (m : ByteArray) (st : Int) (ao : Option Addr) (n cap : Nat) (nm vl : Nat → ByteArray) (w : World) (hr : TRow w ao n nm vl) (hn : n ≤ 1048576) :
    Calls Try.prog 33 #[.agg #[.string m, .slice ao n cap, .int .i64 st]] w fun e w' => ∃ g, e = .returned (.agg #[.string m, .slice (some ⟨g, 0, none⟩) n n, .int .i64 st]) ∧ w.heap.size ≤ g ∧ TOwn w' g n n nm vl ∧ Below w.heap.size w w' := by
  go_enter Try.func33, Try.ntmps33
  go_wp2_with fail
  refine (toTagS_any ao n cap nm vl _ (hr.keep ((((Below.refl _ _).alloc (Nat.le_refl _) _).alloc (by simp) _).alloc (by simp; omega) _)) hn).mono ?_
  rintro e w1 ⟨rfl, ho, hb⟩
  obtain ⟨f2, ⟨g0, g1, g2⟩, ⟨k0, k1, k2⟩, hf1, hf2, hsz⟩ := three_new w _ _ _ _ _ _ _ _ _ _ _ _ hb
  have hbw : Below w.heap.size w w1 := ((((Below.refl _ _).alloc (Nat.le_refl _) _).alloc (by simp) _).alloc (by simp; omega) _).trans (hb.mono (by simp; omega))
  simp only [World.size_alloc] at ho
  clear hb
  go_wp2
  refine bodyPost_ret (v := .agg #[.string m, .slice (some ⟨w.heap.size + 1 + 1 + 1, 0, none⟩) n n, .int .i64 st]) (by simp [results, Try.results33, go_sem, g0, g1, g2]) rfl ⟨w.heap.size + 1 + 1 + 1, rfl, by omega, ?_, ?_⟩
  · exact ((((ho.others (Others.setCell _ _ _ _) (by omega)).others (Others.setCell _ _ _ _) (by omega)).others (Others.setCell _ _ _ _) (by omega)).others (Others.setCell _ _ _ _) (by omega)).others (Others.setCell _ _ _ _) (by omega)
  · exact ((((hbw.setCell (by simp; omega) _).setCell (by simp; omega) _).setCell (by simp) _).setCell (by simp) _).setCell (by simp) _
end Go.Proofs.Ytjdijikmdlklkaa
