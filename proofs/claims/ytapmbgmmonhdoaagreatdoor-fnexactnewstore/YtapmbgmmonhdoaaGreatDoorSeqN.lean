/- No Seq twice. -/
import Derived.Test.YtapmbgmmonhdoaaGreatDoorAl
import Derived.Test.YtapmbgmmonhdoaaGreatDoorGdS
import Derived.Test.YtapmbgmmonhdoaaGreatDoorGe
namespace Go.Proofs.YtapmbgmmonhdoaaGreatDoor
set_option maxRecDepth 100000
open Go.RowKit
set_option linter.unusedSimpArgs false
set_option linter.unusedVariables false

/-- No Seq twice among the first n. -/
def NoTwo (X : Nat → Ent) (n : Nat) : Prop := ∀ i j, i < j → j < n → (X i).seq ≠ (X j).seq
/-- The Seqs of the first n. -/
def seqL (X : Nat → Ent) (n : Nat) : List Int := (List.range n).map fun i => (X i).seq
theorem seqL_len (X : Nat → Ent) (n : Nat) : (seqL X n).length = n := by simp [seqL]
theorem seqL_nodup (X : Nat → Ent) (n : Nat) : (seqL X n).Nodup ↔ NoTwo X n := by
  unfold List.Nodup
  rw [List.pairwise_iff_getElem]
  constructor
  · intro h i j hij hj
    have := h i j (by rw [seqL_len]; omega) (by rw [seqL_len]; omega) hij
    simpa [seqL] using this
  · intro h i j hi hj hij
    rw [seqL_len] at hi hj
    have := h i j hij hj
    simpa [seqL] using this

set_option maxHeartbeats 1600000 in
theorem noSeqTwice_any (ao : Option Addr) (n cap : Nat) (X : Nat → Ent) (w : World) (hr : ERow w ao n X) (hn : n ≤ 1048576) :
    Calls Tryz.prog 63 #[.slice ao n cap] w fun e w' => Ans (NoTwo X n) w e w' := by
  obtain ⟨i0, hi, hz0, hz1, hz2⟩ := info_parts Tryz.infoInt
  obtain ⟨hbd, hlies⟩ := hr
  go_enter Tryz.func63, Tryz.ntmps63
  go_wp2_with (at_make; refine wpList_make_full _ rfl (.tmp 7) (.tmp 7) 58 rfl w.heap.size 3 i0 (.int .i64 0) 1 Tryz.underlying58 hi hz0 hz1 .i64 .i64 _ _ n rfl rfl rfl rfl (by rw [hz2]; omega) (by unfold maxLen; omega) (Nat.le_refl _) ?_; intro w1 hown hgrow)
  have hb1 : Below w.heap.size w w1 := (Below.refl _ _).grown hgrow (Nat.le_refl _) (fun k h => by simp at h)
  have hlt1 : w.heap.size < w1.heap.size := by
    rcases hown.2 with ⟨h, _⟩ | ⟨g', cap', cur, h, _, hg, _⟩
    · simp at h
    · simp at h; obtain ⟨rfl, _⟩ := h
      exact (Array.getElem?_eq_some_iff.1 hg).1
  have ho := iown_of_made hown hlt1
  clear hown hgrow
  go_loopw [11] (fun i wr => ∃ k : Nat, k ≤ n ∧ i = .int .i64 k ∧ IOwn wr w.heap.size 0 n (fun j => if j < k then (X j).seq else 0) ∧ Below w.heap.size w wr) (fun i _ => n - (intOf i).toNat)
  case atStart => exact ⟨0, Nat.zero_le _, rfl, by simpa using ho, hb1⟩
  case round =>
    obtain ⟨k, hk, rfl, hok, hbk⟩ := hrel
    have hltr := hok.lt
    by_cases hlt : k < n
    · obtain ⟨b, off, rfl, hblt, hc⟩ := hlies.resolve_left (by omega)
      obtain ⟨da, dc, ea, _⟩ := hc k hlt
      obtain ⟨_, a0, a1, a2, a3, a4, a5, a6, a7, a8⟩ := ea.keep hbk
      have hd := hok.cell k hlt
      have hfz := hok.free k hlt
      simp only [Nat.zero_add] at hd hfz
      clear hc hlies ho ea
      have hst := hok.store k hlt (X k).seq (hbd k hlt).seq
      simp only [Nat.zero_add] at hst
      go_wp2
      go_roundw
      case rel =>
        refine ⟨k + 1, by omega, by go_num, ?_, (hbk.setCell (Nat.le_refl _) _).alloc (by simp; omega) _⟩
        refine IOwn.keep (w := wr.setCell ⟨w.heap.size, k, none⟩ (.int .i64 (X k).seq)) (hst.congr (fun j => ?_) (fun j hj => ?_)) (below_new _ _)
        · by_cases h : j < k + 1
          · simp only [h, if_true]; exact (hbd j (by omega)).seq
          · simp only [h, if_false]; omega
        · by_cases h1 : j = k <;> by_cases h2 : j < k <;> simp [h1, h2] <;> omega
      case measure => simp [intOf]; omega
    · have e : k = n := by omega
      subst e
      have hrow : IRow wr (some ⟨w.heap.size, 0, none⟩) k (fun i => if i < k then (X i).seq else 0) := hok.row
      have HU : Hid (Unl (fun i => if i < k then (X i).seq else 0) k ↔ NoTwo X k) := by
        constructor
        · intro h i j hij hj
          have := h i j hij hj
          simp only [hj, if_true, show i < k from by omega] at this
          exact this
        · intro h i j hij hj
          have := h i j hij hj
          simp only [hj, if_true, show i < k from by omega]
          exact this
      clear hok ho hlies hlt
      go_wp2_with fail
      refine (allUnlike_any _ k k _ _ hrow hn).mono ?_
      rintro e w2 ⟨b2, rfl, h2, q2⟩
      have bw2 := hbk.trans (q2.mono hbk.size)
      have H2 : Hid (b2 = true ↔ NoTwo X k) := h2.trans HU.out
      clear q2 h2 HU hrow
      go_wp2
      exact bodyPost_ret (v := .bool b2) (by simp [results, Tryz.results63, go_sem]) rfl (Ans.mk _ H2.out bw2)
end Go.Proofs.YtapmbgmmonhdoaaGreatDoor
