/- No Seq twice. / Good entries, in the program. / One entry ahead of another, in the model. -/
import Derived.Test.YtmeckcaekkangaaGreatAl
import Derived.Test.YtmeckcaekkangaaGreatIL
import Derived.Test.YtmeckcaekkangaaGreatGe
import Derived.Test.YtmeckcaekkangaaGreatLayP
namespace Go.Proofs.YtmeckcaekkangaaGreat
set_option maxRecDepth 100000
open Go.RowKit
set_option linter.unusedSimpArgs false
set_option linter.unusedVariables false

/-- No Seq twice among the first n. -/
def NoTwo (X : Nat → Ent) (n : Nat) : Prop := ∀ i j, i < j → j < n → (X i).seq ≠ (X j).seq
/-- The Seqs of the first n. -/
def seqL (X : Nat → Ent) (n : Nat) : List Int := (List.range n).map fun i => (X i).seq
theorem seqL_len (X : Nat → Ent) (n : Nat) : (seqL X n).length = n := by simp [seqL]
theorem seqL_nodup (X : Nat → Ent) (n : Nat) : (seqL X n).Nodup ↔ NoTwo X n := by
  unfold List.Nodup
  rw [List.pairwise_iff_getElem]
  constructor
  · intro h i j hij hj
    have := h i j (by rw [seqL_len]; omega) (by rw [seqL_len]; omega) hij
    simpa [seqL] using this
  · intro h i j hi hj hij
    rw [seqL_len] at hi hj
    have := h i j hij hj
    simpa [seqL] using this

set_option maxHeartbeats 1600000 in
theorem noSeqTwice_any (ao : Option Addr) (n cap : Nat) (X : Nat → Ent) (w : World) (hr : ERow w ao n X) (hn : n ≤ 1048576) :
    Calls Tryz.prog 22 #[.slice ao n cap] w fun e w' => Ans (NoTwo X n) w e w' := by
  obtain ⟨i0, hi, hz0, hz1, hz2⟩ := info_parts Tryz.infoInt
  obtain ⟨hbd, hlies⟩ := hr
  go_enter Tryz.func22, Tryz.ntmps22
  go_wp2_with (at_make; refine wpList_make_full _ rfl (.tmp 7) (.tmp 7) 44 rfl w.heap.size 3 i0 (.int .i64 0) 1 Tryz.underlying44 hi hz0 hz1 .i64 .i64 _ _ n rfl rfl rfl rfl (by rw [hz2]; omega) (by unfold maxLen; omega) (Nat.le_refl _) ?_; intro w1 hown hgrow)
  have hb1 : Below w.heap.size w w1 := (Below.refl _ _).grown hgrow (Nat.le_refl _) (fun k h => by simp at h)
  have hlt1 : w.heap.size < w1.heap.size := by
    rcases hown.2 with ⟨h, _⟩ | ⟨g', cap', cur, h, _, hg, _⟩
    · simp at h
    · simp at h; obtain ⟨rfl, _⟩ := h
      exact (Array.getElem?_eq_some_iff.1 hg).1
  have ho := iown_of_made hown hlt1
  clear hown hgrow
  go_loopw [11] (fun i wr => ∃ k : Nat, k ≤ n ∧ i = .int .i64 k ∧ IOwn wr w.heap.size 0 n (fun j => if j < k then (X j).seq else 0) ∧ Below w.heap.size w wr) (fun i _ => n - (intOf i).toNat)
  case atStart => exact ⟨0, Nat.zero_le _, rfl, by simpa using ho, hb1⟩
  case round =>
    obtain ⟨k, hk, rfl, hok, hbk⟩ := hrel
    have hltr := hok.lt
    by_cases hlt : k < n
    · obtain ⟨b, off, rfl, hblt, hc⟩ := hlies.resolve_left (by omega)
      obtain ⟨da, dc, ea, _⟩ := hc k hlt
      obtain ⟨_, a0, a1, a2, a3, a4, a5, a6, a7, a8⟩ := ea.keep hbk
      have hd := hok.cell k hlt
      have hfz := hok.free k hlt
      simp only [Nat.zero_add] at hd hfz
      clear hc hlies ho ea
      have hst := hok.store k hlt (X k).seq (hbd k hlt).seq
      simp only [Nat.zero_add] at hst
      go_wp2
      go_roundw
      case rel =>
        refine ⟨k + 1, by omega, by go_num, ?_, (hbk.setCell (Nat.le_refl _) _).alloc (by simp; omega) _⟩
        refine IOwn.keep (w := wr.setCell ⟨w.heap.size, k, none⟩ (.int .i64 (X k).seq)) (hst.congr (fun j => ?_) (fun j hj => ?_)) (below_new _ _)
        · by_cases h : j < k + 1
          · simp only [h, if_true]; exact (hbd j (by omega)).seq
          · simp only [h, if_false]; omega
        · by_cases h1 : j = k <;> by_cases h2 : j < k <;> simp [h1, h2] <;> omega
      case measure => simp [intOf]; omega
    · have e : k = n := by omega
      subst e
      have hrow : IRow wr (some ⟨w.heap.size, 0, none⟩) k (fun i => if i < k then (X i).seq else 0) := hok.row
      have HU : Hid (Unl (fun i => if i < k then (X i).seq else 0) k ↔ NoTwo X k) := by
        constructor
        · intro h i j hij hj
          have := h i j hij hj
          simp only [hj, if_true, show i < k from by omega] at this
          exact this
        · intro h i j hij hj
          have := h i j hij hj
          simp only [hj, if_true, show i < k from by omega]
          exact this
      clear hok ho hlies hlt
      go_wp2_with fail
      refine (allUnlike_any _ k k _ _ hrow hn).mono ?_
      rintro e w2 ⟨b2, rfl, h2, q2⟩
      have bw2 := hbk.trans (q2.mono hbk.size)
      have H2 : Hid (b2 = true ↔ NoTwo X k) := h2.trans HU.out
      clear q2 h2 HU hrow
      go_wp2
      exact bodyPost_ret (v := .bool b2) (by simp [results, Tryz.results22, go_sem]) rfl (Ans.mk _ H2.out bw2)
end Go.Proofs.YtmeckcaekkangaaGreat
namespace Go.Proofs.YtmeckcaekkangaaGreat
set_option maxRecDepth 100000
open Go.RowKit
set_option linter.unusedSimpArgs false
set_option linter.unusedVariables false

/-- Good entries, in the document's words. -/
def GoodL (X : Nat → Ent) (n : Nat) : Prop := (∀ i, i < n → GoodE (X i)) ∧ RiseE X n ∧ NoTwo X n
set_option maxHeartbeats 2000000 in
theorem goodEntries_impl (ao : Option Addr) (n cap : Nat) (X : Nat → Ent) (w : World) (hr : ERow w ao n X) (hn : n ≤ 1048576) (hz : ESize n X) :
    Calls Tryz.prog 9 #[.slice ao n cap] w fun e w' => Ans (GoodL X n) w e w' := by
  have hr0 := hr
  obtain ⟨hbd, hlies⟩ := hr
  go_enter Tryz.func9, Tryz.ntmps9
  go_wp2
  go_loopw [7] (fun i wr => ∃ k : Nat, k ≤ n ∧ i = .int .i64 k ∧ Hid (∀ i, i < k → GoodE (X i)) ∧ Below w.heap.size w wr) (fun i _ => n - (intOf i).toNat)
  case atStart => exact ⟨0, Nat.zero_le _, rfl, fun i h => by omega, Below.refl _ _⟩
  case round =>
    obtain ⟨k, hk, rfl, hG, hbk⟩ := hrel
    by_cases hlt : k < n
    · obtain ⟨b, off, rfl, hblt, hc⟩ := hlies.resolve_left (by omega)
      obtain ⟨da, dc, ea, ir⟩ := hc k hlt
      obtain ⟨_, a0, a1, a2, a3, a4, a5, a6, a7, a8⟩ := ea.keep hbk
      have irk := (ir.keep hbk).keep (below_new wr (.cells #[.string (X k).key, .int .i64 (X k).seq, .int .i64 (X k).kind, .int .i64 (X k).c, .int .i64 (X k).s, .int .i64 (X k).lo, .int .i64 (X k).hi, .slice da (X k).n dc, .bool (X k).fu] 48))
      have bwk := hbk.alloc hbk.size (.cells #[.string (X k).key, .int .i64 (X k).seq, .int .i64 (X k).kind, .int .i64 (X k).c, .int .i64 (X k).s, .int .i64 (X k).lo, .int .i64 (X k).hi, .slice da (X k).n dc, .bool (X k).fu] 48)
      have hcall := fun W h => goodEntry_impl (X k) da dc W h (hz k hlt).2 (hbd k hlt).s
      clear hc hlies ea ir
      go_wp2_with fail
      refine (hcall _ irk).mono ?_
      rintro e w1 ⟨b1, rfl, h1, q1⟩
      have bw1 : Below w.heap.size w w1 := bwk.trans (q1.mono bwk.size)
      clear q1 hcall bwk irk
      cases b1
      · have H : Hid (¬ GoodL X n) := fun h => by
          have := h1.2 (h.1 k hlt)
          cases this
        clear h1
        go_wp2
        go_ret
        exact Ans.mk false (by have := H.out; simp [this]) bw1
      · have H : Hid (∀ i, i < k + 1 → GoodE (X i)) := fun i hi => by
          rcases Nat.lt_succ_iff_lt_or_eq.1 hi with h | h
          · exact hG.out i h
          · subst h; exact h1.1 rfl
        clear h1
        go_wp2
        go_roundw
        case rel => exact ⟨k + 1, by omega, by go_num, H, bw1⟩
        case measure => simp [intOf]; omega
    · have e : k = n := by omega
      subst e
      clear hlies hlt
      go_wp2_with fail
      refine (waysOf_any ao k cap _ hn).mono ?_
      rintro e w1 ⟨g, rfl, hg, ho, hb1⟩
      have bw1 := hbk.trans (hb1.mono hbk.size)
      clear hb1 ho hg
      go_wp2_with fail
      refine (rising_any ao k cap X _ _ (hr0.keep bw1) hn).mono ?_
      rintro e w2 ⟨b2, rfl, h2, q2⟩
      have bw2 := bw1.trans (q2.mono bw1.size)
      clear q2 bw1
      cases b2
      · have H : Hid (¬ GoodL X k) := fun h => by
          have := h2.2 h.2.1
          cases this
        clear h2
        go_wp2
        refine bodyPost_ret (v := .bool false) (by simp [results, Tryz.results9, go_sem]) rfl (Ans.mk _ (by have := H.out; simp [this]) bw2)
      · have hri : Hid (RiseE X k) := h2.1 rfl
        clear h2
        go_wp2_with fail
        refine (noSeqTwice_any ao k cap X _ (hr0.keep bw2) hn).mono ?_
        rintro e w3 ⟨b3, rfl, h3, q3⟩
        have bw3 := bw2.trans (q3.mono bw2.size)
        have H : Hid (b3 = true ↔ GoodL X k) := ⟨fun h => ⟨hG.out, hri.out, h3.1 h⟩, fun h => h3.2 h.2.2⟩
        clear q3 bw2 h3
        go_wp2
        exact bodyPost_ret (v := .bool b3) (by simp [results, Tryz.results9, go_sem]) rfl (Ans.mk _ H.out bw3)
end Go.Proofs.YtmeckcaekkangaaGreat
namespace Go.Proofs.YtmeckcaekkangaaGreat
set_option maxRecDepth 100000
open Go.RowKit
set_option linter.unusedSimpArgs false
set_option linter.unusedVariables false


set_option maxHeartbeats 1600000 in
theorem l5Before_any (x y : Ent) (ao bo : Option Addr) (ca cb : Nat) (w : World) :
    Calls Tryz.prog 52 #[.agg #[.string x.key, .int .i64 x.seq, .int .i64 x.kind, .int .i64 x.c, .int .i64 x.s, .int .i64 x.lo, .int .i64 x.hi, .slice ao x.n ca, .bool x.fu], .agg #[.string y.key, .int .i64 y.seq, .int .i64 y.kind, .int .i64 y.c, .int .i64 y.s, .int .i64 y.lo, .int .i64 y.hi, .slice bo y.n cb, .bool y.fu]] w fun e w' => Ans (Bef x y) w e w' := by
  have hB : ∀ o p, Below w.heap.size w ((w.alloc o).alloc p) := fun o p => (below_new w o).alloc (by simp) _
  cases h1 : Op.bytesLess x.key.toList y.key.toList
  · cases h2 : (x.key.toList == y.key.toList)
    · have H : Hid (¬ Bef x y) := by
        rintro (h | ⟨h, _⟩)
        · rw [h1] at h; cases h
        · rw [h] at h2; simp at h2
      go_enter Tryz.func52, Tryz.ntmps52
      go_wp2
      exact bodyPost_ret (v := .bool false) (by simp [results, Tryz.results52, go_sem]) rfl (Ans.mk _ (by have := H.out; simp [this]) (hB _ _))
    · have H : Hid (Bef x y ↔ y.seq < x.seq) := by
        have e : x.key.toList = y.key.toList := by simpa using h2
        constructor
        · rintro (h | ⟨_, h⟩)
          · rw [h1] at h; cases h
          · exact h
        · exact fun h => .inr ⟨e, h⟩
      go_enter Tryz.func52, Tryz.ntmps52
      go_wp2
      exact bodyPost_ret (v := .bool (decide (y.seq < x.seq))) (by simp [results, Tryz.results52, go_sem]) rfl (Ans.mk _ (by have := H.out; simp [this]) (hB _ _))
  · have H : Hid (Bef x y) := .inl h1
    go_enter Tryz.func52, Tryz.ntmps52
    go_wp2
    exact bodyPost_ret (v := .bool true) (by simp [results, Tryz.results52, go_sem]) rfl (Ans.mk _ (by have := H.out; simp [this]) (hB _ _))
end Go.Proofs.YtmeckcaekkangaaGreat
