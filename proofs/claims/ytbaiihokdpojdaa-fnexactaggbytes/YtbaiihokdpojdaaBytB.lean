/- What AggBytes answers, in the model. -/
import Derived.Test.YtbaiihokdpojdaaBytS
import Derived.Test.YtbaiihokdpojdaaGdI
import Derived.Test.YtbaiihokdpojdaaGdS
namespace Go.Proofs.Ytbaiihokdpojdaa
open Go.RowKit
set_option linter.unusedSimpArgs false
set_option linter.unusedVariables false

theorem GoodA.nums {c s lo hi : Int} {n : Nat} {f : Nat → Int} {fu : Bool} (h : GoodA c s lo hi n f fu) : ∀ i, i < 12 → -1000000000000000000 ≤ nm c s lo hi f i ∧ nm c s lo hi f i ≤ 1000000000000000000 := by
  obtain ⟨hc, _, hf, ht, hfu, h0, h1⟩ := h
  have hc' : 0 ≤ c ∧ c ≤ 1000000000 := by simpa [isC, btw] using hc
  have hs : -1000000000000000000 ≤ s ∧ s ≤ 1000000000000000000 := by
    cases fu
    · have := ht rfl; omega
    · have := hfu rfl; omega
  have hl : (-1000000000 ≤ lo ∧ lo ≤ 1000000000) ∧ (-1000000000 ≤ hi ∧ hi ≤ 1000000000) := by
    by_cases e : c = 0
    · have := h0 e; omega
    · obtain ⟨a, b, _⟩ := h1 e
      exact ⟨by simpa [isV, btw] using a, by simpa [isV, btw] using b⟩
  intro i hi'
  unfold nm
  repeat' split
  · omega
  · omega
  · omega
  · omega
  · have := hf (i - 4) (by omega)
    simp [isC, btw] at this
    omega

/-- What AggBytes leaves. -/
def BO (c s lo hi : Int) (n : Nat) (f : Nat → Int) (fu : Bool) (w : World) (e : Ending) (w' : World) : Prop :=
  Below w.heap.size w w' ∧ ((GoodA c s lo hi n f fu ∧ ∃ v, e = .returned (.tuple #[v, .bool true]) ∧ OwnL w' w.heap.size v (bl fu (nm c s lo hi f) 12)) ∨
    (¬ GoodA c s lo hi n f fu ∧ e = .returned (.tuple #[.slice none 0 0, .bool false])))

set_option maxHeartbeats 800000 in
theorem aggBytes_spec (c s lo hi : Int) (ao : Option Addr) (n cap : Nat) (f : Nat → Int) (fu : Bool) (w : World) (hr : IRow w ao n f) (hn : n ≤ 1048576) (hs : -9223372036854775808 ≤ s ∧ s ≤ 9223372036854775807) :
    Calls Try.prog 12 #[.agg #[.int .i64 c, .int .i64 s, .int .i64 lo, .int .i64 hi, .slice ao n cap, .bool fu]] w fun e w' => BO c s lo hi n f fu w e w' := by
  have hB := below_new w (.cells #[.int .i64 c, .int .i64 s, .int .i64 lo, .int .i64 hi, .slice ao n cap, .bool fu] 27)
  have A0 := AAt.new w c s lo hi (.slice ao n cap) fu 27
  go_enter Try.func12, Try.ntmps12
  go_wp2_with fail
  refine (goodAgg_spec c s lo hi ao n cap f fu _ (hr.keep hB) hn hs).mono ?_
  rintro e w1 ⟨b1, rfl, h1, q1⟩
  obtain ⟨la, a0, a1, a2, a3, a4, a5⟩ := A0.keep q1
  have B1 : Below w.heap.size w w1 := hB.trans (q1.mono (by simp))
  have r1 := hr.keep B1
  clear q1 hB A0
  cases b1
  · have K : Hid (¬ GoodA c s lo hi n f fu) := fun h => by
      have := h1.2 h
      cases this
    clear h1
    go_wp2
    exact bodyPost_ret (v := .tuple #[.slice none 0 0, .bool false]) (by simp [results, Try.results12, go_sem]) rfl (⟨B1, .inr ⟨K.out, rfl⟩⟩)
  · have hg := h1.1 rfl
    have HG : Hid (GoodA c s lo hi n f fu) := hg
    have e8 := hg.2.1
    clear h1 hg
    subst e8
    cases fu
    · go_wp2_with fail
      refine (l4Bytes_false c s lo hi ao cap f _ rfl _ r1 HG.out.nums).mono ?_
      rintro e w2 ⟨v, rfl, ho, hb⟩
      have B2 := B1.trans (hb.mono B1.size)
      have o2 := ho.mono B1.size
      clear ho hb
      go_wp2
      exact bodyPost_ret (v := .tuple #[v, .bool true]) (by simp [results, Try.results12, go_sem]) rfl (⟨B2, .inl ⟨HG.out, v, rfl, o2⟩⟩)
    · go_wp2_with fail
      refine (l4Bytes_true c s lo hi ao cap f _ rfl _ r1 HG.out.nums).mono ?_
      rintro e w2 ⟨v, rfl, ho, hb⟩
      have B2 := B1.trans (hb.mono B1.size)
      have o2 := ho.mono B1.size
      clear ho hb
      go_wp2
      exact bodyPost_ret (v := .tuple #[v, .bool true]) (by simp [results, Try.results12, go_sem]) rfl (⟨B2, .inl ⟨HG.out, v, rfl, o2⟩⟩)
end Go.Proofs.Ytbaiihokdpojdaa
