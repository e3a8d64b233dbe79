/- The law of FoldEntries, walked. -/
import Derived.Test.YtijondokppainaaFz
import Derived.Test.YtijondokppainaaEoLaw
namespace Go.Proofs.Ytijondokppainaa
open Go.RowKit
set_option linter.unusedSimpArgs false
set_option linter.unusedVariables false

theorem fea_of {X : Nat → Ent} {n : Nat} : ∃ (y : Ent) (h g : Bool), y.n ≤ 8 ∧ (∀ i, -9223372036854775808 ≤ y.f i ∧ y.f i ≤ 9223372036854775807) ∧ ∀ w e w', FeO X n w e w' → FeA y h g w e w' := by
  by_cases h1 : GoodL X n ∧ OneK X n
  · by_cases h2 : NoF X n
    · exact ⟨dE, false, true, by simp [dE], fun i => by simp [dE], fun w e w' h => h.2.1 h1 h2⟩
    · have hm : mN X n ≤ n := by
        have := en_le (X := X) (n := n) (q := 0) (Nat.zero_le _)
        unfold mN
        split <;> omega
      have hAI : AI (fdA X n) := fdn_ai h1.1.1 hm _ (Nat.le_refl _)
      refine ⟨fdA X n, true, true, ?_, fun i => ?_, fun w e w' h => h.2.2 h1 h2⟩
      · have := congrArg Ent.n hAI.can
        rw [← this]
        exact Nat.le_refl 8
      · have := hAI.f i
        omega
  · exact ⟨dE, false, false, by simp [dE], fun i => by simp [dE], fun w e w' h => h.1 h1⟩
theorem irow_blocks {W W' : World} {ao : Option Addr} {n : Nat} {f : Nat → Int} (h : IRow W ao n f) (hs : W.heap.size ≤ W'.heap.size) (hb : ∀ g off p, ao = some ⟨g, off, p⟩ → n ≠ 0 → W'.heap[g]? = W.heap[g]?) : IRow W' ao n f := by
  obtain ⟨h1, h2⟩ := h
  by_cases h0 : n = 0
  · exact ⟨h1, .inl h0⟩
  · obtain ⟨g, off, rfl, hlt, hc⟩ := h2.resolve_left h0
    exact ⟨h1, .inr ⟨g, off, rfl, Nat.lt_of_lt_of_le hlt hs, fun i hi => (World.cell?_of_block (w := W) (a := ⟨g, off + i, none⟩) (hb _ _ _ rfl h0)).trans (hc i hi)⟩⟩
theorem AAt.same {W W' : World} {b : Nat} {c s lo hi : Int} {hv : Value} {fu : Bool} (h : AAt W b c s lo hi hv fu) (hs : W.heap.size ≤ W'.heap.size) (hb : W'.heap[b]? = W.heap[b]?) : AAt W' b c s lo hi hv fu :=
  have k : ∀ j, W'.cell? ⟨b, j, none⟩ = W.cell? ⟨b, j, none⟩ := fun j => World.cell?_of_block (w := W) (a := ⟨b, j, none⟩) hb
  ⟨Nat.lt_of_lt_of_le h.lt hs, (k _).trans h.c0, (k _).trans h.c1, (k _).trans h.c2, (k _).trans h.c3, (k _).trans h.c4, (k _).trans h.c5⟩

set_option maxHeartbeats 800000 in
theorem heldAggO (y : Ent) (go : Option Addr) (gc : Nat) (f : Nat → Int) (W : World) (hn : y.n ≤ 8) (hr : IRow W go y.n f) (hf : ∀ i, i < y.n → f i = ((1 + i : Nat) : Int)) :
    Calls Try.prog 26 #[.agg #[.int .i64 y.c, .int .i64 y.s, .int .i64 y.lo, .int .i64 y.hi, .slice go y.n gc, .bool y.fu], .int .i64 1] W fun e w' => e = .returned (.int .i64 ((1 + y.n : Nat) : Int)) ∧ Below W.heap.size W w' := by
  have hB := below_new W (.cells #[.int .i64 y.c, .int .i64 y.s, .int .i64 y.lo, .int .i64 y.hi, .slice go y.n gc, .bool y.fu] 37)
  have hH := heldI_yes go y.n gc f (W.alloc (.cells #[.int .i64 y.c, .int .i64 y.s, .int .i64 y.lo, .int .i64 y.hi, .slice go y.n gc, .bool y.fu] 37)) (hr.keep hB) hf (by omega)
  have hp : ¬ ((1 + y.n : Nat) : Int) < 0 := by omega
  have hpd : decide (((1 + y.n : Nat) : Int) < 0) = false := decide_eq_false hp
  generalize ((1 + y.n : Nat) : Int) = kk at hH hp hpd ⊢
  go_enter Try.func26, Try.ntmps26
  go_wp2_with fail
  refine hH.mono ?_
  rintro e w1 ⟨rfl, hb⟩
  have bw := hB.trans (hb.mono hB.size)
  clear hH hb
  go_wp2
  go_ret
  exact ⟨rfl, bw⟩
/-- What a mark leaves: the list's block alone is written. -/
def MkL (go : Option Addr) (n : Nat) (W w' : World) : Prop := w'.os = W.os ∧ w'.tape = W.tape ∧ w'.output = W.output ∧ W.heap.size ≤ w'.heap.size ∧ ∀ c, c < W.heap.size → (∀ q, go = some ⟨q, 0, none⟩ → n ≠ 0 → c ≠ q) → w'.heap[c]? = W.heap[c]?
set_option maxHeartbeats 800000 in
theorem markAggO (y : Ent) (go : Option Addr) (gc : Nat) (W : World) (hn : y.n ≤ 8) (h : y.n = 0 ∨ ∃ q, go = some ⟨q, 0, none⟩ ∧ IOwn W q 0 y.n y.f) :
    Calls Try.prog 25 #[.agg #[.int .i64 y.c, .int .i64 y.s, .int .i64 y.lo, .int .i64 y.hi, .slice go y.n gc, .bool y.fu], .int .i64 1] W fun e w' => e = .returned (.int .i64 ((1 + y.n : Nat) : Int)) ∧ (∃ f, IRow w' go y.n f ∧ ∀ i, i < y.n → f i = ((1 + i : Nat) : Int)) ∧ MkL go y.n W w' := by
  have hB := below_new W (.cells #[.int .i64 y.c, .int .i64 y.s, .int .i64 y.lo, .int .i64 y.hi, .slice go y.n gc, .bool y.fu] 37)
  have hM : Calls Try.prog 41 #[.slice go y.n gc, .int .i64 1] (W.alloc (.cells #[.int .i64 y.c, .int .i64 y.s, .int .i64 y.lo, .int .i64 y.hi, .slice go y.n gc, .bool y.fu] 37)) fun e w' => e = .returned (.int .i64 ((1 + y.n : Nat) : Int)) ∧ (∃ f, IRow w' go y.n f ∧ ∀ i, i < y.n → f i = ((1 + i : Nat) : Int)) ∧ MkL go y.n W w' := by
    by_cases h0 : y.n = 0
    · rw [h0] at hB ⊢
      refine (markI_zero go gc 1 _).mono ?_
      rintro e w' ⟨rfl, rfl⟩
      exact ⟨rfl, ⟨fun _ => 0, ⟨fun i => by simp, .inl rfl⟩, fun i hi => by omega⟩, hB.os, hB.tape, hB.output, hB.size, fun c hc _ => hB.block c hc⟩
    · obtain ⟨q, rfl, ho⟩ := h.resolve_left h0
      refine (markI_any q 0 y.n gc y.f 1 _ (ho.keep hB) (by omega) (by omega)).mono ?_
      rintro e w' ⟨rfl, ⟨fy, hfy, hfe⟩, ot⟩
      refine ⟨rfl, ⟨fy, hfy.row, hfe⟩, ot.os.trans hB.os, ot.tape.trans hB.tape, ot.output.trans hB.output, by rw [ot.size]; exact hB.size, fun c hc hne => ?_⟩
      exact (ot.block c (hne q rfl h0)).trans (hB.block c hc)
  generalize ((1 + y.n : Nat) : Int) = kk at hM ⊢
  go_enter Try.func25, Try.ntmps25
  go_wp2_with fail
  refine hM.mono ?_
  rintro e w1 ⟨rfl, H1, H2⟩
  have H : Hid ((∃ f, IRow w1 go y.n f ∧ ∀ i, i < y.n → f i = ((1 + i : Nat) : Int)) ∧ MkL go y.n W w1) := ⟨H1, H2⟩
  clear hM H1 H2
  go_wp2
  go_ret
  exact ⟨rfl, H.out.1, H.out.2⟩
end Go.Proofs.Ytijondokppainaa
