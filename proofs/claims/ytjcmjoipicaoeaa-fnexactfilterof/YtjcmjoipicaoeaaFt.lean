/- Filters: where they lie, measured, copied, compared. -/
import Derived.Test.YtjcmjoipicaoeaaBV
import Derived.Test.YtjcmjoipicaoeaaIn
namespace Go.Proofs.Ytjcmjoipicaoeaa
open Go.RowKit
set_option linter.unusedSimpArgs false
set_option linter.unusedVariables false

/-- A filter in block b. -/
structure FAt (w : World) (b : Nat) (y : Int) (v : Value) : Prop where
  lt : b < w.heap.size
  c0 : w.cell? ⟨b, 0, none⟩ = some (.int .i64 y)
  c1 : w.cell? ⟨b, 1, none⟩ = some v
section
variable {w w' : World} {b : Nat} {y : Int} {v : Value}
theorem FAt.keep (h : FAt w b y v) (hb : Below w.heap.size w w') : FAt w' b y v :=
  ⟨Nat.lt_of_lt_of_le h.lt hb.size, (hb.cell (p := ⟨b, 0, none⟩) h.lt).trans h.c0, (hb.cell (p := ⟨b, 1, none⟩) h.lt).trans h.c1⟩
theorem FAt.mid {B U : Nat} (h : FAt w b y v) (hw : Mid B U w w') (hne : b < B ∨ U ≤ b) : FAt w' b y v :=
  ⟨Nat.lt_of_lt_of_le h.lt hw.size, (hw.cell h.lt hne).trans h.c0, (hw.cell h.lt hne).trans h.c1⟩
end
theorem FAt.new (w : World) (y : Int) (v : Value) (T : Nat) : FAt (w.alloc (.cells #[.int .i64 y, v] T)) w.heap.size y v := by
  refine ⟨by simp, ?_, ?_⟩ <;> simp [go_sem]

theorem szByteS_any (ao : Option Addr) (n cap : Nat) (w : World) (hn : n ≤ 9223372036854775807) :
    Calls Try.prog 44 #[.slice ao n cap, .int .i64 1048576] w fun e w' => ∃ v : Int, e = .returned (.int .i64 v) ∧ -1 ≤ v ∧ v ≤ 1048576 ∧ (0 ≤ v → n ≤ 1048576) ∧ w' = w := by
  have hw : IntKind.i64.wrap (1048576 - (n : Int)) = 1048576 - (n : Int) := by rw [IntKind.wrap_i64] <;> omega
  by_cases h : n ≤ 1048576
  · have h1 : ¬ (1048576 - (n : Int) < 0) := by omega
    go_enter Try.func44, Try.ntmps44
    go_wp2
    go_ret
    exact ⟨_, rfl, by omega, by omega, rfl⟩
  · have h1 : 1048576 - (n : Int) < 0 := by omega
    go_enter Try.func44, Try.ntmps44
    go_wp2
    refine bodyPost_ret (v := .int .i64 (-1)) (by simp [results, Try.results44, go_sem]) rfl ⟨_, rfl, by omega, by omega, fun h => by omega, rfl⟩

theorem szFilter_any (y : Int) (ao : Option Addr) (n cap : Nat) (w : World) (hn : n ≤ 9223372036854775807) :
    Calls Try.prog 12 #[.agg #[.int .i64 y, .slice ao n cap], .int .i64 1048576] w
      fun e w' => ∃ v : Int, e = .returned (.int .i64 v) ∧ -1 ≤ v ∧ v ≤ 1048576 ∧ (0 ≤ v → n ≤ 1048576) ∧ Below w.heap.size w w' := by
  have hB := fun o => below_new w o
  go_enter Try.func12, Try.ntmps12
  go_wp2_with fail
  refine (szByteS_any ao n cap _ hn).mono ?_
  rintro e w1 ⟨v, rfl, h1, h2, h3, rfl⟩
  by_cases hv : v < 0
  · clear h3
    go_wp2
    go_ret
    first | exact hB _ | exact ⟨_, rfl, by omega, by omega, fun h => by omega, hB _⟩
  · have h4 := h3 (by omega)
    clear h3
    go_wp2
    go_ret
    exact ⟨_, rfl, by omega, by omega, fun h => by omega, hB _⟩

theorem new3 (w : World) (A B C : Array Value) (T U V : Nat) {w1 : World}
    (hb : Below (((w.alloc (.cells A T)).alloc (.cells B U)).alloc (.cells C V)).heap.size (((w.alloc (.cells A T)).alloc (.cells B U)).alloc (.cells C V)) w1) :
    (∀ j, w1.cell? ⟨w.heap.size, j, none⟩ = A[j]?) ∧ (∀ j, w1.cell? ⟨w.heap.size + 1, j, none⟩ = B[j]?) ∧ (∀ j, w1.cell? ⟨w.heap.size + 1 + 1, j, none⟩ = C[j]?) ∧
    (∀ j, w1.frozen? ⟨w.heap.size + 1, j, none⟩ = false) ∧ (∀ j, w1.frozen? ⟨w.heap.size + 1 + 1, j, none⟩ = false) ∧ w.heap.size + 3 ≤ w1.heap.size := by
  have hs := hb.size
  simp at hs
  have c : ∀ b j, b < w.heap.size + 3 → w1.cell? ⟨b, j, none⟩ = _ := fun b j h => hb.cell (p := ⟨b, j, none⟩) (by simp; omega)
  have d : ∀ b j, b < w.heap.size + 3 → w1.frozen? ⟨b, j, none⟩ = _ := fun b j h => hb.frozen (p := ⟨b, j, none⟩) (by simp; omega)
  refine ⟨fun j => (c _ _ (by omega)).trans ?_, fun j => (c _ _ (by omega)).trans ?_, fun j => (c _ _ (by omega)).trans ?_, fun j => (d _ _ (by omega)).trans ?_, fun j => (d _ _ (by omega)).trans ?_, by omega⟩
  all_goals simp [go_sem]

set_option maxHeartbeats 800000 in
theorem toFilter_any (y : Int) (ao : Option Addr) (n cap : Nat) (f : Nat → Int) (w : World) (hr : Row w ao n f) (hn : n ≤ 1048576) :
    Calls Try.prog 14 #[.agg #[.int .i64 y, .slice ao n cap]] w
      fun e w' => ∃ g, e = .returned (.agg #[.int .i64 y, .slice (some ⟨g, 0, none⟩) n n]) ∧ w.heap.size ≤ g ∧ Own w' g 0 n f ∧ Below w.heap.size w w' := by
  go_enter Try.func14, Try.ntmps14
  go_wp2_with fail
  refine (toByteS_any ao n cap f _ (hr.keep ((((Below.refl _ _).alloc (Nat.le_refl _) _).alloc (by simp) _).alloc (by simp; omega) _)) hn).mono ?_
  rintro e w1 ⟨rfl, ho, hb⟩
  obtain ⟨hA, hB, hC, hf1, hf2, hsz⟩ := new3 w _ _ _ _ _ _ hb
  have hbw : Below w.heap.size w w1 := ((((Below.refl _ _).alloc (Nat.le_refl _) _).alloc (by simp) _).alloc (by simp; omega) _).trans (hb.mono (by simp; omega))
  have a0 := hA 0
  have a1 := hA 1
  have b0 := hB 0
  have b1 := hB 1
  have k0 := hC 0
  have k1 := hC 1
  simp at a0 a1 b0 b1 k0 k1
  simp only [World.size_alloc] at ho
  clear hb hA hB hC
  go_wp2
  refine bodyPost_ret (v := .agg #[.int .i64 y, .slice (some ⟨w.heap.size + 1 + 1 + 1, 0, none⟩) n n]) (by simp [results, Try.results14, go_sem, b0, b1]) rfl ⟨w.heap.size + 1 + 1 + 1, rfl, by omega, ?_, ?_⟩
  · repeat' refine (Others.setCell _ _ _ _).row ?_ (by omega)
    exact ho
  · repeat' refine Below.setCell ?_ (by first | (simp; done) | (simp; omega)) _
    exact hbw

set_option maxHeartbeats 800000 in
theorem eqFilter_same (y : Int) (ao bo : Option Addr) (n ca cb : Nat) (f : Nat → Int) (w : World) (hr : Row w ao n f) (hs : Row w bo n f) (hn : n ≤ 1048576) :
    Calls Try.prog 16 #[.agg #[.int .i64 y, .slice ao n ca], .agg #[.int .i64 y, .slice bo n cb]] w
      fun e w' => e = .returned (.bool true) ∧ Below w.heap.size w w' := by
  have hB : ∀ o p, Below w.heap.size w ((w.alloc o).alloc p) := fun o p => (below_new w o).alloc (by simp) _
  go_enter Try.func16, Try.ntmps16
  go_wp2_with fail
  refine (eqByteS_same ao bo n ca cb f _ (hr.keep (hB _ _)) (hs.keep (hB _ _)) hn).mono ?_
  rintro e w1 ⟨rfl, hb⟩
  have hbw : Below w.heap.size w w1 := (hB _ _).trans (hb.mono (by simp; omega))
  clear hb
  go_wp2
  go_ret
  exact ⟨rfl, hbw⟩
end Go.Proofs.Ytjcmjoipicaoeaa
