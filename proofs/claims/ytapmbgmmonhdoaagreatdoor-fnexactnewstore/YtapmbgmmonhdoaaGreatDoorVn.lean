/- Versions: measured, copied, compared, marked, held. -/
import Derived.Test.YtapmbgmmonhdoaaGreatDoorVr
namespace Go.Proofs.YtapmbgmmonhdoaaGreatDoor
set_option maxRecDepth 100000
open Go.RowKit
set_option linter.unusedSimpArgs false
set_option linter.unusedVariables false

set_option maxHeartbeats 800000 in
theorem eqVersion_same (nx lg sq : Int) (ao bo : Option Addr) (N ca cb : Nat) (R : Nat → Nat → Met) (M : Nat → Nat) (w : World) (hr : VRow w ao N R M) (hs : VRow w bo N R M) (hN : N ≤ 1048576) (ht : ∀ i, i < N → M i ≤ 1048576) :
    Calls Tryz.prog 16 #[.agg #[.int .i64 nx, .int .i64 lg, .int .i64 sq, .slice ao N ca], .agg #[.int .i64 nx, .int .i64 lg, .int .i64 sq, .slice bo N cb]] w fun e w' => e = .returned (.bool true) ∧ Below w.heap.size w w' := by
  have hB : ∀ o p, Below w.heap.size w ((w.alloc o).alloc p) := fun o p => (below_new w o).alloc (by simp) _
  have hE := eqMetaSS_same ao bo N ca cb R M _ (hr.keep (hB (.cells #[.int .i64 nx, .int .i64 lg, .int .i64 sq, .slice ao N ca] 27) (.cells #[.int .i64 nx, .int .i64 lg, .int .i64 sq, .slice bo N cb] 27))) (hs.keep (hB _ _)) hN ht
  go_enter Tryz.func16, Tryz.ntmps16
  go_wp2_with fail
  refine hE.mono ?_
  rintro e w1 ⟨rfl, hb⟩
  have hbw : Below w.heap.size w w1 := (hB _ _).trans (hb.mono (by simp; omega))
  clear hb hE
  go_wp2
  go_ret
  exact ⟨rfl, hbw⟩

set_option maxHeartbeats 800000 in
theorem markVersion_any (nx lg sq : Int) (lo hi : Nat) (ao : Option Addr) (N cap k0 : Nat) (R : Nat → Nat → Met) (M : Nat → Nat) (w : World) (h : VA w lo hi ao N R M) (hk0 : 1 ≤ k0) (hN : N ≤ 1048576) (hs : sumM M N ≤ 1048576) (hbd : k0 + 4 * sumM M N ≤ 16000000) :
    Calls Tryz.prog 19 #[.agg #[.int .i64 nx, .int .i64 lg, .int .i64 sq, .slice ao N cap], .int .i64 k0] w fun e w' => e = .returned (.int .i64 ((k0 + 4 * sumM M N : Nat) : Int)) ∧ VA w' lo hi ao N (mkR M k0) M ∧ Rng lo hi w w' := by
  have hB := below_new w (.cells #[.int .i64 nx, .int .i64 lg, .int .i64 sq, .slice ao N cap] 27)
  have hM := markMetaSS_any lo hi ao N cap k0 R M _ (h.keep hB) hk0 hN hs hbd
  generalize ((k0 + 4 * sumM M N : Nat) : Int) = d at hM ⊢
  go_enter Tryz.func19, Tryz.ntmps19
  go_wp2_with fail
  refine hM.mono ?_
  rintro e w1 ⟨rfl, hV, hr⟩
  have hr2 := (Rng.of_below (lo := lo) (hi := hi) hB).trans hr
  clear hM hr
  go_wp2
  go_ret
  exact ⟨rfl, hV, hr2⟩

set_option maxHeartbeats 800000 in
theorem heldVersion_yes (nx lg sq : Int) (ao : Option Addr) (N cap k0 : Nat) (M : Nat → Nat) (w : World) (h : VRow w ao N (mkR M k0) M) (hk0 : 1 ≤ k0) (hN : N ≤ 1048576) (hs : sumM M N ≤ 1048576) (hbd : k0 + 4 * sumM M N ≤ 16000000) :
    Calls Tryz.prog 22 #[.agg #[.int .i64 nx, .int .i64 lg, .int .i64 sq, .slice ao N cap], .int .i64 k0] w fun e w' => e = .returned (.int .i64 ((k0 + 4 * sumM M N : Nat) : Int)) ∧ Below w.heap.size w w' := by
  have hB := below_new w (.cells #[.int .i64 nx, .int .i64 lg, .int .i64 sq, .slice ao N cap] 27)
  have hM := heldMetaSS_yes ao N cap k0 M _ (h.keep hB) hk0 hN hs hbd
  have hneg : ¬ ((k0 + 4 * sumM M N : Nat) : Int) < 0 := by omega
  generalize ((k0 + 4 * sumM M N : Nat) : Int) = d at hM hneg ⊢
  go_enter Tryz.func22, Tryz.ntmps22
  go_wp2_with fail
  refine hM.mono ?_
  rintro e w1 ⟨rfl, hb⟩
  have bw := hB.trans (hb.mono (by simp))
  clear hM hb
  go_wp2
  go_ret
  exact ⟨rfl, bw⟩

/-- A version in a box. -/
structure VX (w : World) (b : Nat) (nx lg sq : Int) (ao : Option Addr) (N cap : Nat) : Prop where
  lt : b < w.heap.size
  c0 : w.cell? ⟨b, 0, none⟩ = some (.int .i64 nx)
  c1 : w.cell? ⟨b, 1, none⟩ = some (.int .i64 lg)
  c2 : w.cell? ⟨b, 2, none⟩ = some (.int .i64 sq)
  c3 : w.cell? ⟨b, 3, none⟩ = some (.slice ao N cap)
theorem VX.same {w w' : World} {b : Nat} {nx lg sq : Int} {ao : Option Addr} {N cap : Nat} (h : VX w b nx lg sq ao N cap) (hs : w.heap.size ≤ w'.heap.size) (hb : w'.heap[b]? = w.heap[b]?) : VX w' b nx lg sq ao N cap :=
  have c := fun j => World.cell?_of_block (w := w) (w' := w') (a := ⟨b, j, none⟩) hb
  ⟨Nat.lt_of_lt_of_le h.lt hs, (c 0).trans h.c0, (c 1).trans h.c1, (c 2).trans h.c2, (c 3).trans h.c3⟩
theorem VX.keep {w w' : World} {b : Nat} {nx lg sq : Int} {ao : Option Addr} {N cap : Nat} (h : VX w b nx lg sq ao N cap) (hb : Below w.heap.size w w') : VX w' b nx lg sq ao N cap := h.same hb.size (hb.block b h.lt)
theorem VX.new (w : World) (nx lg sq : Int) (ao : Option Addr) (N cap T : Nat) : VX (w.alloc (.cells #[.int .i64 nx, .int .i64 lg, .int .i64 sq, .slice ao N cap] T)) w.heap.size nx lg sq ao N cap := by
  refine ⟨by simp, ?_, ?_, ?_, ?_⟩ <;> simp [go_sem]
end Go.Proofs.YtapmbgmmonhdoaaGreatDoor
