/- Versions: measured, copied, compared, marked, held. -/
import Derived.Test.YtdcmclbbecnihaaVr
namespace Go.Proofs.Ytdcmclbbecnihaa
open Go.RowKit
set_option linter.unusedSimpArgs false
set_option linter.unusedVariables false

theorem szVersion_ex (nx lg sq : Int) (ao : Option Addr) (N cap : Nat) (R : Nat → Nat → Met) (M : Nat → Nat) (left : Int) (w : World) (hr : VRow w ao N R M) (hl : 0 ≤ left ∧ left ≤ 1048576) (hn : N ≤ 9223372036854775807) :
    Calls Try.prog 15 #[.agg #[.int .i64 nx, .int .i64 lg, .int .i64 sq, .slice ao N cap], .int .i64 left] w fun e w' => SzX left ((N + totV R M N : Nat) : Int) w e w' := by
  have hB := fun o => below_new w o
  have hS := szMetaSS_ex ao N cap R M left _ (hr.keep (hB (.cells #[.int .i64 nx, .int .i64 lg, .int .i64 sq, .slice ao N cap] 31))) hl hn
  generalize ((N + totV R M N : Nat) : Int) = d at hS ⊢
  go_enter Try.func15, Try.ntmps15
  go_wp2_with fail
  refine hS.mono ?_
  rintro e w1 ⟨v, rfl, h1, h3, hb⟩
  have bw : Below w.heap.size w w1 := (hB _).trans (hb.mono (by simp))
  clear hb hS
  by_cases hv : v < 0
  · clear h3
    go_wp2
    go_ret
    exact ⟨-1, rfl, by omega, fun h => by omega, bw⟩
  · have h4 : Hid (v = left - d) := h3 (by omega)
    clear h3
    go_wp2
    go_ret
    exact ⟨v, rfl, by omega, fun _ => h4.out, bw⟩

set_option maxHeartbeats 1600000 in
theorem toVersion_any (nx lg sq : Int) (ao : Option Addr) (N cap : Nat) (R : Nat → Nat → Met) (M : Nat → Nat) (w : World) (hr : VRow w ao N R M) (ht : N + totV R M N ≤ 1048576) :
    Calls Try.prog 17 #[.agg #[.int .i64 nx, .int .i64 lg, .int .i64 sq, .slice ao N cap]] w
      fun e w' => ∃ g, e = .returned (.agg #[.int .i64 nx, .int .i64 lg, .int .i64 sq, .slice (some ⟨g, 0, none⟩) N N]) ∧ VA w' w.heap.size w'.heap.size (some ⟨g, 0, none⟩) N R M ∧ Below w.heap.size w w' := by
  go_enter Try.func17, Try.ntmps17
  go_wp2_with fail
  refine (toMetaSS_any ao N cap R M _ (hr.keep ?_) ht).mono ?_
  · repeat' refine Below.setCell ?_ (by first | (simp; done) | (simp; omega)) _
    exact (((Below.refl _ _).alloc (Nat.le_refl _) _).alloc (by simp) _).alloc (by simp; omega) _
  rintro e w1 ⟨rfl, hV, hb⟩
  have b0 := hb.cell (p := ⟨w.heap.size + 1, 0, none⟩) (by simp; try omega)
  have b1 := hb.cell (p := ⟨w.heap.size + 1, 1, none⟩) (by simp; try omega)
  have b2 := hb.cell (p := ⟨w.heap.size + 1, 2, none⟩) (by simp; try omega)
  have b3 := hb.cell (p := ⟨w.heap.size + 1, 3, none⟩) (by simp; try omega)
  have bf : ∀ j, w1.frozen? ⟨w.heap.size + 1, j, none⟩ = false := fun j => (hb.frozen (p := ⟨w.heap.size + 1, j, none⟩) (by simp; try omega)).trans (by simp [go_sem])
  have k0 := hb.cell (p := ⟨w.heap.size + 1 + 1, 0, none⟩) (by simp; try omega)
  have k1 := hb.cell (p := ⟨w.heap.size + 1 + 1, 1, none⟩) (by simp; try omega)
  have k2 := hb.cell (p := ⟨w.heap.size + 1 + 1, 2, none⟩) (by simp; try omega)
  have k3 := hb.cell (p := ⟨w.heap.size + 1 + 1, 3, none⟩) (by simp; try omega)
  have kf : ∀ j, w1.frozen? ⟨w.heap.size + 1 + 1, j, none⟩ = false := fun j => (hb.frozen (p := ⟨w.heap.size + 1 + 1, j, none⟩) (by simp; try omega)).trans (by simp [go_sem])
  simp [go_sem] at b0 b1 b2 b3 k0 k1 k2 k3
  have bw : Below w.heap.size w w1 := by
    refine Below.trans ?_ (hb.mono (by simp; omega))
    repeat' refine Below.setCell ?_ (by first | (simp; done) | (simp; omega)) _
    exact (((Below.refl _ _).alloc (Nat.le_refl _) _).alloc (by simp) _).alloc (by simp; omega) _
  have hs1 := hb.size
  simp at hs1 hV
  clear hb
  have hlow := hV
  go_wp2
  refine bodyPost_ret (v := .agg #[.int .i64 nx, .int .i64 lg, .int .i64 sq, .slice (some ⟨w.heap.size + 1 + 1 + 1, 0, none⟩) N N]) (by simp [results, Try.results17, go_sem, b0, b1, b2, b3]) rfl ⟨w.heap.size + 1 + 1 + 1, rfl, ?_, ?_⟩
  · have hV2 : ∀ W, w1.heap.size = W.heap.size → (∀ c, w.heap.size + 1 + 1 + 1 ≤ c → W.heap[c]? = w1.heap[c]?) → VA W w.heap.size W.heap.size (some ⟨w.heap.size + 1 + 1 + 1, 0, none⟩) N R M := fun W hs hc => by
      have h1 := hV.same (w' := W) (by omega) (fun c h1 _ => hc c h1)
      exact h1.mono (by omega) (by omega) (Nat.le_refl _)
    refine hV2 _ (by simp) fun c hc => ?_
    repeat' refine (Below.heap_setCell _ _ _ _ (by first | omega | (dsimp only; omega))).trans ?_
    rfl
  · repeat' refine Below.setCell ?_ (by first | (simp; done) | (simp; omega)) _
    exact bw

set_option maxHeartbeats 800000 in
theorem eqVersion_same (nx lg sq : Int) (ao bo : Option Addr) (N ca cb : Nat) (R : Nat → Nat → Met) (M : Nat → Nat) (w : World) (hr : VRow w ao N R M) (hs : VRow w bo N R M) (hN : N ≤ 1048576) (ht : ∀ i, i < N → M i ≤ 1048576) :
    Calls Try.prog 12 #[.agg #[.int .i64 nx, .int .i64 lg, .int .i64 sq, .slice ao N ca], .agg #[.int .i64 nx, .int .i64 lg, .int .i64 sq, .slice bo N cb]] w fun e w' => e = .returned (.bool true) ∧ Below w.heap.size w w' := by
  have hB : ∀ o p, Below w.heap.size w ((w.alloc o).alloc p) := fun o p => (below_new w o).alloc (by simp) _
  have hE := eqMetaSS_same ao bo N ca cb R M _ (hr.keep (hB (.cells #[.int .i64 nx, .int .i64 lg, .int .i64 sq, .slice ao N ca] 24) (.cells #[.int .i64 nx, .int .i64 lg, .int .i64 sq, .slice bo N cb] 24))) (hs.keep (hB _ _)) hN ht
  go_enter Try.func12, Try.ntmps12
  go_wp2_with fail
  refine hE.mono ?_
  rintro e w1 ⟨rfl, hb⟩
  have hbw : Below w.heap.size w w1 := (hB _ _).trans (hb.mono (by simp; omega))
  clear hb hE
  go_wp2
  go_ret
  exact ⟨rfl, hbw⟩

set_option maxHeartbeats 800000 in
theorem markVersion_any (nx lg sq : Int) (lo hi : Nat) (ao : Option Addr) (N cap k0 : Nat) (R : Nat → Nat → Met) (M : Nat → Nat) (w : World) (h : VA w lo hi ao N R M) (hk0 : 1 ≤ k0) (hN : N ≤ 1048576) (hs : sumM M N ≤ 1048576) (hbd : k0 + 4 * sumM M N ≤ 16000000) :
    Calls Try.prog 13 #[.agg #[.int .i64 nx, .int .i64 lg, .int .i64 sq, .slice ao N cap], .int .i64 k0] w fun e w' => e = .returned (.int .i64 ((k0 + 4 * sumM M N : Nat) : Int)) ∧ VA w' lo hi ao N (mkR M k0) M ∧ Rng lo hi w w' := by
  have hB := below_new w (.cells #[.int .i64 nx, .int .i64 lg, .int .i64 sq, .slice ao N cap] 24)
  have hM := markMetaSS_any lo hi ao N cap k0 R M _ (h.keep hB) hk0 hN hs hbd
  generalize ((k0 + 4 * sumM M N : Nat) : Int) = d at hM ⊢
  go_enter Try.func13, Try.ntmps13
  go_wp2_with fail
  refine hM.mono ?_
  rintro e w1 ⟨rfl, hV, hr⟩
  have hr2 := (Rng.of_below (lo := lo) (hi := hi) hB).trans hr
  clear hM hr
  go_wp2
  go_ret
  exact ⟨rfl, hV, hr2⟩

set_option maxHeartbeats 800000 in
theorem heldVersion_yes (nx lg sq : Int) (ao : Option Addr) (N cap k0 : Nat) (M : Nat → Nat) (w : World) (h : VRow w ao N (mkR M k0) M) (hk0 : 1 ≤ k0) (hN : N ≤ 1048576) (hs : sumM M N ≤ 1048576) (hbd : k0 + 4 * sumM M N ≤ 16000000) :
    Calls Try.prog 14 #[.agg #[.int .i64 nx, .int .i64 lg, .int .i64 sq, .slice ao N cap], .int .i64 k0] w fun e w' => e = .returned (.int .i64 ((k0 + 4 * sumM M N : Nat) : Int)) ∧ Below w.heap.size w w' := by
  have hB := below_new w (.cells #[.int .i64 nx, .int .i64 lg, .int .i64 sq, .slice ao N cap] 24)
  have hM := heldMetaSS_yes ao N cap k0 M _ (h.keep hB) hk0 hN hs hbd
  have hneg : ¬ ((k0 + 4 * sumM M N : Nat) : Int) < 0 := by omega
  generalize ((k0 + 4 * sumM M N : Nat) : Int) = d at hM hneg ⊢
  go_enter Try.func14, Try.ntmps14
  go_wp2_with fail
  refine hM.mono ?_
  rintro e w1 ⟨rfl, hb⟩
  have bw := hB.trans (hb.mono (by simp))
  clear hM hb
  go_wp2
  go_ret
  exact ⟨rfl, bw⟩

/-- A version in a box. -/
structure VX (w : World) (b : Nat) (nx lg sq : Int) (ao : Option Addr) (N cap : Nat) : Prop where
  lt : b < w.heap.size
  c0 : w.cell? ⟨b, 0, none⟩ = some (.int .i64 nx)
  c1 : w.cell? ⟨b, 1, none⟩ = some (.int .i64 lg)
  c2 : w.cell? ⟨b, 2, none⟩ = some (.int .i64 sq)
  c3 : w.cell? ⟨b, 3, none⟩ = some (.slice ao N cap)
theorem VX.same {w w' : World} {b : Nat} {nx lg sq : Int} {ao : Option Addr} {N cap : Nat} (h : VX w b nx lg sq ao N cap) (hs : w.heap.size ≤ w'.heap.size) (hb : w'.heap[b]? = w.heap[b]?) : VX w' b nx lg sq ao N cap :=
  have c := fun j => World.cell?_of_block (w := w) (w' := w') (a := ⟨b, j, none⟩) hb
  ⟨Nat.lt_of_lt_of_le h.lt hs, (c 0).trans h.c0, (c 1).trans h.c1, (c 2).trans h.c2, (c 3).trans h.c3⟩
theorem VX.keep {w w' : World} {b : Nat} {nx lg sq : Int} {ao : Option Addr} {N cap : Nat} (h : VX w b nx lg sq ao N cap) (hb : Below w.heap.size w w') : VX w' b nx lg sq ao N cap := h.same hb.size (hb.block b h.lt)
theorem VX.new (w : World) (nx lg sq : Int) (ao : Option Addr) (N cap T : Nat) : VX (w.alloc (.cells #[.int .i64 nx, .int .i64 lg, .int .i64 sq, .slice ao N cap] T)) w.heap.size nx lg sq ao N cap := by
  refine ⟨by simp, ?_, ?_, ?_, ?_⟩ <;> simp [go_sem]
end Go.Proofs.Ytdcmclbbecnihaa
