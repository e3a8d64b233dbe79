/- No entries: asked whether they are good, sorted; the names of an empty store. -/
import Derived.Test.YtapmbgmmonhdoaaGreatDoorNc
import Derived.Test.YtapmbgmmonhdoaaGreatDoorAbv
import Derived.Test.YtapmbgmmonhdoaaGreatDoorSortF
namespace Go.Proofs.YtapmbgmmonhdoaaGreatDoor
set_option maxRecDepth 100000
open Go.RowKit
open Go.Shelf
open Go.ChangeMaps (setBlock)
set_option linter.unusedSimpArgs false
set_option linter.unusedVariables false

/-- No entry. -/
def nE (_ : Nat) : Ent := ⟨⟨#[]⟩, 0, 0, 0, 0, 0, 0, 0, fun _ => 0, false⟩
theorem erow_no (w : World) (ao : Option Addr) (X : Nat → Ent) : ERow w ao 0 X := ⟨fun i hi => absurd hi (Nat.not_lt_zero _), .inl rfl⟩
theorem esize_no (X : Nat → Ent) : ESize 0 X := fun i hi => absurd hi (Nat.not_lt_zero _)
theorem goodL_no (X : Nat → Ent) : GoodL X 0 := ⟨fun i hi => by omega, fun i hi => by omega, fun i j hij hj => by omega⟩
theorem goodEntries_no (ao : Option Addr) (cap : Nat) (w : World) : Calls Tryz.prog 60 #[.slice ao 0 cap] w fun e w' => e = .returned (.bool true) ∧ Below w.heap.size w w' := by
  refine (goodEntries_impl ao 0 cap nE w (erow_no _ _ _) (by omega) (esize_no _)).mono ?_
  rintro e w' ⟨b, rfl, h, hb⟩
  have := h.2 (goodL_no _)
  subst this
  exact ⟨rfl, hb⟩
theorem noSeqTwice_no (ao : Option Addr) (cap : Nat) (w : World) : Calls Tryz.prog 63 #[.slice ao 0 cap] w fun e w' => e = .returned (.bool true) ∧ Below w.heap.size w w' := by
  refine (noSeqTwice_any ao 0 cap nE w (erow_no _ _ _) (by omega)).mono ?_
  rintro e w' ⟨b, rfl, h, hb⟩
  have := h.2 (fun i j hij hj => by omega)
  subst this
  exact ⟨rfl, hb⟩
theorem allAbove_no (ao : Option Addr) (cap : Nat) (s : Int) (w : World) : Calls Tryz.prog 61 #[.slice ao 0 cap, .int .i64 s] w fun e w' => e = .returned (.bool true) ∧ Below w.heap.size w w' := by
  refine (allAbove_any ao 0 cap nE s w (erow_no _ _ _) (by omega)).mono ?_
  rintro e w' ⟨b, rfl, h, hb⟩
  have := h.2 (fun ⟨i, hi, _⟩ => by omega)
  subst this
  exact ⟨rfl, hb⟩
theorem noneAbove_no (ao : Option Addr) (cap : Nat) (s : Int) (w : World) : Calls Tryz.prog 64 #[.slice ao 0 cap, .int .i64 s] w fun e w' => e = .returned (.bool true) ∧ Below w.heap.size w w' := by
  refine (noneAbove_any ao 0 cap nE s w (erow_no _ _ _) (by omega)).mono ?_
  rintro e w' ⟨b, rfl, h, hb⟩
  have := h.2 (fun ⟨i, hi, _⟩ => by omega)
  subst this
  exact ⟨rfl, hb⟩
theorem sortE_no (w : World) : Calls Tryz.prog 58 #[.slice none 0 0, .func (.func 59) #[] #[]] w fun e w' => e = .returned (.tuple #[]) ∧ w' = w := by
  refine (AnyF.slices_SortFunc_none sortEnt none 0 (.func (.func 59) #[] #[]) w).mono ?_
  rintro e w' ⟨rfl, rfl⟩
  exact ⟨rfl, rfl⟩

/-- The two files of an empty store, wherever their bytes are none. -/
def L2 (a0 : Option Addr) (c0 : Nat) (a1 : Option Addr) (c1 : Nat) : List (FT × Nat) := [((sLog, (a0, 0, c0), 0), 0), ((sMan, (a1, 0, c1), 0), 1)]
/-- The first version in a box. -/
theorem vx_keep {w w' : World} {b : Nat} {nx lg sq : Int} {ao : Option Addr} {N cap base B : Nat} (h : VX w b nx lg sq ao N cap) (hk : KD base B w w') (hb : b < base) (hne : b ≠ B) : VX w' b nx lg sq ao N cap := h.same hk.size (hk.block b hb hne)
theorem qat_kd {w w' : World} {b : Nat} {Q : Int} {v : Value} {base B : Nat} (h : QAt w b Q v) (hk : KD base B w w') (hb : b < base) (hne : b ≠ B) : QAt w' b Q v :=
  ⟨Nat.lt_of_lt_of_le h.lt hk.size, (hk.cell hb hne).trans h.c0, (hk.cell hb hne).trans h.c1⟩
theorem va_kd {w w' : World} {lo hi N : Nat} {ao : Option Addr} {R : Nat → Nat → Met} {M : Nat → Nat} {base B : Nat} (h : VA w lo hi ao N R M) (hk : KD base B w w') (hb : hi ≤ base) (hne : B < lo ∨ hi ≤ B) : VA w' lo hi ao N R M := h.same hk.size (fun c h1 h2 => hk.block c (by omega) (by omega))
theorem va_set {w : World} {lo hi N : Nat} {ao : Option Addr} {R : Nat → Nat → Met} {M : Nat → Nat} (h : VA w lo hi ao N R M) {b : Nat} (hb : b < lo ∨ hi ≤ b) (j : Nat) (v : Value) : VA (w.setCell ⟨b, j, none⟩ v) lo hi ao N R M :=
  h.same (by simp) (fun c h1 h2 => Below.heap_setCell _ _ _ _ (by show c ≠ b; omega))
theorem VA.set' {w : World} {lo hi N : Nat} {ao : Option Addr} {R : Nat → Nat → Met} {M : Nat → Nat} (h : VA w lo hi ao N R M) {b : Nat} (hb : b < lo ∨ hi ≤ b) (j : Nat) (v : Value) : VA (w.setCell ⟨b, j, none⟩ v) lo hi ao N R M := va_set h hb j v

set_option maxHeartbeats 2000000 in
theorem readManifest_no (Q : Int) (bm : Nat) (a0 : Option Addr) (c0 : Nat) (a1 : Option Addr) (c1 : Nat) (w : World) (hM : MHas w bm (L2 a0 c0 a1 c1) 2) :
    Calls Tryz.prog 39 #[.agg #[.int .i64 Q, .map (some bm)]] w fun e w' => ∃ g, e = .returned (.tuple #[.agg #[.int .i64 2, .int .i64 1, .int .i64 0, .slice (some ⟨g, 0, none⟩) 3 3], .bool true]) ∧ VA w' w.heap.size w'.heap.size (some ⟨g, 0, none⟩) 3 noR noM ∧ MHas w' bm (L2 a0 c0 a1 0) 2 ∧ KD w.heap.size bm w w' := by
  have hlt := hM.lt
  have hB : Below w.heap.size w ((w.alloc (.cells #[.int .i64 Q, .map (some bm)] 68)).alloc (.cells #[.int .i64 0, .int .i64 0, .int .i64 0, .slice none 0 0] 27)) := ((Below.refl _ _).alloc (Nat.le_refl _) _).alloc (by simp) _
  have V0 := VX.new (w.alloc (.cells #[.int .i64 Q, .map (some bm)] 68)) 0 0 0 none 0 0 27
  have Vf : ∀ j, ((w.alloc (.cells #[.int .i64 Q, .map (some bm)] 68)).alloc (.cells #[.int .i64 0, .int .i64 0, .int .i64 0, .slice none 0 0] 27)).frozen? ⟨w.heap.size + 1, j, none⟩ = false := fun j => by simp [go_sem]
  rw [World.size_alloc] at V0
  have hMA := hM.keep hB
  have hs0 : w.heap.size + 2 ≤ ((w.alloc (.cells #[.int .i64 Q, .map (some bm)] 68)).alloc (.cells #[.int .i64 0, .int .i64 0, .int .i64 0, .slice none 0 0] 27)).heap.size := by simp
  go_enter Tryz.func39, Tryz.ntmps39
  go_wp2_with fail
  refine (recM Q bm 2 (L2 a0 c0 a1 c1) 1 sMan a1 c1 0 1 rfl _ hMA).mono ?_
  rintro e w1 ⟨rfl, hM1, hk1⟩
  have V1 := vx_keep V0 hk1 (by omega) (by omega)
  have Vf1 : ∀ j, w1.frozen? ⟨w.heap.size + 1, j, none⟩ = false := fun j => (hk1.frozen (by omega) (by omega)).trans (Vf j)
  have hkw : KD w.heap.size bm w w1 := (KD.of_below hB).trans (hk1.mono hB.size)
  have hM1' : MHas w1 bm (L2 a0 c0 a1 0) 2 := hM1
  clear hk1 hM1 V0 Vf hMA hs0 hB hM
  go_wp2_with fail
  refine (firstVersion_impl _).mono ?_
  rintro e w2 ⟨g, rfl, hV, hb2⟩
  have V2 := V1.keep hb2
  have Vf2 : ∀ j, w2.frozen? ⟨w.heap.size + 1, j, none⟩ = false := fun j => (hb2.frozen (p := ⟨w.heap.size + 1, j, none⟩) V1.lt).trans (Vf1 j)
  have hM2 := hM1'.keep hb2
  have hkw2 : KD w.heap.size bm w w2 := hkw.trans (KD.of_below (hb2.mono hkw.size))
  have hA : Below w2.heap.size w2 (w2.alloc (.cells #[.int .i64 2, .int .i64 1, .int .i64 0, .slice (some ⟨g, 0, none⟩) 3 3] 27)) := (Below.refl _ _).alloc (Nat.le_refl _) _
  have V3 := V2.keep hA
  have Y3 := VX.new w2 2 1 0 (some ⟨g, 0, none⟩) 3 3 27
  have Vf3 : ∀ j, (w2.alloc (.cells #[.int .i64 2, .int .i64 1, .int .i64 0, .slice (some ⟨g, 0, none⟩) 3 3] 27)).frozen? ⟨w.heap.size + 1, j, none⟩ = false := fun j => (hA.frozen (p := ⟨w.heap.size + 1, j, none⟩) V2.lt).trans (Vf2 j)
  have hM3 := hM2.keep hA
  have hV3 := hV.keep hA
  have hkw3 : KD w.heap.size bm w (w2.alloc (.cells #[.int .i64 2, .int .i64 1, .int .i64 0, .slice (some ⟨g, 0, none⟩) 3 3] 27)) := hkw2.trans (KD.of_below (hA.mono hkw2.size))
  have l3 : w.heap.size + 1 < w2.heap.size := V2.lt
  have l1 : w.heap.size + 1 < w1.heap.size := V1.lt
  clear hkw2 hkw hb2 hM2 hM1' V1 V2 Vf1 Vf2 hA hV
  go_wp2
  refine wp_loop_rounds 1 ?_
  rw [rounds_succ]
  obtain ⟨ly, y0, y1, y2, y3⟩ := Y3
  obtain ⟨lv, v0, v1, v2, v3⟩ := V3
  have f0 := Vf3 0
  have f1 := Vf3 1
  have f2 := Vf3 2
  have f3 := Vf3 3
  generalize w2.alloc (.cells #[.int .i64 2, .int .i64 1, .int .i64 0, .slice (some ⟨g, 0, none⟩) 3 3] 27) = w3 at *
  clear Vf3
  go_wp2
  refine bodyPost_ret (v := .tuple #[.agg #[.int .i64 2, .int .i64 1, .int .i64 0, .slice (some ⟨g, 0, none⟩) 3 3], .bool true]) (by simp [results, Tryz.results39, go_sem, v0, v1, v2, v3]) rfl ⟨g, rfl, ?_, ?_, ?_⟩
  · refine VA.mono (lo := w1.heap.size) (hi := w2.heap.size) ?_ (by omega) (by simp; omega) (Nat.le_refl _)
    exact ((((va_set hV3 (.inl (by omega)) 0 _).set' (.inl (by omega)) 1 _).set' (.inl (by omega)) 2 _).set' (.inl (by omega)) 3 _)
  · exact (((hM3.setCell (by omega) 0 _).setCell (by omega) 1 _).setCell (by omega) 2 _).setCell (by omega) 3 _
  · exact (((hkw3.setCell (by omega) 0 _).setCell (by omega) 1 _).setCell (by omega) 2 _).setCell (by omega) 3 _
end Go.Proofs.YtapmbgmmonhdoaaGreatDoor
