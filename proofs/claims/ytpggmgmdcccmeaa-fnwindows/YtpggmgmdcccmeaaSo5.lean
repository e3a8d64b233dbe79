/- Entries copied with lists of their own, in the model. -/
import Derived.Test.YtpggmgmdcccmeaaTkS
namespace Go.Proofs.Ytpggmgmdcccmeaa
open Go.RowKit
set_option linter.unusedSimpArgs false
set_option linter.unusedVariables false

theorem others_grown {b : Nat} {w w' : World} (h : Others b w w') : w.grownBy w' (some b) := ⟨h.os, h.tape, h.output, by rw [h.size]; exact Nat.le_refl _, fun i _ hne => h.block i (fun e => hne (by rw [e]))⟩

theorem HOwn.io {w : World} {base : Nat} {hv : Value} {x : Ent} (h : HOwn w base hv x) : ∃ lo lc, hv = .slice lo x.n lc ∧ (x.n = 0 ∨ ∃ g, lo = some ⟨g, 0, none⟩ ∧ base ≤ g ∧ hv.ownBlock = some g ∧ IOwn w g 0 x.n x.f) := by
  have ho := h.own
  rcases ho.2 with ⟨rfl, h0⟩ | ⟨g, cap, cur, rfl, hbg, hg, hnc, _⟩
  · exact ⟨none, 0, by rw [h0], .inl h0⟩
  · refine ⟨some ⟨g, 0, none⟩, cap, rfl, .inr ⟨g, rfl, hbg, rfl, h.bd, (Array.getElem?_eq_some_iff.1 hg).1, fun i hi => ?_, fun i _ => by simpa using ho.frozenAt i⟩⟩
    rw [Nat.zero_add, ho.cellAt i (by omega)]
    simp [icells, hi]

/-- A list copied by an append to an empty slice in a block of its own. -/
theorem hist_run0 (w : World) (B0 : Nat) (hB0 : w.heap[B0]? = some (.cells #[] 3 (0, 0))) (ao : Option Addr) (hc : Nat) (x : Ent) (hr : IRow w ao x.n x.f) (hn : x.n ≤ 1048576) (ty : TypeId) :
    ∃ hv w', (Builtin.append_ #[33, 33] ty #[.slice (some ⟨B0, 0, none⟩) 0 0, .slice ao x.n hc]).run Try.prog w = .ok hv w' ∧ HOwn w' B0 hv x ∧ Below B0 w w' ∧ w.grownBy w' (some B0) := by
  obtain ⟨i0, hi, hz0, hz1, hz2⟩ := info_parts Try.infoInt
  have hlt0 : B0 < w.heap.size := (Array.getElem?_eq_some_iff.1 hB0).1
  have hown0 : w.ownsRow B0 3 1 (.slice (some ⟨B0, 0, none⟩) 0 0) 0 [] := ⟨rfl, .inr ⟨B0, 0, #[], rfl, Nat.le_refl _, hB0, Nat.le_refl _, Nat.zero_le _, rfl, rfl⟩⟩
  by_cases h0 : x.n = 0
  · refine ⟨.slice (some ⟨B0, 0, none⟩) 0 0, w, ?_, ⟨hr.bd, ?_⟩, Below.refl _ _, World.grownBy.refl _ _⟩
    · rw [h0]
      cases ao <;> simp [Builtin.append_, run_underlying Try.underlying33, sizeOf, typeInfo, hi, Builtin.lenOf, Builtin.firstCells, loadCells, loadCellsFrom, storeCells]
    · rw [h0]; exact hown0
  · obtain ⟨b, off, rfl, hlt, hcl⟩ := hr.lies.resolve_left h0
    obtain ⟨v', w', hrun, hown, hg, _, _⟩ := run_append_own_at (P := Try.prog) w B0 33 ty 3 i0 (.int .i64 0) 1 8 Try.underlying33 hi hz0 hz1 hz2 rfl (by decide) (.slice (some ⟨B0, 0, none⟩) 0 0) 0 [] hown0 ⟨b, off, none⟩ x.n hc (icells x.f x.n) (by simp [icells])
      (fun j u hu => by
        have hj : j < x.n := by
          have := (List.getElem?_eq_some_iff.1 hu).1
          simpa [icells] using this
        have e : u = .int .i64 (x.f j) := by simpa [icells, hj] using hu.symm
        subst e
        rw [show (⟨b, off, none⟩ : Addr).add j = ⟨b, off + j, none⟩ from by unfold Addr.add; split <;> simp_all]
        exact hcl j hj)
      (fun u hu => by simp only [icells, List.mem_map] at hu; obtain ⟨i, _, rfl⟩ := hu; rfl) (by unfold maxLen; omega) (by omega) (Nat.le_of_lt hlt0)
    refine ⟨v', w', hrun, ⟨hr.bd, by simpa using hown⟩, (Below.refl _ _).grown hg (Nat.le_of_lt hlt0) (fun k hk => by simp [Value.ownBlock] at hk; omega), hg⟩

/-- What a copy of an agg leaves. -/
def OwnO (x : Ent) (w : World) (e : Ending) (w' : World) : Prop :=
  ∃ hv, e = .returned (.agg #[.int .i64 x.c, .int .i64 x.s, .int .i64 x.lo, .int .i64 x.hi, hv, .bool x.fu]) ∧ HOwn w' w.heap.size hv x ∧ Below w.heap.size w w'

theorem HOwn.others {w w' : World} {base c : Nat} {hv : Value} {x : Ent} (h : HOwn w base hv x) (ho : Others c w w') (hc : c < base) : HOwn w' base hv x :=
  h.kept (others_grown ho) (fun k hk e => by injection hk with hk; have := (h.own.lt k e).1; omega)

set_option maxRecDepth 100000 in
set_option maxHeartbeats 2000000 in
theorem l4OwnE_any (x : Ent) (ao : Option Addr) (hc : Nat) (w : World) (hr : IRow w ao x.n x.f) (hn : x.n ≤ 1048576) :
    Calls Try.prog 23 #[.agg #[.int .i64 x.c, .int .i64 x.s, .int .i64 x.lo, .int .i64 x.hi, .slice ao x.n hc, .bool x.fu]] w fun e w' => OwnO x w e w' := by
  have hB3 : Below w.heap.size w (((w.alloc (.cells #[.int .i64 x.c, .int .i64 x.s, .int .i64 x.lo, .int .i64 x.hi, .slice ao x.n hc, .bool x.fu] 35)).alloc (.cells #[.int .i64 0, .int .i64 0, .int .i64 0, .int .i64 0, .slice none 0 0, .bool false] 35)).alloc (.cells #[] 3)) := (((Below.refl _ _).alloc (Nat.le_refl _) _).alloc (by simp) _).alloc (by simp; omega) _
  obtain ⟨hv, w4, hrun, hH, hb4, hg4⟩ := hist_run0 (((w.alloc (.cells #[.int .i64 x.c, .int .i64 x.s, .int .i64 x.lo, .int .i64 x.hi, .slice ao x.n hc, .bool x.fu] 35)).alloc (.cells #[.int .i64 0, .int .i64 0, .int .i64 0, .int .i64 0, .slice none 0 0, .bool false] 35)).alloc (.cells #[] 3)) (w.heap.size + 1 + 1) (by have := heap_alloc_new ((w.alloc (.cells #[.int .i64 x.c, .int .i64 x.s, .int .i64 x.lo, .int .i64 x.hi, .slice ao x.n hc, .bool x.fu] 35)).alloc (.cells #[.int .i64 0, .int .i64 0, .int .i64 0, .int .i64 0, .slice none 0 0, .bool false] 35)) (.cells #[] 3); simpa using this) ao hc x (hr.keep hB3) hn 33
  obtain ⟨lo, lc, rfl, _⟩ := hH.row
  have b0 := hb4.cell (p := ⟨w.heap.size, 0, none⟩) (by simp; try omega)
  have b1 := hb4.cell (p := ⟨w.heap.size, 1, none⟩) (by simp; try omega)
  have b2 := hb4.cell (p := ⟨w.heap.size, 2, none⟩) (by simp; try omega)
  have b3 := hb4.cell (p := ⟨w.heap.size, 3, none⟩) (by simp; try omega)
  have b4 := hb4.cell (p := ⟨w.heap.size, 4, none⟩) (by simp; try omega)
  have b5 := hb4.cell (p := ⟨w.heap.size, 5, none⟩) (by simp; try omega)
  have bf : ∀ j, w4.frozen? ⟨w.heap.size, j, none⟩ = false := fun j => (hb4.frozen (p := ⟨w.heap.size, j, none⟩) (by simp; try omega)).trans (by simp [go_sem])
  have k0 := hb4.cell (p := ⟨w.heap.size + 1, 0, none⟩) (by simp; try omega)
  have k1 := hb4.cell (p := ⟨w.heap.size + 1, 1, none⟩) (by simp; try omega)
  have k2 := hb4.cell (p := ⟨w.heap.size + 1, 2, none⟩) (by simp; try omega)
  have k3 := hb4.cell (p := ⟨w.heap.size + 1, 3, none⟩) (by simp; try omega)
  have k4 := hb4.cell (p := ⟨w.heap.size + 1, 4, none⟩) (by simp; try omega)
  have k5 := hb4.cell (p := ⟨w.heap.size + 1, 5, none⟩) (by simp; try omega)
  have kf : ∀ j, w4.frozen? ⟨w.heap.size + 1, j, none⟩ = false := fun j => (hb4.frozen (p := ⟨w.heap.size + 1, j, none⟩) (by simp; try omega)).trans (by simp [go_sem])
  simp [go_sem] at b0 b1 b2 b3 b4 b5 k0 k1 k2 k3 k4 k5
  have bw4 : Below w.heap.size w w4 := hB3.trans (hb4.mono (by omega))
  have s4 := hb4.size
  simp at s4
  clear hB3 hb4 hg4
  go_enter Try.func23, Try.ntmps23
  go_wp2_with (at_builtin; refine wpList_append_eq _ rfl (.tmp 3) (.tmp 5) 33 33 rfl rfl (.slice (some ⟨w.heap.size + 1 + 1, 0, none⟩) 0 0) (.slice ao x.n hc) (.slice lo x.n lc) rfl rfl w4 hrun ?_)
  refine bodyPost_ret (v := .agg #[.int .i64 x.c, .int .i64 x.s, .int .i64 x.lo, .int .i64 x.hi, .slice lo x.n lc, .bool x.fu]) (by simp [results, Try.results23, go_sem, k0, k1, k2, k3, k4, k5]) rfl ⟨_, rfl, ?_, ?_⟩
  · refine HOwn.mono (base := w.heap.size + 1 + 1) ?_ (by omega)
    repeat' refine HOwn.others ?_ (Others.setCell _ _ _ _) (by omega)
    exact hH
  · repeat' refine Below.setCell ?_ (by first | (simp; done) | (simp; omega)) _
    exact bw4
end Go.Proofs.Ytpggmgmdcccmeaa
