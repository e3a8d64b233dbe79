/- Whether a filter may have a key, in the program. -/
import Derived.Test.YtohjjigkfdhklaaGreatPu
namespace Go.Proofs.YtohjjigkfdhklaaGreat
set_option maxRecDepth 100000
open Go.RowKit Go.Shelf
set_option linter.unusedSimpArgs false
set_option linter.unusedVariables false
attribute [local go_sem] Oper.semAt_some

def AllIn (f : Nat → Int) {M : Int} (pre : List (Plc M)) : Prop := ∀ x ∈ pre, isSet f x.1 = true
def SomeNot (f : Nat → Int) {M : Int} (pre : List (Plc M)) : Prop := ∃ x ∈ pre, isSet f x.1 = false
theorem AllIn.push {f : Nat → Int} {M : Int} {pre : List (Plc M)} {x : Plc M} (h : AllIn f pre) (hx : isSet f x.1 = true) : AllIn f (pre ++ [x]) := fun y hy => by
  rcases List.mem_append.1 hy with hy | hy
  · exact h y hy
  · rw [List.mem_singleton.1 hy]; exact hx
theorem SomeNot.push {f : Nat → Int} {M : Int} {pre : List (Plc M)} {x : Plc M} (hx : isSet f x.1 = false) : SomeNot f (pre ++ [x]) := ⟨x, List.mem_append.2 (.inr (List.mem_singleton.2 rfl)), hx⟩
theorem allIn_nil (f : Nat → Int) (M : Int) : AllIn f ([] : List (Plc M)) := fun x hx => by cases hx

set_option maxRecDepth 100000 in
set_option maxHeartbeats 4000000 in
theorem mayHave_m (s : ByteArray) (y : Nat) (ao : Option Addr) (m cap : Nat) (f : Nat → Int) (w : World) (hr : Row w ao m f) (hs : s.size ≤ 1048576) (hy : y ≤ 8) (hm : 1 ≤ m ∧ m ≤ 200) :
    Calls Tryz.prog 32 #[.agg #[.int .i64 y, .slice ao m cap], .string s] w fun e w' => e = .returned (.bool (allSet f (plL (hOf s 0) (hOf s 1) (8 * m) y))) ∧ Below w.heap.size w w' := by
  have hh := hOf_bd s 0
  have hd := hOf_bd s 1
  have cP := fun W => places_any s y ao m cap W hs hm
  generalize hOf s 0 = h at *
  generalize hOf s 1 = d at *
  obtain ⟨M, hMe⟩ : ∃ M : Int, 8 * (m : Int) = M := ⟨_, rfl⟩
  have hM : 0 < M := by omega
  have hM2 : M ≤ 1600 := by omega
  rw [hMe] at cP ⊢
  refine (callsIn_wide (n := 4)).1 ?_
  refine callsIn_of_wp_marks Tryz.func32 rfl trivial ?_ rfl
  simp only [Tryz.ntmps32, List.size_toArray, List.length_cons, List.length_nil, Nat.reduceAdd, Nat.reduceSub, Array.replicate_succ, Array.replicate_zero, List.push_toArray, List.append_toArray, List.nil_append, List.cons_append]
  gi_wp2_with (refine ⟨trivial, ?_⟩; gi_at_call 65; refine (callsIn_wide.2 (cP _)).mono ?_; rintro e w1 ⟨rfl, hP, hsz, hb⟩)
  simp only [World.size_alloc] at hP hsz hb
  have hz : w1.heap.size = w.heap.size + 6 := by omega
  have c1 : w1.cell? ⟨w.heap.size + 1, 0, none⟩ = some (.bool false) := (hb.cell (p := ⟨w.heap.size + 1, 0, none⟩) (by simp)).trans (by simp [go_sem])
  have g1 : w1.frozen? ⟨w.heap.size + 1, 0, none⟩ = false := (hb.frozen (p := ⟨w.heap.size + 1, 0, none⟩) (by simp)).trans (by simp [go_sem])
  have c0 : w1.cell? ⟨w.heap.size, 1, none⟩ = some (.slice ao m cap) := (hb.cell (p := ⟨w.heap.size, 1, none⟩) (by simp; omega)).trans (by simp [go_sem])
  have hB0 : Below w.heap.size w w1 := (((Below.refl _ w).alloc (Nat.le_refl _) _).alloc (by simp) _).trans (hb.mono (by omega))
  obtain ⟨b, off, rfl, hblt, hcell⟩ := hr.lies.resolve_left (by omega)
  have hstop := places_stops 3 (by omega) (w.heap.size + 1 + 1) y _ h d M hM hM2 hy hh hd w1 hP
  have hall : allSet f (plL h d M y) = true ↔ AllIn f (plU h d hM y) := by
    unfold allSet
    rw [← plU_val h d hM, List.all_map, List.all_eq_true]
    exact Iff.rfl
  clear cP hP hb hr
  refine wpIn_rangeFunc_ownF rfl (by omega) (gf := 94) (lb := #[.pointer (some ⟨w.heap.size + 1 + 1, 0, none⟩), .pointer (some ⟨w.heap.size + 1 + 1 + 1, 0, none⟩), .pointer (some ⟨w.heap.size + 1 + 1 + 1 + 1, 0, none⟩), .pointer (some ⟨w.heap.size + 1 + 1 + 1 + 1 + 1, 0, none⟩)]) rfl trivial (enters_of Tryz.func94 (by kernel_rfl) rfl)
    hstop KpC.trans (kpC_b (by omega)) (Below.refl _ _) (fun _ => rfl)
    (fun pre W => (AllIn f pre ∧ W.cell? ⟨w.heap.size + 1, 0, none⟩ = some (.bool false) ∧ W.frozen? ⟨w.heap.size + 1, 0, none⟩ = false ∧ W.cell? ⟨w.heap.size, 1, none⟩ = some (.slice (some ⟨b, off, none⟩) m cap)) ∧ Below w.heap.size w W)
    (fun c pre W => (c = .ret ∧ SomeNot f pre ∧ W.cell? ⟨w.heap.size + 1, 0, none⟩ = some (.bool false)) ∧ Below w.heap.size w W)
    (OwnFrom.and (Own.from (fun s A B row hs hg hr => ⟨hs.1, cell_kept hs.2.1 hg hr, (frozen_kept hs.2.1 hg hr).trans hs.2.2.1, cell_kept hs.2.2.2 hg hr⟩) _) (ownFrom_below (Nat.le_refl _) (by omega)))
    (fun c => OwnFrom.and (Own.from (fun s A B row hs hg hr => ⟨hs.1, hs.2.1, cell_kept hs.2.2 hg hr⟩) _) (ownFrom_below (Nat.le_refl _) (by omega)))
    ⟨⟨allIn_nil _ _, c1, g1, c0⟩, hB0⟩
    (fun x => { tmps := #[.agg #[.int .i64 y, .slice (some ⟨b, off, none⟩) m cap], .string s, .pointer (some ⟨w.heap.size, 0, none⟩), undef, .pointer (some ⟨w.heap.size + 1, 0, none⟩), .int .i64 x.1, .agg #[.int .i64 y, .slice (some ⟨b, off, none⟩) m cap], .string s, .func (.func 94) #[] #[.pointer (some ⟨w.heap.size + 1 + 1, 0, none⟩), .pointer (some ⟨w.heap.size + 1 + 1 + 1, 0, none⟩), .pointer (some ⟨w.heap.size + 1 + 1 + 1 + 1, 0, none⟩), .pointer (some ⟨w.heap.size + 1 + 1 + 1 + 1 + 1, 0, none⟩)], .int .i64 x.1, undef, undef, undef, undef, undef, undef, undef, undef, undef, undef], defers := [] }) ?assign ?body ?done ?stop
  case assign =>
    intro l x W K hK
    gi_wp2
    exact hK
  case body =>
    rintro l pre ⟨x, hx0, hx1⟩ W ⟨⟨hp, hcr, hfr, hcf⟩, hB⟩ _
    dsimp only
    have hcq : W.cell? ⟨b, off + (x / 8).toNat, none⟩ = some (.int .u8 (f (x / 8).toNat)) := (hB.cell (p := ⟨b, off + (x / 8).toNat, none⟩) hblt).trans (hcell _ (by omega))
    have HS : Hid (isSet f x = !(bits .and .u8 (f (x / 8).toNat) (bt (x % 8)) == 0)) := rfl
    generalize f (x / 8).toNat = z at *
    have hqa : 0 ≤ x / 8 := by omega
    have hqb : x / 8 < (m : Int) := by omega
    have hqc : (x / 8).toNat < m := by omega
    have htd : x.tdiv 8 = x / 8 := Int.tdiv_eq_ediv_of_nonneg hx0
    have hwq : IntKind.i64.wrap (x / 8) = x / 8 := by rw [IntKind.wrap_i64] <;> omega
    have hmx : Tryz.prog.follows .mixedOrders = true := by kernel_rfl
    clear hstop hcell
    gi_wp2
    refine wpIn_mono (Q := fun e a' W' => e = .normal ∧ a' = { tmps := #[.agg #[.int .i64 y, .slice (some ⟨b, off, none⟩) m cap], .string s, .pointer (some ⟨w.heap.size, 0, none⟩), undef, .pointer (some ⟨w.heap.size + 1, 0, none⟩), .int .i64 x, .agg #[.int .i64 y, .slice (some ⟨b, off, none⟩) m cap], .string s, .func (.func 94) #[] #[.pointer (some ⟨w.heap.size + 1 + 1, 0, none⟩), .pointer (some ⟨w.heap.size + 1 + 1 + 1, 0, none⟩), .pointer (some ⟨w.heap.size + 1 + 1 + 1 + 1, 0, none⟩), .pointer (some ⟨w.heap.size + 1 + 1 + 1 + 1 + 1, 0, none⟩)], .int .i64 x, .pointer (some ⟨w.heap.size, 1, none⟩), .slice (some ⟨b, off, none⟩) m cap, .int .i64 x, .int .i64 (x / 8), .pointer (some ⟨b, off + (x / 8).toNat, none⟩), .int .u8 z, .int .i64 x, .int .u8 (bt (x % 8)), .int .u8 (bits .and .u8 z (bt (x % 8))), .bool (bits .and .u8 z (bt (x % 8)) == 0)], defers := [] } ∧ W' = W.drew) ?_ ?_
    · have hbo := fun W' => bitOf_any x W' ⟨hx0, by omega⟩
      clear hB hp hcr hfr HS hB0 c0 c1 g1 hz hsz hM2 hMe hh hd hblt hs hm hy
      gi_region_with_o (refine ⟨trivial, ?_⟩; gi_at_call 66; refine (CallsIn.inRound l (callsIn_wide.2 (hbo _))).mono ?_; rintro e w' ⟨rfl, rfl⟩)
      all_goals exact ⟨rfl, rfl, rfl⟩
    · rintro e a' W' ⟨rfl, rfl, rfl⟩
      have HX : Hid (isSet f (⟨x, hx0, hx1⟩ : Plc M).1 = !(bits .and .u8 z (bt (x % 8)) == 0)) := HS
      generalize hbit : (bits .and .u8 z (bt (x % 8)) == 0) = B at HX
      have hcr' : W.drew.cell? ⟨w.heap.size + 1, 0, none⟩ = some (.bool false) := hcr
      have hfr' : W.drew.frozen? ⟨w.heap.size + 1, 0, none⟩ = false := hfr
      cases B
      · gi_wp2
        exact ⟨KeepsOthers.drew _, ⟨Nat.le_refl _, fun _ _ _ => rfl⟩, ⟨hp.push (by rw [HX.out]; rfl), hcr', hfr', hcf⟩, hB.drew⟩
      · gi_wp2
        exact ⟨(KeepsOthers.drew _).trans (KeepsOthers.setCell _ _ _), ⟨rfl, SomeNot.push (by rw [HX.out]; rfl), World.cell?_setCell_same' _ _ _ (by first | (rw [hcr]; rfl) | (rw [hcr']; rfl))⟩, hB.drew.setCell (p := ⟨w.heap.size + 1, 0, none⟩) (by simp) _⟩
  case done =>
    rintro D ys W hD rfl ⟨⟨hne, hcr, hfr, _⟩, hB⟩ hK
    gi_wp2
    have hK' := (KeepsOthers.setCell W ⟨w.heap.size + 1, 0, none⟩ (.bool true)).same D _ hK rfl
    refine ⟨by simp, .inl ⟨_, _, rfl, run_takeDeferred hK', ?_⟩⟩
    have hc5 := cell_kept (World.cell?_setCell_same' W ⟨w.heap.size + 1, 0, none⟩ (.bool true) (by rw [hcr]; rfl)) (grownBy_putObj' _ D (.deferred none)) (fun r e => by cases e; exact ⟨_, hK', rfl⟩)
    refine ⟨.bool true, ?_, by rw [hall.2 hne], (hB.setCell (p := ⟨w.heap.size + 1, 0, none⟩) (by simp) _).trans (belowK_b (w := w) (Nat.le_refl _) _ D _ _ (by omega) hK' rfl rfl)⟩
    simp [results, Tryz.results32, go_sem, hc5]
  case stop =>
    rintro D c pre W hD ⟨k, hk, rfl⟩ ⟨⟨rfl, ⟨x, hx, hxf⟩, hcr⟩, hB⟩ hK
    gi_wp2
    refine ⟨by simp, .inl ⟨_, _, rfl, run_takeDeferred hK, ?_⟩⟩
    have hc5 := cell_kept hcr (grownBy_putObj' _ D (.deferred none)) (fun r e => by cases e; exact ⟨_, hK, rfl⟩)
    have hf : allSet f (plL h d M y) = false := by
      cases he : allSet f (plL h d M y)
      · rfl
      · have hmem : x ∈ plU h d hM y := by
          obtain ⟨i, hi, rfl⟩ := List.mem_map.1 hx
          exact List.mem_map.2 ⟨i, List.mem_range.2 (by have := List.mem_range.1 hi; omega), rfl⟩
        rw [hall.1 he x hmem] at hxf
        cases hxf
    refine ⟨.bool false, ?_, by rw [hf], hB.trans (belowK_b (w := w) (Nat.le_refl _) W D _ _ (by omega) hK rfl rfl)⟩
    simp [results, Tryz.results32, go_sem, hc5]
end Go.Proofs.YtohjjigkfdhklaaGreat
