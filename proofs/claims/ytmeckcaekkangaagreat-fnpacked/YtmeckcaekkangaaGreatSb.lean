/- Entries held against one another. -/
import Derived.Test.YtmeckcaekkangaaGreatSa
namespace Go.Proofs.YtmeckcaekkangaaGreat
set_option maxRecDepth 100000
open Go.RowKit
set_option linter.unusedSimpArgs false
set_option linter.unusedVariables false

set_option maxRecDepth 100000 in
set_option maxHeartbeats 16000000 in
theorem sameEntries_any (ao bo : Option Addr) (n ca cb : Nat) (X : Nat → Ent) (w : World) (ha : ERow w ao n X) (hb : ERow w bo n X) (hn : n ≤ 1048576) (hz : ESize n X) :
    Calls Tryz.prog 7 #[.slice ao n ca, .slice bo n cb] w fun e w' => e = .returned (.bool true) ∧ Below w.heap.size w w' := by
  go_enter Tryz.func7, Tryz.ntmps7
  go_wp2
  go_loopw [13] (fun q wr => ∃ k : Nat, k ≤ n ∧ q = .int .i64 k ∧ Below w.heap.size w wr) (fun q _ => n - (intOf q).toNat)
  case atStart => exact ⟨0, Nat.zero_le _, rfl, Below.refl _ _⟩
  case round =>
    obtain ⟨k, hk, rfl, hbk⟩ := hrel
    by_cases hlt : k < n
    · obtain ⟨b1, o1, rfl, hl1, c1⟩ := ha.lies.resolve_left (by omega)
      obtain ⟨b2, o2, rfl, hl2, c2⟩ := hb.lies.resolve_left (by omega)
      obtain ⟨da, dc, E1, r1⟩ := c1 k hlt
      obtain ⟨ea, ec, E2, r2⟩ := c2 k hlt
      have hkd : decide ((k : Int) < (n : Int)) = true := decide_eq_true (by omega)
      clear c1 c2
      go_wp2
      have hzk := hz k hlt
      generalize X k = x at E1 E2 r1 r2 hzk ⊢
      have hS0 : (fun W : World => W.cell? ⟨b1, o1 + k * 9, none⟩ = some (.string x.key) ∧ W.cell? ⟨b1, o1 + k * 9 + 1, none⟩ = some (.int .i64 x.seq) ∧ W.cell? ⟨b1, o1 + k * 9 + 2, none⟩ = some (.int .i64 x.kind) ∧ W.cell? ⟨b1, o1 + k * 9 + 3, none⟩ = some (.int .i64 x.c) ∧ W.cell? ⟨b1, o1 + k * 9 + 4, none⟩ = some (.int .i64 x.s) ∧ W.cell? ⟨b1, o1 + k * 9 + 5, none⟩ = some (.int .i64 x.lo) ∧ W.cell? ⟨b1, o1 + k * 9 + 6, none⟩ = some (.int .i64 x.hi) ∧ W.cell? ⟨b1, o1 + k * 9 + 7, none⟩ = some (.slice da x.n dc) ∧ W.cell? ⟨b1, o1 + k * 9 + 8, none⟩ = some (.bool x.fu) ∧ W.cell? ⟨b2, o2 + k * 9, none⟩ = some (.string x.key) ∧ W.cell? ⟨b2, o2 + k * 9 + 1, none⟩ = some (.int .i64 x.seq) ∧ W.cell? ⟨b2, o2 + k * 9 + 2, none⟩ = some (.int .i64 x.kind) ∧ W.cell? ⟨b2, o2 + k * 9 + 3, none⟩ = some (.int .i64 x.c) ∧ W.cell? ⟨b2, o2 + k * 9 + 4, none⟩ = some (.int .i64 x.s) ∧ W.cell? ⟨b2, o2 + k * 9 + 5, none⟩ = some (.int .i64 x.lo) ∧ W.cell? ⟨b2, o2 + k * 9 + 6, none⟩ = some (.int .i64 x.hi) ∧ W.cell? ⟨b2, o2 + k * 9 + 7, none⟩ = some (.slice ea x.n ec) ∧ W.cell? ⟨b2, o2 + k * 9 + 8, none⟩ = some (.bool x.fu)) wr.drew := by
        obtain ⟨_, e0, e1, e2, e3, e4, e5, e6, e7, e8⟩ := (E1.keep hbk).keep (Below.refl _ wr).drew
        obtain ⟨_, f0, f1, f2, f3, f4, f5, f6, f7, f8⟩ := (E2.keep hbk).keep (Below.refl _ wr).drew
        exact ⟨e0, e1, e2, e3, e4, e5, e6, e7, e8, f0, f1, f2, f3, f4, f5, f6, f7, f8⟩
      refine wp_region_w (fun W : World => W.cell? ⟨b1, o1 + k * 9, none⟩ = some (.string x.key) ∧ W.cell? ⟨b1, o1 + k * 9 + 1, none⟩ = some (.int .i64 x.seq) ∧ W.cell? ⟨b1, o1 + k * 9 + 2, none⟩ = some (.int .i64 x.kind) ∧ W.cell? ⟨b1, o1 + k * 9 + 3, none⟩ = some (.int .i64 x.c) ∧ W.cell? ⟨b1, o1 + k * 9 + 4, none⟩ = some (.int .i64 x.s) ∧ W.cell? ⟨b1, o1 + k * 9 + 5, none⟩ = some (.int .i64 x.lo) ∧ W.cell? ⟨b1, o1 + k * 9 + 6, none⟩ = some (.int .i64 x.hi) ∧ W.cell? ⟨b1, o1 + k * 9 + 7, none⟩ = some (.slice da x.n dc) ∧ W.cell? ⟨b1, o1 + k * 9 + 8, none⟩ = some (.bool x.fu) ∧ W.cell? ⟨b2, o2 + k * 9, none⟩ = some (.string x.key) ∧ W.cell? ⟨b2, o2 + k * 9 + 1, none⟩ = some (.int .i64 x.seq) ∧ W.cell? ⟨b2, o2 + k * 9 + 2, none⟩ = some (.int .i64 x.kind) ∧ W.cell? ⟨b2, o2 + k * 9 + 3, none⟩ = some (.int .i64 x.c) ∧ W.cell? ⟨b2, o2 + k * 9 + 4, none⟩ = some (.int .i64 x.s) ∧ W.cell? ⟨b2, o2 + k * 9 + 5, none⟩ = some (.int .i64 x.lo) ∧ W.cell? ⟨b2, o2 + k * 9 + 6, none⟩ = some (.int .i64 x.hi) ∧ W.cell? ⟨b2, o2 + k * 9 + 7, none⟩ = some (.slice ea x.n ec) ∧ W.cell? ⟨b2, o2 + k * 9 + 8, none⟩ = some (.bool x.fu)) (fun _ => true) (by kernel_rfl) ?_
      change wpW _ _ _ _ _ _ 51 _ _ wr.drew
      refine wpW_take 0 _ (.slice (some ⟨b1, o1, none⟩) n ca) rfl (by kernel_rfl) (by kernel_rfl) (by kernel_rfl) (fun _ _ _ h => h) (by kernel_rfl) (.inl ⟨rfl, fun w' hS' => by go_simp⟩) hS0 ?_
      simp only [Act.put, List.getElem_toArray, List.getElem_cons_succ, List.getElem_cons_zero, List.setIfInBounds_toArray, List.set_cons_zero, List.set_cons_succ]
      refine wpW_take 1 _ (.int .i64 (k : Int)) rfl (by kernel_rfl) (by kernel_rfl) (by kernel_rfl) (fun _ _ _ h => h) (by kernel_rfl) (.inl ⟨rfl, fun w' hS' => by go_simp⟩) hS0 ?_
      simp only [Act.put, List.getElem_toArray, List.getElem_cons_succ, List.getElem_cons_zero, List.setIfInBounds_toArray, List.set_cons_zero, List.set_cons_succ]
      refine wpW_take 2 _ (.pointer (some ⟨b1, o1 + k * 9, none⟩)) rfl (by kernel_rfl) (by kernel_rfl) (by kernel_rfl) (fun _ _ _ h => h) (by kernel_rfl) (.inl ⟨rfl, fun w' hS' => by go_simp⟩) hS0 ?_
      simp only [Act.put, List.getElem_toArray, List.getElem_cons_succ, List.getElem_cons_zero, List.setIfInBounds_toArray, List.set_cons_zero, List.set_cons_succ]
      refine wpW_take 3 _ (.pointer (some ⟨b1, o1 + k * 9, none⟩)) rfl (by kernel_rfl) (by kernel_rfl) (by kernel_rfl) (fun _ _ _ h => h) (by kernel_rfl) (.inl ⟨rfl, fun w' hS' => by go_simp⟩) hS0 ?_
      simp only [Act.put, List.getElem_toArray, List.getElem_cons_succ, List.getElem_cons_zero, List.setIfInBounds_toArray, List.set_cons_zero, List.set_cons_succ]
      refine wpW_take 4 _ (.string x.key) rfl (by kernel_rfl) (by kernel_rfl) (by kernel_rfl) (fun _ _ _ h => h) (by kernel_rfl) (.inl ⟨rfl, fun w' hS' => by obtain ⟨s0, s1, s2, s3, s4, s5, s6, s7, s8, s9, s10, s11, s12, s13, s14, s15, s16, s17⟩ := hS'; go_simp⟩) hS0 ?_
      simp only [Act.put, List.getElem_toArray, List.getElem_cons_succ, List.getElem_cons_zero, List.setIfInBounds_toArray, List.set_cons_zero, List.set_cons_succ]
      refine wpW_take 5 _ (.slice (some ⟨b2, o2, none⟩) n cb) rfl (by kernel_rfl) (by kernel_rfl) (by kernel_rfl) (fun _ _ _ h => h) (by kernel_rfl) (.inl ⟨rfl, fun w' hS' => by go_simp⟩) hS0 ?_
      simp only [Act.put, List.getElem_toArray, List.getElem_cons_succ, List.getElem_cons_zero, List.setIfInBounds_toArray, List.set_cons_zero, List.set_cons_succ]
      refine wpW_take 6 _ (.int .i64 (k : Int)) rfl (by kernel_rfl) (by kernel_rfl) (by kernel_rfl) (fun _ _ _ h => h) (by kernel_rfl) (.inl ⟨rfl, fun w' hS' => by go_simp⟩) hS0 ?_
      simp only [Act.put, List.getElem_toArray, List.getElem_cons_succ, List.getElem_cons_zero, List.setIfInBounds_toArray, List.set_cons_zero, List.set_cons_succ]
      refine wpW_take 7 _ (.pointer (some ⟨b2, o2 + k * 9, none⟩)) rfl (by kernel_rfl) (by kernel_rfl) (by kernel_rfl) (fun _ _ _ h => h) (by kernel_rfl) (.inl ⟨rfl, fun w' hS' => by go_simp⟩) hS0 ?_
      simp only [Act.put, List.getElem_toArray, List.getElem_cons_succ, List.getElem_cons_zero, List.setIfInBounds_toArray, List.set_cons_zero, List.set_cons_succ]
      refine wpW_take 8 _ (.pointer (some ⟨b2, o2 + k * 9, none⟩)) rfl (by kernel_rfl) (by kernel_rfl) (by kernel_rfl) (fun _ _ _ h => h) (by kernel_rfl) (.inl ⟨rfl, fun w' hS' => by go_simp⟩) hS0 ?_
      simp only [Act.put, List.getElem_toArray, List.getElem_cons_succ, List.getElem_cons_zero, List.setIfInBounds_toArray, List.set_cons_zero, List.set_cons_succ]
      refine wpW_take 9 _ (.string x.key) rfl (by kernel_rfl) (by kernel_rfl) (by kernel_rfl) (fun _ _ _ h => h) (by kernel_rfl) (.inl ⟨rfl, fun w' hS' => by obtain ⟨s0, s1, s2, s3, s4, s5, s6, s7, s8, s9, s10, s11, s12, s13, s14, s15, s16, s17⟩ := hS'; go_simp⟩) hS0 ?_
      simp only [Act.put, List.getElem_toArray, List.getElem_cons_succ, List.getElem_cons_zero, List.setIfInBounds_toArray, List.set_cons_zero, List.set_cons_succ]
      refine wpW_take 10 _ (.bool false) rfl (by kernel_rfl) (by kernel_rfl) (by kernel_rfl) (fun _ _ _ h => h) (by kernel_rfl) (.inl ⟨rfl, fun w' hS' => by go_simp⟩) hS0 ?_
      simp only [Act.put, List.getElem_toArray, List.getElem_cons_succ, List.getElem_cons_zero, List.setIfInBounds_toArray, List.set_cons_zero, List.set_cons_succ]
      refine wpW_take 11 _ (.bool false) rfl (by kernel_rfl) (by kernel_rfl) (by kernel_rfl) (fun _ _ _ h => h) (by kernel_rfl) (.inl ⟨rfl, fun w' hS' => by go_simp⟩) hS0 ?_
      simp only [Act.put, List.getElem_toArray, List.getElem_cons_succ, List.getElem_cons_zero, List.setIfInBounds_toArray, List.set_cons_zero, List.set_cons_succ]
      refine wpW_take 12 _ (.slice (some ⟨b1, o1, none⟩) n ca) rfl (by kernel_rfl) (by kernel_rfl) (by kernel_rfl) (fun _ _ _ h => h) (by kernel_rfl) (.inl ⟨rfl, fun w' hS' => by go_simp⟩) hS0 ?_
      simp only [Act.put, List.getElem_toArray, List.getElem_cons_succ, List.getElem_cons_zero, List.setIfInBounds_toArray, List.set_cons_zero, List.set_cons_succ]
      refine wpW_take 13 _ (.int .i64 (k : Int)) rfl (by kernel_rfl) (by kernel_rfl) (by kernel_rfl) (fun _ _ _ h => h) (by kernel_rfl) (.inl ⟨rfl, fun w' hS' => by go_simp⟩) hS0 ?_
      simp only [Act.put, List.getElem_toArray, List.getElem_cons_succ, List.getElem_cons_zero, List.setIfInBounds_toArray, List.set_cons_zero, List.set_cons_succ]
      refine wpW_take 14 _ (.pointer (some ⟨b1, o1 + k * 9, none⟩)) rfl (by kernel_rfl) (by kernel_rfl) (by kernel_rfl) (fun _ _ _ h => h) (by kernel_rfl) (.inl ⟨rfl, fun w' hS' => by go_simp⟩) hS0 ?_
      simp only [Act.put, List.getElem_toArray, List.getElem_cons_succ, List.getElem_cons_zero, List.setIfInBounds_toArray, List.set_cons_zero, List.set_cons_succ]
      refine wpW_take 15 _ (.pointer (some ⟨b1, o1 + k * 9 + 1, none⟩)) rfl (by kernel_rfl) (by kernel_rfl) (by kernel_rfl) (fun _ _ _ h => h) (by kernel_rfl) (.inl ⟨rfl, fun w' hS' => by go_simp⟩) hS0 ?_
      simp only [Act.put, List.getElem_toArray, List.getElem_cons_succ, List.getElem_cons_zero, List.setIfInBounds_toArray, List.set_cons_zero, List.set_cons_succ]
      refine wpW_take 16 _ (.int .i64 x.seq) rfl (by kernel_rfl) (by kernel_rfl) (by kernel_rfl) (fun _ _ _ h => h) (by kernel_rfl) (.inl ⟨rfl, fun w' hS' => by obtain ⟨s0, s1, s2, s3, s4, s5, s6, s7, s8, s9, s10, s11, s12, s13, s14, s15, s16, s17⟩ := hS'; go_simp⟩) hS0 ?_
      simp only [Act.put, List.getElem_toArray, List.getElem_cons_succ, List.getElem_cons_zero, List.setIfInBounds_toArray, List.set_cons_zero, List.set_cons_succ]
      refine wpW_take 17 _ (.slice (some ⟨b2, o2, none⟩) n cb) rfl (by kernel_rfl) (by kernel_rfl) (by kernel_rfl) (fun _ _ _ h => h) (by kernel_rfl) (.inl ⟨rfl, fun w' hS' => by go_simp⟩) hS0 ?_
      simp only [Act.put, List.getElem_toArray, List.getElem_cons_succ, List.getElem_cons_zero, List.setIfInBounds_toArray, List.set_cons_zero, List.set_cons_succ]
      refine wpW_take 18 _ (.int .i64 (k : Int)) rfl (by kernel_rfl) (by kernel_rfl) (by kernel_rfl) (fun _ _ _ h => h) (by kernel_rfl) (.inl ⟨rfl, fun w' hS' => by go_simp⟩) hS0 ?_
      simp only [Act.put, List.getElem_toArray, List.getElem_cons_succ, List.getElem_cons_zero, List.setIfInBounds_toArray, List.set_cons_zero, List.set_cons_succ]
      refine wpW_take 19 _ (.pointer (some ⟨b2, o2 + k * 9, none⟩)) rfl (by kernel_rfl) (by kernel_rfl) (by kernel_rfl) (fun _ _ _ h => h) (by kernel_rfl) (.inl ⟨rfl, fun w' hS' => by go_simp⟩) hS0 ?_
      simp only [Act.put, List.getElem_toArray, List.getElem_cons_succ, List.getElem_cons_zero, List.setIfInBounds_toArray, List.set_cons_zero, List.set_cons_succ]
      refine wpW_take 20 _ (.pointer (some ⟨b2, o2 + k * 9 + 1, none⟩)) rfl (by kernel_rfl) (by kernel_rfl) (by kernel_rfl) (fun _ _ _ h => h) (by kernel_rfl) (.inl ⟨rfl, fun w' hS' => by go_simp⟩) hS0 ?_
      simp only [Act.put, List.getElem_toArray, List.getElem_cons_succ, List.getElem_cons_zero, List.setIfInBounds_toArray, List.set_cons_zero, List.set_cons_succ]
      refine wpW_take 21 _ (.int .i64 x.seq) rfl (by kernel_rfl) (by kernel_rfl) (by kernel_rfl) (fun _ _ _ h => h) (by kernel_rfl) (.inl ⟨rfl, fun w' hS' => by obtain ⟨s0, s1, s2, s3, s4, s5, s6, s7, s8, s9, s10, s11, s12, s13, s14, s15, s16, s17⟩ := hS'; go_simp⟩) hS0 ?_
      simp only [Act.put, List.getElem_toArray, List.getElem_cons_succ, List.getElem_cons_zero, List.setIfInBounds_toArray, List.set_cons_zero, List.set_cons_succ]
      refine wpW_take 22 _ (.bool false) rfl (by kernel_rfl) (by kernel_rfl) (by kernel_rfl) (fun _ _ _ h => h) (by kernel_rfl) (.inl ⟨rfl, fun w' hS' => by go_simp⟩) hS0 ?_
      simp only [Act.put, List.getElem_toArray, List.getElem_cons_succ, List.getElem_cons_zero, List.setIfInBounds_toArray, List.set_cons_zero, List.set_cons_succ]
      refine wpW_take 23 _ (.bool false) rfl (by kernel_rfl) (by kernel_rfl) (by kernel_rfl) (fun _ _ _ h => h) (by kernel_rfl) (.inl ⟨rfl, fun w' hS' => by go_simp⟩) hS0 ?_
      simp only [Act.put, List.getElem_toArray, List.getElem_cons_succ, List.getElem_cons_zero, List.setIfInBounds_toArray, List.set_cons_zero, List.set_cons_succ]
      refine wpW_take 24 _ (.bool false) rfl (by kernel_rfl) (by kernel_rfl) (by kernel_rfl) (fun _ _ _ h => h) (by kernel_rfl) (.inl ⟨rfl, fun w' hS' => by go_simp⟩) hS0 ?_
      simp only [Act.put, List.getElem_toArray, List.getElem_cons_succ, List.getElem_cons_zero, List.setIfInBounds_toArray, List.set_cons_zero, List.set_cons_succ]
      refine wpW_take 25 _ (.slice (some ⟨b1, o1, none⟩) n ca) rfl (by kernel_rfl) (by kernel_rfl) (by kernel_rfl) (fun _ _ _ h => h) (by kernel_rfl) (.inl ⟨rfl, fun w' hS' => by go_simp⟩) hS0 ?_
      simp only [Act.put, List.getElem_toArray, List.getElem_cons_succ, List.getElem_cons_zero, List.setIfInBounds_toArray, List.set_cons_zero, List.set_cons_succ]
      refine wpW_take 26 _ (.int .i64 (k : Int)) rfl (by kernel_rfl) (by kernel_rfl) (by kernel_rfl) (fun _ _ _ h => h) (by kernel_rfl) (.inl ⟨rfl, fun w' hS' => by go_simp⟩) hS0 ?_
      simp only [Act.put, List.getElem_toArray, List.getElem_cons_succ, List.getElem_cons_zero, List.setIfInBounds_toArray, List.set_cons_zero, List.set_cons_succ]
      refine wpW_take 27 _ (.pointer (some ⟨b1, o1 + k * 9, none⟩)) rfl (by kernel_rfl) (by kernel_rfl) (by kernel_rfl) (fun _ _ _ h => h) (by kernel_rfl) (.inl ⟨rfl, fun w' hS' => by go_simp⟩) hS0 ?_
      simp only [Act.put, List.getElem_toArray, List.getElem_cons_succ, List.getElem_cons_zero, List.setIfInBounds_toArray, List.set_cons_zero, List.set_cons_succ]
      refine wpW_take 28 _ (.pointer (some ⟨b1, o1 + k * 9 + 2, none⟩)) rfl (by kernel_rfl) (by kernel_rfl) (by kernel_rfl) (fun _ _ _ h => h) (by kernel_rfl) (.inl ⟨rfl, fun w' hS' => by go_simp⟩) hS0 ?_
      simp only [Act.put, List.getElem_toArray, List.getElem_cons_succ, List.getElem_cons_zero, List.setIfInBounds_toArray, List.set_cons_zero, List.set_cons_succ]
      refine wpW_take 29 _ (.int .i64 x.kind) rfl (by kernel_rfl) (by kernel_rfl) (by kernel_rfl) (fun _ _ _ h => h) (by kernel_rfl) (.inl ⟨rfl, fun w' hS' => by obtain ⟨s0, s1, s2, s3, s4, s5, s6, s7, s8, s9, s10, s11, s12, s13, s14, s15, s16, s17⟩ := hS'; go_simp⟩) hS0 ?_
      simp only [Act.put, List.getElem_toArray, List.getElem_cons_succ, List.getElem_cons_zero, List.setIfInBounds_toArray, List.set_cons_zero, List.set_cons_succ]
      refine wpW_take 30 _ (.slice (some ⟨b2, o2, none⟩) n cb) rfl (by kernel_rfl) (by kernel_rfl) (by kernel_rfl) (fun _ _ _ h => h) (by kernel_rfl) (.inl ⟨rfl, fun w' hS' => by go_simp⟩) hS0 ?_
      simp only [Act.put, List.getElem_toArray, List.getElem_cons_succ, List.getElem_cons_zero, List.setIfInBounds_toArray, List.set_cons_zero, List.set_cons_succ]
      refine wpW_take 31 _ (.int .i64 (k : Int)) rfl (by kernel_rfl) (by kernel_rfl) (by kernel_rfl) (fun _ _ _ h => h) (by kernel_rfl) (.inl ⟨rfl, fun w' hS' => by go_simp⟩) hS0 ?_
      simp only [Act.put, List.getElem_toArray, List.getElem_cons_succ, List.getElem_cons_zero, List.setIfInBounds_toArray, List.set_cons_zero, List.set_cons_succ]
      refine wpW_take 32 _ (.pointer (some ⟨b2, o2 + k * 9, none⟩)) rfl (by kernel_rfl) (by kernel_rfl) (by kernel_rfl) (fun _ _ _ h => h) (by kernel_rfl) (.inl ⟨rfl, fun w' hS' => by go_simp⟩) hS0 ?_
      simp only [Act.put, List.getElem_toArray, List.getElem_cons_succ, List.getElem_cons_zero, List.setIfInBounds_toArray, List.set_cons_zero, List.set_cons_succ]
      refine wpW_take 33 _ (.pointer (some ⟨b2, o2 + k * 9 + 2, none⟩)) rfl (by kernel_rfl) (by kernel_rfl) (by kernel_rfl) (fun _ _ _ h => h) (by kernel_rfl) (.inl ⟨rfl, fun w' hS' => by go_simp⟩) hS0 ?_
      simp only [Act.put, List.getElem_toArray, List.getElem_cons_succ, List.getElem_cons_zero, List.setIfInBounds_toArray, List.set_cons_zero, List.set_cons_succ]
      refine wpW_take 34 _ (.int .i64 x.kind) rfl (by kernel_rfl) (by kernel_rfl) (by kernel_rfl) (fun _ _ _ h => h) (by kernel_rfl) (.inl ⟨rfl, fun w' hS' => by obtain ⟨s0, s1, s2, s3, s4, s5, s6, s7, s8, s9, s10, s11, s12, s13, s14, s15, s16, s17⟩ := hS'; go_simp⟩) hS0 ?_
      simp only [Act.put, List.getElem_toArray, List.getElem_cons_succ, List.getElem_cons_zero, List.setIfInBounds_toArray, List.set_cons_zero, List.set_cons_succ]
      refine wpW_take 35 _ (.bool false) rfl (by kernel_rfl) (by kernel_rfl) (by kernel_rfl) (fun _ _ _ h => h) (by kernel_rfl) (.inl ⟨rfl, fun w' hS' => by go_simp⟩) hS0 ?_
      simp only [Act.put, List.getElem_toArray, List.getElem_cons_succ, List.getElem_cons_zero, List.setIfInBounds_toArray, List.set_cons_zero, List.set_cons_succ]
      refine wpW_take 36 _ (.bool false) rfl (by kernel_rfl) (by kernel_rfl) (by kernel_rfl) (fun _ _ _ h => h) (by kernel_rfl) (.inl ⟨rfl, fun w' hS' => by go_simp⟩) hS0 ?_
      simp only [Act.put, List.getElem_toArray, List.getElem_cons_succ, List.getElem_cons_zero, List.setIfInBounds_toArray, List.set_cons_zero, List.set_cons_succ]
      refine wpW_take 37 _ (.bool false) rfl (by kernel_rfl) (by kernel_rfl) (by kernel_rfl) (fun _ _ _ h => h) (by kernel_rfl) (.inl ⟨rfl, fun w' hS' => by go_simp⟩) hS0 ?_
      simp only [Act.put, List.getElem_toArray, List.getElem_cons_succ, List.getElem_cons_zero, List.setIfInBounds_toArray, List.set_cons_zero, List.set_cons_succ]
      refine wpW_take 38 _ (.slice (some ⟨b1, o1, none⟩) n ca) rfl (by kernel_rfl) (by kernel_rfl) (by kernel_rfl) (fun _ _ _ h => h) (by kernel_rfl) (.inl ⟨rfl, fun w' hS' => by go_simp⟩) hS0 ?_
      simp only [Act.put, List.getElem_toArray, List.getElem_cons_succ, List.getElem_cons_zero, List.setIfInBounds_toArray, List.set_cons_zero, List.set_cons_succ]
      refine wpW_take 39 _ (.int .i64 (k : Int)) rfl (by kernel_rfl) (by kernel_rfl) (by kernel_rfl) (fun _ _ _ h => h) (by kernel_rfl) (.inl ⟨rfl, fun w' hS' => by go_simp⟩) hS0 ?_
      simp only [Act.put, List.getElem_toArray, List.getElem_cons_succ, List.getElem_cons_zero, List.setIfInBounds_toArray, List.set_cons_zero, List.set_cons_succ]
      refine wpW_take 40 _ (.pointer (some ⟨b1, o1 + k * 9, none⟩)) rfl (by kernel_rfl) (by kernel_rfl) (by kernel_rfl) (fun _ _ _ h => h) (by kernel_rfl) (.inl ⟨rfl, fun w' hS' => by go_simp⟩) hS0 ?_
      simp only [Act.put, List.getElem_toArray, List.getElem_cons_succ, List.getElem_cons_zero, List.setIfInBounds_toArray, List.set_cons_zero, List.set_cons_succ]
      refine wpW_take 41 _ (.pointer (some ⟨b1, o1 + k * 9 + 3, none⟩)) rfl (by kernel_rfl) (by kernel_rfl) (by kernel_rfl) (fun _ _ _ h => h) (by kernel_rfl) (.inl ⟨rfl, fun w' hS' => by go_simp⟩) hS0 ?_
      simp only [Act.put, List.getElem_toArray, List.getElem_cons_succ, List.getElem_cons_zero, List.setIfInBounds_toArray, List.set_cons_zero, List.set_cons_succ]
      refine wpW_take 42 _ (.agg #[.int .i64 x.c, .int .i64 x.s, .int .i64 x.lo, .int .i64 x.hi, .slice da x.n dc, .bool x.fu]) rfl (by kernel_rfl) (by kernel_rfl) (by kernel_rfl) (fun _ _ _ h => h) (by kernel_rfl) (.inl ⟨rfl, fun w' hS' => by obtain ⟨s0, s1, s2, s3, s4, s5, s6, s7, s8, s9, s10, s11, s12, s13, s14, s15, s16, s17⟩ := hS'; go_simp⟩) hS0 ?_
      simp only [Act.put, List.getElem_toArray, List.getElem_cons_succ, List.getElem_cons_zero, List.setIfInBounds_toArray, List.set_cons_zero, List.set_cons_succ]
      refine wpW_take 43 _ (.slice (some ⟨b2, o2, none⟩) n cb) rfl (by kernel_rfl) (by kernel_rfl) (by kernel_rfl) (fun _ _ _ h => h) (by kernel_rfl) (.inl ⟨rfl, fun w' hS' => by go_simp⟩) hS0 ?_
      simp only [Act.put, List.getElem_toArray, List.getElem_cons_succ, List.getElem_cons_zero, List.setIfInBounds_toArray, List.set_cons_zero, List.set_cons_succ]
      refine wpW_take 44 _ (.int .i64 (k : Int)) rfl (by kernel_rfl) (by kernel_rfl) (by kernel_rfl) (fun _ _ _ h => h) (by kernel_rfl) (.inl ⟨rfl, fun w' hS' => by go_simp⟩) hS0 ?_
      simp only [Act.put, List.getElem_toArray, List.getElem_cons_succ, List.getElem_cons_zero, List.setIfInBounds_toArray, List.set_cons_zero, List.set_cons_succ]
      refine wpW_take 45 _ (.pointer (some ⟨b2, o2 + k * 9, none⟩)) rfl (by kernel_rfl) (by kernel_rfl) (by kernel_rfl) (fun _ _ _ h => h) (by kernel_rfl) (.inl ⟨rfl, fun w' hS' => by go_simp⟩) hS0 ?_
      simp only [Act.put, List.getElem_toArray, List.getElem_cons_succ, List.getElem_cons_zero, List.setIfInBounds_toArray, List.set_cons_zero, List.set_cons_succ]
      refine wpW_take 46 _ (.pointer (some ⟨b2, o2 + k * 9 + 3, none⟩)) rfl (by kernel_rfl) (by kernel_rfl) (by kernel_rfl) (fun _ _ _ h => h) (by kernel_rfl) (.inl ⟨rfl, fun w' hS' => by go_simp⟩) hS0 ?_
      simp only [Act.put, List.getElem_toArray, List.getElem_cons_succ, List.getElem_cons_zero, List.setIfInBounds_toArray, List.set_cons_zero, List.set_cons_succ]
      refine wpW_take 47 _ (.agg #[.int .i64 x.c, .int .i64 x.s, .int .i64 x.lo, .int .i64 x.hi, .slice ea x.n ec, .bool x.fu]) rfl (by kernel_rfl) (by kernel_rfl) (by kernel_rfl) (fun _ _ _ h => h) (by kernel_rfl) (.inl ⟨rfl, fun w' hS' => by obtain ⟨s0, s1, s2, s3, s4, s5, s6, s7, s8, s9, s10, s11, s12, s13, s14, s15, s16, s17⟩ := hS'; go_simp⟩) hS0 ?_
      simp only [Act.put, List.getElem_toArray, List.getElem_cons_succ, List.getElem_cons_zero, List.setIfInBounds_toArray, List.set_cons_zero, List.set_cons_succ]
      refine wpW_one 48 _ rfl (by kernel_rfl) (step_wanted rfl (op_call 18 #[.agg #[.int .i64 x.c, .int .i64 x.s, .int .i64 x.lo, .int .i64 x.hi, .slice da x.n dc, .bool x.fu], .agg #[.int .i64 x.c, .int .i64 x.s, .int .i64 x.lo, .int .i64 x.hi, .slice ea x.n ec, .bool x.fu]] _ (by go_simp) (sameAggs_any x da ea dc ec _ ((r1.keep hbk).keep (Below.refl _ wr).drew) ((r2.keep hbk).keep (Below.refl _ wr).drew) hzk.2) ?_))
      rintro e w6 ⟨rfl, q6⟩
      have bw6 : Below w.heap.size w w6 := hbk.drew.trans (q6.mono (by show w.heap.size ≤ wr.heap.size; exact hbk.size))
      have hS6 : (fun W : World => W.cell? ⟨b1, o1 + k * 9, none⟩ = some (.string x.key) ∧ W.cell? ⟨b1, o1 + k * 9 + 1, none⟩ = some (.int .i64 x.seq) ∧ W.cell? ⟨b1, o1 + k * 9 + 2, none⟩ = some (.int .i64 x.kind) ∧ W.cell? ⟨b1, o1 + k * 9 + 3, none⟩ = some (.int .i64 x.c) ∧ W.cell? ⟨b1, o1 + k * 9 + 4, none⟩ = some (.int .i64 x.s) ∧ W.cell? ⟨b1, o1 + k * 9 + 5, none⟩ = some (.int .i64 x.lo) ∧ W.cell? ⟨b1, o1 + k * 9 + 6, none⟩ = some (.int .i64 x.hi) ∧ W.cell? ⟨b1, o1 + k * 9 + 7, none⟩ = some (.slice da x.n dc) ∧ W.cell? ⟨b1, o1 + k * 9 + 8, none⟩ = some (.bool x.fu) ∧ W.cell? ⟨b2, o2 + k * 9, none⟩ = some (.string x.key) ∧ W.cell? ⟨b2, o2 + k * 9 + 1, none⟩ = some (.int .i64 x.seq) ∧ W.cell? ⟨b2, o2 + k * 9 + 2, none⟩ = some (.int .i64 x.kind) ∧ W.cell? ⟨b2, o2 + k * 9 + 3, none⟩ = some (.int .i64 x.c) ∧ W.cell? ⟨b2, o2 + k * 9 + 4, none⟩ = some (.int .i64 x.s) ∧ W.cell? ⟨b2, o2 + k * 9 + 5, none⟩ = some (.int .i64 x.lo) ∧ W.cell? ⟨b2, o2 + k * 9 + 6, none⟩ = some (.int .i64 x.hi) ∧ W.cell? ⟨b2, o2 + k * 9 + 7, none⟩ = some (.slice ea x.n ec) ∧ W.cell? ⟨b2, o2 + k * 9 + 8, none⟩ = some (.bool x.fu)) w6 := by
        obtain ⟨_, e0, e1, e2, e3, e4, e5, e6, e7, e8⟩ := ((E1.keep hbk).keep (Below.refl _ wr).drew).keep q6
        obtain ⟨_, f0, f1, f2, f3, f4, f5, f6, f7, f8⟩ := ((E2.keep hbk).keep (Below.refl _ wr).drew).keep q6
        exact ⟨e0, e1, e2, e3, e4, e5, e6, e7, e8, f0, f1, f2, f3, f4, f5, f6, f7, f8⟩
      refine ⟨_, rfl, fun _ => hS6, ?_⟩
      simp only [Act.put, List.getElem_toArray, List.getElem_cons_succ, List.getElem_cons_zero, List.setIfInBounds_toArray, List.set_cons_zero, List.set_cons_succ]
      refine wpW_one 49 _ rfl (by kernel_rfl) (step_wanted rfl (op_val (.bool false) (w' := w6) (by go_simp) ?_))
      refine ⟨fun _ => hS6, ?_⟩
      simp only [Act.put, List.getElem_toArray, List.getElem_cons_succ, List.getElem_cons_zero, List.setIfInBounds_toArray, List.set_cons_zero, List.set_cons_succ]
      refine wpW_one 50 _ rfl (by kernel_rfl) (step_wanted rfl (op_val (.bool false) (w' := w6) (by go_simp) ?_))
      refine ⟨fun _ => hS6, ?_⟩
      simp only [Act.put, List.getElem_toArray, List.getElem_cons_succ, List.getElem_cons_zero, List.setIfInBounds_toArray, List.set_cons_zero, List.set_cons_succ]
      refine wpW_done (by kernel_rfl) ?_
      clear hS0 hS6 E1 E2 r1 r2 q6
      go_wp2
      go_roundw
      case rel => exact ⟨k + 1, by omega, by go_num, bw6⟩
      case measure => simp [intOf]; omega
    · obtain rfl : k = n := by omega
      have hkd : decide ((k : Int) < (k : Int)) = false := decide_eq_false (by omega)
      go_wp2
      go_ret
      exact ⟨rfl, hbk⟩
end Go.Proofs.YtmeckcaekkangaaGreat
