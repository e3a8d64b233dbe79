/- ReadFile, both texts. -/
import Derived.Test.YtgedpjabjoodjaaDoorFind
import Derived.Test.YtgedpjabjoodjaaDoorCode
namespace Go.Proofs.YtgedpjabjoodjaaDoor
open Go.RowKit
set_option linter.unusedSimpArgs false
set_option linter.unusedVariables false

set_option maxHeartbeats 1000000 in
theorem l2Read_hit (Q : Int) (ao : Option Addr) (n cap : Nat) (F : Nat → Fil) (s : ByteArray) (j : Nat) (hj : j < n) (w : World) (hr : FRow w ao n F) (hn : n ≤ 1048576) (hat : ∀ v, AtN F n s v → v = (j : Int)) :
    Calls Tryd.prog 57 #[.agg #[.int .i64 Q, .slice ao n cap], .string s] w fun e w' => ∃ da dc, e = .returned (.slice da (F j).len dc) ∧ Row w' da (F j).len (F j).f ∧ Below w.heap.size w w' := by
  have hB : Below w.heap.size w (w.alloc (.cells #[.int .i64 Q, .slice ao n cap] 28)) := (Below.refl _ _).alloc (Nat.le_refl _) _
  have X0 := QAt.new w Q (.slice ao n cap) 28
  go_enter Tryd.func57, Tryd.ntmps57
  go_wp2_with fail
  refine (l2At_any Q ao n cap F s _ (hr.keep hB) hn).mono ?_
  rintro e w1 ⟨v, rfl, hv, hb1⟩
  obtain rfl := hat v hv
  obtain ⟨l1, x0, x1⟩ := X0.keep hb1
  have bw1 : Below w.heap.size w w1 := hB.trans (hb1.mono (by simp))
  obtain ⟨b, off, rfl, hblt, hc⟩ := hr.lies.resolve_left (by omega)
  obtain ⟨da, dc, hf⟩ := hc j hj
  have hc2 : w1.cell? ⟨b, off + j * 3 + 1, none⟩ = some (.slice da (F j).len dc) := (bw1.cell (p := ⟨b, off + j * 3 + 1, none⟩) hblt).trans hf.c1
  have hrow := hf.row.keep bw1
  have hj2 : (j : Int) < (n : Int) := by omega
  clear hB X0 hv hb1 hc hf hat
  go_wp2
  go_ret
  exact ⟨da, dc, rfl, hrow, bw1⟩

/-- A copy made by an append to an empty slice in block B0. -/
theorem copy2_run (w : World) (B0 : Nat) (hB0 : w.heap[B0]? = some (.cells #[] 5 (0, 0))) (da : Option Addr) (len dc : Nat) (f : Nat → Int) (hr : Row w da len f) (hn : len ≤ 1048576) :
    ∃ g c w', (∀ ty, (Builtin.append_ #[35, 35] ty #[.slice (some ⟨B0, 0, none⟩) 0 0, .slice da len dc]).run Tryd.prog w = .ok (.slice g len c) w') ∧ Below B0 w w' ∧ Row w' g len f := by
  obtain ⟨i0, hi, hz0, hz1, hz2⟩ := info_parts Tryd.info5
  have hB0lt : B0 < w.heap.size := (Array.getElem?_eq_some_iff.1 hB0).1
  by_cases h0 : len = 0
  · subst h0
    refine ⟨some ⟨B0, 0, none⟩, 0, w, fun ty => ?_, Below.refl _ _, hr.bd, .inl rfl⟩
    cases da <;> simp [Builtin.append_, run_underlying Tryd.underlying35, sizeOf, typeInfo, hi, Builtin.lenOf, Builtin.firstCells, loadCells, loadCellsFrom, storeCells]
  · obtain ⟨b, off, rfl, hlt, hc⟩ := hr.lies.resolve_left h0
    obtain ⟨g, cap, w', hrun, hown, hgrow, hat, hlt'⟩ := run_append_lies (P := Tryd.prog) w 35 0 B0 5 i0 (.int .u8 0) 1 1 Tryd.underlying35 hi hz0 hz1 hz2 rfl (by decide) (.slice (some ⟨B0, 0, none⟩) 0 0) 0 [] ⟨rfl, .inr ⟨B0, 0, #[], rfl, Nat.le_refl _, hB0, Nat.le_refl _, Nat.zero_le _, rfl, rfl⟩⟩ ⟨b, off, none⟩ len dc ((List.range len).map fun i => Value.int .u8 (f i)) (by simp)
      (fun j u hu => by
        have hj : j < len := by
          have := (List.getElem?_eq_some_iff.1 hu).1
          simpa using this
        have e : u = .int .u8 (f j) := by simpa [hj] using hu.symm
        subst e
        have := hc j hj
        by_cases hj0 : j = 0
        · subst hj0; simpa [Addr.add] using this
        · simpa [Addr.add, hj0] using this)
      (fun u hu => by simp only [List.mem_map] at hu; obtain ⟨i, _, rfl⟩ := hu; rfl) (by omega) (by unfold maxLen; omega) (by omega) (by omega) w.heap.size rfl
    rw [Nat.zero_add] at hrun hown
    rw [List.nil_append] at hown
    have hO : Own w' g 0 len f := by
      refine ⟨hr.bd, hlt', fun i hi => ?_, fun i _ => by simpa using hown.frozenAt i⟩
      rw [Nat.zero_add, hown.cellAt i (by omega)]
      simp [hi]
    have hB : Below B0 w w' := (Below.refl _ _).grown hgrow (Nat.le_of_lt hB0lt) (fun k h => by simp [Value.ownBlock] at h; omega)
    exact ⟨_, cap, w', fun ty => hrun, hB, hO.row⟩

set_option maxHeartbeats 1000000 in
theorem readFile_spec_hit (Q : Int) (ao : Option Addr) (n cap : Nat) (F : Nat → Fil) (s : ByteArray) (hs : s.size ≤ 1048576) (HG : Hid (goodF Q n F = true)) (HN : Hid (fnB s = true)) (j : Nat) (hj : j < n) (hat : ∀ v, AtN F n s v → v = (j : Int)) (w : World) (hr : FRow w ao n F) (hq : -9223372036854775808 ≤ Q ∧ Q ≤ 9223372036854775807) (hn : n ≤ 1048576) (hz : FSize n F 1048576) :
    Calls Tryd.prog 28 #[.agg #[.int .i64 Q, .slice ao n cap], .string s] w fun e w' => ∃ a cp, e = .returned (.tuple #[.slice a (F j).len cp, .int .i64 0]) ∧ Row w' a (F j).len (F j).f ∧ Below w.heap.size w w' := by
  have hB : Below w.heap.size w (w.alloc (.cells #[.int .i64 Q, .slice ao n cap] 28)) := (Below.refl _ _).alloc (Nat.le_refl _) _
  have X0 := QAt.new w Q (.slice ao n cap) 28
  go_enter Tryd.func28, Tryd.ntmps28
  go_wp2_with fail
  refine (goodFiles_spec Q ao n cap F true HG _ (hr.keep hB) hq hn hz).mono ?_
  rintro e w1 ⟨rfl, hb1⟩
  have X1 := X0.keep hb1
  have bw1 : Below w.heap.size w w1 := hB.trans (hb1.mono (by simp))
  obtain ⟨l1, x0, x1⟩ := id X1
  go_wp2_with fail
  refine (l2Name_is s true HN _ hs).mono ?_
  rintro e w' ⟨rfl, rfl⟩
  go_wp2_with fail
  refine (l2At_any Q ao n cap F s _ (hr.keep bw1) hn).mono ?_
  rintro e w2 ⟨v, rfl, hv, hb2⟩
  obtain rfl := hat v hv
  have X2 := X1.keep hb2
  have bw2 : Below w.heap.size w w2 := bw1.trans (hb2.mono bw1.size)
  clear X1 x0 x1 l1 hb1 hb2 X0 hB
  obtain ⟨l1, x0, x1⟩ := id X2
  have hd : decide ((j : Int) < 0) = false := by simp
  go_wp2_with fail
  have hA : Below w2.heap.size w2 (w2.alloc (.cells #[] 5)) := (Below.refl _ _).alloc (Nat.le_refl _) _
  refine (l2Read_hit Q ao n cap F s j hj _ ((hr.keep bw2).keep hA) hn hat).mono ?_
  rintro e w3 ⟨da, dc, rfl, hrow, hb3⟩
  have hcell : w3.heap[w2.heap.size]? = some (.cells #[] 5 (0, 0)) := (hb3.block _ (by simp)).trans (heap_alloc_new _ _)
  obtain ⟨g, c, w4, hcp, hb4, hrow4⟩ := copy2_run w3 w2.heap.size hcell da (F j).len dc (F j).f hrow (hz j hj).2
  have bw3 : Below w.heap.size w w3 := (bw2.trans (hA.mono bw2.size)).trans (hb3.mono (by have := bw2.size; simp; omega))
  clear hA hb3 hrow hcell X2 x0 x1 hat
  go_wp2_with (at_builtin; refine wpList_append_run _ rfl (.tmp 18) (.tmp 21) 35 rfl _ _ _ rfl rfl w4 hcp ?_)
  go_ret2
  exact ⟨g, c, rfl, hrow4, bw3.trans (hb4.mono bw2.size)⟩

set_option maxHeartbeats 1000000 in
theorem readFile_spec_bad (Q : Int) (ao : Option Addr) (n cap : Nat) (F : Nat → Fil) (s : ByteArray) (hs : s.size ≤ 1048576) (G N : Bool) (HG : Hid (goodF Q n F = G)) (HN : Hid (fnB s = N)) (hbad : (G && N) = false) (w : World) (hr : FRow w ao n F) (hq : -9223372036854775808 ≤ Q ∧ Q ≤ 9223372036854775807) (hn : n ≤ 1048576) (hz : FSize n F 1048576) :
    Calls Tryd.prog 28 #[.agg #[.int .i64 Q, .slice ao n cap], .string s] w fun e w' => e = .returned (.tuple #[.slice none 0 0, .int .i64 1]) ∧ Below w.heap.size w w' := by
  have hB : Below w.heap.size w (w.alloc (.cells #[.int .i64 Q, .slice ao n cap] 28)) := (Below.refl _ _).alloc (Nat.le_refl _) _
  go_enter Tryd.func28, Tryd.ntmps28
  go_wp2_with fail
  refine (goodFiles_spec Q ao n cap F G HG _ (hr.keep hB) hq hn hz).mono ?_
  rintro e w1 ⟨rfl, hb1⟩
  have bw1 : Below w.heap.size w w1 := hB.trans (hb1.mono (by simp))
  cases G
  · go_wp2
    go_ret2
    exact ⟨rfl, bw1⟩
  · obtain rfl : N = false := by simpa using hbad
    go_wp2_with fail
    refine (l2Name_is s false HN _ hs).mono ?_
    rintro e w' ⟨rfl, rfl⟩
    go_wp2
    go_ret2
    exact ⟨rfl, bw1⟩

set_option maxHeartbeats 1000000 in
theorem readFile_spec_miss (Q : Int) (ao : Option Addr) (n cap : Nat) (F : Nat → Fil) (s : ByteArray) (hs : s.size ≤ 1048576) (HG : Hid (goodF Q n F = true)) (HN : Hid (fnB s = true)) (hat : ∀ v, AtN F n s v → v < 0) (w : World) (hr : FRow w ao n F) (hq : -9223372036854775808 ≤ Q ∧ Q ≤ 9223372036854775807) (hn : n ≤ 1048576) (hz : FSize n F 1048576) :
    Calls Tryd.prog 28 #[.agg #[.int .i64 Q, .slice ao n cap], .string s] w fun e w' => e = .returned (.tuple #[.slice none 0 0, .int .i64 2]) ∧ Below w.heap.size w w' := by
  have hB : Below w.heap.size w (w.alloc (.cells #[.int .i64 Q, .slice ao n cap] 28)) := (Below.refl _ _).alloc (Nat.le_refl _) _
  have X0 := QAt.new w Q (.slice ao n cap) 28
  go_enter Tryd.func28, Tryd.ntmps28
  go_wp2_with fail
  refine (goodFiles_spec Q ao n cap F true HG _ (hr.keep hB) hq hn hz).mono ?_
  rintro e w1 ⟨rfl, hb1⟩
  have X1 := X0.keep hb1
  have bw1 : Below w.heap.size w w1 := hB.trans (hb1.mono (by simp))
  obtain ⟨l1, x0, x1⟩ := id X1
  go_wp2_with fail
  refine (l2Name_is s true HN _ hs).mono ?_
  rintro e w' ⟨rfl, rfl⟩
  go_wp2_with fail
  refine (l2At_any Q ao n cap F s _ (hr.keep bw1) hn).mono ?_
  rintro e w2 ⟨v, rfl, hv, hb2⟩
  have hv0 := hat v hv
  have bw2 : Below w.heap.size w w2 := bw1.trans (hb2.mono bw1.size)
  go_wp2
  go_ret2
  exact ⟨rfl, bw2⟩

/-- ReadFile's names: one. -/
theorem one_name (w : World) (s : ByteArray) (T : Nat) : NRow (w.alloc (.cells #[.string s] T)) (some ⟨w.heap.size, 0, none⟩) 1 (fun _ => s) :=
  ⟨.inr ⟨w.heap.size, 0, rfl, by simp, fun i hi => by
    have : i = 0 := by omega
    subst this
    simp [go_sem]⟩⟩

set_option maxHeartbeats 1000000 in
theorem readFile_impl_bad (Q : Int) (ao : Option Addr) (n cap : Nat) (F : Nat → Fil) (s : ByteArray) (HG : Hid (goodF Q n F = false)) (w : World) (hE : ET w) (hr : FRow w ao n F) (hq : -9223372036854775808 ≤ Q ∧ Q ≤ 9223372036854775807) (hn : n ≤ 1048576) (hz : FSize n F 1048576) :
    Calls Tryd.prog 29 #[.agg #[.int .i64 Q, .slice ao n cap], .string s] w fun e w' => e = .returned (.tuple #[.slice none 0 0, .int .i64 1]) ∧ Below w.heap.size w w' := by
  have hB : Below w.heap.size w ((w.alloc (.cells #[.int .i64 Q, .slice ao n cap] 28)).alloc (.cells #[.string s] 9)) := ((Below.refl _ _).alloc (Nat.le_refl _) _).alloc (by simp) _
  go_enter Tryd.func29, Tryd.ntmps29
  go_wp2_with fail
  refine (openDiskN_bad _ Q ao n cap F HG _ (hr.keep hB) hq hn hz).mono ?_
  rintro e w1 ⟨rfl, hb1⟩
  have hA : Below w1.heap.size w1 (w1.alloc (.cells #[.int .i64 0, .map none] 60)) := (Below.refl _ _).alloc (Nat.le_refl _) _
  have bwA : Below w.heap.size w (w1.alloc (.cells #[.int .i64 0, .map none] 60)) := (hB.trans (hb1.mono (by simp; omega))).trans (hA.mono (by have := hb1.size; simp at this; omega))
  have hEA := hE.keep bwA
  clear hb1 hA hB
  go_wp2_with fail
  refine (code_kind 1 _ hEA).mono ?_
  rintro e w2 ⟨rfl, hb2⟩
  go_wp2
  go_ret2
  exact ⟨rfl, bwA.trans (hb2.mono bwA.size)⟩

set_option maxHeartbeats 1000000 in
theorem readFile_impl_name (Q : Int) (ao : Option Addr) (n cap : Nat) (F : Nat → Fil) (s : ByteArray) (hs : s.size ≤ 1048576) (HG : Hid (goodF Q n F = true)) (HN : Hid (fnB s = false)) (w : World) (hE : ET w) (hr : FRow w ao n F) (hq : -9223372036854775808 ≤ Q ∧ Q ≤ 9223372036854775807) (hn : n ≤ 1048576) (hz : FSize n F 1048576) :
    Calls Tryd.prog 29 #[.agg #[.int .i64 Q, .slice ao n cap], .string s] w fun e w' => e = .returned (.tuple #[.slice none 0 0, .int .i64 1]) ∧ Below w.heap.size w w' := by
  have hB : Below w.heap.size w ((w.alloc (.cells #[.int .i64 Q, .slice ao n cap] 28)).alloc (.cells #[.string s] 9)) := ((Below.refl _ _).alloc (Nat.le_refl _) _).alloc (by simp) _
  have hN1 := one_name (w.alloc (.cells #[.int .i64 Q, .slice ao n cap] 28)) s 9
  rw [World.size_alloc] at hN1
  go_enter Tryd.func29, Tryd.ntmps29
  go_wp2_with fail
  refine (openDiskN_name _ 1 _ _ 0 (by omega) Q ao n cap F HG _ hN1 (by omega) (fun j h => by omega) HN.out hs (hr.keep hB) hq hn hz).mono ?_
  rintro e w1 ⟨rfl, hb1⟩
  have hA : Below w1.heap.size w1 (w1.alloc (.cells #[.int .i64 0, .map none] 60)) := (Below.refl _ _).alloc (Nat.le_refl _) _
  have bwA : Below w.heap.size w (w1.alloc (.cells #[.int .i64 0, .map none] 60)) := (hB.trans (hb1.mono (by simp; omega))).trans (hA.mono (by have := hb1.size; simp at this; omega))
  have hEA := hE.keep bwA
  clear hb1 hA hB hN1
  go_wp2_with fail
  refine (code_fault s 1 _ hEA).mono ?_
  rintro e w2 ⟨rfl, hb2⟩
  go_wp2
  go_ret2
  exact ⟨rfl, bwA.trans (hb2.mono bwA.size)⟩

set_option maxHeartbeats 1000000 in
theorem readFile_impl_miss (Q : Int) (ao : Option Addr) (n cap : Nat) (F : Nat → Fil) (s : ByteArray) (hs : s.size ≤ 1048576) (HG : Hid (goodF Q n F = true)) (HK : Hid (∀ i, i < n → fileOk F i = true)) (HN : Hid (fnB s = true)) (hmiss : ∀ j, j < n → (F j).nm ≠ s) (w : World) (hE : ET w) (hr : FRow w ao n F) (hq : -9223372036854775808 ≤ Q ∧ Q ≤ 9223372036854775807) (hn : n ≤ 1048576) (hz : FSize n F 1048576) :
    Calls Tryd.prog 29 #[.agg #[.int .i64 Q, .slice ao n cap], .string s] w fun e w' => e = .returned (.tuple #[.slice none 0 0, .int .i64 2]) ∧ Below w.heap.size w w' := by
  have hB : Below w.heap.size w ((w.alloc (.cells #[.int .i64 Q, .slice ao n cap] 28)).alloc (.cells #[.string s] 9)) := ((Below.refl _ _).alloc (Nat.le_refl _) _).alloc (by simp) _
  have hN1 := one_name (w.alloc (.cells #[.int .i64 Q, .slice ao n cap] 28)) s 9
  rw [World.size_alloc] at hN1
  go_enter Tryd.func29, Tryd.ntmps29
  go_wp2_with fail
  refine (openDiskN_good _ 1 _ _ Q ao n cap F HG HK _ hN1 (by omega) (fun j h => HN.out) (hr.keep hB) hq hn hz).mono ?_
  rintro e w1 ⟨bm, S, GG, rfl, hbm, hM, hD, hb1⟩
  have hA : Below w1.heap.size w1 (w1.alloc (.cells #[.int .i64 Q, .map (some bm)] 60)) := (Below.refl _ _).alloc (Nat.le_refl _) _
  have bwA : Below w.heap.size w (w1.alloc (.cells #[.int .i64 Q, .map (some bm)] 60)) := (hB.trans (hb1.mono (by simp; omega))).trans (hA.mono (by have := hb1.size; simp at this; omega))
  have hMA : (w1.alloc (.cells #[.int .i64 Q, .map (some bm)] 60)).heap[bm]? = some (.map (ents F S n) n) := (hA.block bm (Array.getElem?_eq_some_iff.1 hM).1).trans hM
  clear hb1 hA hB hN1 hM hD
  go_wp2_with fail
  refine (find_miss Q bm n F S s hmiss _ hMA).mono ?_
  rintro e w2 ⟨rfl, hb2⟩
  have hB2 : Below w2.heap.size w2 (w2.alloc (.cells #[.string ⟨#[]⟩, .slice none 0 0, .int .i64 0] 73)) := (Below.refl _ _).alloc (Nat.le_refl _) _
  have bw2 : Below w.heap.size w (w2.alloc (.cells #[.string ⟨#[]⟩, .slice none 0 0, .int .i64 0] 73)) := (bwA.trans (hb2.mono bwA.size)).trans (hB2.mono (by have := bwA.size; have := hb2.size; omega))
  have hE2 := (hE.keep bw2).keep (Below.refl _ _).drew
  have c1 : (w2.alloc (.cells #[.string ⟨#[]⟩, .slice none 0 0, .int .i64 0] 73)).cell? ⟨w2.heap.size, 1, none⟩ = some (.slice none 0 0) := by simp [go_sem]
  have l2 : w2.heap.size < (w2.alloc (.cells #[.string ⟨#[]⟩, .slice none 0 0, .int .i64 0] 73)).heap.size := by simp
  clear hb2 hMA bwA hB2
  go_wp2
  generalize w2.alloc (.cells #[.string ⟨#[]⟩, .slice none 0 0, .int .i64 0] 73) = wB at c1 l2 bw2 hE2 ⊢
  go_region_held3 (fun w' => w'.cell? ⟨w2.heap.size, 1, none⟩ = some (.slice none 0 0)) (go_keep) (first | (go_at_call 58; refine (code_fault s 2 _ hE2).mono ?_; rintro e w3 ⟨rfl, hb3⟩; have hb3' := (Below.refl _ wB).drew.trans hb3; have e1 := (hb3'.cell (p := ⟨w2.heap.size, 1, none⟩) l2).trans c1; have bw3 : Below w.heap.size w w3 := bw2.trans (hb3'.mono bw2.size)))
  all_goals
    go_wp2
    go_ret2
    exact ⟨rfl, bw3⟩

set_option maxHeartbeats 1000000 in
theorem readFile_impl_hit (Q : Int) (ao : Option Addr) (n cap : Nat) (F : Nat → Fil) (j : Nat) (hj : j < n) (hs : (F j).nm.size ≤ 1048576) (HG : Hid (goodF Q n F = true)) (HK : Hid (∀ i, i < n → fileOk F i = true)) (HN : Hid (fnB (F j).nm = true)) (w : World) (hE : ET w) (hr : FRow w ao n F) (hq : -9223372036854775808 ≤ Q ∧ Q ≤ 9223372036854775807) (hn : n ≤ 1048576) (hz : FSize n F 1048576) :
    Calls Tryd.prog 29 #[.agg #[.int .i64 Q, .slice ao n cap], .string (F j).nm] w fun e w' => ∃ a cp g, e = .returned (.tuple #[.slice a (F j).len cp, .int .i64 0]) ∧ ((F j).len = 0 ∨ a = some ⟨g, 0, none⟩ ∧ w.heap.size ≤ g ∧ Own w' g 0 (F j).len (F j).f) ∧ Below w.heap.size w w' := by
  have hB : Below w.heap.size w ((w.alloc (.cells #[.int .i64 Q, .slice ao n cap] 28)).alloc (.cells #[.string (F j).nm] 9)) := ((Below.refl _ _).alloc (Nat.le_refl _) _).alloc (by simp) _
  have hN1 := one_name (w.alloc (.cells #[.int .i64 Q, .slice ao n cap] 28)) (F j).nm 9
  rw [World.size_alloc] at hN1
  go_enter Tryd.func29, Tryd.ntmps29
  go_wp2_with fail
  refine (openDiskN_good _ 1 _ _ Q ao n cap F HG HK _ hN1 (by omega) (fun j h => HN.out) (hr.keep hB) hq hn hz).mono ?_
  rintro e w1 ⟨bm, S, GG, rfl, hbm, hM, hD, hb1⟩
  have hbm2 : w.heap.size ≤ bm := by simp at hbm; omega
  have hA : Below w1.heap.size w1 (w1.alloc (.cells #[.int .i64 Q, .map (some bm)] 60)) := (Below.refl _ _).alloc (Nat.le_refl _) _
  have bwA : Below w.heap.size w (w1.alloc (.cells #[.int .i64 Q, .map (some bm)] 60)) := (hB.trans (hb1.mono (by simp; omega))).trans (hA.mono (by have := hb1.size; simp at this; omega))
  have hMA : (w1.alloc (.cells #[.int .i64 Q, .map (some bm)] 60)).heap[bm]? = some (.map (ents F S n) n) := (hA.block bm (Array.getElem?_eq_some_iff.1 hM).1).trans hM
  have hDA := hD.keep hA
  obtain ⟨da, dc, hSj⟩ := hDA.len j hj
  clear hb1 hA hB hN1 hM hD hbm
  go_wp2_with fail
  refine (find_hit Q bm n F S j hj HK _ hMA da dc hSj).mono ?_
  rintro e w2 ⟨rfl, hb2⟩
  have hB2 : Below w2.heap.size w2 (w2.alloc (.cells #[.string (F j).nm, .slice da (F j).len dc, .int .i64 (F j).sy] 73)) := (Below.refl _ _).alloc (Nat.le_refl _) _
  have bw2 : Below w.heap.size w (w2.alloc (.cells #[.string (F j).nm, .slice da (F j).len dc, .int .i64 (F j).sy] 73)) := (bwA.trans (hb2.mono bwA.size)).trans (hB2.mono (by have := bwA.size; have := hb2.size; omega))
  have hD2 := (hDA.keep hb2).keep hB2
  have c1 : (w2.alloc (.cells #[.string (F j).nm, .slice da (F j).len dc, .int .i64 (F j).sy] 73)).cell? ⟨w2.heap.size, 1, none⟩ = some (.slice da (F j).len dc) := by simp [go_sem]
  have l2 : w2.heap.size < (w2.alloc (.cells #[.string (F j).nm, .slice da (F j).len dc, .int .i64 (F j).sy] 73)).heap.size := by simp
  clear hb2 hMA bwA hB2 hDA
  go_wp2
  generalize w2.alloc (.cells #[.string (F j).nm, .slice da (F j).len dc, .int .i64 (F j).sy] 73) = wB at c1 l2 bw2 hD2 ⊢
  go_region_held3 (fun w' => w'.cell? ⟨w2.heap.size, 1, none⟩ = some (.slice da (F j).len dc)) (go_keep) (first | (go_at_call 58; refine (code_nil _).mono ?_; rintro e w3 ⟨rfl, hb3⟩; have hb3' := (Below.refl _ wB).drew.trans hb3; have e1 := (hb3'.cell (p := ⟨w2.heap.size, 1, none⟩) l2).trans c1; have bw3 : Below w.heap.size w w3 := bw2.trans (hb3'.mono bw2.size); have hD3 := hD2.keep hb3'))
  all_goals
    go_wp2
    go_ret2
    refine ⟨da, dc, GG j, rfl, ?_, bw3⟩
    rcases hD3.data j hj with ⟨h0, _⟩ | ⟨c, e, ho⟩
    · exact .inl h0
    · rw [hSj] at e
      injection e with e1 e2 e3
      exact .inr ⟨e1, by have := hD3.low j hj; omega, ho⟩
end Go.Proofs.YtgedpjabjoodjaaDoor
