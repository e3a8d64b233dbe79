/- NewStore, in the program and in the model. -/
import Derived.Test.YtapmbgmmonhdoaaGreatDoorNi
namespace Go.Proofs.YtapmbgmmonhdoaaGreatDoor
set_option maxRecDepth 100000
open Go.RowKit
open Go.ChangeMaps (setBlock)
set_option linter.unusedSimpArgs false
set_option linter.unusedVariables false

theorem fv_low0 {w w' : World} {B U n : Nat} {ao : Option Addr} {F : Nat → Fil} {G : Nat → Nat} (h : FV w B U ao n F G) (hs : w.heap.size ≤ w'.heap.size) (hb : ∀ k, B ≤ k → k < w.heap.size → w'.heap[k]? = w.heap[k]?) : FV w' B U ao n F G := by
  rcases h with h | ⟨b, rfl, h⟩
  · exact .inl h
  · have hlt := h.lt
    have hrg := h.range
    have cl : ∀ b' j, B ≤ b' → b' < w.heap.size → w'.cell? ⟨b', j, none⟩ = w.cell? ⟨b', j, none⟩ := fun b' j h1 h2 => World.cell?_of_block (w := w) (a := ⟨b', j, none⟩) (hb b' h1 h2)
    have fz : ∀ b' j, B ≤ b' → b' < w.heap.size → w'.frozen? ⟨b', j, none⟩ = w.frozen? ⟨b', j, none⟩ := fun b' j h1 h2 => World.frozen?_of_block (w := w) (a := ⟨b', j, none⟩) (hb b' h1 h2)
    refine .inr ⟨b, rfl, by omega, fun i hi => ?_, fun j hj => (fz b j hrg.1 hlt).trans (h.free j hj), h.bd, h.self, h.apart, h.range⟩
    obtain ⟨da, dc, c0, c1, c2, hd⟩ := h.cell i hi
    refine ⟨da, dc, (cl b _ hrg.1 hlt).trans c0, (cl b _ hrg.1 hlt).trans c1, (cl b _ hrg.1 hlt).trans c2, ?_⟩
    rcases hd with h0 | ⟨e, ho⟩
    · exact .inl h0
    · by_cases h0 : (F i).len = 0
      · exact .inl h0
      · have := (hrg.2.2 i hi h0).1
        exact .inr ⟨e, ho.bd, by have := ho.lt; omega, fun j hj => (cl _ _ this ho.lt).trans (ho.cell j hj), fun j hj => (fz _ _ this ho.lt).trans (ho.free j hj)⟩
theorem FV.mono0 {w : World} {B B' U U' n : Nat} {ao : Option Addr} {F : Nat → Fil} {G : Nat → Nat} (h : FV w B U ao n F G) (hB : B' ≤ B) (hU : U ≤ U') : FV w B' U' ao n F G := by
  rcases h with h | ⟨b, rfl, h⟩
  · exact .inl h
  · have hrg := h.range
    exact .inr ⟨b, rfl, h.lt, h.cell, h.free, h.bd, h.self, h.apart, by omega, by omega, fun i hi h0 => by have := hrg.2.2 i hi h0; omega⟩
/-- A store's box. -/
structure SX (w : World) (b : Nat) (q : Int) (fa : Option Addr) (n fc : Nat) (nx lg sq : Int) (va : Option Addr) (N vc : Nat) (ma : Option Addr) (k mc : Nat) : Prop where
  lt : b < w.heap.size
  c0 : w.cell? ⟨b, 0, none⟩ = some (.int .i64 q)
  c1 : w.cell? ⟨b, 1, none⟩ = some (.slice fa n fc)
  c2 : w.cell? ⟨b, 2, none⟩ = some (.int .i64 nx)
  c3 : w.cell? ⟨b, 3, none⟩ = some (.int .i64 lg)
  c4 : w.cell? ⟨b, 4, none⟩ = some (.int .i64 sq)
  c5 : w.cell? ⟨b, 5, none⟩ = some (.slice va N vc)
  c6 : w.cell? ⟨b, 6, none⟩ = some (.slice ma k mc)
  free : ∀ j, w.frozen? ⟨b, j, none⟩ = false
section
variable {w w' : World} {b base B : Nat} {q : Int} {fa : Option Addr} {n fc : Nat} {nx lg sq : Int} {va : Option Addr} {N vc : Nat} {ma : Option Addr} {k mc : Nat}
theorem SX.same (h : SX w b q fa n fc nx lg sq va N vc ma k mc) (hs : w.heap.size ≤ w'.heap.size) (hb : w'.heap[b]? = w.heap[b]?) : SX w' b q fa n fc nx lg sq va N vc ma k mc :=
  have c := fun j => World.cell?_of_block (w := w) (w' := w') (a := ⟨b, j, none⟩) hb
  ⟨Nat.lt_of_lt_of_le h.lt hs, (c 0).trans h.c0, (c 1).trans h.c1, (c 2).trans h.c2, (c 3).trans h.c3, (c 4).trans h.c4, (c 5).trans h.c5, (c 6).trans h.c6, fun j => (World.frozen?_of_block (w := w) (a := ⟨b, j, none⟩) hb).trans (h.free j)⟩
theorem SX.keep (h : SX w b q fa n fc nx lg sq va N vc ma k mc) (hb : Below w.heap.size w w') : SX w' b q fa n fc nx lg sq va N vc ma k mc := h.same hb.size (hb.block b h.lt)
theorem SX.new (w : World) (t : TypeId) (q : Int) (fa : Option Addr) (n fc : Nat) (nx lg sq : Int) (va : Option Addr) (N vc : Nat) (ma : Option Addr) (k mc : Nat) : SX (w.alloc (.cells #[.int .i64 q, .slice fa n fc, .int .i64 nx, .int .i64 lg, .int .i64 sq, .slice va N vc, .slice ma k mc] t)) w.heap.size q fa n fc nx lg sq va N vc ma k mc := by
  refine ⟨by simp, ?_, ?_, ?_, ?_, ?_, ?_, ?_, fun j => ?_⟩ <;> simp [go_sem]
end

set_option maxHeartbeats 1000000 in
theorem openFiles_bad2 (Q : Int) (fa : Option Addr) (fc : Nat) (hq : ¬ (0 ≤ Q ∧ Q ≤ 60000)) (hQ : -9223372036854775808 ≤ Q ∧ Q ≤ 9223372036854775807) (w : World) (hr : FRow w fa 2 F2) :
    Calls Tryz.prog 26 #[.agg #[.int .i64 Q, .slice fa 2 fc]] w fun e w' => e = .returned (.tuple #[.agg #[.int .i64 0, .slice none 0 0, .int .i64 0, .int .i64 0, .int .i64 0, .slice none 0 0, .slice none 0 0, .map none], .bool false]) ∧ Below w.heap.size w w' := by
  have hB : Below w.heap.size w ((w.alloc (.cells #[.int .i64 Q, .slice fa 2 fc] 24)).alloc (.cells #[.int .i64 0, .slice none 0 0, .int .i64 0, .int .i64 0, .int .i64 0, .slice none 0 0, .slice none 0 0, .map none] 52)) := ((Below.refl _ _).alloc (Nat.le_refl _) _).alloc (by simp) _
  have O0 := OZ.new (w.alloc (.cells #[.int .i64 Q, .slice fa 2 fc] 24)) 52
  rw [World.size_alloc] at O0
  have hr0 := hr.keep hB
  have hG : Hid (goodF Q 2 F2 = false) := bad2 hq
  go_enter Tryz.func26, Tryz.ntmps26
  go_wp2_with fail
  generalize (w.alloc (.cells #[.int .i64 Q, .slice fa 2 fc] 24)).alloc (.cells #[.int .i64 0, .slice none 0 0, .int .i64 0, .int .i64 0, .int .i64 0, .slice none 0 0, .slice none 0 0, .map none] 52) = w0 at *
  refine (openDiskN_bad _ Q fa 2 fc F2 hG _ hr0 hQ (by omega) (fsize2 2)).mono ?_
  rintro e w1 ⟨rfl, hb1⟩
  have O1 := O0.keep hb1
  have bw1 := hB.trans (hb1.mono hB.size)
  have hA : Below w1.heap.size w1 (w1.alloc (.cells #[.int .i64 0, .map none] 68)) := (Below.refl _ _).alloc (Nat.le_refl _) _
  obtain ⟨lo8, z0, z1, z2, z3, z4, z5, z6, z7, zf⟩ := O1.keep hA
  have zf0 := zf 0
  have zf1 := zf 1
  have zf2 := zf 2
  have zf3 := zf 3
  have zf4 := zf 4
  have zf5 := zf 5
  have zf6 := zf 6
  have zf7 := zf 7
  have bwA := bw1.trans (hA.mono bw1.size)
  clear zf hA hb1 O0 O1 hr0 hr hB bw1
  go_wp2
  refine bodyPost_ret (v := .tuple #[.agg #[.int .i64 0, .slice none 0 0, .int .i64 0, .int .i64 0, .int .i64 0, .slice none 0 0, .slice none 0 0, .map none], .bool false]) (by simp [results, Tryz.results26, go_sem, z0, z1, z2, z3, z4, z5, z6, z7]) rfl ⟨rfl, ?_⟩
  repeat' refine Below.setCell ?_ (by show w.heap.size ≤ w.heap.size + 1; omega) _
  exact bwA

/-- What a new store is answered as. -/
def NsO (q nx lg sq : Int) (n N : Nat) (z : Value) (w : World) (e : Ending) (w' : World) : Prop :=
  ∃ fa fc va vc mid, e = .returned (.tuple #[.agg #[.int .i64 q, .slice fa n fc, .int .i64 nx, .int .i64 lg, .int .i64 sq, .slice va N vc, .slice none 0 0], z]) ∧ w.heap.size ≤ mid ∧ VA w' w.heap.size mid va N noR noM ∧ FV w' mid w'.heap.size fa n F2 (fun _ => 0) ∧ Below w.heap.size w w'

set_option maxHeartbeats 2000000 in
theorem openStore_no (Q : Int) (fa : Option Addr) (fc : Nat) (hq : 0 ≤ Q ∧ Q ≤ 60000) (w : World) (hr : FRow w fa 2 F2) :
    Calls Tryz.prog 14 #[.agg #[.int .i64 Q, .slice fa 2 fc]] w fun e w' => NsO Q 2 1 0 2 3 (.int .i64 0) w e w' := by
  have hB : Below w.heap.size w ((w.alloc (.cells #[.int .i64 Q, .slice fa 2 fc] 24)).alloc (.cells #[.int .i64 0, .slice none 0 0, .int .i64 0, .int .i64 0, .int .i64 0, .slice none 0 0, .slice none 0 0] 30)) := ((Below.refl _ _).alloc (Nat.le_refl _) _).alloc (by simp) _
  have S0 := SX.new (w.alloc (.cells #[.int .i64 Q, .slice fa 2 fc] 24)) 30 0 none 0 0 0 0 0 none 0 0 none 0 0
  rw [World.size_alloc] at S0
  have hr0 := hr.keep hB
  go_enter Tryz.func14, Tryz.ntmps14
  go_wp2_with fail
  generalize (w.alloc (.cells #[.int .i64 Q, .slice fa 2 fc] 24)).alloc (.cells #[.int .i64 0, .slice none 0 0, .int .i64 0, .int .i64 0, .int .i64 0, .slice none 0 0, .slice none 0 0] 30) = w0 at *
  refine (openFiles_no Q fa fc hq _ hr0).mono ?_
  rintro e w1 ⟨g, p, c, m, mid, rfl, hm, hV, hF, hb1⟩
  have hW := hB.size
  have hol := S0.lt
  have hs1 := hb1.size
  have hA : Below w1.heap.size w1 (w1.alloc (.cells #[.int .i64 Q, .slice p 2 c, .int .i64 2, .int .i64 1, .int .i64 0, .slice (some ⟨g, 0, none⟩) 3 3, .slice none 0 0, .map (some m)] 52)) := (Below.refl _ _).alloc (Nat.le_refl _) _
  have bw1 := hB.trans (hb1.mono hB.size)
  have bwA := bw1.trans (hA.mono bw1.size)
  have hV1 := hV.keep hA
  have hF1 := hF.keep hA
  have hsA := hA.size
  obtain ⟨lo8, z0, z1, z2, z3, z4, z5, z6, zf⟩ := (S0.keep hb1).keep hA
  have zf0 := zf 0
  have zf1 := zf 1
  have zf2 := zf 2
  have zf3 := zf 3
  have zf4 := zf 4
  have zf5 := zf 5
  have zf6 := zf 6
  clear zf hA hb1 S0 hr0 hr hB bw1 hV hF
  go_wp2
  refine bodyPost_ret (v := .tuple #[.agg #[.int .i64 Q, .slice p 2 c, .int .i64 2, .int .i64 1, .int .i64 0, .slice (some ⟨g, 0, none⟩) 3 3, .slice none 0 0], .int .i64 0]) (by simp [results, Tryz.results14, go_sem, z0, z1, z2, z3, z4, z5, z6]) rfl ⟨p, c, _, 3, mid, rfl, ?_, ?_, ?_, ?_⟩
  · omega
  · refine (VA.mono (lo := w0.heap.size) (hi := mid) ?_ (by omega) (Nat.le_refl _) (by have := hV1.1; simpa using this))
    exact (((((((va_set hV1 (.inl (by omega)) 0 _).set' (.inl (by omega)) 1 _).set' (.inl (by omega)) 2 _).set' (.inl (by omega)) 3 _).set' (.inl (by omega)) 4 _).set' (.inl (by omega)) 5 _).set' (.inl (by omega)) 6 _)
  · refine (fv_low0 hF1 (by simp) (fun j h1 h2 => ?_)).mono0 (Nat.le_refl _) (by simp)
    have hne : j ≠ w.heap.size + 1 := by omega
    repeat' refine (Below.heap_setCell _ _ _ _ (by exact hne)).trans ?_
    rfl
  · repeat' refine Below.setCell ?_ (by show w.heap.size ≤ w.heap.size + 1; omega) _
    exact bwA

set_option maxHeartbeats 2000000 in
theorem openStore_bad2 (Q : Int) (fa : Option Addr) (fc : Nat) (hq : ¬ (0 ≤ Q ∧ Q ≤ 60000)) (hQ : -9223372036854775808 ≤ Q ∧ Q ≤ 9223372036854775807) (w : World) (hr : FRow w fa 2 F2) :
    Calls Tryz.prog 14 #[.agg #[.int .i64 Q, .slice fa 2 fc]] w fun e w' => NsO 0 0 0 0 0 0 (.int .i64 1) w e w' := by
  have hB : Below w.heap.size w ((w.alloc (.cells #[.int .i64 Q, .slice fa 2 fc] 24)).alloc (.cells #[.int .i64 0, .slice none 0 0, .int .i64 0, .int .i64 0, .int .i64 0, .slice none 0 0, .slice none 0 0] 30)) := ((Below.refl _ _).alloc (Nat.le_refl _) _).alloc (by simp) _
  have S0 := SX.new (w.alloc (.cells #[.int .i64 Q, .slice fa 2 fc] 24)) 30 0 none 0 0 0 0 0 none 0 0 none 0 0
  rw [World.size_alloc] at S0
  have hr0 := hr.keep hB
  go_enter Tryz.func14, Tryz.ntmps14
  go_wp2_with fail
  generalize (w.alloc (.cells #[.int .i64 Q, .slice fa 2 fc] 24)).alloc (.cells #[.int .i64 0, .slice none 0 0, .int .i64 0, .int .i64 0, .int .i64 0, .slice none 0 0, .slice none 0 0] 30) = w0 at *
  refine (openFiles_bad2 Q fa fc hq hQ _ hr0).mono ?_
  rintro e w1 ⟨rfl, hb1⟩
  have hA : Below w1.heap.size w1 (w1.alloc (.cells #[.int .i64 0, .slice none 0 0, .int .i64 0, .int .i64 0, .int .i64 0, .slice none 0 0, .slice none 0 0, .map none] 52)) := (Below.refl _ _).alloc (Nat.le_refl _) _
  have bw1 := hB.trans (hb1.mono hB.size)
  have bwA := bw1.trans (hA.mono bw1.size)
  obtain ⟨lo8, z0, z1, z2, z3, z4, z5, z6, zf⟩ := (S0.keep hb1).keep hA
  have zf0 := zf 0
  have zf1 := zf 1
  have zf2 := zf 2
  have zf3 := zf 3
  have zf4 := zf 4
  have zf5 := zf 5
  have zf6 := zf 6
  have hsz := bwA.size
  clear zf hA hb1 S0 hr0 hr hB bw1
  go_wp2
  refine bodyPost_ret (v := .tuple #[.agg #[.int .i64 0, .slice none 0 0, .int .i64 0, .int .i64 0, .int .i64 0, .slice none 0 0, .slice none 0 0], .int .i64 1]) (by simp [results, Tryz.results14, go_sem, z0, z1, z2, z3, z4, z5, z6]) rfl ⟨none, 0, none, 0, w.heap.size, rfl, Nat.le_refl _, ⟨by simpa using hsz, .inl rfl⟩, .inl rfl, ?_⟩
  repeat' refine Below.setCell ?_ (by show w.heap.size ≤ w.heap.size + 1; omega) _
  exact bwA
end Go.Proofs.YtapmbgmmonhdoaaGreatDoor
