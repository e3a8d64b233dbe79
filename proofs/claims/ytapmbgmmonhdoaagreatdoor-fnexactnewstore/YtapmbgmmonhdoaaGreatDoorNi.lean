/- An empty store is opened. -/
import Derived.Test.YtapmbgmmonhdoaaGreatDoorNf
import Derived.Test.YtapmbgmmonhdoaaGreatDoorNh
import Derived.Test.YtapmbgmmonhdoaaGreatDoorHeldF
import Derived.Deep.RegionHeld3
namespace Go.Proofs.YtapmbgmmonhdoaaGreatDoor
set_option maxRecDepth 100000
open Go.RowKit
open Go.ChangeMaps (setBlock)
set_option linter.unusedSimpArgs false
set_option linter.unusedVariables false

/-- The two files. -/
def F2 (i : Nat) : Fil := if i = 0 then ⟨sLog, 0, fun _ => 0, 0⟩ else ⟨sMan, 0, fun _ => 0, 0⟩
theorem ok2 : ∀ i, i < 2 → fileOk F2 i = true := fun i hi => by
  rcases (show i = 0 ∨ i = 1 by omega) with rfl | rfl
  · decide +kernel
  · decide +kernel
theorem used2 (n : Nat) : used F2 n = 0 := by
  induction n with
  | zero => rfl
  | succ n ih =>
    have : (F2 n).len = 0 := by unfold F2; split <;> rfl
    simp only [used, ih, this]
theorem good2 {Q : Int} (hq : 0 ≤ Q ∧ Q ≤ 60000) : goodF Q 2 F2 = true := by
  have h := filesOk_yes ok2
  simp only [goodF, h, used2, Bool.and_true, Bool.true_and]
  simp; omega
theorem bad2 {Q : Int} (hq : ¬ (0 ≤ Q ∧ Q ≤ 60000)) : goodF Q 2 F2 = false := by
  unfold goodF
  by_cases h1 : 0 ≤ Q
  · have h2 : ¬ Q ≤ 60000 := by omega
    simp [h2]
  · simp [h1]
theorem fsize2 (n : Nat) : FSize n F2 1048576 := fun i _ => by
  unfold F2
  split
  · exact ⟨by decide, by show 0 ≤ 1048576; omega⟩
  · exact ⟨by decide, by show 0 ≤ 1048576; omega⟩
theorem fv2_of {w : World} {base B : Nat} {p : Option Addr} {c : Nat} {a0 : Option Addr} {c0 : Nat} {a1 : Option Addr} {c1 : Nat} (h : w.ownsRow base 40 3 (.slice p 2 c) 2 (((L2 a0 c0 a1 c1).map (·.1)).flatMap fenc)) (hB : B ≤ base) : FV w B w.heap.size p 2 F2 (fun _ => 0) := by
  obtain ⟨r, cap, e, h1, h2, hf, k0, k1, k2, k3, k4, k5⟩ := row2_at h
  injection e with e1 _ e3
  subst e1 e3
  refine .inr ⟨r, rfl, h2, fun i hi => ?_, fun j _ => hf j, fun i _ j => by unfold F2; split <;> exact ⟨Int.le_refl _, by show (0 : Int) ≤ 255; omega⟩, fun i _ h0 => absurd (by unfold F2; split <;> rfl) h0, fun i j _ _ h0 => absurd (by unfold F2; split <;> rfl) h0, by omega, h2, fun i _ h0 => absurd (by unfold F2; split <;> rfl) h0⟩
  rcases (show i = 0 ∨ i = 1 by omega) with rfl | rfl
  · exact ⟨a0, c0, k0, k1, k2, .inl rfl⟩
  · exact ⟨a1, c1, k3, k4, k5, .inl rfl⟩

def sAd0 : Value → Option Addr
  | .slice a _ _ => a
  | _ => none
def sCp0 : Value → Nat
  | .slice _ _ c => c
  | _ => 0
/-- The disk of two empty files, as a list. -/
theorem mhas2 {w : World} {bm : Nat} {S : Nat → Value} (hb : w.heap[bm]? = some (.map (ents F2 S 2) 2)) (h : ∀ i, i < 2 → ∃ da dc, S i = .slice da (F2 i).len dc) : MHas w bm (L2 (sAd0 (S 0)) (sCp0 (S 0)) (sAd0 (S 1)) (sCp0 (S 1))) 2 := by
  obtain ⟨d0, e0, h0⟩ := h 0 (by omega)
  obtain ⟨d1, e1, h1⟩ := h 1 (by omega)
  have hE : ents F2 S 2 = esOf (L2 (sAd0 (S 0)) (sCp0 (S 0)) (sAd0 (S 1)) (sCp0 (S 1))) := by
    rw [h0, h1]
    unfold ents esOf L2
    simp only [List.range_succ, List.range_zero, List.nil_append, List.cons_append, List.map_cons, List.map_nil, ent, h0, h1, mkE, fval, sAd0, sCp0]
    rfl
  refine ⟨by rw [hb, hE], ?_, ?_, ?_⟩
  · show [0, 1].Nodup; decide
  · intro p hp
    simp only [L2, List.mem_cons, List.not_mem_nil, or_false] at hp
    rcases hp with rfl | rfl
    · show 0 < 2; omega
    · show 1 < 2; omega
  · show [sLog, sMan].Nodup
    decide +kernel

/-- An opened store's box, with nothing in it. -/
structure OZ (w : World) (b : Nat) : Prop where
  lt : b < w.heap.size
  c0 : w.cell? ⟨b, 0, none⟩ = some (.int .i64 0)
  c1 : w.cell? ⟨b, 1, none⟩ = some (.slice none 0 0)
  c2 : w.cell? ⟨b, 2, none⟩ = some (.int .i64 0)
  c3 : w.cell? ⟨b, 3, none⟩ = some (.int .i64 0)
  c4 : w.cell? ⟨b, 4, none⟩ = some (.int .i64 0)
  c5 : w.cell? ⟨b, 5, none⟩ = some (.slice none 0 0)
  c6 : w.cell? ⟨b, 6, none⟩ = some (.slice none 0 0)
  c7 : w.cell? ⟨b, 7, none⟩ = some (.map none)
  free : ∀ j, w.frozen? ⟨b, j, none⟩ = false
theorem OZ.same {w w' : World} {b : Nat} (h : OZ w b) (hs : w.heap.size ≤ w'.heap.size) (hb : w'.heap[b]? = w.heap[b]?) : OZ w' b :=
  have c := fun j => World.cell?_of_block (w := w) (w' := w') (a := ⟨b, j, none⟩) hb
  ⟨Nat.lt_of_lt_of_le h.lt hs, (c 0).trans h.c0, (c 1).trans h.c1, (c 2).trans h.c2, (c 3).trans h.c3, (c 4).trans h.c4, (c 5).trans h.c5, (c 6).trans h.c6, (c 7).trans h.c7, fun j => (World.frozen?_of_block (w := w) (a := ⟨b, j, none⟩) hb).trans (h.free j)⟩
theorem OZ.keep {w w' : World} {b : Nat} (h : OZ w b) (hb : Below w.heap.size w w') : OZ w' b := h.same hb.size (hb.block b h.lt)
theorem OZ.kd {w w' : World} {b base B : Nat} (h : OZ w b) (hk : KD base B w w') (hb : b < base) (hne : b ≠ B) : OZ w' b := h.same hk.size (hk.block b hb hne)
theorem OZ.new (w : World) (t : TypeId) : OZ (w.alloc (.cells #[.int .i64 0, .slice none 0 0, .int .i64 0, .int .i64 0, .int .i64 0, .slice none 0 0, .slice none 0 0, .map none] t)) w.heap.size := by
  refine ⟨by simp, ?_, ?_, ?_, ?_, ?_, ?_, ?_, ?_, fun j => ?_⟩ <;> simp [go_sem]

/-- What openFiles answers of an empty store. -/
def OpF (Q : Int) (w : World) (e : Ending) (w' : World) : Prop :=
  ∃ g p c m mid, e = .returned (.tuple #[.agg #[.int .i64 Q, .slice p 2 c, .int .i64 2, .int .i64 1, .int .i64 0, .slice (some ⟨g, 0, none⟩) 3 3, .slice none 0 0, .map (some m)], .bool true]) ∧ w.heap.size ≤ mid ∧ VA w' w.heap.size mid (some ⟨g, 0, none⟩) 3 noR noM ∧ FV w' mid w'.heap.size p 2 F2 (fun _ => 0) ∧ Below w.heap.size w w'

set_option maxHeartbeats 4000000 in
theorem openFiles_no (Q : Int) (fa : Option Addr) (fc : Nat) (hq : 0 ≤ Q ∧ Q ≤ 60000) (w : World) (hr : FRow w fa 2 F2) :
    Calls Tryz.prog 26 #[.agg #[.int .i64 Q, .slice fa 2 fc]] w fun e w' => OpF Q w e w' := by
  have hB : Below w.heap.size w ((w.alloc (.cells #[.int .i64 Q, .slice fa 2 fc] 24)).alloc (.cells #[.int .i64 0, .slice none 0 0, .int .i64 0, .int .i64 0, .int .i64 0, .slice none 0 0, .slice none 0 0, .map none] 52)) := ((Below.refl _ _).alloc (Nat.le_refl _) _).alloc (by simp) _
  have O0 := OZ.new (w.alloc (.cells #[.int .i64 Q, .slice fa 2 fc] 24)) 52
  rw [World.size_alloc] at O0
  have hr0 := hr.keep hB
  have hG : Hid (goodF Q 2 F2 = true) := good2 hq
  go_enter Tryz.func26, Tryz.ntmps26
  go_wp2_with fail
  generalize (w.alloc (.cells #[.int .i64 Q, .slice fa 2 fc] 24)).alloc (.cells #[.int .i64 0, .slice none 0 0, .int .i64 0, .int .i64 0, .int .i64 0, .slice none 0 0, .slice none 0 0, .map none] 52) = w0 at *
  refine (openDiskN_good none 0 0 (fun _ => ⟨#[]⟩) Q fa 2 fc F2 hG ok2 _ ⟨.inl rfl⟩ (by omega) (fun j h => by omega) hr0 (by omega) (by omega) (fsize2 2)).mono ?_
  rintro e w1 ⟨bm, S, G, rfl, hbm, hMp, hD, hb1⟩
  have hM1 : MHas w1 bm (L2 (sAd0 (S 0)) (sCp0 (S 0)) (sAd0 (S 1)) (sCp0 (S 1))) 2 := mhas2 hMp hD.len
  generalize sAd0 (S 0) = a0 at hM1
  generalize sCp0 (S 0) = c0 at hM1
  generalize sAd0 (S 1) = a1 at hM1
  generalize sCp0 (S 1) = c1 at hM1
  have hW := hB.size
  have O1 := O0.keep hb1
  have bw1 := hB.trans (hb1.mono hB.size)
  have hA : Below w1.heap.size w1 (w1.alloc (.cells #[.int .i64 Q, .map (some bm)] 68)) := (Below.refl _ _).alloc (Nat.le_refl _) _
  have X0 := QAt.new w1 Q (.map (some bm)) 68
  have O2 := O1.keep hA
  have hM2 := hM1.keep hA
  have bwA := bw1.trans (hA.mono bw1.size)
  have hlt1 := hM1.lt
  have hol := O0.lt
  have hs1 := hb1.size
  have hsA : (w1.alloc (.cells #[.int .i64 Q, .map (some bm)] 68)).heap.size = w1.heap.size + 1 := by simp
  clear hMp hD hb1 O0 O1 hM1 hA hr0 hr hB bw1
  go_wp2_with fail
  generalize w1.alloc (.cells #[.int .i64 Q, .map (some bm)] 68) = wa at *
  refine (readManifest_no Q bm a0 c0 a1 c1 _ hM2).mono ?_
  rintro e w2 ⟨g, rfl, hV2, hM3, hk2⟩
  have X2 := qat_kd X0 hk2 X0.lt (by omega)
  have O3 := O2.kd hk2 O2.lt (by omega)
  have bw2 : Below w.heap.size w w2 := bwA.trans (hk2.low bwA.size (by omega))
  have hB2 : Below w2.heap.size w2 (w2.alloc (.cells #[.int .i64 2, .int .i64 1, .int .i64 0, .slice (some ⟨g, 0, none⟩) 3 3] 27)) := (Below.refl _ _).alloc (Nat.le_refl _) _
  have Y0 := VX.new w2 2 1 0 (some ⟨g, 0, none⟩) 3 3 27
  have X3 := X2.keep hB2
  have O4 := O3.keep hB2
  have hM4 := hM3.keep hB2
  have hV3 := hV2.keep hB2
  have bwB := bw2.trans (hB2.mono bw2.size)
  have hs2 := hk2.size
  have hsB : (w2.alloc (.cells #[.int .i64 2, .int .i64 1, .int .i64 0, .slice (some ⟨g, 0, none⟩) 3 3] 27)).heap.size = w2.heap.size + 1 := by simp
  clear hk2 hM3 hV2 hB2 X2 O3 O2 X0 hM2 bwA bw2
  obtain ⟨lx3, x0, x1⟩ := id X3
  obtain ⟨ly3, y0, y1, y2, y3⟩ := id Y0
  go_wp2_with fail
  generalize w2.alloc (.cells #[.int .i64 2, .int .i64 1, .int .i64 0, .slice (some ⟨g, 0, none⟩) 3 3] 27) = wb at *
  refine (readMem_no Q bm _ _ _ _ g _ hM4).mono ?_
  rintro e w3 ⟨rfl, hM5, hk3⟩
  have X4 := qat_kd X3 hk3 X3.lt (by omega)
  have Y4 := vx_keep Y0 hk3 Y0.lt (by omega)
  have O5 := O4.kd hk3 O4.lt (by omega)
  have hV4 := va_kd hV3 hk3 (by omega) (.inl (by omega))
  have bw3 : Below w.heap.size w w3 := bwB.trans (hk3.low bwB.size (by omega))
  have hs3 := hk3.size
  clear hk3 hV3 X3 Y0 O4 hM4 bwB x0 x1 y0 y1 y2 y3 lx3 ly3
  obtain ⟨lx4, x0, x1⟩ := id X4
  obtain ⟨ly4, y0, y1, y2, y3⟩ := id Y4
  go_wp2_with fail
  refine (readTables_no Q bm g _ hV4.vrow0).mono ?_
  rintro e w4 ⟨m, rfl, hb4⟩
  have X5 := X4.keep hb4
  have Y5 := Y4.keep hb4
  have O6 := O5.keep hb4
  have hV5 := hV4.keep hb4
  have hM6 := hM5.keep hb4
  have bw4 := bw3.trans (hb4.mono bw3.size)
  have hs4 := hb4.size
  clear hb4 hV4 X4 Y4 O5 hM5 bw3 x0 x1 y0 y1 y2 y3 lx4 ly4
  obtain ⟨lx5, x0, x1⟩ := id X5
  obtain ⟨ly5, y0, y1, y2, y3⟩ := id Y5
  go_wp2_with fail
  refine (tidy_no Q bm _ _ _ _ g _ hM6 hV5.vrow0).mono ?_
  rintro e w5 ⟨rfl, hM7, hk5⟩
  have X6 := qat_kd X5 hk5 X5.lt (by omega)
  have Y6 := vx_keep Y5 hk5 Y5.lt (by omega)
  have O7 := O6.kd hk5 O6.lt (by omega)
  have hV6 := va_kd hV5 hk5 (by omega) (.inl (by omega))
  have bw5 : Below w.heap.size w w5 := bw4.trans (hk5.low bw4.size (by omega))
  have hs5 := hk5.size
  clear hk5 hV5 X5 Y5 O6 hM6 bw4 x0 x1 y0 y1 y2 y3 lx5 ly5
  obtain ⟨lx6, x0, x1⟩ := id X6
  go_wp2_with fail
  refine (tell_nil Q bm 2 (L2 a0 0 a1 0) _ hM7 (by show 2 ≤ 1048576; omega) sort_any).mono ?_
  rintro e w6 ⟨v, ys, rfl, hp, hs, ho, hb6⟩
  obtain rfl := eq_of_rising0 hp hs (l2_rise a0 0 a1 0)
  obtain ⟨p, cc, hv⟩ := row_slice ho
  have hv' : v = .slice p 2 cc := hv
  clear hv
  subst hv'
  have ho' : w6.ownsRow (w5.heap.size + 2) 40 3 (.slice p 2 cc) 2 (((L2 a0 0 a1 0).map (·.1)).flatMap fenc) := ho
  have hA6 : Below w6.heap.size w6 (w6.alloc (.cells #[.int .i64 Q, .slice p 2 cc] 24)) := (Below.refl _ _).alloc (Nat.le_refl _) _
  have E0 := QAt.new w6 Q (.slice p 2 cc) 24
  have Y7 := (Y6.keep hb6).keep hA6
  have O8 := (O7.keep hb6).keep hA6
  have hV7 := (hV6.keep hb6).keep hA6
  have bw6 := bw5.trans (hb6.mono bw5.size)
  have bw7 := bw6.trans (hA6.mono bw6.size)
  have ho7 := row_low ho' (fun j _ hj => hA6.block j hj)
  have hs6 := hb6.size
  have hs7 := hA6.size
  clear hb6 hA6 hV6 X6 Y6 O7 hM7 bw5 bw6 ho ho' hp hs x0 x1 lx6
  obtain ⟨lo8, z0, z1, z2, z3, z4, z5, z6, z7, zf⟩ := O8
  have zf0 := zf 0
  have zf1 := zf 1
  have zf2 := zf 2
  have zf3 := zf 3
  have zf4 := zf 4
  have zf5 := zf 5
  have zf6 := zf 6
  have zf7 := zf 7
  obtain ⟨le0, e0, e1⟩ := E0
  obtain ⟨ly7, y0, y1, y2, y3⟩ := Y7
  clear zf
  go_wp2
  refine bodyPost_ret (v := .tuple #[.agg #[.int .i64 Q, .slice p 2 cc, .int .i64 2, .int .i64 1, .int .i64 0, .slice (some ⟨g, 0, none⟩) 3 3, .slice none 0 0, .map (some m)], .bool true]) (by simp [results, Tryz.results26, go_sem, z0, z1, z2, z3, z4, z5, z6, z7]) rfl ⟨g, p, cc, m, w5.heap.size, rfl, ?_, ?_, ?_, ?_⟩
  · have := hW; omega
  · refine (VA.mono (lo := wa.heap.size) (hi := w2.heap.size) ?_ (by omega) (by omega) (by simp; omega))
    exact ((((((((va_set hV7 (.inl (by omega)) 0 _).set' (.inl (by omega)) 1 _).set' (.inl (by omega)) 2 _).set' (.inl (by omega)) 3 _).set' (.inl (by omega)) 4 _).set' (.inl (by omega)) 5 _).set' (.inl (by omega)) 6 _).set' (.inl (by omega)) 7 _)
  · refine fv2_of (base := w5.heap.size + 2) (row_low ho7 (fun j h1 h2 => ?_)) (by omega)
    have hne : j ≠ w.heap.size + 1 := by omega
    repeat' refine (Below.heap_setCell _ _ _ _ (by exact hne)).trans ?_
    rfl
  · repeat' refine Below.setCell ?_ (by show w.heap.size ≤ w.heap.size + 1; omega) _
    exact bw7
end Go.Proofs.YtapmbgmmonhdoaaGreatDoor
