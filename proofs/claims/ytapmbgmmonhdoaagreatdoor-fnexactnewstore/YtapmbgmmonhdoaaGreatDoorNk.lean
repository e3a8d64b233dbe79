/- NewStore wholly, in the program and in the model. -/
import Derived.Test.YtapmbgmmonhdoaaGreatDoorNj
namespace Go.Proofs.YtapmbgmmonhdoaaGreatDoor
set_option maxRecDepth 100000
open Go.RowKit
open Go.ChangeMaps (setBlock)
set_option linter.unusedSimpArgs false
set_option linter.unusedVariables false

theorem field_log (nx lg sq : Int) (ao : Option Addr) (n c : Nat) (w : World) : (Instr.field 27 (.agg #[.int .i64 nx, .int .i64 lg, .int .i64 sq, .slice ao n c]) 1).run Tryz.prog w = .ok (.int .i64 lg) w := by
  unfold Instr.field
  simp [go_sem, Tryz.underlying27, part, asAgg]
theorem row_f2 (w : World) (t : TypeId) : FRow (w.alloc (.cells #[.string sLog, .slice none 0 0, .int .i64 0, .string sMan, .slice none 0 0, .int .i64 0] t)) (some ⟨w.heap.size, 0, none⟩) 2 F2 := by
  refine ⟨.inr ⟨w.heap.size, 0, rfl, by simp, fun i hi => ⟨none, 0, ?_⟩⟩⟩
  have hR : Row (w.alloc (.cells #[.string sLog, .slice none 0 0, .int .i64 0, .string sMan, .slice none 0 0, .int .i64 0] t)) none (F2 i).len (F2 i).f := ⟨fun j => by unfold F2; split <;> exact ⟨Int.le_refl _, by show (0 : Int) ≤ 255; omega⟩, .inl (by unfold F2; split <;> rfl)⟩
  rcases (show i = 0 ∨ i = 1 by omega) with rfl | rfl
  · exact ⟨by simp [go_sem, F2], by simp [go_sem, F2], by simp [go_sem, F2], hR⟩
  · exact ⟨by simp [go_sem, F2], by simp [go_sem, F2], by simp [go_sem, F2], hR⟩

theorem frow_low {w w' : World} {b n : Nat} {F : Nat → Fil} (h : FRow w (some ⟨b, 0, none⟩) n F) (hs : w.heap.size ≤ w'.heap.size) (hb : ∀ j, j = b → w'.heap[j]? = w.heap[j]?) (h0 : ∀ i, i < n → (F i).len = 0) : FRow w' (some ⟨b, 0, none⟩) n F := by
  rcases h.lies with h1 | ⟨b', off, e, hlt, hc⟩
  · exact ⟨.inl h1⟩
  · injection e with e
    injection e with e1 e2 _
    subst e1 e2
    refine ⟨.inr ⟨b, 0, rfl, by omega, fun i hi => ?_⟩⟩
    obtain ⟨da, dc, hf⟩ := hc i hi
    have cl : ∀ j, w'.cell? ⟨b, j, none⟩ = w.cell? ⟨b, j, none⟩ := fun j => World.cell?_of_block (w := w) (a := ⟨b, j, none⟩) (hb b rfl)
    exact ⟨da, dc, (cl _).trans hf.c0, (cl _).trans hf.c1, (cl _).trans hf.c2, ⟨hf.row.bd, .inl (h0 i hi)⟩⟩
theorem f2_len (i : Nat) : (F2 i).len = 0 := by unfold F2; split <;> rfl

set_option maxHeartbeats 2000000 in
theorem newStore_impl (Q q nx lg sq : Int) (n N : Nat) (c : Int) (w : World) (hO : ∀ (fa : Option Addr) (fc : Nat) (w : World), FRow w fa 2 F2 → Calls Tryz.prog 14 #[.agg #[.int .i64 Q, .slice fa 2 fc]] w fun e w' => NsO q nx lg sq n N (.int .i64 c) w e w') :
    Calls Tryz.prog 5 #[.int .i64 Q] w fun e w' => NsO q nx lg sq n N (.bool (c == 0)) w e w' := by
  have hfl := field_log
  have S0 := SX.new w 30 0 none 0 0 0 0 0 none 0 0 none 0 0
  have hB : Below w.heap.size w (w.alloc (.cells #[.int .i64 0, .slice none 0 0, .int .i64 0, .int .i64 0, .int .i64 0, .slice none 0 0, .slice none 0 0] 30)) := (Below.refl _ _).alloc (Nat.le_refl _) _
  go_enter Tryz.func5, Tryz.ntmps5
  go_wp2_with fail
  generalize w.alloc (.cells #[.int .i64 0, .slice none 0 0, .int .i64 0, .int .i64 0, .int .i64 0, .slice none 0 0, .slice none 0 0] 30) = w0 at *
  refine (firstVersion_impl _).mono ?_
  rintro e w1 ⟨g, rfl, hV, hb1⟩
  have S1 := S0.keep hb1
  have bw1 := hB.trans (hb1.mono hB.size)
  clear S0 hB hb1 hV
  go_wp2_with fail
  refine (logName_one _).mono ?_
  rintro e w' ⟨rfl, hw'⟩
  subst hw'
  have hA : Below w'.heap.size w' (w'.alloc (.cells #[.string sLog, .slice none 0 0, .int .i64 0, .string sMan, .slice none 0 0, .int .i64 0] 40)) := (Below.refl _ _).alloc (Nat.le_refl _) _
  have hR := row_f2 w' 40
  have S2 := S1.keep hA
  have bwA := bw1.trans (hA.mono bw1.size)
  have hso := S1.lt
  clear S1 bw1 hA
  go_wp2_with fail
  refine (hO _ _ _ hR).mono ?_
  rintro e w2 ⟨fa, fc, va, vc, mid, rfl, hm, hV, hF, hb2⟩
  have bw2 := bwA.trans (hb2.mono bwA.size)
  have hA2 : Below w2.heap.size w2 (w2.alloc (.cells #[.int .i64 q, .slice fa n fc, .int .i64 nx, .int .i64 lg, .int .i64 sq, .slice va N vc, .slice none 0 0] 30)) := (Below.refl _ _).alloc (Nat.le_refl _) _
  have bw3 := bw2.trans (hA2.mono bw2.size)
  have hV3 := hV.keep hA2
  have hF3 := hF.keep hA2
  have hsA := hA2.size
  have hs2 := hb2.size
  have hsw : w'.heap.size ≤ (w'.alloc (.cells #[.string sLog, .slice none 0 0, .int .i64 0, .string sMan, .slice none 0 0, .int .i64 0] 40)).heap.size := by simp
  have Y3 := SX.new w2 30 q fa n fc nx lg sq va N vc none 0 0
  obtain ⟨lo8, z0, z1, z2, z3, z4, z5, z6, zf⟩ := (S2.keep hb2).keep hA2
  have zf0 := zf 0
  have zf1 := zf 1
  have zf2 := zf 2
  have zf3 := zf 3
  have zf4 := zf 4
  have zf5 := zf 5
  have zf6 := zf 6
  clear zf hb2 S2 bw2 hV hF hR bwA hA2 hO
  have hfin : ∀ W : World, W.heap.size = (w2.alloc (.cells #[.int .i64 q, .slice fa n fc, .int .i64 nx, .int .i64 lg, .int .i64 sq, .slice va N vc, .slice none 0 0] 30)).heap.size → (∀ j, j ≠ w.heap.size → W.heap[j]? = (w2.alloc (.cells #[.int .i64 q, .slice fa n fc, .int .i64 nx, .int .i64 lg, .int .i64 sq, .slice va N vc, .slice none 0 0] 30)).heap[j]?) → Below w.heap.size w W → NsO q nx lg sq n N (.bool (c == 0)) w (.returned (.tuple #[.agg #[.int .i64 q, .slice fa n fc, .int .i64 nx, .int .i64 lg, .int .i64 sq, .slice va N vc,   .slice none 0 0], .bool (c == 0)])) W := fun W hs hb hbe => by
    refine ⟨fa, fc, va, vc, mid, rfl, by omega, ?_, ?_, hbe⟩
    · exact (hV3.same (by omega) (fun c h1 _ => hb c (by omega))).mono (by omega) (Nat.le_refl _) (by have := hV3.1; omega)
    · exact (fv_low0 hF3 (by omega) (fun j h1 h2 => hb j (by omega))).mono0 (Nat.le_refl _) (by omega)
  clear hV3 hF3
  go_wp2
  refine bodyPost_ret (v := .tuple #[.agg #[.int .i64 q, .slice fa n fc, .int .i64 nx, .int .i64 lg, .int .i64 sq, .slice va N vc, .slice none 0 0], .bool (c == 0)]) (by simp [results, Tryz.results5, go_sem, z0, z1, z2, z3, z4, z5, z6]) rfl (hfin _ (by simp) (fun j hj => ?_) ?_)
  · repeat' refine (Below.heap_setCell _ _ _ _ (by exact hj)).trans ?_
    rfl
  · repeat' refine Below.setCell ?_ (by show w.heap.size ≤ w.heap.size; omega) _
    exact bw3

/-- What the model's NewStore answers. -/
def NsS (q nx lg sq : Int) (n N : Nat) (b : Bool) (w : World) (e : Ending) (w' : World) : Prop :=
  ∃ fa fc va vc, e = .returned (.tuple #[.agg #[.int .i64 q, .slice fa n fc, .int .i64 nx, .int .i64 lg, .int .i64 sq, .slice va N vc, .slice none 0 0], .bool b]) ∧ FRow w' fa n F2 ∧ VRow w' va N noR noM ∧ Below w.heap.size w w'
set_option maxHeartbeats 2000000 in
theorem newStore_specBad (Q : Int) (hq : ¬ (0 ≤ Q ∧ Q ≤ 60000)) (w : World) :
    Calls Tryz.prog 4 #[.int .i64 Q] w fun e w' => NsS 0 0 0 0 0 0 false w e w' := by
  have S0 := SX.new w 30 0 none 0 0 0 0 0 none 0 0 none 0 0
  have hB : Below w.heap.size w (w.alloc (.cells #[.int .i64 0, .slice none 0 0, .int .i64 0, .int .i64 0, .int .i64 0, .slice none 0 0, .slice none 0 0] 30)) := (Below.refl _ _).alloc (Nat.le_refl _) _
  go_enter Tryz.func4, Tryz.ntmps4
  go_wp2_with fail
  generalize w.alloc (.cells #[.int .i64 0, .slice none 0 0, .int .i64 0, .int .i64 0, .int .i64 0, .slice none 0 0, .slice none 0 0] 30) = w0 at *
  refine (l1In_no Q 0 60000 _ hq).mono ?_
  rintro e w' ⟨rfl, hw'⟩
  subst hw'
  obtain ⟨lo8, z0, z1, z2, z3, z4, z5, z6, zf⟩ := S0
  have zf0 := zf 0
  have zf1 := zf 1
  have zf2 := zf 2
  have zf3 := zf 3
  have zf4 := zf 4
  have zf5 := zf 5
  have zf6 := zf 6
  clear zf
  go_wp2
  refine bodyPost_ret (v := .tuple #[.agg #[.int .i64 0, .slice none 0 0, .int .i64 0, .int .i64 0, .int .i64 0, .slice none 0 0, .slice none 0 0], .bool false]) (by simp [results, Tryz.results4, go_sem, z0, z1, z2, z3, z4, z5, z6]) rfl ⟨none, 0, none, 0, rfl, ⟨.inl rfl⟩, ⟨fun i hi => by omega, fun i hi => by omega, .inl rfl⟩, ?_⟩
  repeat' refine Below.setCell ?_ (by show w.heap.size ≤ w.heap.size; omega) _
  exact hB
set_option maxHeartbeats 2000000 in
theorem newStore_specGood (Q : Int) (hq : 0 ≤ Q ∧ Q ≤ 60000) (w : World) :
    Calls Tryz.prog 4 #[.int .i64 Q] w fun e w' => NsS Q 2 1 0 2 3 true w e w' := by
  have S0 := SX.new w 30 0 none 0 0 0 0 0 none 0 0 none 0 0
  have hB : Below w.heap.size w (w.alloc (.cells #[.int .i64 0, .slice none 0 0, .int .i64 0, .int .i64 0, .int .i64 0, .slice none 0 0, .slice none 0 0] 30)) := (Below.refl _ _).alloc (Nat.le_refl _) _
  go_enter Tryz.func4, Tryz.ntmps4
  go_wp2_with fail
  generalize w.alloc (.cells #[.int .i64 0, .slice none 0 0, .int .i64 0, .int .i64 0, .int .i64 0, .slice none 0 0, .slice none 0 0] 30) = w0 at *
  refine (l1In_yes Q 0 60000 _ hq.1 hq.2).mono ?_
  rintro e w' ⟨rfl, hw'⟩
  subst hw'
  go_wp2_with fail
  refine (l10Log_one _).mono ?_
  rintro e w1 ⟨rfl, hb1⟩
  have hA : Below w1.heap.size w1 (w1.alloc (.cells #[.string sLog, .slice none 0 0, .int .i64 0, .string sMan, .slice none 0 0, .int .i64 0] 40)) := (Below.refl _ _).alloc (Nat.le_refl _) _
  have hR := row_f2 w1 40
  have bw1 := hB.trans (hb1.mono hB.size)
  have S1 := (S0.keep hb1).keep hA
  have bw2 := bw1.trans (hA.mono bw1.size)
  have hl1 : w.heap.size < w1.heap.size := (S0.keep hb1).lt
  have hsA : (w1.alloc (.cells #[.string sLog, .slice none 0 0, .int .i64 0, .string sMan, .slice none 0 0, .int .i64 0] 40)).heap.size = w1.heap.size + 1 := by simp
  clear hA bw1 hb1 hB S0
  go_wp2_with fail
  refine (l9First_any _).mono ?_
  rintro e w3 ⟨g, rfl, hV0, hb0⟩
  have hb3 : Below (w1.alloc (.cells #[.string sLog, .slice none 0 0, .int .i64 0, .string sMan, .slice none 0 0, .int .i64 0] 40)).heap.size (w1.alloc (.cells #[.string sLog, .slice none 0 0, .int .i64 0, .string sMan, .slice none 0 0, .int .i64 0] 40)) w3 := hb0
  have hV : VA w3 (w1.alloc (.cells #[.string sLog, .slice none 0 0, .int .i64 0, .string sMan, .slice none 0 0, .int .i64 0] 40)).heap.size w3.heap.size (some ⟨g, 0, none⟩) 3 noR noM := hV0
  clear hb0 hV0
  generalize w1.alloc (.cells #[.string sLog, .slice none 0 0, .int .i64 0, .string sMan, .slice none 0 0, .int .i64 0] 40) = w2 at *
  have bw3 := bw2.trans (hb3.mono bw2.size)
  have hR3 := hR.keep hb3
  obtain ⟨lo8, z0, z1, z2, z3, z4, z5, z6, zf⟩ := S1.keep hb3
  have zf0 := zf 0
  have zf1 := zf 1
  have zf2 := zf 2
  have zf3 := zf 3
  have zf4 := zf 4
  have zf5 := zf 5
  have zf6 := zf 6
  clear zf hb3 S1 bw2 hR
  have hlo : w.heap.size < w2.heap.size := by omega
  clear hsA
  have hfin : ∀ W : World, W.heap.size = w3.heap.size → (∀ j, j ≠ w.heap.size → W.heap[j]? = w3.heap[j]?) → FRow W (some ⟨w1.heap.size, 0, none⟩) 2 F2 ∧ VRow W (some ⟨g, 0, none⟩) 3 noR noM := fun W hs hb => by
    refine ⟨frow_low hR3 (by omega) (fun j h1 => hb j (by omega)) (fun i _ => f2_len i), ?_⟩
    exact (hV.same (w' := W) (by omega) (fun c h1 _ => hb c (by omega))).vrow0
  clear hV hR3
  go_wp2
  have hX := hfin (((((((w3.setCell ⟨w.heap.size, 0, none⟩ (.int .i64 Q)).setCell ⟨w.heap.size, 1, none⟩ (.slice (some ⟨w1.heap.size, 0, none⟩) 2 2)).setCell ⟨w.heap.size, 2, none⟩ (.int .i64 2)).setCell ⟨w.heap.size, 3, none⟩ (.int .i64 1)).setCell ⟨w.heap.size, 4, none⟩ (.int .i64 0)).setCell ⟨w.heap.size, 5, none⟩ (.slice (some ⟨g, 0, none⟩) 3 3)).setCell ⟨w.heap.size, 6, none⟩ (.slice none 0 0)) (by simp) (fun j hj => by
    repeat' refine (Below.heap_setCell _ _ _ _ (by exact hj)).trans ?_
    rfl)
  refine bodyPost_ret (v := .tuple #[.agg #[.int .i64 Q, .slice (some ⟨w1.heap.size, 0, none⟩) 2 2, .int .i64 2, .int .i64 1, .int .i64 0, .slice (some ⟨g, 0, none⟩) 3 3, .slice none 0 0], .bool true]) (by simp [results, Tryz.results4, go_sem, z0, z1, z2, z3, z4, z5, z6]) rfl ⟨_, 2, _, 3, rfl, hX.1, hX.2, ?_⟩
  repeat' refine Below.setCell ?_ (by show w.heap.size ≤ w.heap.size; omega) _
  exact bw3
end Go.Proofs.YtapmbgmmonhdoaaGreatDoor
