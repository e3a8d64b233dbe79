/- tell behind no error: what a disk holds, rising. -/
import Derived.Test.YtapmbgmmonhdoaaGreatDoorRiseW
import Derived.Test.YtapmbgmmonhdoaaGreatDoorDiskX
import Derived.Deep.RegionHeld3
import Derived.LaidEql
import Derived.WalkKit
import Derived.RowKitTokens
namespace Go.Proofs.YtapmbgmmonhdoaaGreatDoor
set_option maxRecDepth 100000
open Go.RowKit
set_option linter.unusedSimpArgs false
set_option linter.unusedVariables false

/-- errors.Is(nil, the kind). -/
theorem is_nil0 (w : World) : Calls Tryz.prog 71 #[.nilIface, .iface 91 (.int .i64 1)] w fun e w' => e = .returned (.bool false) ∧ Below w.heap.size w w' := by
  have hn := run_eql_iface_nil_left (P := Tryz.prog) w 91 (.int .i64 1) Tryz.underlying70
  go_enter Tryz.func71, Tryz.ntmps71
  go_wp2
  go_ret
  exact ⟨rfl, Below.refl _ _⟩
theorem as_nil0 (T : Value) (w : World) : Calls Tryz.prog 114 #[.nilIface, T] w fun e w' => e = .returned (.bool false) ∧ w' = w := by
  go_enter Tryz.func114, Tryz.ntmps114
  go_wp2
  go_ret
  exact ⟨rfl, rfl⟩
theorem code_nil0 (w : World) : Calls Tryz.prog 72 #[.nilIface] w fun e w' => e = .returned (.int .i64 0) ∧ Below w.heap.size w w' := by
  go_enter Tryz.func72, Tryz.ntmps72
  go_wp2_with fail
  refine (as_nil0 _ _).mono ?_
  rintro e w1 ⟨rfl, rfl⟩
  go_wp2
  go_ret
  exact ⟨rfl, (Below.refl _ _).alloc (Nat.le_refl _) _⟩

theorem row_slice {w : World} {base n : Nat} {v : Value} {xs : List Value} (h : w.ownsRow base 40 3 v n xs) : ∃ p c, v = .slice p n c := by
  rcases h.2 with ⟨rfl, rfl⟩ | ⟨g, cap, cur, rfl, _⟩
  · exact ⟨none, 0, rfl⟩
  · exact ⟨_, cap, rfl⟩
theorem row_base {w : World} {base base' n : Nat} {v : Value} {xs : List Value} (h : w.ownsRow base' 40 3 v n xs) (hb : base ≤ base') : w.ownsRow base 40 3 v n xs := by
  rcases h with ⟨h0, h1 | ⟨g, cap, cur, rfl, hbg, h2⟩⟩
  · exact ⟨h0, .inl h1⟩
  · exact ⟨h0, .inr ⟨g, cap, cur, rfl, Nat.le_trans hb hbg, h2⟩⟩
/-- What tell leaves behind what is not a fault of goodness. -/
def TellOut (Q c : Int) (L : List (FT × Nat)) (w : World) (e : Ending) (w' : World) : Prop :=
  ∃ (v : Value) (ys : List FT), e = .returned (.tuple #[.agg #[.int .i64 Q, v], .int .i64 c]) ∧ ys.Perm (L.map (·.1)) ∧ ys.Pairwise (fun x y => Op.bytesLess x.1.toList y.1.toList = true) ∧ w'.ownsRow (w.heap.size + 2) 40 3 v ys.length (ys.flatMap fenc) ∧ Below w.heap.size w w'

set_option maxHeartbeats 2000000 in
theorem tell_nil (Q : Int) (bm clock : Nat) (L : List (FT × Nat)) (w : World) (hM : MHas w bm L clock) (hL : L.length ≤ 1048576) (hsort : ∀ base, SortC base) :
    Calls Tryz.prog 43 #[.agg #[.int .i64 Q, .map (some bm)], .nilIface] w fun e w' => TellOut Q 0 L w e w' := by
  have hB : Below w.heap.size w ((w.alloc (.cells #[.int .i64 Q, .map (some bm)] 68)).alloc (.cells #[.int .i64 0, .slice none 0 0] 24)) := ((Below.refl _ _).alloc (Nat.le_refl _) _).alloc (by simp) _
  have X0 : QAt ((w.alloc (.cells #[.int .i64 Q, .map (some bm)] 68)).alloc (.cells #[.int .i64 0, .slice none 0 0] 24)) w.heap.size Q (.map (some bm)) := (QAt.new w Q (.map (some bm)) 68).keep ((Below.refl _ _).alloc (Nat.le_refl _) _)
  have Z0 := QAt.new (w.alloc (.cells #[.int .i64 Q, .map (some bm)] 68)) 0 (.slice none 0 0) 24
  rw [World.size_alloc] at Z0
  have zf : ∀ j, ((w.alloc (.cells #[.int .i64 Q, .map (some bm)] 68)).alloc (.cells #[.int .i64 0, .slice none 0 0] 24)).frozen? ⟨w.heap.size + 1, j, none⟩ = false := fun j => by simp [go_sem]
  go_enter Tryz.func43, Tryz.ntmps43
  go_wp2_with fail
  refine (is_nil0 _).mono ?_
  rintro e w1 ⟨rfl, hb1⟩
  have X1 := X0.keep hb1
  have Z1 := Z0.keep hb1
  have zf1 : ∀ j, w1.frozen? ⟨w.heap.size + 1, j, none⟩ = false := fun j => (hb1.frozen (p := ⟨w.heap.size + 1, j, none⟩) (by simp)).trans (zf j)
  have bw1 : Below w.heap.size w w1 := hB.trans (hb1.mono (by simp; omega))
  clear hb1 hB X0 Z0 zf
  have hM1 := hM.keep bw1
  obtain ⟨lx, x0, x1⟩ := id X1
  have lz := Z1.lt
  go_wp2
  go_region_held3 (fun w' => w'.cell? ⟨w.heap.size, 0, none⟩ = some (.int .i64 Q) ∧ w'.cell? ⟨w.heap.size, 1, none⟩ = some (.map (some bm))) (go_keep) (first | (go_at_call 66; refine (risingD_any Q bm clock L _ (hM1.keep (Below.refl _ _).drew) hL (hsort _)).mono ?_; rintro e w2 ⟨v, ys, rfl, hp, hs, ho, hb2⟩; obtain ⟨vp, vc, rfl⟩ := row_slice ho; have hb2' := (Below.refl _ w1).drew.trans hb2; have X2 := X1.keep hb2'; have Z2 := Z1.keep hb2'; have zf2 : ∀ j, w2.frozen? ⟨w.heap.size + 1, j, none⟩ = false := fun j => (hb2'.frozen (p := ⟨w.heap.size + 1, j, none⟩) lz).trans (zf1 j); have bw2 : Below w.heap.size w w2 := bw1.trans (hb2'.mono bw1.size); obtain ⟨lx2, y0, y1⟩ := id X2; clear hb2') | (go_at_call 72; refine (code_nil0 _).mono ?_; rintro e w3 ⟨rfl, hb3⟩; have X3 := X2.keep hb3; have Z3 := Z2.keep hb3; have zf3 : ∀ j, w3.frozen? ⟨w.heap.size + 1, j, none⟩ = false := fun j => (hb3.frozen (p := ⟨w.heap.size + 1, j, none⟩) Z2.lt).trans (zf2 j); have bw3 : Below w.heap.size w w3 := bw2.trans (hb3.mono bw2.size); obtain ⟨lx3, u0, u1⟩ := id X3; obtain ⟨lz3, v0, v1⟩ := id Z3))
  have ho3 := row_low (row_base ho (show w.heap.size + 2 ≤ w1.drew.heap.size + 2 by have := bw1.size; show w.heap.size + 2 ≤ w1.heap.size + 2; omega)) (fun j h1 h2 => hb3.block j h2)
  have ho4 : ((w3.setCell ⟨w.heap.size + 1, 0, none⟩ (.int .i64 Q)).setCell ⟨w.heap.size + 1, 1, none⟩ (.slice vp ys.length vc)).ownsRow (w.heap.size + 2) 40 3 (.slice vp ys.length vc) ys.length (ys.flatMap fenc) := row_low ho3 (fun j h1 h2 => by rw [Below.heap_setCell _ _ _ _ (by show j ≠ w.heap.size + 1; omega), Below.heap_setCell _ _ _ _ (by show j ≠ w.heap.size + 1; omega)])
  go_wp2
  refine bodyPost_ret (v := .tuple #[.agg #[.int .i64 Q, .slice vp ys.length vc], .int .i64 0]) (by simp [results, Tryz.results43, go_sem, v0, v1]) rfl ?_
  exact ⟨_, ys, rfl, hp, hs, ho4, (bw3.setCell (Nat.le_succ _) _).setCell (Nat.le_succ _) _⟩
end Go.Proofs.YtapmbgmmonhdoaaGreatDoor
