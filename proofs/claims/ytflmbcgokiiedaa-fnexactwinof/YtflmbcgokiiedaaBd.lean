/- Boards: where they lie, measured, copied, compared. -/
import Derived.Test.YtflmbcgokiiedaaWr
namespace Go.Proofs.Ytflmbcgokiiedaa
open Go.RowKit
set_option linter.unusedSimpArgs false
set_option linter.unusedVariables false

/-- A board in block b. -/
structure BdAt (w : World) (b : Nat) (z h mk : Int) (sv : Value) : Prop where
  lt : b < w.heap.size
  c0 : w.cell? ⟨b, 0, none⟩ = some (.int .i64 z)
  c1 : w.cell? ⟨b, 1, none⟩ = some (.int .i64 h)
  c2 : w.cell? ⟨b, 2, none⟩ = some (.int .i64 mk)
  c3 : w.cell? ⟨b, 3, none⟩ = some sv
theorem BdAt.keep {w w' : World} {b : Nat} {z h mk : Int} {sv : Value} (H : BdAt w b z h mk sv) (hb : Below w.heap.size w w') : BdAt w' b z h mk sv :=
  ⟨Nat.lt_of_lt_of_le H.lt hb.size, (hb.cell (p := ⟨b, 0, none⟩) H.lt).trans H.c0, (hb.cell (p := ⟨b, 1, none⟩) H.lt).trans H.c1, (hb.cell (p := ⟨b, 2, none⟩) H.lt).trans H.c2, (hb.cell (p := ⟨b, 3, none⟩) H.lt).trans H.c3⟩
theorem BdAt.others {w w' : World} {b d : Nat} {z h mk : Int} {sv : Value} (H : BdAt w b z h mk sv) (ho : Others d w w') (hne : b ≠ d) : BdAt w' b z h mk sv :=
  have k : ∀ j, w'.cell? ⟨b, j, none⟩ = w.cell? ⟨b, j, none⟩ := fun j => World.cell?_of_block (w := w) (a := ⟨b, j, none⟩) (ho.block b hne)
  ⟨by rw [ho.size]; exact H.lt, (k _).trans H.c0, (k _).trans H.c1, (k _).trans H.c2, (k _).trans H.c3⟩
theorem BdAt.new (w : World) (z h mk : Int) (sv : Value) (T : Nat) : BdAt (w.alloc (.cells #[.int .i64 z, .int .i64 h, .int .i64 mk, sv] T)) w.heap.size z h mk sv := by
  refine ⟨by simp, ?_, ?_, ?_, ?_⟩ <;> simp [go_sem]

theorem WiOwn.others {w w' : World} {b n k d : Nat} {X : Nat → Wn} {G0 G1 : Nat → Nat} (h : WiOwn w b n k X G0 G1) (ho : Others d w w') (hd : d < b) : WiOwn w' b n k X G0 G1 :=
  ⟨by rw [ho.size]; exact h.lt, fun i hi => (h.ent i hi).others ho (by omega), fun i hi => by
      obtain ⟨h0, o0, o1, m0⟩ := h.data i hi
      exact ⟨h0, o0.others ho (by omega), ho.irow o1 (by omega), m0⟩, h.mono,
    fun j hj => by rw [World.cell?_of_block (w := w) (a := ⟨b, j, none⟩) (ho.block b (by omega))]; exact h.there j hj,
    fun j hj => (World.frozen?_of_block (w := w) (a := ⟨b, j, none⟩) (ho.block b (by omega))).trans (h.free j hj)⟩

set_option maxHeartbeats 800000 in
theorem szBoard_any (z h mk : Int) (ao : Option Addr) (n cap : Nat) (X : Nat → Wn) (left : Int) (w : World) (hr : WiRow w ao n X) (hl : 0 ≤ left ∧ left ≤ 1048576) (hn : n ≤ 9223372036854775807) :
    Calls Try.prog 6 #[.agg #[.int .i64 z, .int .i64 h, .int .i64 mk, .slice ao n cap], .int .i64 left] w fun e w' => SzOut left (n ≤ 1048576 ∧ WiSize n X) w e w' := by
  have hB := below_new w (.cells #[.int .i64 z, .int .i64 h, .int .i64 mk, .slice ao n cap] 24)
  go_enter Try.func6, Try.ntmps6
  go_wp2_with fail
  refine (szWinS_any ao n cap X left _ (hr.keep hB) hl hn).mono ?_
  rintro e w1 ⟨v, rfl, hv1, hv2, hv3, hb⟩
  have bw : Below w.heap.size w w1 := hB.trans (hb.mono (by simp))
  clear hb
  by_cases hv : v < 0
  · clear hv3
    go_wp2
    go_ret
    exact ⟨-1, rfl, by omega, by omega, fun h => by omega, bw⟩
  · have H : Hid (n ≤ 1048576 ∧ WiSize n X) := hv3 (by omega)
    clear hv3
    go_wp2
    go_ret
    exact ⟨v, rfl, by omega, by omega, fun _ => H.out, bw⟩

/-- What toBoard leaves: a board of the call's own. -/
def ToB (z h mk : Int) (n : Nat) (X : Nat → Wn) (w : World) (e : Ending) (w' : World) : Prop :=
  ∃ b G0 G1, e = .returned (.agg #[.int .i64 z, .int .i64 h, .int .i64 mk, .slice (some ⟨b, 0, none⟩) n n]) ∧ w.heap.size ≤ b ∧ WiOwn w' b n n X G0 G1 ∧ Below w.heap.size w w'

set_option maxHeartbeats 1600000 in
theorem toBoard_any (z h mk : Int) (ao : Option Addr) (n cap : Nat) (X : Nat → Wn) (w : World) (hr : WiRow w ao n X) (hn : n ≤ 1048576) (hz : WiSize n X) :
    Calls Try.prog 8 #[.agg #[.int .i64 z, .int .i64 h, .int .i64 mk, .slice ao n cap]] w fun e w' => ToB z h mk n X w e w' := by
  go_enter Try.func8, Try.ntmps8
  go_wp2_with fail
  refine (toWinS_any ao n cap X _ (hr.keep ?_) hn hz).mono ?_
  · repeat' refine Below.setCell ?_ (by first | (simp; done) | (simp; omega)) _
    exact (((Below.refl _ _).alloc (Nat.le_refl _) _).alloc (by simp) _).alloc (by simp; omega) _
  rintro e w1 ⟨G0, G1, rfl, ho, hb⟩
  have b0 := hb.cell (p := ⟨w.heap.size + 1, 0, none⟩) (by simp; try omega)
  have b1 := hb.cell (p := ⟨w.heap.size + 1, 1, none⟩) (by simp; try omega)
  have b2 := hb.cell (p := ⟨w.heap.size + 1, 2, none⟩) (by simp; try omega)
  have b3 := hb.cell (p := ⟨w.heap.size + 1, 3, none⟩) (by simp; try omega)
  have k0 := hb.cell (p := ⟨w.heap.size + 1 + 1, 0, none⟩) (by simp; try omega)
  have k1 := hb.cell (p := ⟨w.heap.size + 1 + 1, 1, none⟩) (by simp; try omega)
  have k2 := hb.cell (p := ⟨w.heap.size + 1 + 1, 2, none⟩) (by simp; try omega)
  have k3 := hb.cell (p := ⟨w.heap.size + 1 + 1, 3, none⟩) (by simp; try omega)
  have bf : ∀ j, w1.frozen? ⟨w.heap.size + 1, j, none⟩ = false := fun j => (hb.frozen (p := ⟨w.heap.size + 1, j, none⟩) (by simp; try omega)).trans (by simp [go_sem])
  have kf : ∀ j, w1.frozen? ⟨w.heap.size + 1 + 1, j, none⟩ = false := fun j => (hb.frozen (p := ⟨w.heap.size + 1 + 1, j, none⟩) (by simp; try omega)).trans (by simp [go_sem])
  simp [go_sem] at b0 b1 b2 b3 k0 k1 k2 k3
  have bw : Below w.heap.size w w1 := by
    refine Below.trans ?_ (hb.mono (by simp; omega))
    repeat' refine Below.setCell ?_ (by first | (simp; done) | (simp; omega)) _
    exact (((Below.refl _ _).alloc (Nat.le_refl _) _).alloc (by simp) _).alloc (by simp; omega) _
  simp only [World.size_setCell, World.size_alloc] at ho
  clear hb
  go_wp2
  refine bodyPost_ret (v := .agg #[.int .i64 z, .int .i64 h, .int .i64 mk, .slice (some ⟨w.heap.size + 1 + 1 + 1, 0, none⟩) n n]) (by simp [results, Try.results8, go_sem, b0, b1, b2, b3]) rfl ⟨w.heap.size + 1 + 1 + 1, G0, G1, rfl, by omega, ?_, ?_⟩
  · repeat' refine WiOwn.others ?_ (Others.setCell _ _ _ _) (by omega)
    exact ho
  · repeat' refine Below.setCell ?_ (by first | (simp; done) | (simp; omega)) _
    exact bw

set_option maxHeartbeats 1600000 in
theorem eqBoard_same (z h mk : Int) (ao bo : Option Addr) (n ca cb : Nat) (X : Nat → Wn) (w : World) (hr : WiRow w ao n X) (hs : WiRow w bo n X) (hn : n ≤ 1048576) (hz : WiSize n X) :
    Calls Try.prog 10 #[.agg #[.int .i64 z, .int .i64 h, .int .i64 mk, .slice ao n ca], .agg #[.int .i64 z, .int .i64 h, .int .i64 mk, .slice bo n cb]] w fun e w' => e = .returned (.bool true) ∧ Below w.heap.size w w' := by
  have hB : ∀ o p, Below w.heap.size w ((w.alloc o).alloc p) := fun o p => (below_new w o).alloc (by simp) _
  go_enter Try.func10, Try.ntmps10
  go_wp2_with fail
  refine (eqWinS_same ao bo n ca cb X _ (hr.keep (hB _ _)) (hs.keep (hB _ _)) hn hz).mono ?_
  rintro e w1 ⟨rfl, hb⟩
  have hbw : Below w.heap.size w w1 := (hB _ _).trans (hb.mono (by simp; omega))
  clear hb
  go_wp2
  go_ret
  exact ⟨rfl, hbw⟩
end Go.Proofs.Ytflmbcgokiiedaa
