/- Entries: where they lie, measured, copied, compared. -/
import Derived.Test.YtfdbhkjmkpgomaaEq
namespace Go.Proofs.Ytfdbhkjmkpgomaa
open Go.RowKit
set_option linter.unusedSimpArgs false
set_option linter.unusedVariables false

/-- What an entry holds. -/
structure Ent where
  key : ByteArray
  seq : Int
  kind : Int
  c : Int
  s : Int
  lo : Int
  hi : Int
  n : Nat
  f : Nat → Int
  fu : Bool

/-- An entry in the nine cells from off on. -/
structure EAt (w : World) (b off : Nat) (x : Ent) (ao : Option Addr) (cap : Nat) : Prop where
  lt : b < w.heap.size
  c0 : w.cell? ⟨b, off, none⟩ = some (.string x.key)
  c1 : w.cell? ⟨b, off + 1, none⟩ = some (.int .i64 x.seq)
  c2 : w.cell? ⟨b, off + 2, none⟩ = some (.int .i64 x.kind)
  c3 : w.cell? ⟨b, off + 3, none⟩ = some (.int .i64 x.c)
  c4 : w.cell? ⟨b, off + 4, none⟩ = some (.int .i64 x.s)
  c5 : w.cell? ⟨b, off + 5, none⟩ = some (.int .i64 x.lo)
  c6 : w.cell? ⟨b, off + 6, none⟩ = some (.int .i64 x.hi)
  c7 : w.cell? ⟨b, off + 7, none⟩ = some (.slice ao x.n cap)
  c8 : w.cell? ⟨b, off + 8, none⟩ = some (.bool x.fu)
section
variable {w w' : World} {b off cap : Nat} {x : Ent} {ao : Option Addr}
theorem EAt.move (h : EAt w b off x ao cap) (lt : b < w'.heap.size) (k : ∀ j, w'.cell? ⟨b, j, none⟩ = w.cell? ⟨b, j, none⟩) : EAt w' b off x ao cap :=
  ⟨lt, (k _).trans h.c0, (k _).trans h.c1, (k _).trans h.c2, (k _).trans h.c3, (k _).trans h.c4, (k _).trans h.c5, (k _).trans h.c6, (k _).trans h.c7, (k _).trans h.c8⟩
theorem EAt.keep (h : EAt w b off x ao cap) (hb : Below w.heap.size w w') : EAt w' b off x ao cap :=
  h.move (Nat.lt_of_lt_of_le h.lt hb.size) fun j => hb.cell (p := ⟨b, j, none⟩) h.lt
theorem EAt.others {d : Nat} (h : EAt w b off x ao cap) (ho : Others d w w') (hne : b ≠ d) : EAt w' b off x ao cap :=
  h.move (by rw [ho.size]; exact h.lt) fun j => World.cell?_of_block (w := w) (a := ⟨b, j, none⟩) (ho.block b hne)
end
theorem EAt.new (w : World) (x : Ent) (ao : Option Addr) (cap : Nat) (T : Nat) : EAt (w.alloc (.cells #[.string x.key, .int .i64 x.seq, .int .i64 x.kind, .int .i64 x.c, .int .i64 x.s, .int .i64 x.lo, .int .i64 x.hi, .slice ao x.n cap, .bool x.fu] T)) w.heap.size 0 x ao cap := by
  refine ⟨by simp, ?_, ?_, ?_, ?_, ?_, ?_, ?_, ?_, ?_⟩ <;> simp [go_sem]

theorem EAt.z {w : World} {b cap : Nat} {x : Ent} {ao : Option Addr} (h : EAt w b 0 x ao cap) : b < w.heap.size ∧ w.cell? ⟨b, 0, none⟩ = some (.string x.key) ∧ w.cell? ⟨b, 1, none⟩ = some (.int .i64 x.seq) ∧ w.cell? ⟨b, 2, none⟩ = some (.int .i64 x.kind) ∧ w.cell? ⟨b, 3, none⟩ = some (.int .i64 x.c) ∧ w.cell? ⟨b, 4, none⟩ = some (.int .i64 x.s) ∧ w.cell? ⟨b, 5, none⟩ = some (.int .i64 x.lo) ∧ w.cell? ⟨b, 6, none⟩ = some (.int .i64 x.hi) ∧ w.cell? ⟨b, 7, none⟩ = some (.slice ao x.n cap) ∧ w.cell? ⟨b, 8, none⟩ = some (.bool x.fu) :=
  ⟨h.lt, h.c0, h.c1, h.c2, h.c3, h.c4, h.c5, h.c6, h.c7, h.c8⟩

/-- What a measure leaves. -/
def SzOut (left : Int) (P : Prop) (w : World) (e : Ending) (w' : World) : Prop :=
  ∃ v : Int, e = .returned (.int .i64 v) ∧ -1 ≤ v ∧ v ≤ left ∧ (0 ≤ v → P) ∧ Below w.heap.size w w'

theorem szIntS_left (ao : Option Addr) (n cap : Nat) (left : Int) (w : World) (hl : 0 ≤ left ∧ left ≤ 1048576) (hn : n ≤ 9223372036854775807) :
    Calls Try.prog 72 #[.slice ao n cap, .int .i64 left] w fun e w' => SzOut left (n ≤ 1048576) w e w' := by
  have hw : IntKind.i64.wrap (left - (n : Int)) = left - (n : Int) := by rw [IntKind.wrap_i64] <;> omega
  by_cases h1 : left - (n : Int) < 0
  · go_enter Try.func72, Try.ntmps72
    go_wp2
    go_ret
    exact ⟨-1, rfl, by omega, by omega, fun h => by omega, Below.refl _ _⟩
  · go_enter Try.func72, Try.ntmps72
    go_wp2
    go_ret
    exact ⟨_, rfl, by omega, by omega, fun h => by omega, Below.refl _ _⟩

theorem szAgg_left (c s lo hi : Int) (ao : Option Addr) (n cap : Nat) (fu : Bool) (left : Int) (w : World) (hl : 0 ≤ left ∧ left ≤ 1048576) (hn : n ≤ 9223372036854775807) :
    Calls Try.prog 55 #[.agg #[.int .i64 c, .int .i64 s, .int .i64 lo, .int .i64 hi, .slice ao n cap, .bool fu], .int .i64 left] w
      fun e w' => SzOut left (n ≤ 1048576) w e w' := by
  have hB := fun o => below_new w o
  go_enter Try.func55, Try.ntmps55
  go_wp2_with fail
  refine (szIntS_left ao n cap left _ hl hn).mono ?_
  rintro e w1 ⟨v, rfl, h1, h2, h3, hb⟩
  have bw : Below w.heap.size w w1 := (hB _).trans (hb.mono (by simp))
  clear hb
  by_cases hv : v < 0
  · clear h3
    go_wp2
    go_ret
    exact ⟨-1, rfl, by omega, by omega, fun h => by omega, bw⟩
  · have h4 : Hid (n ≤ 1048576) := h3 (by omega)
    clear h3
    go_wp2
    go_ret
    exact ⟨v, rfl, by omega, by omega, fun _ => h4.out, bw⟩

set_option maxHeartbeats 400000 in
theorem szEntry_any (x : Ent) (ao : Option Addr) (cap : Nat) (left : Int) (w : World) (hl : 0 ≤ left ∧ left ≤ 1048576) (hk : x.key.size ≤ 9223372036854775807) (hn : x.n ≤ 9223372036854775807) :
    Calls Try.prog 37 #[.agg #[.string x.key, .int .i64 x.seq, .int .i64 x.kind, .int .i64 x.c, .int .i64 x.s, .int .i64 x.lo, .int .i64 x.hi, .slice ao x.n cap, .bool x.fu], .int .i64 left] w fun e w' => SzOut left (x.key.size ≤ 1048576 ∧ x.n ≤ 1048576) w e w' := by
  have hB := fun o => below_new w o
  have hw : IntKind.i64.wrap (left - (x.key.size : Int)) = left - (x.key.size : Int) := by rw [IntKind.wrap_i64] <;> omega
  by_cases h1 : left - (x.key.size : Int) < 0
  · go_enter Try.func37, Try.ntmps37
    go_wp2
    go_ret
    exact ⟨-1, rfl, by omega, by omega, fun h => by omega, hB _⟩
  · go_enter Try.func37, Try.ntmps37
    go_wp2_with fail
    refine (szAgg_left _ _ _ _ ao _ cap _ _ _ (by omega) hn).mono ?_
    rintro e w1 ⟨v, rfl, hv1, hv2, hv3, hb⟩
    have bw : Below w.heap.size w w1 := (hB _).trans (hb.mono (by simp))
    clear hb
    by_cases hv : v < 0
    · clear hv3
      go_wp2
      go_ret
      exact ⟨-1, rfl, by omega, by omega, fun h => by omega, bw⟩
    · have H : Hid (x.n ≤ 1048576) := hv3 (by omega)
      clear hv3
      go_wp2
      go_ret
      exact ⟨v, rfl, by omega, by omega, fun _ => ⟨by omega, H.out⟩, bw⟩

set_option maxHeartbeats 1600000 in
theorem toEntry_any (x : Ent) (ao : Option Addr) (cap : Nat) (w : World) (hr : IRow w ao x.n x.f) (hn : x.n ≤ 1048576) :
    Calls Try.prog 40 #[.agg #[.string x.key, .int .i64 x.seq, .int .i64 x.kind, .int .i64 x.c, .int .i64 x.s, .int .i64 x.lo, .int .i64 x.hi, .slice ao x.n cap, .bool x.fu]] w
      fun e w' => ∃ g, e = .returned (.agg #[.string x.key, .int .i64 x.seq, .int .i64 x.kind, .int .i64 x.c, .int .i64 x.s, .int .i64 x.lo, .int .i64 x.hi, .slice (some ⟨g, 0, none⟩) x.n x.n, .bool x.fu]) ∧ w.heap.size ≤ g ∧ IOwn w' g 0 x.n x.f ∧ Below w.heap.size w w' := by
  go_enter Try.func40, Try.ntmps40
  go_wp2_with fail
  refine (toAgg_any _ _ _ _ ao _ cap x.f _ _ (hr.keep ?_) hn).mono ?_
  · repeat' refine Below.setCell ?_ (by first | (simp; done) | (simp; omega)) _
    exact (((Below.refl _ _).alloc (Nat.le_refl _) _).alloc (by simp) _).alloc (by simp; omega) _
  rintro e w1 ⟨g, rfl, hg, ho, hb⟩
  have b0 := hb.cell (p := ⟨w.heap.size + 1, 0, none⟩) (by simp; try omega)
  have b1 := hb.cell (p := ⟨w.heap.size + 1, 1, none⟩) (by simp; try omega)
  have b2 := hb.cell (p := ⟨w.heap.size + 1, 2, none⟩) (by simp; try omega)
  have b3 := hb.cell (p := ⟨w.heap.size + 1, 3, none⟩) (by simp; try omega)
  have b4 := hb.cell (p := ⟨w.heap.size + 1, 4, none⟩) (by simp; try omega)
  have b5 := hb.cell (p := ⟨w.heap.size + 1, 5, none⟩) (by simp; try omega)
  have b6 := hb.cell (p := ⟨w.heap.size + 1, 6, none⟩) (by simp; try omega)
  have b7 := hb.cell (p := ⟨w.heap.size + 1, 7, none⟩) (by simp; try omega)
  have b8 := hb.cell (p := ⟨w.heap.size + 1, 8, none⟩) (by simp; try omega)
  have bf : ∀ j, w1.frozen? ⟨w.heap.size + 1, j, none⟩ = false := fun j => (hb.frozen (p := ⟨w.heap.size + 1, j, none⟩) (by simp; try omega)).trans (by simp [go_sem])
  have k0 := hb.cell (p := ⟨w.heap.size + 1 + 1, 0, none⟩) (by simp; try omega)
  have k1 := hb.cell (p := ⟨w.heap.size + 1 + 1, 1, none⟩) (by simp; try omega)
  have k2 := hb.cell (p := ⟨w.heap.size + 1 + 1, 2, none⟩) (by simp; try omega)
  have k3 := hb.cell (p := ⟨w.heap.size + 1 + 1, 3, none⟩) (by simp; try omega)
  have k4 := hb.cell (p := ⟨w.heap.size + 1 + 1, 4, none⟩) (by simp; try omega)
  have k5 := hb.cell (p := ⟨w.heap.size + 1 + 1, 5, none⟩) (by simp; try omega)
  have k6 := hb.cell (p := ⟨w.heap.size + 1 + 1, 6, none⟩) (by simp; try omega)
  have k7 := hb.cell (p := ⟨w.heap.size + 1 + 1, 7, none⟩) (by simp; try omega)
  have k8 := hb.cell (p := ⟨w.heap.size + 1 + 1, 8, none⟩) (by simp; try omega)
  have kf : ∀ j, w1.frozen? ⟨w.heap.size + 1 + 1, j, none⟩ = false := fun j => (hb.frozen (p := ⟨w.heap.size + 1 + 1, j, none⟩) (by simp; try omega)).trans (by simp [go_sem])
  simp [go_sem] at b0 b1 b2 b3 b4 b5 b6 b7 b8 k0 k1 k2 k3 k4 k5 k6 k7 k8
  have bw : Below w.heap.size w w1 := by
    refine Below.trans ?_ (hb.mono (by simp; omega))
    repeat' refine Below.setCell ?_ (by first | (simp; done) | (simp; omega)) _
    exact (((Below.refl _ _).alloc (Nat.le_refl _) _).alloc (by simp) _).alloc (by simp; omega) _
  have hs1 := hb.size
  simp at hs1 hg
  clear hb
  go_wp2
  refine bodyPost_ret (v := .agg #[.string x.key, .int .i64 x.seq, .int .i64 x.kind, .int .i64 x.c, .int .i64 x.s, .int .i64 x.lo, .int .i64 x.hi, .slice (some ⟨g, 0, none⟩) x.n x.n, .bool x.fu]) (by simp [results, Try.results40, go_sem, b0, b1, b2, b3, b4, b5, b6, b7, b8]) rfl ⟨g, rfl, by omega, ?_, ?_⟩
  · repeat' refine (Others.setCell _ _ _ _).irow ?_ (by omega)
    exact ho
  · repeat' refine Below.setCell ?_ (by first | (simp; done) | (simp; omega)) _
    exact bw

set_option maxHeartbeats 800000 in
theorem eqEntry_same (x : Ent) (ao bo : Option Addr) (ca cb : Nat) (w : World) (hr : IRow w ao x.n x.f) (hs : IRow w bo x.n x.f) (hn : x.n ≤ 1048576) :
    Calls Try.prog 33 #[.agg #[.string x.key, .int .i64 x.seq, .int .i64 x.kind, .int .i64 x.c, .int .i64 x.s, .int .i64 x.lo, .int .i64 x.hi, .slice ao x.n ca, .bool x.fu], .agg #[.string x.key, .int .i64 x.seq, .int .i64 x.kind, .int .i64 x.c, .int .i64 x.s, .int .i64 x.lo, .int .i64 x.hi, .slice bo x.n cb, .bool x.fu]] w fun e w' => e = .returned (.bool true) ∧ Below w.heap.size w w' := by
  have hB : ∀ o p, Below w.heap.size w ((w.alloc o).alloc p) := fun o p => (below_new w o).alloc (by simp) _
  go_enter Try.func33, Try.ntmps33
  go_wp2_with fail
  refine (eqAgg_same _ _ _ _ ao bo _ ca cb x.f _ _ (hr.keep (hB _ _)) (hs.keep (hB _ _)) hn).mono ?_
  rintro e w1 ⟨rfl, hb⟩
  have hbw : Below w.heap.size w w1 := (hB _ _).trans (hb.mono (by simp; omega))
  clear hb
  go_wp2
  go_ret
  exact ⟨rfl, hbw⟩
end Go.Proofs.Ytfdbhkjmkpgomaa
