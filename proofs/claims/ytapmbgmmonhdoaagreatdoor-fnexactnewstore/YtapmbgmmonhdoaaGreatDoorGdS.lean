/- Aggs compared by the laws. / Entries: where they lie, measured, copied, compared. / Rows of entries. / GoodAgg, in the program. / GoodAgg, in the model. -/
import Derived.Test.YtapmbgmmonhdoaaGreatDoorAg
import Derived.Test.YtapmbgmmonhdoaaGreatDoorGd
namespace Go.Proofs.YtapmbgmmonhdoaaGreatDoor
set_option maxRecDepth 100000
open Go.RowKit
set_option linter.unusedSimpArgs false
set_option linter.unusedVariables false

set_option maxHeartbeats 800000 in
theorem eqAgg_same (c s lo hi : Int) (ao bo : Option Addr) (n ca cb : Nat) (f : Nat → Int) (fu : Bool) (w : World) (hr : IRow w ao n f) (hs : IRow w bo n f) (hn : n ≤ 1048576) :
    Calls Tryz.prog 46 #[.agg #[.int .i64 c, .int .i64 s, .int .i64 lo, .int .i64 hi, .slice ao n ca, .bool fu], .agg #[.int .i64 c, .int .i64 s, .int .i64 lo, .int .i64 hi, .slice bo n cb, .bool fu]] w
      fun e w' => e = .returned (.bool true) ∧ Below w.heap.size w w' := by
  have hB : ∀ o p, Below w.heap.size w ((w.alloc o).alloc p) := fun o p => (below_new w o).alloc (by simp) _
  go_enter Tryz.func46, Tryz.ntmps46
  go_wp2_with fail
  refine (eqIntS_same ao bo n ca cb f _ (hr.keep (hB _ _)) (hs.keep (hB _ _)) hn).mono ?_
  rintro e w1 ⟨rfl, hb⟩
  have hbw : Below w.heap.size w w1 := (hB _ _).trans (hb.mono (by simp; omega))
  have c5 : w1.cell? ⟨w.heap.size, 5, none⟩ = some (.bool fu) := (hb.cell (p := ⟨w.heap.size, 5, none⟩) (by simp; omega)).trans (by simp [go_sem])
  have d5 : w1.cell? ⟨w.heap.size + 1, 5, none⟩ = some (.bool fu) := (hb.cell (p := ⟨w.heap.size + 1, 5, none⟩) (by simp)).trans (by simp [go_sem])
  clear hb
  cases fu
  all_goals
    go_wp2
    go_ret
    exact ⟨rfl, hbw⟩
end Go.Proofs.YtapmbgmmonhdoaaGreatDoor
namespace Go.Proofs.YtapmbgmmonhdoaaGreatDoor
set_option maxRecDepth 100000
open Go.RowKit
set_option linter.unusedSimpArgs false
set_option linter.unusedVariables false

/-- What an entry holds. -/
structure Ent where
  key : ByteArray
  seq : Int
  kind : Int
  c : Int
  s : Int
  lo : Int
  hi : Int
  n : Nat
  f : Nat → Int
  fu : Bool

/-- An entry in the nine cells from off on. -/
structure EAt (w : World) (b off : Nat) (x : Ent) (ao : Option Addr) (cap : Nat) : Prop where
  lt : b < w.heap.size
  c0 : w.cell? ⟨b, off, none⟩ = some (.string x.key)
  c1 : w.cell? ⟨b, off + 1, none⟩ = some (.int .i64 x.seq)
  c2 : w.cell? ⟨b, off + 2, none⟩ = some (.int .i64 x.kind)
  c3 : w.cell? ⟨b, off + 3, none⟩ = some (.int .i64 x.c)
  c4 : w.cell? ⟨b, off + 4, none⟩ = some (.int .i64 x.s)
  c5 : w.cell? ⟨b, off + 5, none⟩ = some (.int .i64 x.lo)
  c6 : w.cell? ⟨b, off + 6, none⟩ = some (.int .i64 x.hi)
  c7 : w.cell? ⟨b, off + 7, none⟩ = some (.slice ao x.n cap)
  c8 : w.cell? ⟨b, off + 8, none⟩ = some (.bool x.fu)
section
variable {w w' : World} {b off cap : Nat} {x : Ent} {ao : Option Addr}
theorem EAt.move (h : EAt w b off x ao cap) (lt : b < w'.heap.size) (k : ∀ j, w'.cell? ⟨b, j, none⟩ = w.cell? ⟨b, j, none⟩) : EAt w' b off x ao cap :=
  ⟨lt, (k _).trans h.c0, (k _).trans h.c1, (k _).trans h.c2, (k _).trans h.c3, (k _).trans h.c4, (k _).trans h.c5, (k _).trans h.c6, (k _).trans h.c7, (k _).trans h.c8⟩
theorem EAt.keep (h : EAt w b off x ao cap) (hb : Below w.heap.size w w') : EAt w' b off x ao cap :=
  h.move (Nat.lt_of_lt_of_le h.lt hb.size) fun j => hb.cell (p := ⟨b, j, none⟩) h.lt
theorem EAt.others {d : Nat} (h : EAt w b off x ao cap) (ho : Others d w w') (hne : b ≠ d) : EAt w' b off x ao cap :=
  h.move (by rw [ho.size]; exact h.lt) fun j => World.cell?_of_block (w := w) (a := ⟨b, j, none⟩) (ho.block b hne)
end
theorem EAt.new (w : World) (x : Ent) (ao : Option Addr) (cap : Nat) (T : Nat) : EAt (w.alloc (.cells #[.string x.key, .int .i64 x.seq, .int .i64 x.kind, .int .i64 x.c, .int .i64 x.s, .int .i64 x.lo, .int .i64 x.hi, .slice ao x.n cap, .bool x.fu] T)) w.heap.size 0 x ao cap := by
  refine ⟨by simp, ?_, ?_, ?_, ?_, ?_, ?_, ?_, ?_, ?_⟩ <;> simp [go_sem]

theorem EAt.z {w : World} {b cap : Nat} {x : Ent} {ao : Option Addr} (h : EAt w b 0 x ao cap) : b < w.heap.size ∧ w.cell? ⟨b, 0, none⟩ = some (.string x.key) ∧ w.cell? ⟨b, 1, none⟩ = some (.int .i64 x.seq) ∧ w.cell? ⟨b, 2, none⟩ = some (.int .i64 x.kind) ∧ w.cell? ⟨b, 3, none⟩ = some (.int .i64 x.c) ∧ w.cell? ⟨b, 4, none⟩ = some (.int .i64 x.s) ∧ w.cell? ⟨b, 5, none⟩ = some (.int .i64 x.lo) ∧ w.cell? ⟨b, 6, none⟩ = some (.int .i64 x.hi) ∧ w.cell? ⟨b, 7, none⟩ = some (.slice ao x.n cap) ∧ w.cell? ⟨b, 8, none⟩ = some (.bool x.fu) :=
  ⟨h.lt, h.c0, h.c1, h.c2, h.c3, h.c4, h.c5, h.c6, h.c7, h.c8⟩

/-- What a measure leaves. -/
def SzOut (left : Int) (P : Prop) (w : World) (e : Ending) (w' : World) : Prop :=
  ∃ v : Int, e = .returned (.int .i64 v) ∧ -1 ≤ v ∧ v ≤ left ∧ (0 ≤ v → P) ∧ Below w.heap.size w w'

set_option maxHeartbeats 800000 in
theorem eqEntry_same (x : Ent) (ao bo : Option Addr) (ca cb : Nat) (w : World) (hr : IRow w ao x.n x.f) (hs : IRow w bo x.n x.f) (hn : x.n ≤ 1048576) :
    Calls Tryz.prog 29 #[.agg #[.string x.key, .int .i64 x.seq, .int .i64 x.kind, .int .i64 x.c, .int .i64 x.s, .int .i64 x.lo, .int .i64 x.hi, .slice ao x.n ca, .bool x.fu], .agg #[.string x.key, .int .i64 x.seq, .int .i64 x.kind, .int .i64 x.c, .int .i64 x.s, .int .i64 x.lo, .int .i64 x.hi, .slice bo x.n cb, .bool x.fu]] w fun e w' => e = .returned (.bool true) ∧ Below w.heap.size w w' := by
  have hB : ∀ o p, Below w.heap.size w ((w.alloc o).alloc p) := fun o p => (below_new w o).alloc (by simp) _
  go_enter Tryz.func29, Tryz.ntmps29
  go_wp2_with fail
  refine (eqAgg_same _ _ _ _ ao bo _ ca cb x.f _ _ (hr.keep (hB _ _)) (hs.keep (hB _ _)) hn).mono ?_
  rintro e w1 ⟨rfl, hb⟩
  have hbw : Below w.heap.size w w1 := (hB _ _).trans (hb.mono (by simp; omega))
  clear hb
  go_wp2
  go_ret
  exact ⟨rfl, hbw⟩
end Go.Proofs.YtapmbgmmonhdoaaGreatDoor
namespace Go.Proofs.YtapmbgmmonhdoaaGreatDoor
set_option maxRecDepth 100000
open Go.RowKit
set_option linter.unusedSimpArgs false
set_option linter.unusedVariables false

/-- What its type says of an entry. -/
structure EB (x : Ent) : Prop where
  seq : -9223372036854775808 ≤ x.seq ∧ x.seq ≤ 9223372036854775807
  s : -9223372036854775808 ≤ x.s ∧ x.s ≤ 9223372036854775807
  key : x.key.size ≤ 9223372036854775807
  n : x.n ≤ 9223372036854775807

/-- n entries lie at ao. -/
structure ERow (w : World) (ao : Option Addr) (n : Nat) (X : Nat → Ent) : Prop where
  bd : ∀ i, i < n → EB (X i)
  lies : n = 0 ∨ ∃ b off, ao = some ⟨b, off, none⟩ ∧ b < w.heap.size ∧ ∀ i, i < n → ∃ da dc, EAt w b (off + i * 9) (X i) da dc ∧ IRow w da (X i).n (X i).f
theorem ERow.keep {w w' : World} {ao : Option Addr} {n : Nat} {X : Nat → Ent} (h : ERow w ao n X) (hb : Below w.heap.size w w') : ERow w' ao n X :=
  ⟨h.bd, h.lies.elim .inl fun ⟨b, off, e, hlt, hc⟩ => .inr ⟨b, off, e, Nat.lt_of_lt_of_le hlt hb.size, fun i hi => by obtain ⟨da, dc, h1, h2⟩ := hc i hi; exact ⟨da, dc, h1.keep hb, h2.keep hb⟩⟩⟩
end Go.Proofs.YtapmbgmmonhdoaaGreatDoor
namespace Go.Proofs.YtapmbgmmonhdoaaGreatDoor
set_option maxRecDepth 100000
open Go.RowKit
set_option linter.unusedSimpArgs false
set_option linter.unusedVariables false

set_option maxHeartbeats 800000 in
theorem goodAgg_impl (c s lo hi : Int) (ao : Option Addr) (n cap : Nat) (f : Nat → Int) (fu : Bool) (w : World) (hr : IRow w ao n f) (hn : n ≤ 1048576) (hs : -9223372036854775808 ≤ s ∧ s ≤ 9223372036854775807) :
    Calls Tryz.prog 180 #[.agg #[.int .i64 c, .int .i64 s, .int .i64 lo, .int .i64 hi, .slice ao n cap, .bool fu]] w fun e w' => Ans (GoodA c s lo hi n f fu) w e w' := by
  have hB := fun o => below_new w o
  cases hc : isC c
  · go_enter Tryz.func180, Tryz.ntmps180
    go_wp2_with fail
    refine (isCount_any c _).mono ?_
    rintro e w1 ⟨rfl, rfl⟩
    go_wp2
    exact bodyPost_ret (v := .bool false) (by simp [results, Tryz.results180, go_sem]) rfl (Ans.mk _ (by simp [GoodA, hc]) (hB _))
  · have hcb : 0 ≤ c ∧ c ≤ 1000000000 := by simpa [isC, btw] using hc
    go_enter Tryz.func180, Tryz.ntmps180
    go_wp2_with fail
    refine (isCount_any c _).mono ?_
    rintro e w1 ⟨rfl, rfl⟩
    go_wp2_with fail
    refine (goodHist_any ao n cap f _ (hr.keep (hB _)) hn).mono ?_
    rintro e w1 ⟨b1, rfl, h1, q1⟩
    obtain ⟨la, a0, a1, a2, a3, a4, a5⟩ := (AAt.new w c s lo hi (.slice ao n cap) fu 60).keep q1
    have r1 := (hr.keep (hB _)).keep q1
    have B1 : Below w.heap.size w w1 := (hB _).trans (q1.mono (by simp))
    clear q1
    cases b1
    · have H1 : Hid (¬ GoodA c s lo hi n f fu) := fun h => by
        have := h1.2 ⟨h.2.1, h.2.2.1⟩
        cases this
      clear h1
      go_wp2
      exact bodyPost_ret (v := .bool false) (by simp [results, Tryz.results180, go_sem]) rfl (Ans.mk _ (by have := H1.out; simp [this]) B1)
    · obtain ⟨h8, hall⟩ := h1.1 rfl
      subst h8
      have HA : Hid (∀ i, i < 8 → isC (f i) = true) := hall
      clear h1 hall
      cases fu
      · go_wp2_with fail
        refine (goodTotals_not c s lo hi ao cap f _ r1 hcb hs HA.out).mono ?_
        rintro e w2 ⟨b2, rfl, h2, q2⟩
        obtain ⟨la, a0, a1, a2, a3, a4, a5⟩ := AAt.keep ⟨la, a0, a1, a2, a3, a4, a5⟩ q2
        have B2 : Below w.heap.size w w2 := B1.trans (q2.mono B1.size)
        clear q2
        cases b2
        · have L2 : Hid (¬ GoodA c s lo hi 8 f false) := fun h => by
            have := h2.2 (h.2.2.2.1 rfl)
            cases this
          clear h2
          go_wp2
          exact bodyPost_ret (v := .bool false) (by simp [results, Tryz.results180, go_sem]) rfl (Ans.mk _ (by have := L2.out; simp [this]) B2)
        · have H2 : Hid (sumF f 8 = c ∧ -1000000000 * c ≤ s ∧ s ≤ 1000000000 * c) := h2.1 rfl
          clear h2
          go_wp2_with fail
          refine (goodBounds_any c s lo hi _ false _).mono ?_
          rintro e w3 ⟨b3, rfl, h3, q3⟩
          have B3 : Below w.heap.size w w3 := B2.trans (q3.mono B2.size)
          clear q3
          have H3 : Hid (b3 = true ↔ GoodA c s lo hi 8 f false) :=
            ⟨fun h => ⟨hc, rfl, HA.out, fun _ => H2.out, fun h => (by cases h), (h3.1 h).1, (h3.1 h).2⟩, fun h => h3.2 ⟨h.2.2.2.2.2.1, h.2.2.2.2.2.2⟩⟩
          clear h3
          go_wp2
          exact bodyPost_ret (v := .bool b3) (by simp [results, Tryz.results180, go_sem]) rfl (Ans.mk _ H3.out B3)
      · go_wp2_with fail
        refine (goodTotals_full c s lo hi _ _).mono ?_
        rintro e w2 ⟨b2, rfl, h2, q2⟩
        obtain ⟨la, a0, a1, a2, a3, a4, a5⟩ := AAt.keep ⟨la, a0, a1, a2, a3, a4, a5⟩ q2
        have B2 : Below w.heap.size w w2 := B1.trans (q2.mono B1.size)
        clear q2
        cases b2
        · have L2 : Hid (¬ GoodA c s lo hi 8 f true) := fun h => by
            have := h2.2 (h.2.2.2.2.1 rfl)
            cases this
          clear h2
          go_wp2
          exact bodyPost_ret (v := .bool false) (by simp [results, Tryz.results180, go_sem]) rfl (Ans.mk _ (by have := L2.out; simp [this]) B2)
        · have H2 : Hid (s = 0 ∧ 0 < c) := h2.1 rfl
          clear h2
          go_wp2_with fail
          refine (goodBounds_any c s lo hi _ true _).mono ?_
          rintro e w3 ⟨b3, rfl, h3, q3⟩
          have B3 : Below w.heap.size w w3 := B2.trans (q3.mono B2.size)
          clear q3
          have H3 : Hid (b3 = true ↔ GoodA c s lo hi 8 f true) :=
            ⟨fun h => ⟨hc, rfl, HA.out, fun h => (by cases h), fun _ => H2.out, (h3.1 h).1, (h3.1 h).2⟩, fun h => h3.2 ⟨h.2.2.2.2.2.1, h.2.2.2.2.2.2⟩⟩
          clear h3
          go_wp2
          exact bodyPost_ret (v := .bool b3) (by simp [results, Tryz.results180, go_sem]) rfl (Ans.mk _ H3.out B3)
end Go.Proofs.YtapmbgmmonhdoaaGreatDoor
namespace Go.Proofs.YtapmbgmmonhdoaaGreatDoor
set_option maxRecDepth 100000
open Go.RowKit
set_option linter.unusedSimpArgs false
set_option linter.unusedVariables false

end Go.Proofs.YtapmbgmmonhdoaaGreatDoor
