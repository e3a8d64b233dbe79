/- Ints: rows of them, copied, compared, marked. / l1In says whether a number lies between two. / Values and counts: between their limits. / Aggs: where they lie, copied and compared. -/
import Derived.Test.YtapmbgmmonhdoaaGreatDoorBase
namespace Go.Proofs.YtapmbgmmonhdoaaGreatDoor
set_option maxRecDepth 100000
open Go.RowKit
set_option linter.unusedSimpArgs false
set_option linter.unusedVariables false

theorem Tryz.infoInt : (Tryz.prog.info? 3).map (fun i => (i.zero, i.size, i.bytes)) = some (some (.int .i64 0), 1, 8) := by kernel_rfl

/-- n ints f 0, f 1, .. lie at ao. -/
structure IRow (w : World) (ao : Option Addr) (n : Nat) (f : Nat → Int) : Prop where
  bd : ∀ i, -9223372036854775808 ≤ f i ∧ f i ≤ 9223372036854775807
  lies : n = 0 ∨ ∃ b off, ao = some ⟨b, off, none⟩ ∧ b < w.heap.size ∧ ∀ i, i < n → w.cell? ⟨b, off + i, none⟩ = some (.int .i64 (f i))

theorem IRow.keep {w w' : World} {ao : Option Addr} {n : Nat} {f : Nat → Int} (h : IRow w ao n f) (hb : Below w.heap.size w w') : IRow w' ao n f :=
  ⟨h.bd, h.lies.elim .inl fun ⟨b, off, e, hlt, hc⟩ => .inr ⟨b, off, e, Nat.lt_of_lt_of_le hlt hb.size, fun i hi => (hb.cell (p := ⟨b, off + i, none⟩) hlt).trans (hc i hi)⟩⟩

/-- n ints that may be written lie in block b from off on. -/
structure IOwn (w : World) (b off n : Nat) (f : Nat → Int) : Prop where
  bd : ∀ i, -9223372036854775808 ≤ f i ∧ f i ≤ 9223372036854775807
  lt : b < w.heap.size
  cell : ∀ i, i < n → w.cell? ⟨b, off + i, none⟩ = some (.int .i64 (f i))
  free : ∀ i, i < n → w.frozen? ⟨b, off + i, none⟩ = false

theorem IOwn.row {w : World} {b off n : Nat} {f : Nat → Int} (h : IOwn w b off n f) : IRow w (some ⟨b, off, none⟩) n f :=
  ⟨h.bd, .inr ⟨b, off, rfl, h.lt, h.cell⟩⟩

theorem IOwn.keep {w w' : World} {b off n : Nat} {f : Nat → Int} (h : IOwn w b off n f) (hb : Below w.heap.size w w') : IOwn w' b off n f :=
  ⟨h.bd, Nat.lt_of_lt_of_le h.lt hb.size, fun i hi => (hb.cell (p := ⟨b, off + i, none⟩) h.lt).trans (h.cell i hi), fun i hi => (hb.frozen (p := ⟨b, off + i, none⟩) h.lt).trans (h.free i hi)⟩

theorem IOwn.store {w : World} {b off n : Nat} {f : Nat → Int} (h : IOwn w b off n f) (k : Nat) (hk : k < n) (x : Int) (hx : -9223372036854775808 ≤ x ∧ x ≤ 9223372036854775807) :
    IOwn (w.setCell ⟨b, off + k, none⟩ (.int .i64 x)) b off n (fun i => if i = k then x else f i) := by
  refine ⟨fun i => ?_, by simpa using h.lt, fun i hi => ?_, fun i hi => by simpa using h.free i hi⟩
  · by_cases e : i = k <;> simp [e, hx, h.bd i]
  · by_cases e : i = k
    · subst e; simp [World.cell?_setCell_same _ _ _ (h.cell i hi)]
    · rw [World.cell?_setCell_other _ _ _ _ (by intro hh; injection hh with _ h2 _; omega), h.cell i hi]; simp [e]

theorem IOwn.congr {w : World} {b off n : Nat} {f g : Nat → Int} (h : IOwn w b off n f) (hb : ∀ i, -9223372036854775808 ≤ g i ∧ g i ≤ 9223372036854775807) (e : ∀ i, i < n → f i = g i) : IOwn w b off n g :=
  ⟨hb, h.lt, fun i hi => by rw [h.cell i hi, e i hi], h.free⟩

theorem iown_of_made {w : World} {base g n : Nat} (h : w.ownsRow base 3 1 (.slice (some ⟨g, 0, none⟩) n n) n (madeCells (Value.int .i64 0).cells (n * 1)).toList) (hlt : g < w.heap.size) : IOwn w g 0 n (fun _ => 0) := by
  refine ⟨fun _ => by omega, hlt, fun i hi => ?_, fun i _ => by simpa using h.frozenAt i⟩
  have := h.cellAt i (by omega)
  rw [Nat.zero_add, this]
  simp only [Value.cells, toList_madeCells_one]
  rw [List.getElem?_replicate]
  simp [hi]

set_option maxHeartbeats 400000 in
theorem eqIntS_same (ao bo : Option Addr) (n ca cb : Nat) (f : Nat → Int) (w : World) (hr : IRow w ao n f) (hs : IRow w bo n f) (hn : n ≤ 1048576) :
    Calls Tryz.prog 75 #[.slice ao n ca, .slice bo n cb] w fun e w' => e = .returned (.bool true) ∧ Below w.heap.size w w' := by
  obtain ⟨hbd, hl⟩ := hr
  obtain ⟨_, hm⟩ := hs
  go_enter Tryz.func75, Tryz.ntmps75
  go_wp2
  go_loopw [5] (fun i wr => ∃ k : Nat, k ≤ n ∧ i = .int .i64 k ∧ Below w.heap.size w wr) (fun i _ => n - (intOf i).toNat)
  case atStart => exact ⟨0, Nat.zero_le _, rfl, Below.refl _ _⟩
  case round =>
    obtain ⟨k, hk, rfl, hbk⟩ := hrel
    by_cases hlt : k < n
    · obtain ⟨b, off, rfl, hblt, hc⟩ := hl.resolve_left (by omega)
      obtain ⟨b', off', rfl, hblt', hc'⟩ := hm.resolve_left (by omega)
      have h1 : wr.cell? ⟨b, off + k, none⟩ = some (.int .i64 (f k)) := (hbk.cell (p := ⟨b, off + k, none⟩) hblt).trans (hc k hlt)
      have h2 : wr.cell? ⟨b', off' + k, none⟩ = some (.int .i64 (f k)) := (hbk.cell (p := ⟨b', off' + k, none⟩) hblt').trans (hc' k hlt)
      clear hc hc' hl hm
      go_wp2
      go_quiet (fail)
      go_wp2
      go_roundw
      case rel => exact ⟨k + 1, by omega, by go_num, below_drewN hbk _⟩
      case measure => simp [intOf]; omega
    · go_wp2
      go_ret
      exact ⟨rfl, hbk⟩

set_option maxHeartbeats 400000 in
theorem markIntS_any (g off n cap : Nat) (f : Nat → Int) (k0 : Nat) (w : World) (ho : IOwn w g off n f) (hn : n ≤ 1048576) (hk0 : k0 ≤ 4194304) :
    Calls Tryz.prog 33 #[.slice (some ⟨g, off, none⟩) n cap, .int .i64 k0] w fun e w' => e = .returned (.int .i64 ((k0 + n : Nat) : Int)) ∧ (∃ fy, IOwn w' g off n fy) ∧ Others g w w' := by
  go_enter Tryz.func33, Tryz.ntmps33
  go_wp2
  go_loopw [1, 5] (fun q i wr => ∃ k : Nat, k ≤ n ∧ i = .int .i64 k ∧ q = .int .i64 ((k0 + k : Nat) : Int) ∧ IOwn wr g off n (fun j => if j < k then ((k0 + j : Nat) : Int) else f j) ∧ Others g w wr) (fun _ i _ => n - (intOf i).toNat)
  case atStart => exact ⟨0, Nat.zero_le _, rfl, by simp, by simpa using ho, Others.refl _ _⟩
  case round =>
    obtain ⟨k, hk, rfl, rfl, hok, hbk⟩ := hrel
    by_cases hlt : k < n
    · have hd := hok.cell k hlt
      have hfz := hok.free k hlt
      have hst := hok.store k hlt (((k0 + k : Nat) : Int)) (by omega)
      rw [Int.natCast_add] at hst
      clear ho
      go_wp2
      go_roundw
      case rel =>
        refine ⟨k + 1, by omega, by go_num, by go_num, hst.congr (fun i => ?_) (fun i _ => ?_), hbk.trans (Others.setCell _ _ _ _)⟩
        · have := hok.bd i
          by_cases h : i < k + 1
          · simp only [h, if_true]; omega
          · rw [if_neg (by omega)] at this; rw [if_neg h]; exact this
        · by_cases h1 : i = k
          · subst h1; rw [if_pos rfl, if_pos (by omega), Int.natCast_add]
          · by_cases h2 : i < k
            · rw [if_neg h1, if_pos h2, if_pos (by omega)]
            · rw [if_neg h1, if_neg h2, if_neg (by omega)]
      case measure => simp [intOf]; omega
    · go_wp2
      go_ret
      have : k = n := by omega
      subst this
      exact ⟨rfl, ⟨_, hok⟩, hbk⟩
end Go.Proofs.YtapmbgmmonhdoaaGreatDoor
namespace Go.Proofs.YtapmbgmmonhdoaaGreatDoor
set_option maxRecDepth 100000
open Go.RowKit

theorem l1In_yes (n lo hi : Int) (w : World) (h1 : lo ≤ n) (h2 : n ≤ hi) :
    Calls Tryz.prog 9 #[.int .i64 n, .int .i64 lo, .int .i64 hi] w fun e w' => e = .returned (.bool true) ∧ w' = w := by
  go_enter Tryz.func9, Tryz.ntmps9
  go_wp2
  go_ret
  exact ⟨rfl, rfl⟩
theorem l1In_no (n lo hi : Int) (w : World) (h : ¬ (lo ≤ n ∧ n ≤ hi)) :
    Calls Tryz.prog 9 #[.int .i64 n, .int .i64 lo, .int .i64 hi] w fun e w' => e = .returned (.bool false) ∧ w' = w := by
  by_cases h1 : lo ≤ n
  · have h2 : ¬ n ≤ hi := fun h2 => h ⟨h1, h2⟩
    clear h
    go_enter Tryz.func9, Tryz.ntmps9
    go_wp2
    go_ret
    exact ⟨rfl, rfl⟩
  · have h2 : decide (lo ≤ n) = false := by simpa using h1
    clear h
    go_enter Tryz.func9, Tryz.ntmps9
    go_wp2
    go_ret
    exact ⟨rfl, rfl⟩

end Go.Proofs.YtapmbgmmonhdoaaGreatDoor
namespace Go.Proofs.YtapmbgmmonhdoaaGreatDoor
set_option maxRecDepth 100000
open Go.RowKit
set_option linter.unusedSimpArgs false
set_option linter.unusedVariables false

/-- Between two numbers. -/
def btw (lo n hi : Int) : Bool := decide (lo ≤ n ∧ n ≤ hi)
theorem l1In_any (n lo hi : Int) (w : World) :
    Calls Tryz.prog 9 #[.int .i64 n, .int .i64 lo, .int .i64 hi] w fun e w' => e = .returned (.bool (btw lo n hi)) ∧ w' = w := by
  by_cases h : lo ≤ n ∧ n ≤ hi
  · simpa [btw, h] using l1In_yes n lo hi w h.1 h.2
  · simpa [btw, h] using l1In_no n lo hi w h

/-- A value. -/
def isV (v : Int) : Bool := btw (-1000000000) v 1000000000
/-- A count. -/
def isC (v : Int) : Bool := btw 0 v 1000000000

theorem isValue_any (v : Int) (w : World) :
    Calls Tryz.prog 232 #[.int .i64 v] w fun e w' => e = .returned (.bool (isV v)) ∧ w' = w := by
  by_cases h1 : -1000000000 ≤ v
  · by_cases h2 : v ≤ 1000000000
    · have h : isV v = true := by simp [isV, btw, h1, h2]
      go_enter Tryz.func232, Tryz.ntmps232
      go_wp2
      go_ret
      exact ⟨by simp_all, rfl⟩
    · have h : isV v = false := by simp [isV, btw, h2]
      go_enter Tryz.func232, Tryz.ntmps232
      go_wp2
      go_ret
      exact ⟨by simp_all, rfl⟩
  · have h : isV v = false := by simp [isV, btw, h1]
    have h3 : decide (-1000000000 ≤ v) = false := by simpa using h1
    go_enter Tryz.func232, Tryz.ntmps232
    go_wp2
    go_ret
    exact ⟨by simp_all, rfl⟩

theorem isCount_any (v : Int) (w : World) :
    Calls Tryz.prog 205 #[.int .i64 v] w fun e w' => e = .returned (.bool (isC v)) ∧ w' = w := by
  by_cases h1 : 0 ≤ v
  · by_cases h2 : v ≤ 1000000000
    · have h : isC v = true := by simp [isC, btw, h1, h2]
      go_enter Tryz.func205, Tryz.ntmps205
      go_wp2
      go_ret
      exact ⟨by simp_all, rfl⟩
    · have h : isC v = false := by simp [isC, btw, h2]
      go_enter Tryz.func205, Tryz.ntmps205
      go_wp2
      go_ret
      exact ⟨by simp_all, rfl⟩
  · have h : isC v = false := by simp [isC, btw, h1]
    have h3 : decide (0 ≤ v) = false := by simpa using h1
    go_enter Tryz.func205, Tryz.ntmps205
    go_wp2
    go_ret
    exact ⟨by simp_all, rfl⟩
end Go.Proofs.YtapmbgmmonhdoaaGreatDoor
namespace Go.Proofs.YtapmbgmmonhdoaaGreatDoor
set_option maxRecDepth 100000
open Go.RowKit
set_option linter.unusedSimpArgs false
set_option linter.unusedVariables false

/-- An agg in block b. -/
structure AAt (w : World) (b : Nat) (c s lo hi : Int) (hv : Value) (fu : Bool) : Prop where
  lt : b < w.heap.size
  c0 : w.cell? ⟨b, 0, none⟩ = some (.int .i64 c)
  c1 : w.cell? ⟨b, 1, none⟩ = some (.int .i64 s)
  c2 : w.cell? ⟨b, 2, none⟩ = some (.int .i64 lo)
  c3 : w.cell? ⟨b, 3, none⟩ = some (.int .i64 hi)
  c4 : w.cell? ⟨b, 4, none⟩ = some hv
  c5 : w.cell? ⟨b, 5, none⟩ = some (.bool fu)
section
variable {w w' : World} {b : Nat} {c s lo hi : Int} {hv : Value} {fu : Bool}
theorem AAt.keep (h : AAt w b c s lo hi hv fu) (hb : Below w.heap.size w w') : AAt w' b c s lo hi hv fu :=
  ⟨Nat.lt_of_lt_of_le h.lt hb.size, (hb.cell (p := ⟨b, 0, none⟩) h.lt).trans h.c0, (hb.cell (p := ⟨b, 1, none⟩) h.lt).trans h.c1, (hb.cell (p := ⟨b, 2, none⟩) h.lt).trans h.c2, (hb.cell (p := ⟨b, 3, none⟩) h.lt).trans h.c3, (hb.cell (p := ⟨b, 4, none⟩) h.lt).trans h.c4, (hb.cell (p := ⟨b, 5, none⟩) h.lt).trans h.c5⟩
theorem AAt.others {d : Nat} (h : AAt w b c s lo hi hv fu) (ho : Others d w w') (hne : b ≠ d) : AAt w' b c s lo hi hv fu :=
  have k : ∀ j, w'.cell? ⟨b, j, none⟩ = w.cell? ⟨b, j, none⟩ := fun j => World.cell?_of_block (w := w) (a := ⟨b, j, none⟩) (ho.block b hne)
  ⟨by rw [ho.size]; exact h.lt, (k _).trans h.c0, (k _).trans h.c1, (k _).trans h.c2, (k _).trans h.c3, (k _).trans h.c4, (k _).trans h.c5⟩
end
theorem AAt.new (w : World) (c s lo hi : Int) (hv : Value) (fu : Bool) (T : Nat) : AAt (w.alloc (.cells #[.int .i64 c, .int .i64 s, .int .i64 lo, .int .i64 hi, hv, .bool fu] T)) w.heap.size c s lo hi hv fu := by
  refine ⟨by simp, ?_, ?_, ?_, ?_, ?_, ?_⟩ <;> simp [go_sem]
theorem below_new (w : World) (o : Obj) : Below w.heap.size w (w.alloc o) := (Below.refl _ _).alloc (Nat.le_refl _) _

theorem Others.irow {b : Nat} {w w' : World} (h : Others b w w') {c off n : Nat} {f : Nat → Int} (hr : IOwn w c off n f) (hne : c ≠ b) : IOwn w' c off n f :=
  ⟨hr.bd, by rw [h.size]; exact hr.lt, fun i hi => (World.cell?_of_block (w := w) (a := ⟨c, off + i, none⟩) (h.block c hne)).trans (hr.cell i hi),
    fun i hi => (World.frozen?_of_block (w := w) (a := ⟨c, off + i, none⟩) (h.block c hne)).trans (hr.free i hi)⟩

theorem new3 (w : World) (A B C : Array Value) (T U V : Nat) {w1 : World}
    (hb : Below (((w.alloc (.cells A T)).alloc (.cells B U)).alloc (.cells C V)).heap.size (((w.alloc (.cells A T)).alloc (.cells B U)).alloc (.cells C V)) w1) :
    (∀ j, w1.cell? ⟨w.heap.size, j, none⟩ = A[j]?) ∧ (∀ j, w1.cell? ⟨w.heap.size + 1, j, none⟩ = B[j]?) ∧ (∀ j, w1.cell? ⟨w.heap.size + 1 + 1, j, none⟩ = C[j]?) ∧
    (∀ j, w1.frozen? ⟨w.heap.size + 1, j, none⟩ = false) ∧ (∀ j, w1.frozen? ⟨w.heap.size + 1 + 1, j, none⟩ = false) ∧ w.heap.size + 3 ≤ w1.heap.size := by
  have hs := hb.size
  simp at hs
  have c : ∀ b j, b < w.heap.size + 3 → w1.cell? ⟨b, j, none⟩ = _ := fun b j h => hb.cell (p := ⟨b, j, none⟩) (by simp; omega)
  have d : ∀ b j, b < w.heap.size + 3 → w1.frozen? ⟨b, j, none⟩ = _ := fun b j h => hb.frozen (p := ⟨b, j, none⟩) (by simp; omega)
  refine ⟨fun j => (c _ _ (by omega)).trans ?_, fun j => (c _ _ (by omega)).trans ?_, fun j => (c _ _ (by omega)).trans ?_, fun j => (d _ _ (by omega)).trans ?_, fun j => (d _ _ (by omega)).trans ?_, by omega⟩
  all_goals simp [go_sem]

end Go.Proofs.YtapmbgmmonhdoaaGreatDoor
