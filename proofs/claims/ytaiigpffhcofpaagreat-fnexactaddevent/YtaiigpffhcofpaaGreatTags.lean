/- l1In says whether a number lies between two. / Values and counts: between their limits. / Aggs: where they lie, copied and compared. / Aggs compared by the laws. / Names: letters, one to twelve. / Tags in memory: copied, compared. -/
import Derived.Test.YtaiigpffhcofpaaGreatInts
import Derived.Deep.RegionWith
namespace Go.Proofs.YtaiigpffhcofpaaGreat
set_option maxRecDepth 100000
open Go.RowKit

theorem l1In_yes (n lo hi : Int) (w : World) (h1 : lo ≤ n) (h2 : n ≤ hi) :
    Calls Tryz.prog 38 #[.int .i64 n, .int .i64 lo, .int .i64 hi] w fun e w' => e = .returned (.bool true) ∧ w' = w := by
  go_enter Tryz.func38, Tryz.ntmps38
  go_wp2
  go_ret
  exact ⟨rfl, rfl⟩
theorem l1In_no (n lo hi : Int) (w : World) (h : ¬ (lo ≤ n ∧ n ≤ hi)) :
    Calls Tryz.prog 38 #[.int .i64 n, .int .i64 lo, .int .i64 hi] w fun e w' => e = .returned (.bool false) ∧ w' = w := by
  by_cases h1 : lo ≤ n
  · have h2 : ¬ n ≤ hi := fun h2 => h ⟨h1, h2⟩
    clear h
    go_enter Tryz.func38, Tryz.ntmps38
    go_wp2
    go_ret
    exact ⟨rfl, rfl⟩
  · have h2 : decide (lo ≤ n) = false := by simpa using h1
    clear h
    go_enter Tryz.func38, Tryz.ntmps38
    go_wp2
    go_ret
    exact ⟨rfl, rfl⟩

end Go.Proofs.YtaiigpffhcofpaaGreat
namespace Go.Proofs.YtaiigpffhcofpaaGreat
set_option maxRecDepth 100000
open Go.RowKit
set_option linter.unusedSimpArgs false
set_option linter.unusedVariables false

/-- Between two numbers. -/
def btw (lo n hi : Int) : Bool := decide (lo ≤ n ∧ n ≤ hi)
theorem l1In_any (n lo hi : Int) (w : World) :
    Calls Tryz.prog 38 #[.int .i64 n, .int .i64 lo, .int .i64 hi] w fun e w' => e = .returned (.bool (btw lo n hi)) ∧ w' = w := by
  by_cases h : lo ≤ n ∧ n ≤ hi
  · simpa [btw, h] using l1In_yes n lo hi w h.1 h.2
  · simpa [btw, h] using l1In_no n lo hi w h

/-- A value. -/
def isV (v : Int) : Bool := btw (-1000000000) v 1000000000
/-- A count. -/
def isC (v : Int) : Bool := btw 0 v 1000000000

theorem l4Value_any (v : Int) (w : World) :
    Calls Tryz.prog 21 #[.int .i64 v] w fun e w' => e = .returned (.bool (isV v)) ∧ w' = w := by
  go_enter Tryz.func21, Tryz.ntmps21
  go_wp2_with fail
  refine (l1In_any v (-1000000000) 1000000000 _).mono ?_
  rintro e w1 ⟨rfl, rfl⟩
  go_wp2
  go_ret
  exact ⟨rfl, rfl⟩

theorem isValue_any (v : Int) (w : World) :
    Calls Tryz.prog 71 #[.int .i64 v] w fun e w' => e = .returned (.bool (isV v)) ∧ w' = w := by
  by_cases h1 : -1000000000 ≤ v
  · by_cases h2 : v ≤ 1000000000
    · have h : isV v = true := by simp [isV, btw, h1, h2]
      go_enter Tryz.func71, Tryz.ntmps71
      go_wp2
      go_ret
      exact ⟨by simp_all, rfl⟩
    · have h : isV v = false := by simp [isV, btw, h2]
      go_enter Tryz.func71, Tryz.ntmps71
      go_wp2
      go_ret
      exact ⟨by simp_all, rfl⟩
  · have h : isV v = false := by simp [isV, btw, h1]
    have h3 : decide (-1000000000 ≤ v) = false := by simpa using h1
    go_enter Tryz.func71, Tryz.ntmps71
    go_wp2
    go_ret
    exact ⟨by simp_all, rfl⟩

theorem isCount_any (v : Int) (w : World) :
    Calls Tryz.prog 101 #[.int .i64 v] w fun e w' => e = .returned (.bool (isC v)) ∧ w' = w := by
  by_cases h1 : 0 ≤ v
  · by_cases h2 : v ≤ 1000000000
    · have h : isC v = true := by simp [isC, btw, h1, h2]
      go_enter Tryz.func101, Tryz.ntmps101
      go_wp2
      go_ret
      exact ⟨by simp_all, rfl⟩
    · have h : isC v = false := by simp [isC, btw, h2]
      go_enter Tryz.func101, Tryz.ntmps101
      go_wp2
      go_ret
      exact ⟨by simp_all, rfl⟩
  · have h : isC v = false := by simp [isC, btw, h1]
    have h3 : decide (0 ≤ v) = false := by simpa using h1
    go_enter Tryz.func101, Tryz.ntmps101
    go_wp2
    go_ret
    exact ⟨by simp_all, rfl⟩
end Go.Proofs.YtaiigpffhcofpaaGreat
namespace Go.Proofs.YtaiigpffhcofpaaGreat
set_option maxRecDepth 100000
open Go.RowKit
set_option linter.unusedSimpArgs false
set_option linter.unusedVariables false

/-- An agg in block b. -/
structure AAt (w : World) (b : Nat) (c s lo hi : Int) (hv : Value) (fu : Bool) : Prop where
  lt : b < w.heap.size
  c0 : w.cell? ⟨b, 0, none⟩ = some (.int .i64 c)
  c1 : w.cell? ⟨b, 1, none⟩ = some (.int .i64 s)
  c2 : w.cell? ⟨b, 2, none⟩ = some (.int .i64 lo)
  c3 : w.cell? ⟨b, 3, none⟩ = some (.int .i64 hi)
  c4 : w.cell? ⟨b, 4, none⟩ = some hv
  c5 : w.cell? ⟨b, 5, none⟩ = some (.bool fu)
section
variable {w w' : World} {b : Nat} {c s lo hi : Int} {hv : Value} {fu : Bool}
theorem AAt.keep (h : AAt w b c s lo hi hv fu) (hb : Below w.heap.size w w') : AAt w' b c s lo hi hv fu :=
  ⟨Nat.lt_of_lt_of_le h.lt hb.size, (hb.cell (p := ⟨b, 0, none⟩) h.lt).trans h.c0, (hb.cell (p := ⟨b, 1, none⟩) h.lt).trans h.c1, (hb.cell (p := ⟨b, 2, none⟩) h.lt).trans h.c2, (hb.cell (p := ⟨b, 3, none⟩) h.lt).trans h.c3, (hb.cell (p := ⟨b, 4, none⟩) h.lt).trans h.c4, (hb.cell (p := ⟨b, 5, none⟩) h.lt).trans h.c5⟩
theorem AAt.others {d : Nat} (h : AAt w b c s lo hi hv fu) (ho : Others d w w') (hne : b ≠ d) : AAt w' b c s lo hi hv fu :=
  have k : ∀ j, w'.cell? ⟨b, j, none⟩ = w.cell? ⟨b, j, none⟩ := fun j => World.cell?_of_block (w := w) (a := ⟨b, j, none⟩) (ho.block b hne)
  ⟨by rw [ho.size]; exact h.lt, (k _).trans h.c0, (k _).trans h.c1, (k _).trans h.c2, (k _).trans h.c3, (k _).trans h.c4, (k _).trans h.c5⟩
end
theorem AAt.new (w : World) (c s lo hi : Int) (hv : Value) (fu : Bool) (T : Nat) : AAt (w.alloc (.cells #[.int .i64 c, .int .i64 s, .int .i64 lo, .int .i64 hi, hv, .bool fu] T)) w.heap.size c s lo hi hv fu := by
  refine ⟨by simp, ?_, ?_, ?_, ?_, ?_, ?_⟩ <;> simp [go_sem]
theorem below_new (w : World) (o : Obj) : Below w.heap.size w (w.alloc o) := (Below.refl _ _).alloc (Nat.le_refl _) _

theorem Others.irow {b : Nat} {w w' : World} (h : Others b w w') {c off n : Nat} {f : Nat → Int} (hr : IOwn w c off n f) (hne : c ≠ b) : IOwn w' c off n f :=
  ⟨hr.bd, by rw [h.size]; exact hr.lt, fun i hi => (World.cell?_of_block (w := w) (a := ⟨c, off + i, none⟩) (h.block c hne)).trans (hr.cell i hi),
    fun i hi => (World.frozen?_of_block (w := w) (a := ⟨c, off + i, none⟩) (h.block c hne)).trans (hr.free i hi)⟩

theorem szIntS_any (ao : Option Addr) (n cap : Nat) (w : World) (hn : n ≤ 9223372036854775807) :
    Calls Tryz.prog 83 #[.slice ao n cap, .int .i64 1048576] w fun e w' => ∃ v : Int, e = .returned (.int .i64 v) ∧ -1 ≤ v ∧ v ≤ 1048576 ∧ (0 ≤ v → n ≤ 1048576) ∧ w' = w := by
  have hw : IntKind.i64.wrap (1048576 - (n : Int)) = 1048576 - (n : Int) := by rw [IntKind.wrap_i64] <;> omega
  by_cases h : n ≤ 1048576
  · have h1 : ¬ (1048576 - (n : Int) < 0) := by omega
    go_enter Tryz.func83, Tryz.ntmps83
    go_wp2
    go_ret
    exact ⟨_, rfl, by omega, by omega, rfl⟩
  · have h1 : 1048576 - (n : Int) < 0 := by omega
    go_enter Tryz.func83, Tryz.ntmps83
    go_wp2
    refine bodyPost_ret (v := .int .i64 (-1)) (by simp [results, Tryz.results83, go_sem]) rfl ⟨_, rfl, by omega, by omega, fun h => by omega, rfl⟩

theorem szAgg_any (c s lo hi : Int) (ao : Option Addr) (n cap : Nat) (fu : Bool) (w : World) (hn : n ≤ 9223372036854775807) :
    Calls Tryz.prog 65 #[.agg #[.int .i64 c, .int .i64 s, .int .i64 lo, .int .i64 hi, .slice ao n cap, .bool fu], .int .i64 1048576] w
      fun e w' => ∃ v : Int, e = .returned (.int .i64 v) ∧ -1 ≤ v ∧ v ≤ 1048576 ∧ (0 ≤ v → n ≤ 1048576) ∧ Below w.heap.size w w' := by
  have hB := fun o => below_new w o
  go_enter Tryz.func65, Tryz.ntmps65
  go_wp2_with fail
  refine (szIntS_any ao n cap _ hn).mono ?_
  rintro e w1 ⟨v, rfl, h1, h2, h3, rfl⟩
  by_cases hv : v < 0
  · clear h3
    go_wp2
    go_ret
    first | exact hB _ | exact ⟨_, rfl, by omega, by omega, fun h => by omega, hB _⟩
  · have h4 := h3 (by omega)
    clear h3
    go_wp2
    go_ret
    exact ⟨_, rfl, by omega, by omega, fun h => by omega, hB _⟩

theorem new3 (w : World) (A B C : Array Value) (T U V : Nat) {w1 : World}
    (hb : Below (((w.alloc (.cells A T)).alloc (.cells B U)).alloc (.cells C V)).heap.size (((w.alloc (.cells A T)).alloc (.cells B U)).alloc (.cells C V)) w1) :
    (∀ j, w1.cell? ⟨w.heap.size, j, none⟩ = A[j]?) ∧ (∀ j, w1.cell? ⟨w.heap.size + 1, j, none⟩ = B[j]?) ∧ (∀ j, w1.cell? ⟨w.heap.size + 1 + 1, j, none⟩ = C[j]?) ∧
    (∀ j, w1.frozen? ⟨w.heap.size + 1, j, none⟩ = false) ∧ (∀ j, w1.frozen? ⟨w.heap.size + 1 + 1, j, none⟩ = false) ∧ w.heap.size + 3 ≤ w1.heap.size := by
  have hs := hb.size
  simp at hs
  have c : ∀ b j, b < w.heap.size + 3 → w1.cell? ⟨b, j, none⟩ = _ := fun b j h => hb.cell (p := ⟨b, j, none⟩) (by simp; omega)
  have d : ∀ b j, b < w.heap.size + 3 → w1.frozen? ⟨b, j, none⟩ = _ := fun b j h => hb.frozen (p := ⟨b, j, none⟩) (by simp; omega)
  refine ⟨fun j => (c _ _ (by omega)).trans ?_, fun j => (c _ _ (by omega)).trans ?_, fun j => (c _ _ (by omega)).trans ?_, fun j => (d _ _ (by omega)).trans ?_, fun j => (d _ _ (by omega)).trans ?_, by omega⟩
  all_goals simp [go_sem]

set_option maxHeartbeats 800000 in
theorem toAgg_any (c s lo hi : Int) (ao : Option Addr) (n cap : Nat) (f : Nat → Int) (fu : Bool) (w : World) (hr : IRow w ao n f) (hn : n ≤ 1048576) :
    Calls Tryz.prog 67 #[.agg #[.int .i64 c, .int .i64 s, .int .i64 lo, .int .i64 hi, .slice ao n cap, .bool fu]] w
      fun e w' => ∃ g, e = .returned (.agg #[.int .i64 c, .int .i64 s, .int .i64 lo, .int .i64 hi, .slice (some ⟨g, 0, none⟩) n n, .bool fu]) ∧ w.heap.size ≤ g ∧ IOwn w' g 0 n f ∧ Below w.heap.size w w' := by
  go_enter Tryz.func67, Tryz.ntmps67
  go_wp2_with fail
  refine (toIntS_any ao n cap f _ (hr.keep ((((Below.refl _ _).alloc (Nat.le_refl _) _).alloc (by simp) _).alloc (by simp; omega) _)) hn).mono ?_
  rintro e w1 ⟨rfl, ho, hb⟩
  obtain ⟨hA, hB, hC, hf1, hf2, hsz⟩ := new3 w _ _ _ _ _ _ hb
  have hbw : Below w.heap.size w w1 := ((((Below.refl _ _).alloc (Nat.le_refl _) _).alloc (by simp) _).alloc (by simp; omega) _).trans (hb.mono (by simp; omega))
  have a4 := hA 4
  have a5 := hA 5
  have b0 := hB 0
  have b1 := hB 1
  have b2 := hB 2
  have b3 := hB 3
  have b4 := hB 4
  have b5 := hB 5
  have k0 := hC 0
  have k1 := hC 1
  have k2 := hC 2
  have k3 := hC 3
  have k4 := hC 4
  have k5 := hC 5
  simp at a4 a5 b0 b1 b2 b3 b4 b5 k0 k1 k2 k3 k4 k5
  simp only [World.size_alloc] at ho
  clear hb hA hB hC
  go_wp2
  refine bodyPost_ret (v := .agg #[.int .i64 c, .int .i64 s, .int .i64 lo, .int .i64 hi, .slice (some ⟨w.heap.size + 1 + 1 + 1, 0, none⟩) n n, .bool fu]) (by simp [results, Tryz.results67, go_sem, b0, b1, b2, b3, b4, b5]) rfl ⟨w.heap.size + 1 + 1 + 1, rfl, by omega, ?_, ?_⟩
  · repeat' refine (Others.setCell _ _ _ _).irow ?_ (by omega)
    exact ho
  · repeat' refine Below.setCell ?_ (by first | (simp; done) | (simp; omega)) _
    exact hbw
end Go.Proofs.YtaiigpffhcofpaaGreat
namespace Go.Proofs.YtaiigpffhcofpaaGreat
set_option maxRecDepth 100000
open Go.RowKit
set_option linter.unusedSimpArgs false
set_option linter.unusedVariables false

set_option maxHeartbeats 800000 in
theorem eqAgg_same (c s lo hi : Int) (ao bo : Option Addr) (n ca cb : Nat) (f : Nat → Int) (fu : Bool) (w : World) (hr : IRow w ao n f) (hs : IRow w bo n f) (hn : n ≤ 1048576) :
    Calls Tryz.prog 82 #[.agg #[.int .i64 c, .int .i64 s, .int .i64 lo, .int .i64 hi, .slice ao n ca, .bool fu], .agg #[.int .i64 c, .int .i64 s, .int .i64 lo, .int .i64 hi, .slice bo n cb, .bool fu]] w
      fun e w' => e = .returned (.bool true) ∧ Below w.heap.size w w' := by
  have hB : ∀ o p, Below w.heap.size w ((w.alloc o).alloc p) := fun o p => (below_new w o).alloc (by simp) _
  go_enter Tryz.func82, Tryz.ntmps82
  go_wp2_with fail
  refine (eqIntS_same ao bo n ca cb f _ (hr.keep (hB _ _)) (hs.keep (hB _ _)) hn).mono ?_
  rintro e w1 ⟨rfl, hb⟩
  have hbw : Below w.heap.size w w1 := (hB _ _).trans (hb.mono (by simp; omega))
  have c5 : w1.cell? ⟨w.heap.size, 5, none⟩ = some (.bool fu) := (hb.cell (p := ⟨w.heap.size, 5, none⟩) (by simp; omega)).trans (by simp [go_sem])
  have d5 : w1.cell? ⟨w.heap.size + 1, 5, none⟩ = some (.bool fu) := (hb.cell (p := ⟨w.heap.size + 1, 5, none⟩) (by simp)).trans (by simp [go_sem])
  clear hb
  cases fu
  all_goals
    go_wp2
    go_ret
    exact ⟨rfl, hbw⟩
end Go.Proofs.YtaiigpffhcofpaaGreat
namespace Go.Proofs.YtaiigpffhcofpaaGreat
set_option maxRecDepth 100000
open Go.RowKit
set_option linter.unusedSimpArgs false
set_option linter.unusedVariables false

def IsLet (c : Int) : Prop := (97 ≤ c ∧ c ≤ 122) ∨ (65 ≤ c ∧ c ≤ 90)

theorem isLetter_yes (c : Int) (w : World) (h : IsLet c) : Calls Tryz.prog 87 #[.int .u8 c] w fun e w' => e = .returned (.bool true) ∧ w' = w := by
  rcases h with ⟨h1, h2⟩ | ⟨h1, h2⟩
  · go_enter Tryz.func87, Tryz.ntmps87
    go_wp2
    go_ret
    exact ⟨rfl, rfl⟩
  · have hd : decide (97 ≤ c) = false := by simp; omega
    go_enter Tryz.func87, Tryz.ntmps87
    go_wp2
    go_ret
    exact ⟨rfl, rfl⟩
theorem isLetter_no (c : Int) (w : World) (h : ¬ IsLet c) : Calls Tryz.prog 87 #[.int .u8 c] w fun e w' => e = .returned (.bool false) ∧ w' = w := by
  unfold IsLet at h
  have h0 : (97 ≤ c ∧ decide (c ≤ 122) = false) ∨ (decide (97 ≤ c) = false ∧ 65 ≤ c ∧ decide (c ≤ 90) = false) ∨ (decide (97 ≤ c) = false ∧ decide (65 ≤ c) = false) := by
    simp; omega
  clear h
  rcases h0 with ⟨h1, h2⟩ | ⟨h1, h2, h3⟩ | ⟨h1, h2⟩
  · have h3 : 65 ≤ c := by omega
    have h4 : decide (c ≤ 90) = false := by simp; omega
    go_enter Tryz.func87, Tryz.ntmps87
    go_wp2
    go_ret
    exact ⟨rfl, rfl⟩
  · go_enter Tryz.func87, Tryz.ntmps87
    go_wp2
    go_ret
    exact ⟨rfl, rfl⟩
  · go_enter Tryz.func87, Tryz.ntmps87
    go_wp2
    go_ret
    exact ⟨rfl, rfl⟩

/-- Whether a text is a name. -/
def nmB (s : ByteArray) : Bool := decide (1 ≤ s.size) && decide (s.size ≤ 12) && s.data.toList.all fun c => decide ((97 ≤ (c.toNat : Int) ∧ (c.toNat : Int) ≤ 122) ∨ (65 ≤ (c.toNat : Int) ∧ (c.toNat : Int) ≤ 90))
theorem nmB_yes {s : ByteArray} (h1 : 1 ≤ s.size) (h2 : s.size ≤ 12) (h : ∀ j (hj : j < s.size), IsLet (s[j].toNat : Int)) : nmB s = true := by
  simp only [nmB, h1, h2, decide_true, Bool.and_self, Bool.true_and, List.all_eq_true]
  intro c hc
  obtain ⟨j, hj, rfl⟩ := List.getElem_of_mem hc
  have := h j (by simpa using hj)
  unfold IsLet at this
  simp only [decide_eq_true_eq, Array.getElem_toList]
  exact this
theorem nmB_short {s : ByteArray} (h : ¬ 1 ≤ s.size) : nmB s = false := by simp [nmB, h]
theorem nmB_long {s : ByteArray} (h : ¬ s.size ≤ 12) : nmB s = false := by simp [nmB, h]
theorem nmB_no {s : ByteArray} (j : Nat) (hj : j < s.size) (h : ¬ IsLet (s[j].toNat : Int)) : nmB s = false := by
  have hm : s[j] ∈ s.data.toList := by
    rw [show s[j] = s.data.toList[j]'(by simpa using hj) from by simp; rfl]
    exact List.getElem_mem _
  cases hb : nmB s with
  | false => rfl
  | true =>
    simp only [nmB, Bool.and_eq_true, List.all_eq_true] at hb
    have := of_decide_eq_true (hb.2 _ hm)
    exact absurd this h
theorem nmB_size {s : ByteArray} (h : nmB s = true) : 1 ≤ s.size ∧ s.size ≤ 12 := by
  simp only [nmB, Bool.and_eq_true, decide_eq_true_eq] at h
  exact ⟨h.1.1, h.1.2⟩

set_option maxHeartbeats 400000 in
theorem isName_any (s : ByteArray) (w : World) (hs : s.size ≤ 1048576) : Calls Tryz.prog 73 #[.string s] w fun e w' => e = .returned (.bool (nmB s)) ∧ w' = w := by
  generalize hB : nmB s = B
  have HB : Hid (nmB s = B) := hB
  clear hB
  by_cases h1 : 1 ≤ s.size
  · have hd1 : decide ((s.size : Int) < 1) = false := by simp; omega
    by_cases h2 : s.size ≤ 12
    · have hd2 : decide ((12 : Int) < (s.size : Int)) = false := by simp; omega
      go_enter Tryz.func73, Tryz.ntmps73
      go_wp2
      go_loopw [14] (fun i wr => ∃ k : Nat, k ≤ s.size ∧ i = .int .i64 k ∧ Hid (∀ j (hj : j < s.size), j < k → IsLet (s[j].toNat : Int)) ∧ wr = w) (fun i _ => s.size - (intOf i).toNat)
      case atStart => exact ⟨0, by omega, rfl, fun j _ h => by omega, rfl⟩
      case round =>
        obtain ⟨k, hk, rfl, HL, rfl⟩ := hrel
        by_cases hlt : k < s.size
        · by_cases hL : IsLet (s[k].toNat : Int)
          · have HL' : Hid (∀ j (hj : j < s.size), j < k + 1 → IsLet (s[j].toNat : Int)) := fun j hj h => by
              rcases Nat.lt_succ_iff_lt_or_eq.1 h with h | h
              · exact HL.out j hj h
              · subst h; exact hL
            go_wp2_with fail
            refine (isLetter_yes _ _ hL).mono ?_
            rintro e w' ⟨rfl, rfl⟩
            go_wp2
            go_roundw
            case rel => exact ⟨k + 1, by omega, by go_num, HL', trivial⟩
            case measure => simp [intOf]; omega
          · have HF : Hid (B = false) := by unfold Hid; rw [← HB.out, nmB_no k hlt hL]
            go_wp2_with fail
            refine (isLetter_no _ _ hL).mono ?_
            rintro e w' ⟨rfl, rfl⟩
            go_wp2
            go_ret
            rw [HF.out]
            exact ⟨rfl, rfl⟩
        · have HT : Hid (B = true) := by unfold Hid; rw [← HB.out, nmB_yes h1 h2 (fun j hj => HL.out j hj (by omega))]
          go_wp2
          go_ret
          rw [HT.out]
          exact ⟨rfl, rfl⟩
    · have HF : Hid (B = false) := by unfold Hid; rw [← HB.out, nmB_long h2]
      have h2' : (12 : Int) < (s.size : Int) := by omega
      go_enter Tryz.func73, Tryz.ntmps73
      go_wp2
      go_ret
      rw [HF.out]
      exact ⟨rfl, rfl⟩
  · have HF : Hid (B = false) := by unfold Hid; rw [← HB.out, nmB_short h1]
    have h1' : (s.size : Int) < 1 := by omega
    go_enter Tryz.func73, Tryz.ntmps73
    go_wp2
    go_ret
    rw [HF.out]
    exact ⟨rfl, rfl⟩

set_option maxHeartbeats 1000000 in
theorem l1Name_any (s : ByteArray) (w : World) (hs : s.size ≤ 1048576) : Calls Tryz.prog 42 #[.string s] w fun e w' => e = .returned (.bool (nmB s)) ∧ w' = w := by
  generalize hB : nmB s = B
  have HB : Hid (nmB s = B) := hB
  clear hB
  by_cases h12 : (1 : Int) ≤ (s.size : Int) ∧ (s.size : Int) ≤ 12
  · have h1 : 1 ≤ s.size := by omega
    have h2 : s.size ≤ 12 := by omega
    go_enter Tryz.func42, Tryz.ntmps42
    go_wp2_with fail
    refine (l1In_yes _ _ _ _ h12.1 h12.2).mono ?_
    rintro e w' ⟨rfl, rfl⟩
    go_wp2
    go_loopw [3] (fun i wr => ∃ k : Nat, k ≤ s.size ∧ i = .int .i64 k ∧ Hid (∀ j (hj : j < s.size), j < k → IsLet (s[j].toNat : Int)) ∧ wr = w') (fun i _ => s.size - (intOf i).toNat)
    case atStart => exact ⟨0, by omega, rfl, fun j _ h => by omega, rfl⟩
    case round =>
      obtain ⟨k, hk, rfl, HL, rfl⟩ := hrel
      by_cases hlt : k < s.size
      · by_cases hL : IsLet (s[k].toNat : Int)
        · have HL' : Hid (∀ j (hj : j < s.size), j < k + 1 → IsLet (s[j].toNat : Int)) := fun j hj h => by
            rcases Nat.lt_succ_iff_lt_or_eq.1 h with h | h
            · exact HL.out j hj h
            · subst h; exact hL
          have h0 : (97 ≤ (s[k].toNat : Int) ∧ (s[k].toNat : Int) ≤ 122) ∨ (decide (97 ≤ (s[k].toNat : Int)) = false ∧ 65 ≤ (s[k].toNat : Int) ∧ (s[k].toNat : Int) ≤ 90) := by
            unfold IsLet at hL; simp; omega
          clear hL
          rcases h0 with ⟨h3, h4⟩ | ⟨h3, h4, h5⟩
          all_goals
            go_wp2
            go_roundw
            case rel => exact ⟨k + 1, by omega, by go_num, HL', trivial⟩
            case measure => simp [intOf]; omega
        · have HF : Hid (B = false) := by unfold Hid; rw [← HB.out, nmB_no k hlt hL]
          unfold IsLet at hL
          have h0 : (97 ≤ (s[k].toNat : Int) ∧ decide ((s[k].toNat : Int) ≤ 122) = false ∧ 65 ≤ (s[k].toNat : Int) ∧ decide ((s[k].toNat : Int) ≤ 90) = false) ∨ (decide (97 ≤ (s[k].toNat : Int)) = false ∧ 65 ≤ (s[k].toNat : Int) ∧ decide ((s[k].toNat : Int) ≤ 90) = false) ∨ (decide (97 ≤ (s[k].toNat : Int)) = false ∧ decide (65 ≤ (s[k].toNat : Int)) = false) := by
            simp; omega
          clear hL
          rcases h0 with ⟨h3, h4, h5, h6⟩ | ⟨h3, h4, h5⟩ | ⟨h3, h4⟩
          all_goals
            go_wp2
            go_ret
            rw [HF.out]
            exact ⟨rfl, rfl⟩
      · have HT : Hid (B = true) := by unfold Hid; rw [← HB.out, nmB_yes h1 h2 (fun j hj => HL.out j hj (by omega))]
        go_wp2
        go_ret
        rw [HT.out]
        exact ⟨rfl, rfl⟩
  · have HF : Hid (B = false) := by
      unfold Hid; rw [← HB.out]
      by_cases h1 : 1 ≤ s.size
      · exact nmB_long (by omega)
      · exact nmB_short h1
    go_enter Tryz.func42, Tryz.ntmps42
    go_wp2_with fail
    refine (l1In_no _ _ _ _ h12).mono ?_
    rintro e w' ⟨rfl, rfl⟩
    go_wp2
    go_ret
    rw [HF.out]
    exact ⟨rfl, rfl⟩
end Go.Proofs.YtaiigpffhcofpaaGreat
namespace Go.Proofs.YtaiigpffhcofpaaGreat
set_option maxRecDepth 100000
open Go.RowKit
set_option linter.unusedSimpArgs false
set_option linter.unusedVariables false

/-- n tags, their names and values, lie at ao. -/
structure TRow (w : World) (ao : Option Addr) (n : Nat) (nm vl : Nat → ByteArray) : Prop where
  lies : n = 0 ∨ ∃ b off, ao = some ⟨b, off, none⟩ ∧ b < w.heap.size ∧ ∀ i, i < n → w.cell? ⟨b, off + i * 2, none⟩ = some (.string (nm i)) ∧ w.cell? ⟨b, off + i * 2 + 1, none⟩ = some (.string (vl i))

theorem TRow.keep {w w' : World} {ao : Option Addr} {n : Nat} {nm vl : Nat → ByteArray} (h : TRow w ao n nm vl) (hb : Below w.heap.size w w') : TRow w' ao n nm vl :=
  ⟨h.lies.elim .inl fun ⟨b, off, e, hlt, hc⟩ => .inr ⟨b, off, e, Nat.lt_of_lt_of_le hlt hb.size, fun i hi => ⟨(hb.cell (p := ⟨b, off + i * 2, none⟩) hlt).trans (hc i hi).1, (hb.cell (p := ⟨b, off + i * 2 + 1, none⟩) hlt).trans (hc i hi).2⟩⟩⟩

theorem eqTag_same (a b : ByteArray) (w : World) :
    Calls Tryz.prog 60 #[.agg #[.string a, .string b], .agg #[.string a, .string b]] w fun e w' => e = .returned (.bool true) ∧ Below w.heap.size w w' := by
  go_enter Tryz.func60, Tryz.ntmps60
  go_wp2
  go_ret
  exact ⟨rfl, ((Below.refl _ _).alloc (Nat.le_refl _) _).alloc (by simp) _⟩

set_option maxHeartbeats 400000 in
theorem eqTagS_same (ao bo : Option Addr) (n ca cb : Nat) (nm vl : Nat → ByteArray) (w : World) (hr : TRow w ao n nm vl) (hs : TRow w bo n nm vl) (hn : n ≤ 1048576) :
    Calls Tryz.prog 32 #[.slice ao n ca, .slice bo n cb] w fun e w' => e = .returned (.bool true) ∧ Below w.heap.size w w' := by
  obtain ⟨hl⟩ := hr
  obtain ⟨hm⟩ := hs
  go_enter Tryz.func32, Tryz.ntmps32
  go_wp2
  go_loopw [5] (fun i wr => ∃ k : Nat, k ≤ n ∧ i = .int .i64 k ∧ Below w.heap.size w wr) (fun i _ => n - (intOf i).toNat)
  case atStart => exact ⟨0, Nat.zero_le _, rfl, Below.refl _ _⟩
  case round =>
    obtain ⟨k, hk, rfl, hbk⟩ := hrel
    by_cases hlt : k < n
    · obtain ⟨b, off, rfl, hblt, hc⟩ := hl.resolve_left (by omega)
      obtain ⟨b', off', rfl, hblt', hc'⟩ := hm.resolve_left (by omega)
      have h1 : wr.cell? ⟨b, off + k * 2, none⟩ = some (.string (nm k)) := (hbk.cell (p := ⟨b, off + k * 2, none⟩) hblt).trans (hc k hlt).1
      have h1' : wr.cell? ⟨b, off + k * 2 + 1, none⟩ = some (.string (vl k)) := (hbk.cell (p := ⟨b, off + k * 2 + 1, none⟩) hblt).trans (hc k hlt).2
      have h2 : wr.cell? ⟨b', off' + k * 2, none⟩ = some (.string (nm k)) := (hbk.cell (p := ⟨b', off' + k * 2, none⟩) hblt').trans (hc' k hlt).1
      have h2' : wr.cell? ⟨b', off' + k * 2 + 1, none⟩ = some (.string (vl k)) := (hbk.cell (p := ⟨b', off' + k * 2 + 1, none⟩) hblt').trans (hc' k hlt).2
      clear hc hc' hl hm
      go_wp2
      go_region_with (go_at_call 60; refine (eqTag_same _ _ _).mono ?_; rintro e w' ⟨rfl, hb⟩)
      all_goals
        have hb := hb.mono hbk.size
        have hbw : Below w.heap.size w _ := hbk.drew.trans hb
        clear hb
        go_wp2
        go_roundw
        case rel => exact ⟨k + 1, by omega, by go_num, hbw⟩
        case measure => simp [intOf]; omega
    · go_wp2
      go_ret
      exact ⟨rfl, hbk⟩
end Go.Proofs.YtaiigpffhcofpaaGreat
