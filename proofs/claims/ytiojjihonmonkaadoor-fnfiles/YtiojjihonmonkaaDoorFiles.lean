/- What the laws' own helpers do: a copy of bytes, a comparison, marks laid and looked for. / Names of files. / Files in memory: measured, copied, compared. -/
import Derived.Test.YtiojjihonmonkaaDoorProg
import Derived.WalkKit
import Derived.WalkSpells
import Derived.WalkLawsBesides
import Derived.Deep.QuietTactic
import Derived.BigQuiet
import Derived.Deep.RegionWith
import Derived.Deep.RegionHeld3
namespace Go.Proofs.YtiojjihonmonkaaDoor
open Go.RowKit

theorem orR {a b c : Prop} (h : a ∨ b) (g : b → c) : a ∨ c := by
  rcases h with h | h
  · exact .inl h
  · exact .inr (g h)

/-- n bytes f 0, f 1, .. lie at ao. -/
structure Row (w : World) (ao : Option Addr) (n : Nat) (f : Nat → Int) : Prop where
  bd : ∀ i, 0 ≤ f i ∧ f i ≤ 255
  lies : n = 0 ∨ ∃ b off, ao = some ⟨b, off, none⟩ ∧ b < w.heap.size ∧ ∀ i, i < n → w.cell? ⟨b, off + i, none⟩ = some (.int .u8 (f i))

theorem Row.keep {w w' : World} {ao : Option Addr} {n : Nat} {f : Nat → Int} (h : Row w ao n f) (hb : Below w.heap.size w w') : Row w' ao n f :=
  ⟨h.bd, h.lies.elim .inl fun ⟨b, off, e, hlt, hc⟩ => .inr ⟨b, off, e, Nat.lt_of_lt_of_le hlt hb.size, fun i hi => (hb.cell (p := ⟨b, off + i, none⟩) hlt).trans (hc i hi)⟩⟩

/-- n bytes that may be written lie in block b from off on. -/
structure Own (w : World) (b off n : Nat) (f : Nat → Int) : Prop where
  bd : ∀ i, 0 ≤ f i ∧ f i ≤ 255
  lt : b < w.heap.size
  cell : ∀ i, i < n → w.cell? ⟨b, off + i, none⟩ = some (.int .u8 (f i))
  free : ∀ i, i < n → w.frozen? ⟨b, off + i, none⟩ = false

theorem Own.row {w : World} {b off n : Nat} {f : Nat → Int} (h : Own w b off n f) : Row w (some ⟨b, off, none⟩) n f :=
  ⟨h.bd, .inr ⟨b, off, rfl, h.lt, h.cell⟩⟩

theorem Own.keep {w w' : World} {b off n : Nat} {f : Nat → Int} (h : Own w b off n f) (hb : Below w.heap.size w w') : Own w' b off n f :=
  ⟨h.bd, Nat.lt_of_lt_of_le h.lt hb.size, fun i hi => (hb.cell (p := ⟨b, off + i, none⟩) h.lt).trans (h.cell i hi), fun i hi => (hb.frozen (p := ⟨b, off + i, none⟩) h.lt).trans (h.free i hi)⟩

theorem Own.store {w : World} {b off n : Nat} {f : Nat → Int} (h : Own w b off n f) (k : Nat) (hk : k < n) (x : Int) (hx : 0 ≤ x ∧ x ≤ 255) :
    Own (w.setCell ⟨b, off + k, none⟩ (.int .u8 x)) b off n (fun i => if i = k then x else f i) := by
  refine ⟨fun i => ?_, by simpa using h.lt, fun i hi => ?_, fun i hi => by simpa using h.free i hi⟩
  · by_cases e : i = k <;> simp [e, hx, h.bd i]
  · by_cases e : i = k
    · subst e; simp [World.cell?_setCell_same _ _ _ (h.cell i hi)]
    · rw [World.cell?_setCell_other _ _ _ _ (by intro hh; injection hh with _ h2 _; omega), h.cell i hi]; simp [e]

theorem Own.congr {w : World} {b off n : Nat} {f g : Nat → Int} (h : Own w b off n f) (hb : ∀ i, 0 ≤ g i ∧ g i ≤ 255) (e : ∀ i, i < n → f i = g i) : Own w b off n g :=
  ⟨hb, h.lt, fun i hi => by rw [h.cell i hi, e i hi], h.free⟩

/-- All blocks but b are as they were. -/
structure Others (b : Nat) (w w' : World) : Prop where
  os : w'.os = w.os
  tape : w'.tape = w.tape
  output : w'.output = w.output
  size : w'.heap.size = w.heap.size
  block : ∀ k, k ≠ b → w'.heap[k]? = w.heap[k]?

theorem Others.refl (b : Nat) (w : World) : Others b w w := ⟨rfl, rfl, rfl, rfl, fun _ _ => rfl⟩
theorem Others.trans {b : Nat} {u v w : World} (h : Others b u v) (k : Others b v w) : Others b u w :=
  ⟨k.os.trans h.os, k.tape.trans h.tape, k.output.trans h.output, k.size.trans h.size, fun i hi => (k.block i hi).trans (h.block i hi)⟩
theorem Others.setCell (w : World) (b off : Nat) (x : Value) : Others b w (w.setCell ⟨b, off, none⟩ x) :=
  ⟨rfl, rfl, rfl, by simp, fun k hk => Below.heap_setCell _ _ _ _ hk⟩
theorem Others.below {b B : Nat} {w w' : World} (h : Others b w w') (hB : B ≤ b) : Below B w w' :=
  ⟨h.os, h.tape, h.output, by rw [h.size]; exact Nat.le_refl _, fun k hk => h.block k (by omega)⟩
theorem Others.row {b : Nat} {w w' : World} (h : Others b w w') {c off n : Nat} {f : Nat → Int} (hr : Own w c off n f) (hne : c ≠ b) : Own w' c off n f :=
  ⟨hr.bd, by rw [h.size]; exact hr.lt, fun i hi => (World.cell?_of_block (w := w) (a := ⟨c, off + i, none⟩) (h.block c hne)).trans (hr.cell i hi),
    fun i hi => (World.frozen?_of_block (w := w) (a := ⟨c, off + i, none⟩) (h.block c hne)).trans (hr.free i hi)⟩

theorem below_drewN {B : Nat} {a w : World} (h : Below B a w) (n : Nat) : Below B a (w.drewN n) := ⟨h.os, h.tape, h.output, h.size, h.block⟩

theorem Tryd.info5 : (Tryd.prog.info? 5).map (fun i => (i.zero, i.size, i.bytes)) = some (some (.int .u8 0), 1, 1) := by kernel_rfl

theorem own_of_made {w : World} {base g n : Nat} (h : w.ownsRow base 5 1 (.slice (some ⟨g, 0, none⟩) n n) n (madeCells (Value.int .u8 0).cells (n * 1)).toList) (hlt : g < w.heap.size) : Own w g 0 n (fun _ => 0) := by
  refine ⟨fun _ => by omega, hlt, fun i hi => ?_, fun i _ => by simpa using h.frozenAt i⟩
  have := h.cellAt i (by omega)
  rw [Nat.zero_add, this]
  simp only [Value.cells, toList_madeCells_one]
  rw [List.getElem?_replicate]
  simp [hi]

end Go.Proofs.YtiojjihonmonkaaDoor
namespace Go.Proofs.YtiojjihonmonkaaDoor
open Go.RowKit
set_option linter.unusedSimpArgs false
set_option linter.unusedVariables false

theorem l1In_yes (n lo hi : Int) (w : World) (h1 : lo ≤ n) (h2 : n ≤ hi) :
    Calls Tryd.prog 35 #[.int .i64 n, .int .i64 lo, .int .i64 hi] w fun e w' => e = .returned (.bool true) ∧ w' = w := by
  go_enter Tryd.func35, Tryd.ntmps35
  go_wp2
  go_ret
  exact ⟨rfl, rfl⟩
theorem l1In_no (n lo hi : Int) (w : World) (h : ¬ (lo ≤ n ∧ n ≤ hi)) :
    Calls Tryd.prog 35 #[.int .i64 n, .int .i64 lo, .int .i64 hi] w fun e w' => e = .returned (.bool false) ∧ w' = w := by
  by_cases h1 : lo ≤ n
  · have h2 : ¬ n ≤ hi := fun h2 => h ⟨h1, h2⟩
    clear h
    go_enter Tryd.func35, Tryd.ntmps35
    go_wp2
    go_ret
    exact ⟨rfl, rfl⟩
  · have h2 : decide (lo ≤ n) = false := by simpa using h1
    clear h
    go_enter Tryd.func35, Tryd.ntmps35
    go_wp2
    go_ret
    exact ⟨rfl, rfl⟩

def IsFB (c : Int) : Prop := (97 ≤ c ∧ c ≤ 122) ∨ (48 ≤ c ∧ c ≤ 57) ∨ c = 45

theorem isFileByte_yes (c : Int) (w : World) (h : IsFB c) : Calls Tryd.prog 39 #[.int .u8 c] w fun e w' => e = .returned (.bool true) ∧ w' = w := by
  rcases h with ⟨h1, h2⟩ | ⟨h1, h2⟩ | rfl
  · go_enter Tryd.func39, Tryd.ntmps39
    go_wp2
    go_ret
    exact ⟨rfl, rfl⟩
  · have hd : decide (97 ≤ c) = false := by simp; omega
    go_enter Tryd.func39, Tryd.ntmps39
    go_wp2
    go_ret
    exact ⟨rfl, rfl⟩
  · go_enter Tryd.func39, Tryd.ntmps39
    go_wp2
    go_ret
    exact ⟨rfl, rfl⟩
/-- The ways in which a byte is none of a name. -/
theorem noFB {c : Int} (h : ¬ IsFB c) : (97 ≤ c ∧ decide (c ≤ 122) = false ∧ 48 ≤ c ∧ decide (c ≤ 57) = false ∧ (c == 45) = false) ∨ (decide (97 ≤ c) = false ∧ 48 ≤ c ∧ decide (c ≤ 57) = false ∧ (c == 45) = false) ∨ (decide (97 ≤ c) = false ∧ decide (48 ≤ c) = false ∧ (c == 45) = false) := by
  unfold IsFB at h
  simp
  omega
theorem isFileByte_no (c : Int) (w : World) (h : ¬ IsFB c) : Calls Tryd.prog 39 #[.int .u8 c] w fun e w' => e = .returned (.bool false) ∧ w' = w := by
  have h0 := noFB h
  clear h
  rcases h0 with ⟨h1, h2, h3, h4, h5⟩ | ⟨h1, h2, h3, h4⟩ | ⟨h1, h2, h3⟩
  all_goals
    go_enter Tryd.func39, Tryd.ntmps39
    go_wp2
    go_ret
    exact ⟨rfl, rfl⟩

/-- Whether a text is a file's name. -/
def fnB (s : ByteArray) : Bool := decide (1 ≤ s.size) && decide (s.size ≤ 20) && s.data.toList.all fun c => decide ((97 ≤ (c.toNat : Int) ∧ (c.toNat : Int) ≤ 122) ∨ (48 ≤ (c.toNat : Int) ∧ (c.toNat : Int) ≤ 57) ∨ (c.toNat : Int) = 45)
theorem fnB_yes {s : ByteArray} (h1 : 1 ≤ s.size) (h2 : s.size ≤ 20) (h : ∀ j (hj : j < s.size), IsFB (s[j].toNat : Int)) : fnB s = true := by
  simp only [fnB, h1, h2, decide_true, Bool.and_self, Bool.true_and, List.all_eq_true]
  intro c hc
  obtain ⟨j, hj, rfl⟩ := List.getElem_of_mem hc
  have := h j (by simpa using hj)
  unfold IsFB at this
  simp only [decide_eq_true_eq, Array.getElem_toList]
  exact this
theorem fnB_short {s : ByteArray} (h : ¬ 1 ≤ s.size) : fnB s = false := by simp [fnB, h]
theorem fnB_long {s : ByteArray} (h : ¬ s.size ≤ 20) : fnB s = false := by simp [fnB, h]
theorem fnB_no {s : ByteArray} (j : Nat) (hj : j < s.size) (h : ¬ IsFB (s[j].toNat : Int)) : fnB s = false := by
  have hm : s[j] ∈ s.data.toList := by
    rw [show s[j] = s.data.toList[j]'(by simpa using hj) from by simp; rfl]
    exact List.getElem_mem _
  cases hb : fnB s with
  | false => rfl
  | true =>
    simp only [fnB, Bool.and_eq_true, List.all_eq_true] at hb
    have := of_decide_eq_true (hb.2 _ hm)
    exact absurd this h
theorem fnB_size {s : ByteArray} (h : fnB s = true) : 1 ≤ s.size ∧ s.size ≤ 20 := by
  simp only [fnB, Bool.and_eq_true, decide_eq_true_eq] at h
  exact ⟨h.1.1, h.1.2⟩

set_option maxHeartbeats 400000 in
theorem isFileName_is (s : ByteArray) (B : Bool) (HB : Hid (fnB s = B)) (w : World) (hs : s.size ≤ 1048576) : Calls Tryd.prog 19 #[.string s] w fun e w' => e = .returned (.bool B) ∧ w' = w := by
  by_cases h1 : 1 ≤ s.size
  · have hd1 : decide ((s.size : Int) < 1) = false := by simp; omega
    by_cases h2 : s.size ≤ 20
    · have hd2 : decide ((20 : Int) < (s.size : Int)) = false := by simp; omega
      go_enter Tryd.func19, Tryd.ntmps19
      go_wp2
      go_loopw [14] (fun i wr => ∃ k : Nat, k ≤ s.size ∧ i = .int .i64 k ∧ Hid (∀ j (hj : j < s.size), j < k → IsFB (s[j].toNat : Int)) ∧ wr = w) (fun i _ => s.size - (intOf i).toNat)
      case atStart => exact ⟨0, by omega, rfl, fun j _ h => by omega, rfl⟩
      case round =>
        obtain ⟨k, hk, rfl, HL, rfl⟩ := hrel
        by_cases hlt : k < s.size
        · by_cases hL : IsFB (s[k].toNat : Int)
          · have HL' : Hid (∀ j (hj : j < s.size), j < k + 1 → IsFB (s[j].toNat : Int)) := fun j hj h => by
              rcases Nat.lt_succ_iff_lt_or_eq.1 h with h | h
              · exact HL.out j hj h
              · subst h; exact hL
            go_wp2_with fail
            refine (isFileByte_yes _ _ hL).mono ?_
            rintro e w' ⟨rfl, rfl⟩
            go_wp2
            go_roundw
            case rel => exact ⟨k + 1, by omega, by go_num, HL', trivial⟩
            case measure => simp [intOf]; omega
          · have HF : Hid (B = false) := by unfold Hid; rw [← HB.out, fnB_no k hlt hL]
            go_wp2_with fail
            refine (isFileByte_no _ _ hL).mono ?_
            rintro e w' ⟨rfl, rfl⟩
            go_wp2
            go_ret
            rw [HF.out]
            exact ⟨rfl, rfl⟩
        · have HT : Hid (B = true) := by unfold Hid; rw [← HB.out, fnB_yes h1 h2 (fun j hj => HL.out j hj (by omega))]
          go_wp2
          go_ret
          rw [HT.out]
          exact ⟨rfl, rfl⟩
    · have HF : Hid (B = false) := by unfold Hid; rw [← HB.out, fnB_long h2]
      have h2' : (20 : Int) < (s.size : Int) := by omega
      go_enter Tryd.func19, Tryd.ntmps19
      go_wp2
      go_ret
      rw [HF.out]
      exact ⟨rfl, rfl⟩
  · have HF : Hid (B = false) := by unfold Hid; rw [← HB.out, fnB_short h1]
    have h1' : (s.size : Int) < 1 := by omega
    go_enter Tryd.func19, Tryd.ntmps19
    go_wp2
    go_ret
    rw [HF.out]
    exact ⟨rfl, rfl⟩

set_option maxHeartbeats 1000000 in
theorem l2Name_is (s : ByteArray) (B : Bool) (HB : Hid (fnB s = B)) (w : World) (hs : s.size ≤ 1048576) : Calls Tryd.prog 36 #[.string s] w fun e w' => e = .returned (.bool B) ∧ w' = w := by
  by_cases h12 : (1 : Int) ≤ (s.size : Int) ∧ (s.size : Int) ≤ 20
  · have h1 : 1 ≤ s.size := by omega
    have h2 : s.size ≤ 20 := by omega
    go_enter Tryd.func36, Tryd.ntmps36
    go_wp2_with fail
    refine (l1In_yes _ _ _ _ h12.1 h12.2).mono ?_
    rintro e w' ⟨rfl, rfl⟩
    go_wp2
    go_loopw [3] (fun i wr => ∃ k : Nat, k ≤ s.size ∧ i = .int .i64 k ∧ Hid (∀ j (hj : j < s.size), j < k → IsFB (s[j].toNat : Int)) ∧ wr = w') (fun i _ => s.size - (intOf i).toNat)
    case atStart => exact ⟨0, by omega, rfl, fun j _ h => by omega, rfl⟩
    case round =>
      obtain ⟨k, hk, rfl, HL, rfl⟩ := hrel
      by_cases hlt : k < s.size
      · by_cases hL : IsFB (s[k].toNat : Int)
        · have HL' : Hid (∀ j (hj : j < s.size), j < k + 1 → IsFB (s[j].toNat : Int)) := fun j hj h => by
            rcases Nat.lt_succ_iff_lt_or_eq.1 h with h | h
            · exact HL.out j hj h
            · subst h; exact hL
          have h0 : (97 ≤ (s[k].toNat : Int) ∧ (s[k].toNat : Int) ≤ 122) ∨ (decide (97 ≤ (s[k].toNat : Int)) = false ∧ 48 ≤ (s[k].toNat : Int) ∧ (s[k].toNat : Int) ≤ 57) ∨ (decide (97 ≤ (s[k].toNat : Int)) = false ∧ decide (48 ≤ (s[k].toNat : Int)) = false ∧ ((s[k].toNat : Int) == 45) = true) := by
            unfold IsFB at hL; simp; omega
          clear hL
          rcases h0 with ⟨h3, h4⟩ | ⟨h3, h4, h5⟩ | ⟨h3, h4, h5⟩
          all_goals
            go_wp2
            go_roundw
            case rel => exact ⟨k + 1, by omega, by go_num, HL', trivial⟩
            case measure => simp [intOf]; omega
        · have HF : Hid (B = false) := by unfold Hid; rw [← HB.out, fnB_no k hlt hL]
          have h0 := noFB hL
          clear hL
          rcases h0 with ⟨h3, h4, h5, h6, h7⟩ | ⟨h3, h4, h5, h6⟩ | ⟨h3, h4, h5⟩
          all_goals
            go_wp2
            go_ret
            rw [HF.out]
            exact ⟨rfl, rfl⟩
      · have HT : Hid (B = true) := by unfold Hid; rw [← HB.out, fnB_yes h1 h2 (fun j hj => HL.out j hj (by omega))]
        go_wp2
        go_ret
        rw [HT.out]
        exact ⟨rfl, rfl⟩
  · have HF : Hid (B = false) := by
      unfold Hid; rw [← HB.out]
      by_cases h1 : 1 ≤ s.size
      · exact fnB_long (by omega)
      · exact fnB_short h1
    go_enter Tryd.func36, Tryd.ntmps36
    go_wp2_with fail
    refine (l1In_no _ _ _ _ h12).mono ?_
    rintro e w' ⟨rfl, rfl⟩
    go_wp2
    go_ret
    rw [HF.out]
    exact ⟨rfl, rfl⟩
end Go.Proofs.YtiojjihonmonkaaDoor
namespace Go.Proofs.YtiojjihonmonkaaDoor
open Go.RowKit
set_option linter.unusedSimpArgs false
set_option linter.unusedVariables false

/-- What a file holds: its name, its bytes, how many of them are synced. -/
structure Fil where
  nm : ByteArray
  len : Nat
  f : Nat → Int
  sy : Int
/-- A file lies in the three cells from off on. -/
structure FAt (w : World) (b off : Nat) (x : Fil) (da : Option Addr) (dc : Nat) : Prop where
  c0 : w.cell? ⟨b, off, none⟩ = some (.string x.nm)
  c1 : w.cell? ⟨b, off + 1, none⟩ = some (.slice da x.len dc)
  c2 : w.cell? ⟨b, off + 2, none⟩ = some (.int .i64 x.sy)
  row : Row w da x.len x.f
theorem FAt.keep {w w' : World} {B b off : Nat} {x : Fil} {da : Option Addr} {dc : Nat} (h : FAt w b off x da dc) (hlt : b < w.heap.size) (hb : Below w.heap.size w w') : FAt w' b off x da dc :=
  ⟨(hb.cell (p := ⟨b, off, none⟩) hlt).trans h.c0, (hb.cell (p := ⟨b, off + 1, none⟩) hlt).trans h.c1, (hb.cell (p := ⟨b, off + 2, none⟩) hlt).trans h.c2, h.row.keep hb⟩
/-- n files lie at ao. -/
structure FRow (w : World) (ao : Option Addr) (n : Nat) (F : Nat → Fil) : Prop where
  lies : n = 0 ∨ ∃ b off, ao = some ⟨b, off, none⟩ ∧ b < w.heap.size ∧ ∀ i, i < n → ∃ da dc, FAt w b (off + i * 3) (F i) da dc
theorem FRow.keep {w w' : World} {ao : Option Addr} {n : Nat} {F : Nat → Fil} (h : FRow w ao n F) (hb : Below w.heap.size w w') : FRow w' ao n F :=
  ⟨h.lies.elim .inl fun ⟨b, off, e, hlt, hc⟩ => .inr ⟨b, off, e, Nat.lt_of_lt_of_le hlt hb.size, fun i hi => by obtain ⟨da, dc, h⟩ := hc i hi; exact ⟨da, dc, h.keep (B := 0) hlt hb⟩⟩⟩

/-- What a measure leaves. -/
def SzOut (left : Int) (P : Prop) (w : World) (e : Ending) (w' : World) : Prop :=
  ∃ v : Int, e = .returned (.int .i64 v) ∧ -1 ≤ v ∧ v ≤ left ∧ (0 ≤ v → P) ∧ Below w.heap.size w w'

def FSize (n : Nat) (F : Nat → Fil) (B : Nat) : Prop := ∀ i, i < n → (F i).nm.size ≤ B ∧ (F i).len ≤ B

end Go.Proofs.YtiojjihonmonkaaDoor
