/- What the laws' own helpers do: a copy of bytes, a comparison, marks laid and looked for. -/
import Derived.Test.YtohjjigkfdhklaaGreatProg
import Derived.WalkKit
import Derived.WalkSpells
import Derived.WalkLawsBesides
import Derived.Deep.QuietTactic
import Derived.BigQuiet
namespace Go.Proofs.YtohjjigkfdhklaaGreat
set_option maxRecDepth 100000
open Go.RowKit

/-- A fact that no tactic looks into. -/
def Hid (p : Prop) : Prop := p
theorem Hid.out {p : Prop} (h : Hid p) : p := h
theorem below_new (w : World) (o : Obj) : Below w.heap.size w (w.alloc o) := (Below.refl _ _).alloc (Nat.le_refl _) _
/-- What a question leaves: an answer that says whether p. -/
def Ans (p : Prop) (w : World) (e : Ending) (w' : World) : Prop := ∃ b : Bool, e = .returned (.bool b) ∧ (b = true ↔ p) ∧ Below w.heap.size w w'
theorem Ans.mk {p : Prop} {w w' : World} (b : Bool) (h : b = true ↔ p) (hb : Below w.heap.size w w') : Ans p w (.returned (.bool b)) w' := ⟨b, rfl, h, hb⟩
theorem same_ans {p : Prop} {a b : Bool} (h : a = true ↔ p) (k : b = true ↔ p) : a = b := by
  cases a <;> cases b <;> simp_all

/-- n bytes f 0, f 1, .. lie at ao. -/
structure Row (w : World) (ao : Option Addr) (n : Nat) (f : Nat → Int) : Prop where
  bd : ∀ i, 0 ≤ f i ∧ f i ≤ 255
  lies : n = 0 ∨ ∃ b off, ao = some ⟨b, off, none⟩ ∧ b < w.heap.size ∧ ∀ i, i < n → w.cell? ⟨b, off + i, none⟩ = some (.int .u8 (f i))

theorem Row.keep {w w' : World} {ao : Option Addr} {n : Nat} {f : Nat → Int} (h : Row w ao n f) (hb : Below w.heap.size w w') : Row w' ao n f :=
  ⟨h.bd, h.lies.elim .inl fun ⟨b, off, e, hlt, hc⟩ => .inr ⟨b, off, e, Nat.lt_of_lt_of_le hlt hb.size, fun i hi => (hb.cell (p := ⟨b, off + i, none⟩) hlt).trans (hc i hi)⟩⟩

/-- n bytes that may be written lie in block b from off on. -/
structure Own (w : World) (b off n : Nat) (f : Nat → Int) : Prop where
  bd : ∀ i, 0 ≤ f i ∧ f i ≤ 255
  lt : b < w.heap.size
  cell : ∀ i, i < n → w.cell? ⟨b, off + i, none⟩ = some (.int .u8 (f i))
  free : ∀ i, i < n → w.frozen? ⟨b, off + i, none⟩ = false

theorem Own.row {w : World} {b off n : Nat} {f : Nat → Int} (h : Own w b off n f) : Row w (some ⟨b, off, none⟩) n f :=
  ⟨h.bd, .inr ⟨b, off, rfl, h.lt, h.cell⟩⟩

theorem Own.keep {w w' : World} {b off n : Nat} {f : Nat → Int} (h : Own w b off n f) (hb : Below w.heap.size w w') : Own w' b off n f :=
  ⟨h.bd, Nat.lt_of_lt_of_le h.lt hb.size, fun i hi => (hb.cell (p := ⟨b, off + i, none⟩) h.lt).trans (h.cell i hi), fun i hi => (hb.frozen (p := ⟨b, off + i, none⟩) h.lt).trans (h.free i hi)⟩

theorem Own.store {w : World} {b off n : Nat} {f : Nat → Int} (h : Own w b off n f) (k : Nat) (hk : k < n) (x : Int) (hx : 0 ≤ x ∧ x ≤ 255) :
    Own (w.setCell ⟨b, off + k, none⟩ (.int .u8 x)) b off n (fun i => if i = k then x else f i) := by
  refine ⟨fun i => ?_, by simpa using h.lt, fun i hi => ?_, fun i hi => by simpa using h.free i hi⟩
  · by_cases e : i = k <;> simp [e, hx, h.bd i]
  · by_cases e : i = k
    · subst e; simp [World.cell?_setCell_same _ _ _ (h.cell i hi)]
    · rw [World.cell?_setCell_other _ _ _ _ (by intro hh; injection hh with _ h2 _; omega), h.cell i hi]; simp [e]

theorem Own.congr {w : World} {b off n : Nat} {f g : Nat → Int} (h : Own w b off n f) (hb : ∀ i, 0 ≤ g i ∧ g i ≤ 255) (e : ∀ i, i < n → f i = g i) : Own w b off n g :=
  ⟨hb, h.lt, fun i hi => by rw [h.cell i hi, e i hi], h.free⟩

/-- All blocks but b are as they were. -/
structure Others (b : Nat) (w w' : World) : Prop where
  os : w'.os = w.os
  tape : w'.tape = w.tape
  output : w'.output = w.output
  size : w'.heap.size = w.heap.size
  block : ∀ k, k ≠ b → w'.heap[k]? = w.heap[k]?

theorem Others.refl (b : Nat) (w : World) : Others b w w := ⟨rfl, rfl, rfl, rfl, fun _ _ => rfl⟩
theorem Others.trans {b : Nat} {u v w : World} (h : Others b u v) (k : Others b v w) : Others b u w :=
  ⟨k.os.trans h.os, k.tape.trans h.tape, k.output.trans h.output, k.size.trans h.size, fun i hi => (k.block i hi).trans (h.block i hi)⟩
theorem Others.setCell (w : World) (b off : Nat) (x : Value) : Others b w (w.setCell ⟨b, off, none⟩ x) :=
  ⟨rfl, rfl, rfl, by simp, fun k hk => Below.heap_setCell _ _ _ _ hk⟩
theorem Others.below {b B : Nat} {w w' : World} (h : Others b w w') (hB : B ≤ b) : Below B w w' :=
  ⟨h.os, h.tape, h.output, by rw [h.size]; exact Nat.le_refl _, fun k hk => h.block k (by omega)⟩
theorem Others.row {b : Nat} {w w' : World} (h : Others b w w') {c off n : Nat} {f : Nat → Int} (hr : Own w c off n f) (hne : c ≠ b) : Own w' c off n f :=
  ⟨hr.bd, by rw [h.size]; exact hr.lt, fun i hi => (World.cell?_of_block (w := w) (a := ⟨c, off + i, none⟩) (h.block c hne)).trans (hr.cell i hi),
    fun i hi => (World.frozen?_of_block (w := w) (a := ⟨c, off + i, none⟩) (h.block c hne)).trans (hr.free i hi)⟩

theorem below_drewN {B : Nat} {a w : World} (h : Below B a w) (n : Nat) : Below B a (w.drewN n) := ⟨h.os, h.tape, h.output, h.size, h.block⟩

theorem Tryz.info5 : (Tryz.prog.info? 5).map (fun i => (i.zero, i.size, i.bytes)) = some (some (.int .u8 0), 1, 1) := by kernel_rfl

theorem own_of_made {w : World} {base g n : Nat} (h : w.ownsRow base 5 1 (.slice (some ⟨g, 0, none⟩) n n) n (madeCells (Value.int .u8 0).cells (n * 1)).toList) (hlt : g < w.heap.size) : Own w g 0 n (fun _ => 0) := by
  refine ⟨fun _ => by omega, hlt, fun i hi => ?_, fun i _ => by simpa using h.frozenAt i⟩
  have := h.cellAt i (by omega)
  rw [Nat.zero_add, this]
  simp only [Value.cells, toList_madeCells_one]
  rw [List.getElem?_replicate]
  simp [hi]

set_option maxHeartbeats 400000 in
theorem toByteS_any (ao : Option Addr) (n cap : Nat) (f : Nat → Int) (w : World) (hr : Row w ao n f) (hn : n ≤ 1048576) :
    Calls Tryz.prog 15 #[.slice ao n cap] w fun e w' => e = .returned (.slice (some ⟨w.heap.size, 0, none⟩) n n) ∧ Own w' w.heap.size 0 n f ∧ Below w.heap.size w w' := by
  obtain ⟨i0, hi, hz0, hz1, hz2⟩ := info_parts Tryz.info5
  obtain ⟨hbd, hlies⟩ := hr
  go_enter Tryz.func15, Tryz.ntmps15
  go_wp2_with (at_make; refine wpList_make_full _ rfl (.tmp 6) (.tmp 6) 22 rfl w.heap.size 5 i0 (.int .u8 0) 1 Tryz.underlying22 hi hz0 hz1 .i64 .i64 _ _ n rfl rfl rfl rfl (by rw [hz2]; omega) (by unfold maxLen; omega) (Nat.le_refl _) ?_; intro w1 hown hgrow)
  have hb1 : Below w.heap.size w w1 := (Below.refl _ _).grown hgrow (Nat.le_refl _) (fun k h => by simp at h)
  have hlt1 : w.heap.size < w1.heap.size := by
    rcases hown.2 with ⟨h, _⟩ | ⟨g', cap', cur, h, _, hg, _⟩
    · simp at h
    · simp at h; obtain ⟨rfl, _⟩ := h
      exact (Array.getElem?_eq_some_iff.1 hg).1
  have ho := own_of_made hown hlt1
  clear hown hgrow
  go_loopw [4] (fun i wr => ∃ k : Nat, k ≤ n ∧ i = .int .i64 k ∧ Own wr w.heap.size 0 n (fun j => if j < k then f j else 0) ∧ Below w.heap.size w wr) (fun i _ => n - (intOf i).toNat)
  case atStart => exact ⟨0, Nat.zero_le _, rfl, by simpa using ho, hb1⟩
  case round =>
    obtain ⟨k, hk, rfl, hok, hbk⟩ := hrel
    by_cases hlt : k < n
    · obtain ⟨b, off, rfl, hblt, hc⟩ := hlies.resolve_left (by omega)
      have hcell : wr.cell? ⟨b, off + k, none⟩ = some (.int .u8 (f k)) := (hbk.cell (p := ⟨b, off + k, none⟩) hblt).trans (hc k hlt)
      have hd := hok.cell k hlt
      have hfz := hok.free k hlt
      simp only [Nat.zero_add] at hd hfz
      have hst := hok.store k hlt (f k) (hbd k)
      simp only [Nat.zero_add] at hst
      clear hc hlies ho
      go_wp2
      go_roundw
      case rel => exact ⟨k + 1, by omega, by go_num, hst.congr (fun i => by by_cases h : i < k + 1 <;> simp [h, hbd i]) (fun i _ => by by_cases h1 : i = k <;> by_cases h2 : i < k <;> simp [h1, h2] <;> omega), hbk.setCell (Nat.le_refl _) _⟩
      case measure => simp [intOf]; omega
    · go_wp2
      go_ret
      exact ⟨rfl, hok.congr hbd (fun i hi => by rw [if_pos (by omega)]), hbk⟩

set_option maxHeartbeats 400000 in
theorem eqByteS_same (ao bo : Option Addr) (n ca cb : Nat) (f : Nat → Int) (w : World) (hr : Row w ao n f) (hs : Row w bo n f) (hn : n ≤ 1048576) :
    Calls Tryz.prog 17 #[.slice ao n ca, .slice bo n cb] w fun e w' => e = .returned (.bool true) ∧ Below w.heap.size w w' := by
  obtain ⟨hbd, hl⟩ := hr
  obtain ⟨_, hm⟩ := hs
  go_enter Tryz.func17, Tryz.ntmps17
  go_wp2
  go_loopw [5] (fun i wr => ∃ k : Nat, k ≤ n ∧ i = .int .i64 k ∧ Below w.heap.size w wr) (fun i _ => n - (intOf i).toNat)
  case atStart => exact ⟨0, Nat.zero_le _, rfl, Below.refl _ _⟩
  case round =>
    obtain ⟨k, hk, rfl, hbk⟩ := hrel
    by_cases hlt : k < n
    · obtain ⟨b, off, rfl, hblt, hc⟩ := hl.resolve_left (by omega)
      obtain ⟨b', off', rfl, hblt', hc'⟩ := hm.resolve_left (by omega)
      have h1 : wr.cell? ⟨b, off + k, none⟩ = some (.int .u8 (f k)) := (hbk.cell (p := ⟨b, off + k, none⟩) hblt).trans (hc k hlt)
      have h2 : wr.cell? ⟨b', off' + k, none⟩ = some (.int .u8 (f k)) := (hbk.cell (p := ⟨b', off' + k, none⟩) hblt').trans (hc' k hlt)
      clear hc hc' hl hm
      go_wp2
      go_quiet (fail)
      go_wp2
      go_roundw
      case rel => exact ⟨k + 1, by omega, by go_num, below_drewN hbk _⟩
      case measure => simp [intOf]; omega
    · go_wp2
      go_ret
      exact ⟨rfl, hbk⟩

set_option maxHeartbeats 400000 in
theorem markByteS_any (g off n cap : Nat) (f : Nat → Int) (k0 : Nat) (w : World) (ho : Own w g off n f) (hn : n ≤ 1048576) (hk0 : k0 ≤ 4194304) :
    Calls Tryz.prog 18 #[.slice (some ⟨g, off, none⟩) n cap, .int .i64 k0] w fun e w' => e = .returned (.int .i64 ((k0 + n : Nat) : Int)) ∧ Own w' g off n (fun i => ((k0 + i : Nat) : Int) % 256) ∧ Others g w w' := by
  go_enter Tryz.func18, Tryz.ntmps18
  go_wp2
  go_loopw [1, 5] (fun q i wr => ∃ k : Nat, k ≤ n ∧ i = .int .i64 k ∧ q = .int .i64 ((k0 + k : Nat) : Int) ∧ Own wr g off n (fun j => if j < k then ((k0 + j : Nat) : Int) % 256 else f j) ∧ Others g w wr) (fun _ i _ => n - (intOf i).toNat)
  case atStart => exact ⟨0, Nat.zero_le _, rfl, by simp, by simpa using ho, Others.refl _ _⟩
  case round =>
    obtain ⟨k, hk, rfl, rfl, hok, hbk⟩ := hrel
    by_cases hlt : k < n
    · have hd := hok.cell k hlt
      have hfz := hok.free k hlt
      have hst := hok.store k hlt (((k0 + k : Nat) : Int) % 256) (by omega)
      rw [Int.natCast_add] at hst
      clear ho
      go_wp2
      go_roundw
      case rel =>
        refine ⟨k + 1, by omega, by go_num, by go_num, hst.congr (fun i => ?_) (fun i _ => ?_), hbk.trans (Others.setCell _ _ _ _)⟩
        · have := hok.bd i
          by_cases h : i < k + 1
          · simp only [h, if_true]; omega
          · rw [if_neg (by omega)] at this; rw [if_neg h]; exact this
        · by_cases h1 : i = k
          · subst h1; rw [if_pos rfl, if_pos (by omega), Int.natCast_add]
          · by_cases h2 : i < k
            · rw [if_neg h1, if_pos h2, if_pos (by omega)]
            · rw [if_neg h1, if_neg h2, if_neg (by omega)]
      case measure => simp [intOf]; omega
    · go_wp2
      go_ret
      have : k = n := by omega
      subst this
      exact ⟨rfl, hok.congr (fun i => by omega) (fun i hi => by rw [if_pos (by omega)]), hbk⟩

end Go.Proofs.YtohjjigkfdhklaaGreat
