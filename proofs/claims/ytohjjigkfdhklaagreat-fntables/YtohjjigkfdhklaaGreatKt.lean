/- What the measure of entries says of them all together. / Rows of texts: measured, copied, compared, marked; marks of ints. / Entries marked. / markEntryS. / Entries that may be written, and how far their marks go. -/
import Derived.Test.YtohjjigkfdhklaaGreatGe
import Derived.Test.YtohjjigkfdhklaaGreatIL
import Derived.Laws.BytesArg
import Derived.Maps.AppendAt
import Derived.OwnWalk
import Derived.Test.YtohjjigkfdhklaaGreatTx
namespace Go.Proofs.YtohjjigkfdhklaaGreat
set_option maxRecDepth 100000
open Go.RowKit
set_option linter.unusedSimpArgs false
set_option linter.unusedVariables false

/-- What an exact measure leaves: d is taken away, or it says no. -/
def SzX (left : Int) (d : Int) (w : World) (e : Ending) (w' : World) : Prop :=
  ∃ v : Int, e = .returned (.int .i64 v) ∧ -1 ≤ v ∧ (0 ≤ v → v = left - d) ∧ Below w.heap.size w w'

/-- The letters and numbers of the first k together. -/
def tot (X : Nat → Ent) : Nat → Nat
  | 0 => 0
  | k + 1 => tot X k + ((X k).key.size + (X k).n)
theorem tot_size {X : Nat → Ent} {B : Nat} : ∀ {n : Nat}, tot X n ≤ B → ∀ i, i < n → (X i).key.size ≤ B ∧ (X i).n ≤ B
  | 0, _, i, hi => by omega
  | n + 1, h, i, hi => by
    unfold tot at h
    by_cases e : i = n
    · subst e; omega
    · exact tot_size (n := n) (by omega) i (by omega)

end Go.Proofs.YtohjjigkfdhklaaGreat

namespace Go.Proofs.YtohjjigkfdhklaaGreat
set_option maxRecDepth 100000
open Go.RowKit
set_option linter.unusedSimpArgs false
set_option linter.unusedVariables false

theorem OwnI.kept {w w' : World} {base : Nat} {v : Value} {L : List Int} {row : Option Nat} (h : OwnI w base v L) (hg : w.grownBy w' row) (hne : ∀ k, row = some k → v.ownBlock ≠ some k) : OwnI w' base v L := by
  refine ⟨h.bd, h.own.kept hg ?_⟩
  cases hr : v.ownBlock with
  | none => exact .inl rfl
  | some k => exact .inr fun e => hne k e.symm hr
theorem IOwn.grown {w w' : World} {c b off n : Nat} {f : Nat → Int} (h : IOwn w b off n f) (hg : w.grownBy w' (some c)) (hne : b ≠ c) : IOwn w' b off n f :=
  ⟨h.bd, Nat.lt_of_lt_of_le h.lt hg.size, fun i hi => hg.cell (h.cell i hi) (fun e => hne (Option.some.inj e)), fun i hi => (World.frozen?_of_block (w := w) (a := ⟨b, off + i, none⟩) (hg.block b h.lt (fun e => hne (Option.some.inj e)))).trans (h.free i hi)⟩

def mI (k0 : Nat) (i : Nat) : Int := ((k0 + i : Nat) : Int)
set_option maxHeartbeats 400000 in
theorem markI_any (g off n cap : Nat) (f : Nat → Int) (k0 : Nat) (w : World) (ho : IOwn w g off n f) (hn : n ≤ 1048576) (hk0 : k0 ≤ 16777216) :
    Calls Tryz.prog 41 #[.slice (some ⟨g, off, none⟩) n cap, .int .i64 k0] w fun e w' => e = .returned (.int .i64 ((k0 + n : Nat) : Int)) ∧ (∃ fy, IOwn w' g off n fy ∧ ∀ i, i < n → fy i = ((k0 + i : Nat) : Int)) ∧ Others g w w' := by
  go_enter Tryz.func41, Tryz.ntmps41
  go_wp2
  go_loopw [1, 5] (fun q i wr => ∃ k : Nat, k ≤ n ∧ i = .int .i64 k ∧ q = .int .i64 ((k0 + k : Nat) : Int) ∧ IOwn wr g off n (fun j => if j < k then ((k0 + j : Nat) : Int) else f j) ∧ Others g w wr) (fun _ i _ => n - (intOf i).toNat)
  case atStart => exact ⟨0, Nat.zero_le _, rfl, by simp, by simpa using ho, Others.refl _ _⟩
  case round =>
    obtain ⟨k, hk, rfl, rfl, hok, hbk⟩ := hrel
    by_cases hlt : k < n
    · have hd := hok.cell k hlt
      have hfz := hok.free k hlt
      have hst := hok.store k hlt (((k0 + k : Nat) : Int)) (by omega)
      rw [Int.natCast_add] at hst
      clear ho
      go_wp2
      go_roundw
      case rel =>
        refine ⟨k + 1, by omega, by go_num, by go_num, hst.congr (fun i => ?_) (fun i _ => ?_), hbk.trans (Others.setCell _ _ _ _)⟩
        · have := hok.bd i
          by_cases h : i < k + 1
          · simp only [h, if_true]; omega
          · rw [if_neg (by omega)] at this; rw [if_neg h]; exact this
        · by_cases h1 : i = k
          · subst h1; rw [if_pos rfl, if_pos (by omega), Int.natCast_add]
          · by_cases h2 : i < k
            · rw [if_neg h1, if_pos h2, if_pos (by omega)]
            · rw [if_neg h1, if_neg h2, if_neg (by omega)]
      case measure => simp [intOf]; omega
    · go_wp2
      go_ret
      have : k = n := by omega
      subst this
      exact ⟨rfl, ⟨_, hok, fun i hi => by rw [if_pos hi]⟩, hbk⟩

set_option maxHeartbeats 400000 in
theorem markI_none (ao : Option Addr) (cap : Nat) (w : World) :
    Calls Tryz.prog 41 #[.slice ao 0 cap, .int .i64 1] w fun e w' => e = .returned (.int .i64 1) ∧ w' = w := by
  go_enter Tryz.func41, Tryz.ntmps41
  go_wp2
  go_loopw [1, 5] (fun q i wr => i = .int .i64 0 ∧ q = .int .i64 1 ∧ wr = w) (fun _ _ _ => 0)
  case atStart => exact ⟨rfl, rfl, rfl⟩
  case round =>
    obtain ⟨rfl, rfl, rfl⟩ := hrel
    go_wp2
    go_ret
    exact ⟨rfl, rfl⟩

set_option maxHeartbeats 400000 in
theorem heldI_yes (ao : Option Addr) (n cap : Nat) (f : Nat → Int) (w : World) (hr : IRow w ao n f) (hf : ∀ i, i < n → f i = ((1 + i : Nat) : Int)) (hn : n ≤ 1048576) :
    Calls Tryz.prog 42 #[.slice ao n cap, .int .i64 1] w fun e w' => e = .returned (.int .i64 ((1 + n : Nat) : Int)) ∧ Below w.heap.size w w' := by
  obtain ⟨hbd, hl⟩ := hr
  go_enter Tryz.func42, Tryz.ntmps42
  go_wp2
  go_loopw [1, 5] (fun q i wr => ∃ k : Nat, k ≤ n ∧ i = .int .i64 k ∧ q = .int .i64 ((1 + k : Nat) : Int) ∧ Below w.heap.size w wr) (fun _ i _ => n - (intOf i).toNat)
  case atStart => exact ⟨0, Nat.zero_le _, rfl, by simp, Below.refl _ _⟩
  case round =>
    obtain ⟨k, hk, rfl, rfl, hbk⟩ := hrel
    by_cases hlt : k < n
    · obtain ⟨b, off, rfl, hblt, hc⟩ := hl.resolve_left (by omega)
      have h1 : wr.cell? ⟨b, off + k, none⟩ = some (.int .i64 ((1 + k : Nat) : Int)) := by rw [← hf k hlt]; exact (hbk.cell (p := ⟨b, off + k, none⟩) hblt).trans (hc k hlt)
      clear hc hl hbd hf
      go_wp2
      go_roundw
      case rel => exact ⟨k + 1, by omega, by go_num, by go_num, hbk⟩
      case measure => simp [intOf]; omega
    · go_wp2
      go_ret
      have : k = n := by omega
      subst this
      exact ⟨rfl, hbk⟩

/-- What marks laid into a slice of the call's own leave. -/
theorem markOwn_any (lo : Option Addr) (lc base : Nat) (L : List Int) (w : World) (ho : OwnI w base (.slice lo L.length lc) L) (hn : L.length ≤ 1048576) :
    Calls Tryz.prog 41 #[.slice lo L.length lc, .int .i64 1] w fun e w' => e = .returned (.int .i64 ((1 + L.length : Nat) : Int)) ∧ (∃ f, IRow w' lo L.length f ∧ ∀ i, i < L.length → f i = ((1 + i : Nat) : Int)) ∧ w.grownBy w' (Value.slice lo L.length lc).ownBlock := by
  by_cases h0 : L.length = 0
  · rw [h0]
    refine (markI_none lo lc w).mono ?_
    rintro e w' ⟨rfl, rfl⟩
    exact ⟨rfl, ⟨fun _ => 0, ⟨fun _ => by omega, .inl rfl⟩, fun i hi => by omega⟩, World.grownBy.refl _ _⟩
  · obtain ⟨g, cap, e, hb, hc, hO⟩ := ho.own' (by omega)
    injection e with e1 _ e3
    subst e1 e3
    refine (markI_any g 0 L.length _ (fi L) 1 w hO hn (by omega)).mono ?_
    rintro e w' ⟨rfl, ⟨fy, h1, h2⟩, h3⟩
    exact ⟨rfl, ⟨fy, h1.row, h2⟩, h3.grown⟩
end Go.Proofs.YtohjjigkfdhklaaGreat

namespace Go.Proofs.YtohjjigkfdhklaaGreat
set_option maxRecDepth 100000
open Go.RowKit
set_option linter.unusedSimpArgs false
set_option linter.unusedVariables false

/-- An entry that bears the marks from k on. -/
def mkE (k : Int) (x : Ent) : Ent := ⟨mt k, k + 1, k + 2, k + 3, k + 4, k + 5, k + 6, x.n, fun i => if i < x.n then k + 7 + i else 0, (k + 7 + x.n) % 3 == 0⟩
/-- Entries in block b, their lists elsewhere, all apart and free to be written. -/
structure CE (w : World) (b n : Nat) (X : Nat → Ent) (L : Nat → Option Addr) (C : Nat → Nat) : Prop where
  lt : b < w.heap.size
  ent : ∀ i, i < n → EAt w b (i * 9) (X i) (L i) (C i)
  free : ∀ j, j < n * 9 → w.frozen? ⟨b, j, none⟩ = false
  hist : ∀ i, i < n → (X i).n = 0 ∨ ∃ g, L i = some ⟨g, 0, none⟩ ∧ g ≠ b ∧ IOwn w g 0 (X i).n (X i).f
  dis : ∀ i j, i < n → j < n → i ≠ j → 0 < (X i).n → 0 < (X j).n → ∀ g, L i = some ⟨g, 0, none⟩ → L j ≠ some ⟨g, 0, none⟩
/-- Only b and the lists have been written. -/
structure CO (b n : Nat) (X : Nat → Ent) (L : Nat → Option Addr) (w w' : World) : Prop where
  os : w'.os = w.os
  tape : w'.tape = w.tape
  output : w'.output = w.output
  size : w.heap.size ≤ w'.heap.size
  block : ∀ c, c < w.heap.size → c ≠ b → (∀ i, i < n → 0 < (X i).n → L i ≠ some ⟨c, 0, none⟩) → w'.heap[c]? = w.heap[c]?
theorem CO.refl (b n : Nat) (X : Nat → Ent) (L : Nat → Option Addr) (w : World) : CO b n X L w w := ⟨rfl, rfl, rfl, Nat.le_refl _, fun _ _ _ _ => rfl⟩
theorem CO.trans {b n : Nat} {X : Nat → Ent} {L : Nat → Option Addr} {u v w : World} (h : CO b n X L u v) (k : CO b n X L v w) : CO b n X L u w :=
  ⟨k.os.trans h.os, k.tape.trans h.tape, k.output.trans h.output, Nat.le_trans h.size k.size, fun c hc h1 h2 => (k.block c (Nat.lt_of_lt_of_le hc h.size) h1 h2).trans (h.block c hc h1 h2)⟩
theorem CO.of_below {b n : Nat} {X : Nat → Ent} {L : Nat → Option Addr} {w w' : World} (h : Below w.heap.size w w') : CO b n X L w w' := ⟨h.os, h.tape, h.output, h.size, fun c hc _ _ => h.block c hc⟩
theorem CO.of_others {b n : Nat} {X : Nat → Ent} {L : Nat → Option Addr} {w w' : World} (h : Others b w w') : CO b n X L w w' := ⟨h.os, h.tape, h.output, by rw [h.size]; exact Nat.le_refl _, fun c _ h1 _ => h.block c h1⟩
theorem CO.of_list {b n : Nat} {X : Nat → Ent} {L : Nat → Option Addr} {w w' : World} {g i : Nat} (h : Others g w w') (hi : i < n) (h0 : 0 < (X i).n) (hL : L i = some ⟨g, 0, none⟩) : CO b n X L w w' := ⟨h.os, h.tape, h.output, by rw [h.size]; exact Nat.le_refl _, fun c _ _ h2 => h.block c (fun e => h2 i hi h0 (by rw [e]; exact hL))⟩
theorem CE.keep {w w' : World} {b n : Nat} {X : Nat → Ent} {L : Nat → Option Addr} {C : Nat → Nat} (h : CE w b n X L C) (hb : Below w.heap.size w w') : CE w' b n X L C :=
  ⟨Nat.lt_of_lt_of_le h.lt hb.size, fun i hi => (h.ent i hi).keep hb, fun j hj => (hb.frozen (p := ⟨b, j, none⟩) h.lt).trans (h.free j hj),
    fun i hi => (h.hist i hi).elim .inl fun ⟨g, h1, h2, h3⟩ => .inr ⟨g, h1, h2, h3.keep hb⟩, h.dis⟩

/-- One entry's cells and list written over. -/
theorem CE.put {w w2 : World} {b n k : Nat} {X : Nat → Ent} {L : Nat → Option Addr} {C : Nat → Nat} {y : Ent} (h : CE w b n X L C) (hk : k < n) (hyn : y.n = (X k).n)
    (hsz : w.heap.size ≤ w2.heap.size) (he : EAt w2 b (k * 9) y (L k) (C k)) (hfz : ∀ j, w2.frozen? ⟨b, j, none⟩ = w.frozen? ⟨b, j, none⟩)
    (hcell : ∀ j, j < k * 9 ∨ k * 9 + 9 ≤ j → w2.cell? ⟨b, j, none⟩ = w.cell? ⟨b, j, none⟩)
    (hlist : y.n = 0 ∨ ∃ g, L k = some ⟨g, 0, none⟩ ∧ g ≠ b ∧ IOwn w2 g 0 y.n y.f)
    (hoth : ∀ i g, i < n → i ≠ k → 0 < (X i).n → L i = some ⟨g, 0, none⟩ → g ≠ b → w2.heap[g]? = w.heap[g]?) :
    CE w2 b n (fun i => if i = k then y else X i) L C := by
  have hlt : b < w2.heap.size := Nat.lt_of_lt_of_le h.lt hsz
  have hN : ∀ i, ((if i = k then y else X i) : Ent).n = (X i).n := fun i => by split <;> simp_all
  refine ⟨hlt, fun i hi => ?_, fun j hj => by rw [hfz]; exact h.free j hj, fun i hi => ?_, fun i j hi hj hij h1 h2 => by rw [hN] at h1 h2; exact h.dis i j hi hj hij h1 h2⟩
  · by_cases e : i = k
    · subst e; simp only [if_true]; exact he
    · simp only [e, if_false]
      have h0 := h.ent i hi
      have c : ∀ q, q < 9 → w2.cell? ⟨b, i * 9 + q, none⟩ = w.cell? ⟨b, i * 9 + q, none⟩ := fun q hq => hcell _ (by omega)
      exact ⟨hlt, (c 0 (by omega)).trans h0.c0, (c 1 (by omega)).trans h0.c1, (c 2 (by omega)).trans h0.c2, (c 3 (by omega)).trans h0.c3, (c 4 (by omega)).trans h0.c4, (c 5 (by omega)).trans h0.c5, (c 6 (by omega)).trans h0.c6, (c 7 (by omega)).trans h0.c7, (c 8 (by omega)).trans h0.c8⟩
  · by_cases e : i = k
    · subst e; simp only [if_true]; exact hlist
    · simp only [e, if_false]
      rcases h.hist i hi with h0 | ⟨g, h1, h2, h3⟩
      · exact .inl h0
      · by_cases hz : (X i).n = 0
        · exact .inl hz
        · have hb := hoth i g hi e (by omega) h1 h2
          exact .inr ⟨g, h1, h2, h3.bd, Nat.lt_of_lt_of_le h3.lt hsz, fun j hj => (World.cell?_of_block (w := w) (a := ⟨g, 0 + j, none⟩) hb).trans (h3.cell j hj), fun j hj => (World.frozen?_of_block (w := w) (a := ⟨g, 0 + j, none⟩) hb).trans (h3.free j hj)⟩
end Go.Proofs.YtohjjigkfdhklaaGreat

namespace Go.Proofs.YtohjjigkfdhklaaGreat
set_option maxRecDepth 100000
open Go.RowKit
set_option linter.unusedSimpArgs false
set_option linter.unusedVariables false

theorem CE.congr {w : World} {b n : Nat} {X X' : Nat → Ent} {L : Nat → Option Addr} {C : Nat → Nat} (h : CE w b n X L C) (e : ∀ i, i < n → X i = X' i) : CE w b n X' L C :=
  ⟨h.lt, fun i hi => by rw [← e i hi]; exact h.ent i hi, h.free, fun i hi => by rw [← e i hi]; exact h.hist i hi, fun i j hi hj hij => by rw [← e i hi, ← e j hj]; exact h.dis i j hi hj hij⟩
/-- The next mark behind the first i entries. -/
def kOf (X : Nat → Ent) (k0 : Nat) : Nat → Nat
  | 0 => k0
  | i + 1 => kOf X k0 i + 8 + (X i).n
theorem kOf_mono (X : Nat → Ent) (k0 : Nat) : ∀ {i j : Nat}, i ≤ j → kOf X k0 i ≤ kOf X k0 j
  | i, 0, h => by rw [show i = 0 by omega]; exact Nat.le_refl _
  | i, j + 1, h => by
    by_cases e : i = j + 1
    · rw [e]; exact Nat.le_refl _
    · have := kOf_mono X k0 (show i ≤ j by omega)
      show _ ≤ kOf X k0 j + 8 + (X j).n
      omega
theorem kOf_ge (X : Nat → Ent) (k0 i : Nat) : k0 ≤ kOf X k0 i := kOf_mono X k0 (Nat.zero_le i)

set_option maxHeartbeats 400000 in
theorem markI_zero (ao : Option Addr) (cap : Nat) (q : Int) (w : World) :
    Calls Tryz.prog 41 #[.slice ao 0 cap, .int .i64 q] w fun e w' => e = .returned (.int .i64 q) ∧ w' = w := by
  go_enter Tryz.func41, Tryz.ntmps41
  go_wp2
  go_loopw [1, 5] (fun p i wr => i = .int .i64 0 ∧ p = .int .i64 q ∧ wr = w) (fun _ _ _ => 0)
  case atStart => exact ⟨rfl, rfl, rfl⟩
  case round =>
    obtain ⟨rfl, rfl, rfl⟩ := hrel
    go_wp2
    go_ret
    exact ⟨rfl, rfl⟩

set_option maxRecDepth 100000 in
set_option maxHeartbeats 4000000 in
theorem markEntryS_any (b n cap k0 : Nat) (X : Nat → Ent) (L : Nat → Option Addr) (C : Nat → Nat) (w : World) (h : CE w b n X L C) (hk0 : 1 ≤ k0) (hz : ∀ i, i < n → (X i).n ≤ 1048576) (hn : n ≤ 1048576) (hbd : kOf X k0 n ≤ 16000000) :
    Calls Tryz.prog 19 #[.slice (some ⟨b, 0, none⟩) n cap, .int .i64 k0] w fun e w' => e = .returned (.int .i64 (kOf X k0 n : Int)) ∧ CE w' b n (fun i => if i < n then mkE (kOf X k0 i) (X i) else X i) L C ∧ CO b n X L w w' := by
  go_enter Tryz.func19, Tryz.ntmps19
  go_wp2
  go_loopw [1, 5] (fun q i wr => ∃ k : Nat, k ≤ n ∧ i = .int .i64 k ∧ q = .int .i64 (kOf X k0 k : Int) ∧ CE wr b n (fun i => if i < k then mkE (kOf X k0 i) (X i) else X i) L C ∧ CO b n X L w wr) (fun _ i _ => n - (intOf i).toNat)
  case atStart => exact ⟨0, Nat.zero_le _, rfl, rfl, by simpa using h, CO.refl _ _ _ _ _⟩
  case round =>
    obtain ⟨k, hk, rfl, rfl, hC, hCO⟩ := hrel
    clear h
    by_cases hlt : k < n
    · have hkb := kOf_mono X k0 (show k + 1 ≤ n by omega)
      have hkg := kOf_ge X k0 k
      have hks : kOf X k0 (k + 1) = kOf X k0 k + 8 + (X k).n := rfl
      have hzk := hz k hlt
      obtain ⟨kk, hkk⟩ : ∃ kk, kk = kOf X k0 k := ⟨_, rfl⟩
      rw [← hkk] at hkg hks ⊢
      have HK : Hid (kk = kOf X k0 k) := hkk
      have HKS : Hid (kOf X k0 (k + 1) = kk + 8 + (X k).n) := hks
      have hkt : kk + 8 + (X k).n ≤ 16000000 := by omega
      clear hkk hks hkb
      have hwn : IntKind.i64.wrap ((kk : Int) + 7 + ((X k).n : Int) + 1) = (kk : Int) + 7 + ((X k).n : Int) + 1 := by rw [IntKind.wrap_i64] <;> omega
      have hw1 : IntKind.i64.wrap ((kk : Int) + 1) = (kk : Int) + 1 := by rw [IntKind.wrap_i64] <;> omega
      have hw2 : IntKind.i64.wrap ((kk : Int) + 1 + 1) = (kk : Int) + 2 := by rw [IntKind.wrap_i64] <;> omega
      have hw3 : IntKind.i64.wrap ((kk : Int) + 2 + 1) = (kk : Int) + 3 := by rw [IntKind.wrap_i64] <;> omega
      have hw4 : IntKind.i64.wrap ((kk : Int) + 3 + 1) = (kk : Int) + 4 := by rw [IntKind.wrap_i64] <;> omega
      have hw5 : IntKind.i64.wrap ((kk : Int) + 4 + 1) = (kk : Int) + 5 := by rw [IntKind.wrap_i64] <;> omega
      have hw6 : IntKind.i64.wrap ((kk : Int) + 5 + 1) = (kk : Int) + 6 := by rw [IntKind.wrap_i64] <;> omega
      have hw7 : IntKind.i64.wrap ((kk : Int) + 6 + 1) = (kk : Int) + 7 := by rw [IntKind.wrap_i64] <;> omega
      go_wp2_with fail
      refine (markText_any (kk : Int) _ (by omega) (by omega)).mono ?_
      rintro e w1 ⟨rfl, hb1⟩
      have h1 := hC.keep hb1
      have e1 := h1.ent k hlt
      simp only [Nat.lt_irrefl, if_false] at e1
      obtain ⟨_, c0, c1, c2, c3, c4, c5, c6, c7, c8⟩ := e1
      have f0 := h1.free (k * 9) (by omega)
      have f1 := h1.free (k * 9 + 1) (by omega)
      have f2 := h1.free (k * 9 + 2) (by omega)
      have f3 := h1.free (k * 9 + 3) (by omega)
      have f4 := h1.free (k * 9 + 4) (by omega)
      have f5 := h1.free (k * 9 + 5) (by omega)
      have f6 := h1.free (k * 9 + 6) (by omega)
      have f7 := h1.free (k * 9 + 7) (by omega)
      have f8 := h1.free (k * 9 + 8) (by omega)
      have CO1 : CO b n X L w w1 := hCO.trans (CO.of_below hb1)
      clear hb1 hC hCO
      obtain ⟨w2, hw2⟩ : ∃ w2, w2 = w1.setCells b (k * 9) [.string (mt (kk : Int)), .int .i64 ((kk : Int) + 1), .int .i64 ((kk : Int) + 2), .int .i64 ((kk : Int) + 3), .int .i64 ((kk : Int) + 4), .int .i64 ((kk : Int) + 5), .int .i64 ((kk : Int) + 6)] := ⟨_, rfl⟩
      have ot2 : Others b w1 w2 := by rw [hw2]; exact setCells_others _ _ _ _
      have in2 : ∀ j (hj : j < 7), w2.cell? ⟨b, k * 9 + j, none⟩ = some (([.string (mt (kk : Int)), .int .i64 ((kk : Int) + 1), .int .i64 ((kk : Int) + 2), .int .i64 ((kk : Int) + 3), .int .i64 ((kk : Int) + 4), .int .i64 ((kk : Int) + 5), .int .i64 ((kk : Int) + 6)] : List Value)[j]'(by simpa using hj)) := fun j hj => by
        rw [hw2]
        exact World.cell?_setCells_in b [.string (mt (kk : Int)), .int .i64 ((kk : Int) + 1), .int .i64 ((kk : Int) + 2), .int .i64 ((kk : Int) + 3), .int .i64 ((kk : Int) + 4), .int .i64 ((kk : Int) + 5), .int .i64 ((kk : Int) + 6)] (k * 9) w1 (fun q hq => by
          have hq' : q < 7 := by simpa using hq
          have : q = 0 ∨ q = 1 ∨ q = 2 ∨ q = 3 ∨ q = 4 ∨ q = 5 ∨ q = 6 := by omega
          rcases this with rfl | rfl | rfl | rfl | rfl | rfl | rfl
          · rw [Nat.add_zero, c0]; rfl
          · rw [c1]; rfl
          · rw [c2]; rfl
          · rw [c3]; rfl
          · rw [c4]; rfl
          · rw [c5]; rfl
          · rw [c6]; rfl) j (by simpa using hj)
      have out2 : ∀ j, j < k * 9 ∨ k * 9 + 7 ≤ j → w2.cell? ⟨b, j, none⟩ = w1.cell? ⟨b, j, none⟩ := fun j hj => by
        rw [hw2]
        exact World.cell?_setCells_out b [.string (mt (kk : Int)), .int .i64 ((kk : Int) + 1), .int .i64 ((kk : Int) + 2), .int .i64 ((kk : Int) + 3), .int .i64 ((kk : Int) + 4), .int .i64 ((kk : Int) + 5), .int .i64 ((kk : Int) + 6)] (k * 9) w1 ⟨b, j, none⟩ (fun _ _ => by simpa using hj)
      have fz2 : ∀ a, w2.frozen? a = w1.frozen? a := fun a => by rw [hw2]; exact World.frozen?_setCells b _ _ _ a
      have hmark : Calls Tryz.prog 41 #[.slice (L k) (X k).n (C k), .int .i64 ((kk : Int) + 7)] w2 fun e w' => e = .returned (.int .i64 ((kk : Int) + 7 + ((X k).n : Int))) ∧ ((X k).n = 0 ∧ w' = w2 ∨ 0 < (X k).n ∧ ∃ g, L k = some ⟨g, 0, none⟩ ∧ g ≠ b ∧ Others g w2 w' ∧ ∃ fy, IOwn w' g 0 (X k).n fy ∧ ∀ i, i < (X k).n → fy i = (kk : Int) + 7 + i) := by
        by_cases hn0 : (X k).n = 0
        · rw [hn0]
          refine (markI_zero (L k) (C k) _ w2).mono ?_
          rintro e w' ⟨rfl, rfl⟩
          exact ⟨by simp, .inl ⟨rfl, rfl⟩⟩
        · have hh := h1.hist k hlt
          simp only [Nat.lt_irrefl, if_false] at hh
          obtain ⟨g, hg1, hg2, hg3⟩ := hh.resolve_left hn0
          have hsl : Value.slice (L k) (X k).n (C k) = .slice (some ⟨g, 0, none⟩) (X k).n (C k) := by rw [hg1]
          rw [hsl]
          have := markI_any g 0 (X k).n (C k) (X k).f (kk + 7) w2 (ot2.irow hg3 hg2) hzk (by omega)
          rw [show (((kk + 7 : Nat)) : Int) = (kk : Int) + 7 from by omega] at this
          refine this.mono ?_
          rintro e w' ⟨rfl, ⟨fy, h3, h4⟩, h5⟩
          exact ⟨by rw [show (((kk + 7 + (X k).n : Nat)) : Int) = (kk : Int) + 7 + ((X k).n : Int) from by rw [Int.natCast_add, Int.natCast_add]; rfl], .inr ⟨Nat.pos_of_ne_zero hn0, g, hg1, hg2, h5, fy, h3, fun i hi => by rw [h4 i hi, Int.natCast_add, Int.natCast_add]; rfl⟩⟩
      go_wp2_with fail
      change Calls Tryz.prog 41 _ (w1.setCells b (k * 9) [.string (mt (kk : Int)), .int .i64 ((kk : Int) + 1), .int .i64 ((kk : Int) + 2), .int .i64 ((kk : Int) + 3), .int .i64 ((kk : Int) + 4), .int .i64 ((kk : Int) + 5), .int .i64 ((kk : Int) + 6)]) _
      rw [← hw2]
      refine hmark.mono ?_
      rintro e w3 ⟨rfl, h3⟩
      have cb3 : ∀ j, w3.cell? ⟨b, j, none⟩ = w2.cell? ⟨b, j, none⟩ := fun j => by
        rcases h3 with ⟨_, rfl⟩ | ⟨_, g, _, hg, ho, _⟩
        · rfl
        · exact World.cell?_of_block (w := w2) (a := ⟨b, j, none⟩) (ho.block b (Ne.symm hg))
      have fb3 : ∀ j, w3.frozen? ⟨b, j, none⟩ = w2.frozen? ⟨b, j, none⟩ := fun j => by
        rcases h3 with ⟨_, rfl⟩ | ⟨_, g, _, hg, ho, _⟩
        · rfl
        · exact World.frozen?_of_block (w := w2) (a := ⟨b, j, none⟩) (ho.block b (Ne.symm hg))
      have d8 : w3.cell? ⟨b, k * 9 + 3 + 5, none⟩ = some (.bool (X k).fu) := by rw [show k * 9 + 3 + 5 = k * 9 + 8 from rfl, cb3, out2 _ (by omega), c8]
      have g8 : w3.frozen? ⟨b, k * 9 + 3 + 5, none⟩ = false := by rw [show k * 9 + 3 + 5 = k * 9 + 8 from rfl, fb3, fz2, f8]
      have hfin : CE (w3.setCell ⟨b, k * 9 + 3 + 5, none⟩ (.bool (((kk : Int) + 7 + ((X k).n : Int)) % 3 == 0))) b n (fun i => if i < k + 1 then mkE (kOf X k0 i) (X i) else X i) L C := by
        have hput := CE.put (w2 := w3.setCell ⟨b, k * 9 + 3 + 5, none⟩ (.bool (((kk : Int) + 7 + ((X k).n : Int)) % 3 == 0))) (y := mkE (kk : Int) (X k)) h1 hlt (by simp [mkE]) (by
            have := ot2.size
            rcases h3 with ⟨_, rfl⟩ | ⟨_, g, _, hg, ho, _⟩
            · simp; omega
            · have := ho.size; simp; omega) (by
            have q : ∀ j, j < 8 → (w3.setCell ⟨b, k * 9 + 3 + 5, none⟩ (.bool (((kk : Int) + 7 + ((X k).n : Int)) % 3 == 0))).cell? ⟨b, k * 9 + j, none⟩ = w2.cell? ⟨b, k * 9 + j, none⟩ := fun j hj => by
              rw [World.cell?_setCell_other _ _ _ _ (by intro hh; injection hh with _ h2 _; omega), cb3]
            refine ⟨by have := h1.lt; have := ot2.size; rcases h3 with ⟨_, rfl⟩ | ⟨_, g, _, hg, ho, _⟩; (simp; omega); (have := ho.size; simp; omega), ?_, ?_, ?_, ?_, ?_, ?_, ?_, ?_, ?_⟩
            · exact (q 0 (by omega)).trans (in2 0 (by omega))
            · exact (q 1 (by omega)).trans (in2 1 (by omega))
            · exact (q 2 (by omega)).trans (in2 2 (by omega))
            · exact (q 3 (by omega)).trans (in2 3 (by omega))
            · exact (q 4 (by omega)).trans (in2 4 (by omega))
            · exact (q 5 (by omega)).trans (in2 5 (by omega))
            · exact (q 6 (by omega)).trans (in2 6 (by omega))
            · rw [q 7 (by omega), out2 _ (by omega), c7]; rfl
            · exact World.cell?_setCell_same _ _ _ d8) (fun j => by rw [World.frozen?_setCell, fb3, fz2]) (fun j hj => by
            rw [World.cell?_setCell_other _ _ _ _ (by intro hh; injection hh with _ h2 _; omega), cb3, out2 _ (by omega)]) (by
            rcases h3 with ⟨h0, _⟩ | ⟨h0, g, hL, hg, ho, fy, hI, hfy⟩
            · exact .inl h0
            · exact .inr ⟨g, hL, hg, (Others.setCell _ _ _ _).irow (hI.congr (fun i => by simp only [mkE]; split <;> omega) (fun i hi => by rw [hfy i hi]; simp [mkE, hi])) hg⟩) (fun i g' hi hik h0 hL' hgb => by
            rw [(Others.setCell w3 b _ _).block g' hgb]
            rcases h3 with ⟨_, rfl⟩ | ⟨hp, g, hL, hg, ho, _⟩
            · exact ot2.block g' hgb
            · have hne : g' ≠ g := fun e => by
                subst e
                have hN : ∀ j, ((if j < k then mkE (kOf X k0 j) (X j) else X j) : Ent).n = (X j).n := fun j => by split <;> rfl
                exact h1.dis i k hi hlt hik h0 (by rw [hN]; exact hp) g' hL' hL
              rw [ho.block g' hne, ot2.block g' hgb])
        have hk' := HK.out
        refine hput.congr (fun i _ => ?_)
        by_cases e : i = k
        · subst e; simp [← hk']
        · by_cases e2 : i < k
          · simp [e, e2, show i < k + 1 by omega]
          · simp [e, e2, show ¬ i < k + 1 by omega]
      have hco : CO b n X L w (w3.setCell ⟨b, k * 9 + 3 + 5, none⟩ (.bool (((kk : Int) + 7 + ((X k).n : Int)) % 3 == 0))) := by
        refine ((CO1.trans (CO.of_others ot2)).trans ?_).trans (CO.of_others (Others.setCell _ _ _ _))
        rcases h3 with ⟨_, rfl⟩ | ⟨hp, g, hL, hg, ho, _⟩
        · exact CO.refl _ _ _ _ _
        · exact CO.of_list ho hlt hp hL
      clear hmark c0 c1 c2 c3 c4 c5 c6 c7 c8 f0 f1 f2 f3 f4 f5 f6 f7 f8 hw2 cb3 fb3 in2 out2 fz2 h3 h1 ot2 CO1
      go_wp2
      go_roundw
      case rel => exact ⟨k + 1, by omega, by go_num, by rw [HKS.out]; congr 1; omega, hfin, hco⟩
      case measure => simp [intOf]; omega
    · have e : k = n := by omega
      subst e
      go_wp2
      go_ret
      exact ⟨rfl, hC, hCO⟩
end Go.Proofs.YtohjjigkfdhklaaGreat

namespace Go.Proofs.YtohjjigkfdhklaaGreat
set_option maxRecDepth 100000
open Go.RowKit
set_option linter.unusedSimpArgs false
set_option linter.unusedVariables false

theorem EOwn.ce {w : World} {b n : Nat} {X : Nat → Ent} {G : Nat → Nat} (h : EOwn w b n n X G) : CE w b n X (fun i => some ⟨G i, 0, none⟩) (fun i => (X i).n) :=
  ⟨h.lt, h.ent, h.free, fun i hi => .inr ⟨G i, rfl, by have := (h.data i hi).1; omega, (h.data i hi).2⟩, fun i j hi hj hij _ _ g h1 h2 => by
    have e1 : G i = g := by injection h1 with h1; injection h1
    have e2 : G j = g := by injection h2 with h2; injection h2
    rcases Nat.lt_or_gt_of_ne hij with h3 | h3
    · have := h.mono i j h3 hj; omega
    · have := h.mono j i h3 hi; omega⟩

theorem kOf_tot (X : Nat → Ent) : ∀ n, kOf X 1 n ≤ 1 + 8 * n + tot X n
  | 0 => by simp [kOf, tot]
  | n + 1 => by
    have := kOf_tot X n
    unfold kOf tot
    omega
end Go.Proofs.YtohjjigkfdhklaaGreat
