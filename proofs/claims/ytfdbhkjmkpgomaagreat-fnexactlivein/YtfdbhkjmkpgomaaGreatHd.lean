/- What the measure of entries says of them all together. / Entries marked. / markEntryS. / heldEntryS. -/
import Derived.Test.YtfdbhkjmkpgomaaGreatEnS
import Derived.Test.YtfdbhkjmkpgomaaGreatSt
import Derived.Deep.RegionHeld3
namespace Go.Proofs.YtfdbhkjmkpgomaaGreat
set_option maxRecDepth 100000
open Go.RowKit
set_option linter.unusedSimpArgs false
set_option linter.unusedVariables false

/-- What an exact measure leaves: d is taken away, or it says no. -/
def SzX (left : Int) (d : Int) (w : World) (e : Ending) (w' : World) : Prop :=
  ∃ v : Int, e = .returned (.int .i64 v) ∧ -1 ≤ v ∧ (0 ≤ v → v = left - d) ∧ Below w.heap.size w w'

theorem szIntS_ex (ao : Option Addr) (n cap : Nat) (left : Int) (w : World) (hl : 0 ≤ left ∧ left ≤ 1048576) (hn : n ≤ 9223372036854775807) :
    Calls Tryz.prog 62 #[.slice ao n cap, .int .i64 left] w fun e w' => SzX left n w e w' := by
  have hw : IntKind.i64.wrap (left - (n : Int)) = left - (n : Int) := by rw [IntKind.wrap_i64] <;> omega
  by_cases h1 : left - (n : Int) < 0
  · go_enter Tryz.func62, Tryz.ntmps62
    go_wp2
    go_ret
    exact ⟨-1, rfl, by omega, fun h => by omega, Below.refl _ _⟩
  · go_enter Tryz.func62, Tryz.ntmps62
    go_wp2
    go_ret
    exact ⟨_, rfl, by omega, fun _ => rfl, Below.refl _ _⟩

theorem szAgg_ex (c s lo hi : Int) (ao : Option Addr) (n cap : Nat) (fu : Bool) (left : Int) (w : World) (hl : 0 ≤ left ∧ left ≤ 1048576) (hn : n ≤ 9223372036854775807) :
    Calls Tryz.prog 44 #[.agg #[.int .i64 c, .int .i64 s, .int .i64 lo, .int .i64 hi, .slice ao n cap, .bool fu], .int .i64 left] w
      fun e w' => SzX left n w e w' := by
  have hB := fun o => below_new w o
  go_enter Tryz.func44, Tryz.ntmps44
  go_wp2_with fail
  refine (szIntS_ex ao n cap left _ hl hn).mono ?_
  rintro e w1 ⟨v, rfl, h1, h3, hb⟩
  have bw : Below w.heap.size w w1 := (hB _).trans (hb.mono (by simp))
  clear hb
  by_cases hv : v < 0
  · clear h3
    go_wp2
    go_ret
    exact ⟨-1, rfl, by omega, fun h => by omega, bw⟩
  · have h4 : Hid (v = left - (n : Int)) := h3 (by omega)
    clear h3
    go_wp2
    go_ret
    exact ⟨v, rfl, by omega, fun _ => h4.out, bw⟩

set_option maxHeartbeats 400000 in
theorem szEntry_ex (x : Ent) (ao : Option Addr) (cap : Nat) (left : Int) (w : World) (hl : 0 ≤ left ∧ left ≤ 1048576) (hk : x.key.size ≤ 9223372036854775807) (hn : x.n ≤ 9223372036854775807) :
    Calls Tryz.prog 28 #[.agg #[.string x.key, .int .i64 x.seq, .int .i64 x.kind, .int .i64 x.c, .int .i64 x.s, .int .i64 x.lo, .int .i64 x.hi, .slice ao x.n cap, .bool x.fu], .int .i64 left] w fun e w' => SzX left ((x.key.size : Int) + x.n) w e w' := by
  have hB := fun o => below_new w o
  have hw : IntKind.i64.wrap (left - (x.key.size : Int)) = left - (x.key.size : Int) := by rw [IntKind.wrap_i64] <;> omega
  by_cases h1 : left - (x.key.size : Int) < 0
  · go_enter Tryz.func28, Tryz.ntmps28
    go_wp2
    go_ret
    exact ⟨-1, rfl, by omega, fun h => by omega, hB _⟩
  · go_enter Tryz.func28, Tryz.ntmps28
    go_wp2_with fail
    refine (szAgg_ex _ _ _ _ ao _ cap _ _ _ (by omega) hn).mono ?_
    rintro e w1 ⟨v, rfl, hv1, hv3, hb⟩
    have bw : Below w.heap.size w w1 := (hB _).trans (hb.mono (by simp))
    clear hb
    by_cases hv : v < 0
    · clear hv3
      go_wp2
      go_ret
      exact ⟨-1, rfl, by omega, fun h => by omega, bw⟩
    · have H : Hid (v = left - ((x.key.size : Int) + x.n)) := by have := hv3 (by omega); unfold Hid; omega
      clear hv3
      go_wp2
      go_ret
      exact ⟨v, rfl, by omega, fun _ => H.out, bw⟩

/-- The letters and numbers of the first k together. -/
def tot (X : Nat → Ent) : Nat → Nat
  | 0 => 0
  | k + 1 => tot X k + ((X k).key.size + (X k).n)
theorem tot_size {X : Nat → Ent} {B : Nat} : ∀ {n : Nat}, tot X n ≤ B → ∀ i, i < n → (X i).key.size ≤ B ∧ (X i).n ≤ B
  | 0, _, i, hi => by omega
  | n + 1, h, i, hi => by
    unfold tot at h
    by_cases e : i = n
    · subst e; omega
    · exact tot_size (n := n) (by omega) i (by omega)

set_option maxHeartbeats 800000 in
theorem szEntryS_tot (ao : Option Addr) (n cap : Nat) (X : Nat → Ent) (left : Int) (w : World) (hr : ERow w ao n X) (hl : 0 ≤ left ∧ left ≤ 1048576) (hn : n ≤ 9223372036854775807) :
    Calls Tryz.prog 16 #[.slice ao n cap, .int .i64 left] w fun e w' => SzOut left (n + tot X n ≤ 1048576) w e w' := by
  obtain ⟨hbd, hlies⟩ := hr
  have hw : IntKind.i64.wrap (left - (n : Int)) = left - (n : Int) := by rw [IntKind.wrap_i64] <;> omega
  by_cases h1 : left - (n : Int) < 0
  · go_enter Tryz.func16, Tryz.ntmps16
    go_wp2
    go_ret
    exact ⟨-1, rfl, by omega, by omega, fun h => by omega, Below.refl _ _⟩
  · go_enter Tryz.func16, Tryz.ntmps16
    go_wp2
    go_loopw [1, 5] (fun q i wr => ∃ (k : Nat) (l : Int), k ≤ n ∧ i = .int .i64 k ∧ q = .int .i64 l ∧ 0 ≤ l ∧ l ≤ left ∧ Hid (l + n + tot X k = left) ∧ Below w.heap.size w wr) (fun _ i _ => n - (intOf i).toNat)
    case atStart => exact ⟨0, _, Nat.zero_le _, rfl, rfl, by omega, by omega, by simp [Hid, tot], Below.refl _ _⟩
    case round =>
      obtain ⟨k, l, hk, rfl, rfl, hl0, hl1, HS, hbk⟩ := hrel
      by_cases hlt : k < n
      · obtain ⟨b, off, rfl, hblt, hc⟩ := hlies.resolve_left (by omega)
        obtain ⟨da, dc, ea, _⟩ := hc k hlt
        obtain ⟨_, a0, a1, a2, a3, a4, a5, a6, a7, a8⟩ := ea.keep hbk
        have hE := hbd k hlt
        clear hc hlies ea
        go_wp2_with fail
        refine (szEntry_ex (X k) _ _ _ _ (by omega) hE.key hE.n).mono ?_
        rintro e w2 ⟨v, rfl, hv1, hv3, hb2⟩
        have hbw := hbk.trans (hb2.mono hbk.size)
        by_cases hv : v < 0
        · clear hv3
          go_wp2
          go_ret
          exact ⟨-1, rfl, by omega, by omega, fun h => by omega, hbw⟩
        · have hq := hv3 (by omega)
          have hvl : v ≤ left := by omega
          have HS' : Hid (v + n + tot X (k + 1) = left) := by
            have := HS.out
            unfold Hid tot
            omega
          clear hv3 hq
          go_wp2
          go_roundw
          case rel => exact ⟨k + 1, v, by omega, by go_num, rfl, by omega, hvl, HS', hbw⟩
          case measure => simp [intOf]; omega
      · have e : k = n := by omega
        subst e
        go_wp2
        go_ret
        exact ⟨l, rfl, by omega, by omega, fun _ => by have := HS.out; omega, hbk⟩
end Go.Proofs.YtfdbhkjmkpgomaaGreat

namespace Go.Proofs.YtfdbhkjmkpgomaaGreat
set_option maxRecDepth 100000
open Go.RowKit
set_option linter.unusedSimpArgs false
set_option linter.unusedVariables false

/-- An entry that bears the marks from k on. -/
def mkE (k : Int) (x : Ent) : Ent := ⟨mt k, k + 1, k + 2, k + 3, k + 4, k + 5, k + 6, x.n, fun i => if i < x.n then k + 7 + i else 0, (k + 7 + x.n) % 3 == 0⟩
/-- Entries in block b, their lists elsewhere, all apart and free to be written. -/
structure CE (w : World) (b n : Nat) (X : Nat → Ent) (L : Nat → Option Addr) (C : Nat → Nat) : Prop where
  lt : b < w.heap.size
  ent : ∀ i, i < n → EAt w b (i * 9) (X i) (L i) (C i)
  free : ∀ j, j < n * 9 → w.frozen? ⟨b, j, none⟩ = false
  hist : ∀ i, i < n → (X i).n = 0 ∨ ∃ g, L i = some ⟨g, 0, none⟩ ∧ g ≠ b ∧ IOwn w g 0 (X i).n (X i).f
  dis : ∀ i j, i < n → j < n → i ≠ j → 0 < (X i).n → 0 < (X j).n → ∀ g, L i = some ⟨g, 0, none⟩ → L j ≠ some ⟨g, 0, none⟩
/-- Only b and the lists have been written. -/
structure CO (b n : Nat) (X : Nat → Ent) (L : Nat → Option Addr) (w w' : World) : Prop where
  os : w'.os = w.os
  tape : w'.tape = w.tape
  output : w'.output = w.output
  size : w.heap.size ≤ w'.heap.size
  block : ∀ c, c < w.heap.size → c ≠ b → (∀ i, i < n → 0 < (X i).n → L i ≠ some ⟨c, 0, none⟩) → w'.heap[c]? = w.heap[c]?
theorem CO.refl (b n : Nat) (X : Nat → Ent) (L : Nat → Option Addr) (w : World) : CO b n X L w w := ⟨rfl, rfl, rfl, Nat.le_refl _, fun _ _ _ _ => rfl⟩
theorem CO.trans {b n : Nat} {X : Nat → Ent} {L : Nat → Option Addr} {u v w : World} (h : CO b n X L u v) (k : CO b n X L v w) : CO b n X L u w :=
  ⟨k.os.trans h.os, k.tape.trans h.tape, k.output.trans h.output, Nat.le_trans h.size k.size, fun c hc h1 h2 => (k.block c (Nat.lt_of_lt_of_le hc h.size) h1 h2).trans (h.block c hc h1 h2)⟩
theorem CO.of_below {b n : Nat} {X : Nat → Ent} {L : Nat → Option Addr} {w w' : World} (h : Below w.heap.size w w') : CO b n X L w w' := ⟨h.os, h.tape, h.output, h.size, fun c hc _ _ => h.block c hc⟩
theorem CO.of_others {b n : Nat} {X : Nat → Ent} {L : Nat → Option Addr} {w w' : World} (h : Others b w w') : CO b n X L w w' := ⟨h.os, h.tape, h.output, by rw [h.size]; exact Nat.le_refl _, fun c _ h1 _ => h.block c h1⟩
theorem CO.of_list {b n : Nat} {X : Nat → Ent} {L : Nat → Option Addr} {w w' : World} {g i : Nat} (h : Others g w w') (hi : i < n) (h0 : 0 < (X i).n) (hL : L i = some ⟨g, 0, none⟩) : CO b n X L w w' := ⟨h.os, h.tape, h.output, by rw [h.size]; exact Nat.le_refl _, fun c _ _ h2 => h.block c (fun e => h2 i hi h0 (by rw [e]; exact hL))⟩
theorem CE.keep {w w' : World} {b n : Nat} {X : Nat → Ent} {L : Nat → Option Addr} {C : Nat → Nat} (h : CE w b n X L C) (hb : Below w.heap.size w w') : CE w' b n X L C :=
  ⟨Nat.lt_of_lt_of_le h.lt hb.size, fun i hi => (h.ent i hi).keep hb, fun j hj => (hb.frozen (p := ⟨b, j, none⟩) h.lt).trans (h.free j hj),
    fun i hi => (h.hist i hi).elim .inl fun ⟨g, h1, h2, h3⟩ => .inr ⟨g, h1, h2, h3.keep hb⟩, h.dis⟩

/-- One entry's cells and list written over. -/
theorem CE.put {w w2 : World} {b n k : Nat} {X : Nat → Ent} {L : Nat → Option Addr} {C : Nat → Nat} {y : Ent} (h : CE w b n X L C) (hk : k < n) (hyn : y.n = (X k).n)
    (hsz : w.heap.size ≤ w2.heap.size) (he : EAt w2 b (k * 9) y (L k) (C k)) (hfz : ∀ j, w2.frozen? ⟨b, j, none⟩ = w.frozen? ⟨b, j, none⟩)
    (hcell : ∀ j, j < k * 9 ∨ k * 9 + 9 ≤ j → w2.cell? ⟨b, j, none⟩ = w.cell? ⟨b, j, none⟩)
    (hlist : y.n = 0 ∨ ∃ g, L k = some ⟨g, 0, none⟩ ∧ g ≠ b ∧ IOwn w2 g 0 y.n y.f)
    (hoth : ∀ i g, i < n → i ≠ k → 0 < (X i).n → L i = some ⟨g, 0, none⟩ → g ≠ b → w2.heap[g]? = w.heap[g]?) :
    CE w2 b n (fun i => if i = k then y else X i) L C := by
  have hlt : b < w2.heap.size := Nat.lt_of_lt_of_le h.lt hsz
  have hN : ∀ i, ((if i = k then y else X i) : Ent).n = (X i).n := fun i => by split <;> simp_all
  refine ⟨hlt, fun i hi => ?_, fun j hj => by rw [hfz]; exact h.free j hj, fun i hi => ?_, fun i j hi hj hij h1 h2 => by rw [hN] at h1 h2; exact h.dis i j hi hj hij h1 h2⟩
  · by_cases e : i = k
    · subst e; simp only [if_true]; exact he
    · simp only [e, if_false]
      have h0 := h.ent i hi
      have c : ∀ q, q < 9 → w2.cell? ⟨b, i * 9 + q, none⟩ = w.cell? ⟨b, i * 9 + q, none⟩ := fun q hq => hcell _ (by omega)
      exact ⟨hlt, (c 0 (by omega)).trans h0.c0, (c 1 (by omega)).trans h0.c1, (c 2 (by omega)).trans h0.c2, (c 3 (by omega)).trans h0.c3, (c 4 (by omega)).trans h0.c4, (c 5 (by omega)).trans h0.c5, (c 6 (by omega)).trans h0.c6, (c 7 (by omega)).trans h0.c7, (c 8 (by omega)).trans h0.c8⟩
  · by_cases e : i = k
    · subst e; simp only [if_true]; exact hlist
    · simp only [e, if_false]
      rcases h.hist i hi with h0 | ⟨g, h1, h2, h3⟩
      · exact .inl h0
      · by_cases hz : (X i).n = 0
        · exact .inl hz
        · have hb := hoth i g hi e (by omega) h1 h2
          exact .inr ⟨g, h1, h2, h3.bd, Nat.lt_of_lt_of_le h3.lt hsz, fun j hj => (World.cell?_of_block (w := w) (a := ⟨g, 0 + j, none⟩) hb).trans (h3.cell j hj), fun j hj => (World.frozen?_of_block (w := w) (a := ⟨g, 0 + j, none⟩) hb).trans (h3.free j hj)⟩
end Go.Proofs.YtfdbhkjmkpgomaaGreat

namespace Go.Proofs.YtfdbhkjmkpgomaaGreat
set_option maxRecDepth 100000
open Go.RowKit
set_option linter.unusedSimpArgs false
set_option linter.unusedVariables false

theorem CE.congr {w : World} {b n : Nat} {X X' : Nat → Ent} {L : Nat → Option Addr} {C : Nat → Nat} (h : CE w b n X L C) (e : ∀ i, i < n → X i = X' i) : CE w b n X' L C :=
  ⟨h.lt, fun i hi => by rw [← e i hi]; exact h.ent i hi, h.free, fun i hi => by rw [← e i hi]; exact h.hist i hi, fun i j hi hj hij => by rw [← e i hi, ← e j hj]; exact h.dis i j hi hj hij⟩
/-- The next mark behind the first i entries. -/
def kOf (X : Nat → Ent) (k0 : Nat) : Nat → Nat
  | 0 => k0
  | i + 1 => kOf X k0 i + 8 + (X i).n
theorem kOf_mono (X : Nat → Ent) (k0 : Nat) : ∀ {i j : Nat}, i ≤ j → kOf X k0 i ≤ kOf X k0 j
  | i, 0, h => by rw [show i = 0 by omega]; exact Nat.le_refl _
  | i, j + 1, h => by
    by_cases e : i = j + 1
    · rw [e]; exact Nat.le_refl _
    · have := kOf_mono X k0 (show i ≤ j by omega)
      show _ ≤ kOf X k0 j + 8 + (X j).n
      omega
theorem kOf_ge (X : Nat → Ent) (k0 i : Nat) : k0 ≤ kOf X k0 i := kOf_mono X k0 (Nat.zero_le i)

set_option maxHeartbeats 400000 in
theorem markI_zero (ao : Option Addr) (cap : Nat) (q : Int) (w : World) :
    Calls Tryz.prog 25 #[.slice ao 0 cap, .int .i64 q] w fun e w' => e = .returned (.int .i64 q) ∧ w' = w := by
  go_enter Tryz.func25, Tryz.ntmps25
  go_wp2
  go_loopw [1, 5] (fun p i wr => i = .int .i64 0 ∧ p = .int .i64 q ∧ wr = w) (fun _ _ _ => 0)
  case atStart => exact ⟨rfl, rfl, rfl⟩
  case round =>
    obtain ⟨rfl, rfl, rfl⟩ := hrel
    go_wp2
    go_ret
    exact ⟨rfl, rfl⟩

set_option maxRecDepth 100000 in
set_option maxHeartbeats 4000000 in
theorem markEntryS_any (b n cap k0 : Nat) (X : Nat → Ent) (L : Nat → Option Addr) (C : Nat → Nat) (w : World) (h : CE w b n X L C) (hk0 : 1 ≤ k0) (hz : ∀ i, i < n → (X i).n ≤ 1048576) (hn : n ≤ 1048576) (hbd : kOf X k0 n ≤ 16000000) :
    Calls Tryz.prog 12 #[.slice (some ⟨b, 0, none⟩) n cap, .int .i64 k0] w fun e w' => e = .returned (.int .i64 (kOf X k0 n : Int)) ∧ CE w' b n (fun i => if i < n then mkE (kOf X k0 i) (X i) else X i) L C ∧ CO b n X L w w' := by
  go_enter Tryz.func12, Tryz.ntmps12
  go_wp2
  go_loopw [1, 5] (fun q i wr => ∃ k : Nat, k ≤ n ∧ i = .int .i64 k ∧ q = .int .i64 (kOf X k0 k : Int) ∧ CE wr b n (fun i => if i < k then mkE (kOf X k0 i) (X i) else X i) L C ∧ CO b n X L w wr) (fun _ i _ => n - (intOf i).toNat)
  case atStart => exact ⟨0, Nat.zero_le _, rfl, rfl, by simpa using h, CO.refl _ _ _ _ _⟩
  case round =>
    obtain ⟨k, hk, rfl, rfl, hC, hCO⟩ := hrel
    clear h
    by_cases hlt : k < n
    · have hkb := kOf_mono X k0 (show k + 1 ≤ n by omega)
      have hkg := kOf_ge X k0 k
      have hks : kOf X k0 (k + 1) = kOf X k0 k + 8 + (X k).n := rfl
      have hzk := hz k hlt
      obtain ⟨kk, hkk⟩ : ∃ kk, kk = kOf X k0 k := ⟨_, rfl⟩
      rw [← hkk] at hkg hks ⊢
      have HK : Hid (kk = kOf X k0 k) := hkk
      have HKS : Hid (kOf X k0 (k + 1) = kk + 8 + (X k).n) := hks
      have hkt : kk + 8 + (X k).n ≤ 16000000 := by omega
      clear hkk hks hkb
      have hwn : IntKind.i64.wrap ((kk : Int) + 7 + ((X k).n : Int) + 1) = (kk : Int) + 7 + ((X k).n : Int) + 1 := by rw [IntKind.wrap_i64] <;> omega
      have hw1 : IntKind.i64.wrap ((kk : Int) + 1) = (kk : Int) + 1 := by rw [IntKind.wrap_i64] <;> omega
      have hw2 : IntKind.i64.wrap ((kk : Int) + 1 + 1) = (kk : Int) + 2 := by rw [IntKind.wrap_i64] <;> omega
      have hw3 : IntKind.i64.wrap ((kk : Int) + 2 + 1) = (kk : Int) + 3 := by rw [IntKind.wrap_i64] <;> omega
      have hw4 : IntKind.i64.wrap ((kk : Int) + 3 + 1) = (kk : Int) + 4 := by rw [IntKind.wrap_i64] <;> omega
      have hw5 : IntKind.i64.wrap ((kk : Int) + 4 + 1) = (kk : Int) + 5 := by rw [IntKind.wrap_i64] <;> omega
      have hw6 : IntKind.i64.wrap ((kk : Int) + 5 + 1) = (kk : Int) + 6 := by rw [IntKind.wrap_i64] <;> omega
      have hw7 : IntKind.i64.wrap ((kk : Int) + 6 + 1) = (kk : Int) + 7 := by rw [IntKind.wrap_i64] <;> omega
      go_wp2_with fail
      refine (markText_any (kk : Int) _ (by omega) (by omega)).mono ?_
      rintro e w1 ⟨rfl, hb1⟩
      have h1 := hC.keep hb1
      have e1 := h1.ent k hlt
      simp only [Nat.lt_irrefl, if_false] at e1
      obtain ⟨_, c0, c1, c2, c3, c4, c5, c6, c7, c8⟩ := e1
      have f0 := h1.free (k * 9) (by omega)
      have f1 := h1.free (k * 9 + 1) (by omega)
      have f2 := h1.free (k * 9 + 2) (by omega)
      have f3 := h1.free (k * 9 + 3) (by omega)
      have f4 := h1.free (k * 9 + 4) (by omega)
      have f5 := h1.free (k * 9 + 5) (by omega)
      have f6 := h1.free (k * 9 + 6) (by omega)
      have f7 := h1.free (k * 9 + 7) (by omega)
      have f8 := h1.free (k * 9 + 8) (by omega)
      have CO1 : CO b n X L w w1 := hCO.trans (CO.of_below hb1)
      clear hb1 hC hCO
      obtain ⟨w2, hw2⟩ : ∃ w2, w2 = w1.setCells b (k * 9) [.string (mt (kk : Int)), .int .i64 ((kk : Int) + 1), .int .i64 ((kk : Int) + 2), .int .i64 ((kk : Int) + 3), .int .i64 ((kk : Int) + 4), .int .i64 ((kk : Int) + 5), .int .i64 ((kk : Int) + 6)] := ⟨_, rfl⟩
      have ot2 : Others b w1 w2 := by rw [hw2]; exact setCells_others _ _ _ _
      have in2 : ∀ j (hj : j < 7), w2.cell? ⟨b, k * 9 + j, none⟩ = some (([.string (mt (kk : Int)), .int .i64 ((kk : Int) + 1), .int .i64 ((kk : Int) + 2), .int .i64 ((kk : Int) + 3), .int .i64 ((kk : Int) + 4), .int .i64 ((kk : Int) + 5), .int .i64 ((kk : Int) + 6)] : List Value)[j]'(by simpa using hj)) := fun j hj => by
        rw [hw2]
        exact World.cell?_setCells_in b [.string (mt (kk : Int)), .int .i64 ((kk : Int) + 1), .int .i64 ((kk : Int) + 2), .int .i64 ((kk : Int) + 3), .int .i64 ((kk : Int) + 4), .int .i64 ((kk : Int) + 5), .int .i64 ((kk : Int) + 6)] (k * 9) w1 (fun q hq => by
          have hq' : q < 7 := by simpa using hq
          have : q = 0 ∨ q = 1 ∨ q = 2 ∨ q = 3 ∨ q = 4 ∨ q = 5 ∨ q = 6 := by omega
          rcases this with rfl | rfl | rfl | rfl | rfl | rfl | rfl
          · rw [Nat.add_zero, c0]; rfl
          · rw [c1]; rfl
          · rw [c2]; rfl
          · rw [c3]; rfl
          · rw [c4]; rfl
          · rw [c5]; rfl
          · rw [c6]; rfl) j (by simpa using hj)
      have out2 : ∀ j, j < k * 9 ∨ k * 9 + 7 ≤ j → w2.cell? ⟨b, j, none⟩ = w1.cell? ⟨b, j, none⟩ := fun j hj => by
        rw [hw2]
        exact World.cell?_setCells_out b [.string (mt (kk : Int)), .int .i64 ((kk : Int) + 1), .int .i64 ((kk : Int) + 2), .int .i64 ((kk : Int) + 3), .int .i64 ((kk : Int) + 4), .int .i64 ((kk : Int) + 5), .int .i64 ((kk : Int) + 6)] (k * 9) w1 ⟨b, j, none⟩ (fun _ _ => by simpa using hj)
      have fz2 : ∀ a, w2.frozen? a = w1.frozen? a := fun a => by rw [hw2]; exact World.frozen?_setCells b _ _ _ a
      have hmark : Calls Tryz.prog 25 #[.slice (L k) (X k).n (C k), .int .i64 ((kk : Int) + 7)] w2 fun e w' => e = .returned (.int .i64 ((kk : Int) + 7 + ((X k).n : Int))) ∧ ((X k).n = 0 ∧ w' = w2 ∨ 0 < (X k).n ∧ ∃ g, L k = some ⟨g, 0, none⟩ ∧ g ≠ b ∧ Others g w2 w' ∧ ∃ fy, IOwn w' g 0 (X k).n fy ∧ ∀ i, i < (X k).n → fy i = (kk : Int) + 7 + i) := by
        by_cases hn0 : (X k).n = 0
        · rw [hn0]
          refine (markI_zero (L k) (C k) _ w2).mono ?_
          rintro e w' ⟨rfl, rfl⟩
          exact ⟨by simp, .inl ⟨rfl, rfl⟩⟩
        · have hh := h1.hist k hlt
          simp only [Nat.lt_irrefl, if_false] at hh
          obtain ⟨g, hg1, hg2, hg3⟩ := hh.resolve_left hn0
          have hsl : Value.slice (L k) (X k).n (C k) = .slice (some ⟨g, 0, none⟩) (X k).n (C k) := by rw [hg1]
          rw [hsl]
          have := markI_any g 0 (X k).n (C k) (X k).f (kk + 7) w2 (ot2.irow hg3 hg2) hzk (by omega)
          rw [show (((kk + 7 : Nat)) : Int) = (kk : Int) + 7 from by omega] at this
          refine this.mono ?_
          rintro e w' ⟨rfl, ⟨fy, h3, h4⟩, h5⟩
          exact ⟨by rw [show (((kk + 7 + (X k).n : Nat)) : Int) = (kk : Int) + 7 + ((X k).n : Int) from by rw [Int.natCast_add, Int.natCast_add]; rfl], .inr ⟨Nat.pos_of_ne_zero hn0, g, hg1, hg2, h5, fy, h3, fun i hi => by rw [h4 i hi, Int.natCast_add, Int.natCast_add]; rfl⟩⟩
      go_wp2_with fail
      change Calls Tryz.prog 25 _ (w1.setCells b (k * 9) [.string (mt (kk : Int)), .int .i64 ((kk : Int) + 1), .int .i64 ((kk : Int) + 2), .int .i64 ((kk : Int) + 3), .int .i64 ((kk : Int) + 4), .int .i64 ((kk : Int) + 5), .int .i64 ((kk : Int) + 6)]) _
      rw [← hw2]
      refine hmark.mono ?_
      rintro e w3 ⟨rfl, h3⟩
      have cb3 : ∀ j, w3.cell? ⟨b, j, none⟩ = w2.cell? ⟨b, j, none⟩ := fun j => by
        rcases h3 with ⟨_, rfl⟩ | ⟨_, g, _, hg, ho, _⟩
        · rfl
        · exact World.cell?_of_block (w := w2) (a := ⟨b, j, none⟩) (ho.block b (Ne.symm hg))
      have fb3 : ∀ j, w3.frozen? ⟨b, j, none⟩ = w2.frozen? ⟨b, j, none⟩ := fun j => by
        rcases h3 with ⟨_, rfl⟩ | ⟨_, g, _, hg, ho, _⟩
        · rfl
        · exact World.frozen?_of_block (w := w2) (a := ⟨b, j, none⟩) (ho.block b (Ne.symm hg))
      have d8 : w3.cell? ⟨b, k * 9 + 3 + 5, none⟩ = some (.bool (X k).fu) := by rw [show k * 9 + 3 + 5 = k * 9 + 8 from rfl, cb3, out2 _ (by omega), c8]
      have g8 : w3.frozen? ⟨b, k * 9 + 3 + 5, none⟩ = false := by rw [show k * 9 + 3 + 5 = k * 9 + 8 from rfl, fb3, fz2, f8]
      have hfin : CE (w3.setCell ⟨b, k * 9 + 3 + 5, none⟩ (.bool (((kk : Int) + 7 + ((X k).n : Int)) % 3 == 0))) b n (fun i => if i < k + 1 then mkE (kOf X k0 i) (X i) else X i) L C := by
        have hput := CE.put (w2 := w3.setCell ⟨b, k * 9 + 3 + 5, none⟩ (.bool (((kk : Int) + 7 + ((X k).n : Int)) % 3 == 0))) (y := mkE (kk : Int) (X k)) h1 hlt (by simp [mkE]) (by
            have := ot2.size
            rcases h3 with ⟨_, rfl⟩ | ⟨_, g, _, hg, ho, _⟩
            · simp; omega
            · have := ho.size; simp; omega) (by
            have q : ∀ j, j < 8 → (w3.setCell ⟨b, k * 9 + 3 + 5, none⟩ (.bool (((kk : Int) + 7 + ((X k).n : Int)) % 3 == 0))).cell? ⟨b, k * 9 + j, none⟩ = w2.cell? ⟨b, k * 9 + j, none⟩ := fun j hj => by
              rw [World.cell?_setCell_other _ _ _ _ (by intro hh; injection hh with _ h2 _; omega), cb3]
            refine ⟨by have := h1.lt; have := ot2.size; rcases h3 with ⟨_, rfl⟩ | ⟨_, g, _, hg, ho, _⟩; (simp; omega); (have := ho.size; simp; omega), ?_, ?_, ?_, ?_, ?_, ?_, ?_, ?_, ?_⟩
            · exact (q 0 (by omega)).trans (in2 0 (by omega))
            · exact (q 1 (by omega)).trans (in2 1 (by omega))
            · exact (q 2 (by omega)).trans (in2 2 (by omega))
            · exact (q 3 (by omega)).trans (in2 3 (by omega))
            · exact (q 4 (by omega)).trans (in2 4 (by omega))
            · exact (q 5 (by omega)).trans (in2 5 (by omega))
            · exact (q 6 (by omega)).trans (in2 6 (by omega))
            · rw [q 7 (by omega), out2 _ (by omega), c7]; rfl
            · exact World.cell?_setCell_same _ _ _ d8) (fun j => by rw [World.frozen?_setCell, fb3, fz2]) (fun j hj => by
            rw [World.cell?_setCell_other _ _ _ _ (by intro hh; injection hh with _ h2 _; omega), cb3, out2 _ (by omega)]) (by
            rcases h3 with ⟨h0, _⟩ | ⟨h0, g, hL, hg, ho, fy, hI, hfy⟩
            · exact .inl h0
            · exact .inr ⟨g, hL, hg, (Others.setCell _ _ _ _).irow (hI.congr (fun i => by simp only [mkE]; split <;> omega) (fun i hi => by rw [hfy i hi]; simp [mkE, hi])) hg⟩) (fun i g' hi hik h0 hL' hgb => by
            rw [(Others.setCell w3 b _ _).block g' hgb]
            rcases h3 with ⟨_, rfl⟩ | ⟨hp, g, hL, hg, ho, _⟩
            · exact ot2.block g' hgb
            · have hne : g' ≠ g := fun e => by
                subst e
                have hN : ∀ j, ((if j < k then mkE (kOf X k0 j) (X j) else X j) : Ent).n = (X j).n := fun j => by split <;> rfl
                exact h1.dis i k hi hlt hik h0 (by rw [hN]; exact hp) g' hL' hL
              rw [ho.block g' hne, ot2.block g' hgb])
        have hk' := HK.out
        refine hput.congr (fun i _ => ?_)
        by_cases e : i = k
        · subst e; simp [← hk']
        · by_cases e2 : i < k
          · simp [e, e2, show i < k + 1 by omega]
          · simp [e, e2, show ¬ i < k + 1 by omega]
      have hco : CO b n X L w (w3.setCell ⟨b, k * 9 + 3 + 5, none⟩ (.bool (((kk : Int) + 7 + ((X k).n : Int)) % 3 == 0))) := by
        refine ((CO1.trans (CO.of_others ot2)).trans ?_).trans (CO.of_others (Others.setCell _ _ _ _))
        rcases h3 with ⟨_, rfl⟩ | ⟨hp, g, hL, hg, ho, _⟩
        · exact CO.refl _ _ _ _ _
        · exact CO.of_list ho hlt hp hL
      clear hmark c0 c1 c2 c3 c4 c5 c6 c7 c8 f0 f1 f2 f3 f4 f5 f6 f7 f8 hw2 cb3 fb3 in2 out2 fz2 h3 h1 ot2 CO1
      go_wp2
      go_roundw
      case rel => exact ⟨k + 1, by omega, by go_num, by rw [HKS.out]; congr 1; omega, hfin, hco⟩
      case measure => simp [intOf]; omega
    · have e : k = n := by omega
      subst e
      go_wp2
      go_ret
      exact ⟨rfl, hC, hCO⟩
end Go.Proofs.YtfdbhkjmkpgomaaGreat

namespace Go.Proofs.YtfdbhkjmkpgomaaGreat
set_option maxRecDepth 100000
open Go.RowKit
set_option linter.unusedSimpArgs false
set_option linter.unusedVariables false

set_option maxHeartbeats 400000 in
theorem heldI_from (ao : Option Addr) (n cap : Nat) (q : Int) (f : Nat → Int) (w : World) (hr : IRow w ao n f) (hf : ∀ i, i < n → f i = q + i) (hn : n ≤ 1048576) (hq : 0 ≤ q ∧ q ≤ 16000000) :
    Calls Tryz.prog 26 #[.slice ao n cap, .int .i64 q] w fun e w' => e = .returned (.int .i64 (q + n)) ∧ Below w.heap.size w w' := by
  obtain ⟨hbd, hl⟩ := hr
  go_enter Tryz.func26, Tryz.ntmps26
  go_wp2
  go_loopw [1, 5] (fun p i wr => ∃ k : Nat, k ≤ n ∧ i = .int .i64 k ∧ p = .int .i64 (q + k) ∧ Below w.heap.size w wr) (fun _ i _ => n - (intOf i).toNat)
  case atStart => exact ⟨0, Nat.zero_le _, rfl, by simp, Below.refl _ _⟩
  case round =>
    obtain ⟨k, hk, rfl, rfl, hbk⟩ := hrel
    by_cases hlt : k < n
    · obtain ⟨b, off, rfl, hblt, hc⟩ := hl.resolve_left (by omega)
      have h1 : wr.cell? ⟨b, off + k, none⟩ = some (.int .i64 (q + k)) := by rw [← hf k hlt]; exact (hbk.cell (p := ⟨b, off + k, none⟩) hblt).trans (hc k hlt)
      have hw : IntKind.i64.wrap (q + (k : Int) + 1) = q + ((k + 1 : Nat) : Int) := by rw [IntKind.wrap_i64] <;> omega
      clear hc hl hbd hf
      go_wp2
      go_roundw
      case rel => exact ⟨k + 1, by omega, by go_num, by first | rfl | go_num, hbk⟩
      case measure => simp [intOf]; omega
    · have e : k = n := by omega
      subst e
      go_wp2
      go_ret
      exact ⟨rfl, hbk⟩

set_option maxRecDepth 100000 in
set_option maxHeartbeats 4000000 in
theorem heldEntryS_yes (b n cap k0 : Nat) (X : Nat → Ent) (L : Nat → Option Addr) (C : Nat → Nat) (w : World) (hE : ∀ i, i < n → EAt w b (i * 9) (mkE (kOf X k0 i) (X i)) (L i) (C i)) (hI : ∀ i, i < n → IRow w (L i) (X i).n (mkE (kOf X k0 i) (X i)).f) (hk0 : 1 ≤ k0) (hz : ∀ i, i < n → (X i).n ≤ 1048576) (hn : n ≤ 1048576) (hbd : kOf X k0 n ≤ 16000000) :
    Calls Tryz.prog 13 #[.slice (some ⟨b, 0, none⟩) n cap, .int .i64 k0] w fun e w' => e = .returned (.int .i64 (kOf X k0 n : Int)) ∧ Below w.heap.size w w' := by
  go_enter Tryz.func13, Tryz.ntmps13
  go_wp2
  go_loopw [1, 5] (fun q i wr => ∃ k : Nat, k ≤ n ∧ i = .int .i64 k ∧ q = .int .i64 (kOf X k0 k : Int) ∧ Below w.heap.size w wr) (fun _ i _ => n - (intOf i).toNat)
  case atStart => exact ⟨0, Nat.zero_le _, rfl, rfl, Below.refl _ _⟩
  case round =>
    obtain ⟨k, hk, rfl, rfl, hbk⟩ := hrel
    by_cases hlt : k < n
    · have hkb := kOf_mono X k0 (show k + 1 ≤ n by omega)
      have hkg := kOf_ge X k0 k
      have hks : kOf X k0 (k + 1) = kOf X k0 k + 8 + (X k).n := rfl
      have hzk := hz k hlt
      have ek := (hE k hlt).keep hbk
      have ik := (hI k hlt).keep hbk
      obtain ⟨kk, hkk⟩ : ∃ kk, kk = kOf X k0 k := ⟨_, rfl⟩
      rw [← hkk] at hkg hks ek ik ⊢
      have HKS : Hid (kOf X k0 (k + 1) = kk + 8 + (X k).n) := hks
      have hkt : kk + 8 + (X k).n ≤ 16000000 := by omega
      clear hkk hks hkb hE hI
      have hq0 : (0 : Int) ≤ (k : Int) := by omega
      have hq1 : (k : Int) < (n : Int) := by omega
      have hwn : IntKind.i64.wrap ((kk : Int) + 7 + ((X k).n : Int) + 1) = (kk : Int) + 7 + ((X k).n : Int) + 1 := by rw [IntKind.wrap_i64] <;> omega
      have hw1 : IntKind.i64.wrap ((kk : Int) + 1) = (kk : Int) + 1 := by rw [IntKind.wrap_i64] <;> omega
      have hw2 : IntKind.i64.wrap ((kk : Int) + 1 + 1) = (kk : Int) + 2 := by rw [IntKind.wrap_i64] <;> omega
      have hw3 : IntKind.i64.wrap ((kk : Int) + 2 + 1) = (kk : Int) + 3 := by rw [IntKind.wrap_i64] <;> omega
      have hw4 : IntKind.i64.wrap ((kk : Int) + 3 + 1) = (kk : Int) + 4 := by rw [IntKind.wrap_i64] <;> omega
      have hw5 : IntKind.i64.wrap ((kk : Int) + 4 + 1) = (kk : Int) + 5 := by rw [IntKind.wrap_i64] <;> omega
      have hw6 : IntKind.i64.wrap ((kk : Int) + 5 + 1) = (kk : Int) + 6 := by rw [IntKind.wrap_i64] <;> omega
      have hw7 : IntKind.i64.wrap ((kk : Int) + 6 + 1) = (kk : Int) + 7 := by rw [IntKind.wrap_i64] <;> omega
      have hneg : ¬ (kk : Int) + 7 + ((X k).n : Int) < 0 := by omega
      have hnegd : decide ((kk : Int) + 7 + ((X k).n : Int) < 0) = false := by simpa using hneg
      have hh := fun W h => heldI_from (L k) (X k).n (C k) ((kk : Int) + 7) (mkE (kk : Int) (X k)).f W h (fun i hi => by simp [mkE, hi]) hzk (by omega)
      obtain ⟨_, a0, a1, a2, a3, a4, a5, a6, a7, a8⟩ := id ek
      simp only [mkE] at a0 a1 a2 a3 a4 a5 a6 a7 a8
      go_wp2
      go_region_held3 (fun w' => w'.cell? ⟨b, k * 9, none⟩ = some (.string (mt (kk : Int)))) (go_keep) (first | (go_at_call 24; refine (markText_any (kk : Int) _ (by omega) (by omega)).mono ?_; rintro e w1 ⟨rfl, hb1⟩; have hb1' := (Below.refl _ wr).drew.trans hb1; have ek1 := ek.keep hb1'; have ik1 := ik.keep hb1'; obtain ⟨_, c0, c1, c2, c3, c4, c5, c6, c7, c8⟩ := id ek1; simp only [mkE] at c0 c1 c2 c3 c4 c5 c6 c7 c8; have bw1 := hbk.trans (hb1'.mono hbk.size); clear hb1 hb1'))
      go_wp2_with fail
      refine (hh _ ik1).mono ?_
      rintro e w2 ⟨rfl, hb2⟩
      have d8 := (ek1.keep hb2).c8
      simp only [mkE] at d8
      have bw2 := bw1.trans (hb2.mono bw1.size)
      clear hb2 hh
      go_wp2
      go_roundw
      case rel => exact ⟨k + 1, by omega, by go_num, by rw [HKS.out]; congr 1; omega, bw2⟩
      case measure => simp [intOf]; omega
    · have e : k = n := by omega
      subst e
      go_wp2
      go_ret
      exact ⟨rfl, hbk⟩
end Go.Proofs.YtfdbhkjmkpgomaaGreat
