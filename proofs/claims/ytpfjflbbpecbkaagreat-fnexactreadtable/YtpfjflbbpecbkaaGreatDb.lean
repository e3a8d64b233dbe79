/- What the measure of entries says of them all together. / Rows of texts: measured, copied, compared, marked; marks of ints. / Entries marked. / markEntryS. / Entries that may be written, and how far their marks go. / What BuildTable answers. / BuildTable in the program. / BuildTable in the model. / The law of BuildTable. / Entries that hold the same make the same table. / Numbers of fixed length: what ReadFixed reads. / A number comes back from PutFixed's bytes. / Where the parts of a table lie. -/
import Derived.Test.YtpfjflbbpecbkaaGreatGdS
import Derived.Test.YtpfjflbbpecbkaaGreatIL
import Derived.Laws.BytesArg
import Derived.Maps.AppendAt
import Derived.OwnWalk
import Derived.Test.YtpfjflbbpecbkaaGreatRf
import Derived.Test.YtpfjflbbpecbkaaGreatTw
import Derived.Test.YtpfjflbbpecbkaaGreatBd
import Derived.Test.YtpfjflbbpecbkaaGreatBef
import Derived.Test.YtpfjflbbpecbkaaGreatGoS
import Derived.Test.YtpfjflbbpecbkaaGreatFo
import Derived.Test.YtpfjflbbpecbkaaGreatBV
import Derived.Test.YtpfjflbbpecbkaaGreatCe
import Derived.OpenShut
import Derived.Test.YtpfjflbbpecbkaaGreatLists
import Derived.Test.YtpfjflbbpecbkaaGreatRt
namespace Go.Proofs.YtpfjflbbpecbkaaGreat
set_option maxRecDepth 100000
open Go.RowKit
set_option linter.unusedSimpArgs false
set_option linter.unusedVariables false

/-- What an exact measure leaves: d is taken away, or it says no. -/
def SzX (left : Int) (d : Int) (w : World) (e : Ending) (w' : World) : Prop :=
  ∃ v : Int, e = .returned (.int .i64 v) ∧ -1 ≤ v ∧ (0 ≤ v → v = left - d) ∧ Below w.heap.size w w'

/-- The letters and numbers of the first k together. -/
def tot (X : Nat → Ent) : Nat → Nat
  | 0 => 0
  | k + 1 => tot X k + ((X k).key.size + (X k).n)
theorem tot_size {X : Nat → Ent} {B : Nat} : ∀ {n : Nat}, tot X n ≤ B → ∀ i, i < n → (X i).key.size ≤ B ∧ (X i).n ≤ B
  | 0, _, i, hi => by omega
  | n + 1, h, i, hi => by
    unfold tot at h
    by_cases e : i = n
    · subst e; omega
    · exact tot_size (n := n) (by omega) i (by omega)

end Go.Proofs.YtpfjflbbpecbkaaGreat

namespace Go.Proofs.YtpfjflbbpecbkaaGreat
set_option maxRecDepth 100000
open Go.RowKit
set_option linter.unusedSimpArgs false
set_option linter.unusedVariables false

theorem OwnI.kept {w w' : World} {base : Nat} {v : Value} {L : List Int} {row : Option Nat} (h : OwnI w base v L) (hg : w.grownBy w' row) (hne : ∀ k, row = some k → v.ownBlock ≠ some k) : OwnI w' base v L := by
  refine ⟨h.bd, h.own.kept hg ?_⟩
  cases hr : v.ownBlock with
  | none => exact .inl rfl
  | some k => exact .inr fun e => hne k e.symm hr
theorem IOwn.grown {w w' : World} {c b off n : Nat} {f : Nat → Int} (h : IOwn w b off n f) (hg : w.grownBy w' (some c)) (hne : b ≠ c) : IOwn w' b off n f :=
  ⟨h.bd, Nat.lt_of_lt_of_le h.lt hg.size, fun i hi => hg.cell (h.cell i hi) (fun e => hne (Option.some.inj e)), fun i hi => (World.frozen?_of_block (w := w) (a := ⟨b, off + i, none⟩) (hg.block b h.lt (fun e => hne (Option.some.inj e)))).trans (h.free i hi)⟩

def mI (k0 : Nat) (i : Nat) : Int := ((k0 + i : Nat) : Int)
set_option maxHeartbeats 400000 in
theorem markI_any (g off n cap : Nat) (f : Nat → Int) (k0 : Nat) (w : World) (ho : IOwn w g off n f) (hn : n ≤ 1048576) (hk0 : k0 ≤ 16777216) :
    Calls Tryz.prog 25 #[.slice (some ⟨g, off, none⟩) n cap, .int .i64 k0] w fun e w' => e = .returned (.int .i64 ((k0 + n : Nat) : Int)) ∧ (∃ fy, IOwn w' g off n fy ∧ ∀ i, i < n → fy i = ((k0 + i : Nat) : Int)) ∧ Others g w w' := by
  go_enter Tryz.func25, Tryz.ntmps25
  go_wp2
  go_loopw [1, 5] (fun q i wr => ∃ k : Nat, k ≤ n ∧ i = .int .i64 k ∧ q = .int .i64 ((k0 + k : Nat) : Int) ∧ IOwn wr g off n (fun j => if j < k then ((k0 + j : Nat) : Int) else f j) ∧ Others g w wr) (fun _ i _ => n - (intOf i).toNat)
  case atStart => exact ⟨0, Nat.zero_le _, rfl, by simp, by simpa using ho, Others.refl _ _⟩
  case round =>
    obtain ⟨k, hk, rfl, rfl, hok, hbk⟩ := hrel
    by_cases hlt : k < n
    · have hd := hok.cell k hlt
      have hfz := hok.free k hlt
      have hst := hok.store k hlt (((k0 + k : Nat) : Int)) (by omega)
      rw [Int.natCast_add] at hst
      clear ho
      go_wp2
      go_roundw
      case rel =>
        refine ⟨k + 1, by omega, by go_num, by go_num, hst.congr (fun i => ?_) (fun i _ => ?_), hbk.trans (Others.setCell _ _ _ _)⟩
        · have := hok.bd i
          by_cases h : i < k + 1
          · simp only [h, if_true]; omega
          · rw [if_neg (by omega)] at this; rw [if_neg h]; exact this
        · by_cases h1 : i = k
          · subst h1; rw [if_pos rfl, if_pos (by omega), Int.natCast_add]
          · by_cases h2 : i < k
            · rw [if_neg h1, if_pos h2, if_pos (by omega)]
            · rw [if_neg h1, if_neg h2, if_neg (by omega)]
      case measure => simp [intOf]; omega
    · go_wp2
      go_ret
      have : k = n := by omega
      subst this
      exact ⟨rfl, ⟨_, hok, fun i hi => by rw [if_pos hi]⟩, hbk⟩

set_option maxHeartbeats 400000 in
theorem markI_none (ao : Option Addr) (cap : Nat) (w : World) :
    Calls Tryz.prog 25 #[.slice ao 0 cap, .int .i64 1] w fun e w' => e = .returned (.int .i64 1) ∧ w' = w := by
  go_enter Tryz.func25, Tryz.ntmps25
  go_wp2
  go_loopw [1, 5] (fun q i wr => i = .int .i64 0 ∧ q = .int .i64 1 ∧ wr = w) (fun _ _ _ => 0)
  case atStart => exact ⟨rfl, rfl, rfl⟩
  case round =>
    obtain ⟨rfl, rfl, rfl⟩ := hrel
    go_wp2
    go_ret
    exact ⟨rfl, rfl⟩

set_option maxHeartbeats 400000 in
theorem heldI_yes (ao : Option Addr) (n cap : Nat) (f : Nat → Int) (w : World) (hr : IRow w ao n f) (hf : ∀ i, i < n → f i = ((1 + i : Nat) : Int)) (hn : n ≤ 1048576) :
    Calls Tryz.prog 26 #[.slice ao n cap, .int .i64 1] w fun e w' => e = .returned (.int .i64 ((1 + n : Nat) : Int)) ∧ Below w.heap.size w w' := by
  obtain ⟨hbd, hl⟩ := hr
  go_enter Tryz.func26, Tryz.ntmps26
  go_wp2
  go_loopw [1, 5] (fun q i wr => ∃ k : Nat, k ≤ n ∧ i = .int .i64 k ∧ q = .int .i64 ((1 + k : Nat) : Int) ∧ Below w.heap.size w wr) (fun _ i _ => n - (intOf i).toNat)
  case atStart => exact ⟨0, Nat.zero_le _, rfl, by simp, Below.refl _ _⟩
  case round =>
    obtain ⟨k, hk, rfl, rfl, hbk⟩ := hrel
    by_cases hlt : k < n
    · obtain ⟨b, off, rfl, hblt, hc⟩ := hl.resolve_left (by omega)
      have h1 : wr.cell? ⟨b, off + k, none⟩ = some (.int .i64 ((1 + k : Nat) : Int)) := by rw [← hf k hlt]; exact (hbk.cell (p := ⟨b, off + k, none⟩) hblt).trans (hc k hlt)
      clear hc hl hbd hf
      go_wp2
      go_roundw
      case rel => exact ⟨k + 1, by omega, by go_num, by go_num, hbk⟩
      case measure => simp [intOf]; omega
    · go_wp2
      go_ret
      have : k = n := by omega
      subst this
      exact ⟨rfl, hbk⟩

/-- What marks laid into a slice of the call's own leave. -/
theorem markOwn_any (lo : Option Addr) (lc base : Nat) (L : List Int) (w : World) (ho : OwnI w base (.slice lo L.length lc) L) (hn : L.length ≤ 1048576) :
    Calls Tryz.prog 25 #[.slice lo L.length lc, .int .i64 1] w fun e w' => e = .returned (.int .i64 ((1 + L.length : Nat) : Int)) ∧ (∃ f, IRow w' lo L.length f ∧ ∀ i, i < L.length → f i = ((1 + i : Nat) : Int)) ∧ w.grownBy w' (Value.slice lo L.length lc).ownBlock := by
  by_cases h0 : L.length = 0
  · rw [h0]
    refine (markI_none lo lc w).mono ?_
    rintro e w' ⟨rfl, rfl⟩
    exact ⟨rfl, ⟨fun _ => 0, ⟨fun _ => by omega, .inl rfl⟩, fun i hi => by omega⟩, World.grownBy.refl _ _⟩
  · obtain ⟨g, cap, e, hb, hc, hO⟩ := ho.own' (by omega)
    injection e with e1 _ e3
    subst e1 e3
    refine (markI_any g 0 L.length _ (fi L) 1 w hO hn (by omega)).mono ?_
    rintro e w' ⟨rfl, ⟨fy, h1, h2⟩, h3⟩
    exact ⟨rfl, ⟨fy, h1.row, h2⟩, h3.grown⟩
end Go.Proofs.YtpfjflbbpecbkaaGreat

namespace Go.Proofs.YtpfjflbbpecbkaaGreat
set_option maxRecDepth 100000
open Go.RowKit
set_option linter.unusedSimpArgs false
set_option linter.unusedVariables false

/-- An entry that bears the marks from k on. -/
def mkE (k : Int) (x : Ent) : Ent := ⟨mt k, k + 1, k + 2, k + 3, k + 4, k + 5, k + 6, x.n, fun i => if i < x.n then k + 7 + i else 0, (k + 7 + x.n) % 3 == 0⟩
/-- Entries in block b, their lists elsewhere, all apart and free to be written. -/
structure CE (w : World) (b n : Nat) (X : Nat → Ent) (L : Nat → Option Addr) (C : Nat → Nat) : Prop where
  lt : b < w.heap.size
  ent : ∀ i, i < n → EAt w b (i * 9) (X i) (L i) (C i)
  free : ∀ j, j < n * 9 → w.frozen? ⟨b, j, none⟩ = false
  hist : ∀ i, i < n → (X i).n = 0 ∨ ∃ g, L i = some ⟨g, 0, none⟩ ∧ g ≠ b ∧ IOwn w g 0 (X i).n (X i).f
  dis : ∀ i j, i < n → j < n → i ≠ j → 0 < (X i).n → 0 < (X j).n → ∀ g, L i = some ⟨g, 0, none⟩ → L j ≠ some ⟨g, 0, none⟩
/-- Only b and the lists have been written. -/
structure CO (b n : Nat) (X : Nat → Ent) (L : Nat → Option Addr) (w w' : World) : Prop where
  os : w'.os = w.os
  tape : w'.tape = w.tape
  output : w'.output = w.output
  size : w.heap.size ≤ w'.heap.size
  block : ∀ c, c < w.heap.size → c ≠ b → (∀ i, i < n → 0 < (X i).n → L i ≠ some ⟨c, 0, none⟩) → w'.heap[c]? = w.heap[c]?
theorem CO.refl (b n : Nat) (X : Nat → Ent) (L : Nat → Option Addr) (w : World) : CO b n X L w w := ⟨rfl, rfl, rfl, Nat.le_refl _, fun _ _ _ _ => rfl⟩
theorem CO.trans {b n : Nat} {X : Nat → Ent} {L : Nat → Option Addr} {u v w : World} (h : CO b n X L u v) (k : CO b n X L v w) : CO b n X L u w :=
  ⟨k.os.trans h.os, k.tape.trans h.tape, k.output.trans h.output, Nat.le_trans h.size k.size, fun c hc h1 h2 => (k.block c (Nat.lt_of_lt_of_le hc h.size) h1 h2).trans (h.block c hc h1 h2)⟩
theorem CO.of_below {b n : Nat} {X : Nat → Ent} {L : Nat → Option Addr} {w w' : World} (h : Below w.heap.size w w') : CO b n X L w w' := ⟨h.os, h.tape, h.output, h.size, fun c hc _ _ => h.block c hc⟩
theorem CO.of_others {b n : Nat} {X : Nat → Ent} {L : Nat → Option Addr} {w w' : World} (h : Others b w w') : CO b n X L w w' := ⟨h.os, h.tape, h.output, by rw [h.size]; exact Nat.le_refl _, fun c _ h1 _ => h.block c h1⟩
theorem CO.of_list {b n : Nat} {X : Nat → Ent} {L : Nat → Option Addr} {w w' : World} {g i : Nat} (h : Others g w w') (hi : i < n) (h0 : 0 < (X i).n) (hL : L i = some ⟨g, 0, none⟩) : CO b n X L w w' := ⟨h.os, h.tape, h.output, by rw [h.size]; exact Nat.le_refl _, fun c _ _ h2 => h.block c (fun e => h2 i hi h0 (by rw [e]; exact hL))⟩
theorem CE.keep {w w' : World} {b n : Nat} {X : Nat → Ent} {L : Nat → Option Addr} {C : Nat → Nat} (h : CE w b n X L C) (hb : Below w.heap.size w w') : CE w' b n X L C :=
  ⟨Nat.lt_of_lt_of_le h.lt hb.size, fun i hi => (h.ent i hi).keep hb, fun j hj => (hb.frozen (p := ⟨b, j, none⟩) h.lt).trans (h.free j hj),
    fun i hi => (h.hist i hi).elim .inl fun ⟨g, h1, h2, h3⟩ => .inr ⟨g, h1, h2, h3.keep hb⟩, h.dis⟩

/-- One entry's cells and list written over. -/
theorem CE.put {w w2 : World} {b n k : Nat} {X : Nat → Ent} {L : Nat → Option Addr} {C : Nat → Nat} {y : Ent} (h : CE w b n X L C) (hk : k < n) (hyn : y.n = (X k).n)
    (hsz : w.heap.size ≤ w2.heap.size) (he : EAt w2 b (k * 9) y (L k) (C k)) (hfz : ∀ j, w2.frozen? ⟨b, j, none⟩ = w.frozen? ⟨b, j, none⟩)
    (hcell : ∀ j, j < k * 9 ∨ k * 9 + 9 ≤ j → w2.cell? ⟨b, j, none⟩ = w.cell? ⟨b, j, none⟩)
    (hlist : y.n = 0 ∨ ∃ g, L k = some ⟨g, 0, none⟩ ∧ g ≠ b ∧ IOwn w2 g 0 y.n y.f)
    (hoth : ∀ i g, i < n → i ≠ k → 0 < (X i).n → L i = some ⟨g, 0, none⟩ → g ≠ b → w2.heap[g]? = w.heap[g]?) :
    CE w2 b n (fun i => if i = k then y else X i) L C := by
  have hlt : b < w2.heap.size := Nat.lt_of_lt_of_le h.lt hsz
  have hN : ∀ i, ((if i = k then y else X i) : Ent).n = (X i).n := fun i => by split <;> simp_all
  refine ⟨hlt, fun i hi => ?_, fun j hj => by rw [hfz]; exact h.free j hj, fun i hi => ?_, fun i j hi hj hij h1 h2 => by rw [hN] at h1 h2; exact h.dis i j hi hj hij h1 h2⟩
  · by_cases e : i = k
    · subst e; simp only [if_true]; exact he
    · simp only [e, if_false]
      have h0 := h.ent i hi
      have c : ∀ q, q < 9 → w2.cell? ⟨b, i * 9 + q, none⟩ = w.cell? ⟨b, i * 9 + q, none⟩ := fun q hq => hcell _ (by omega)
      exact ⟨hlt, (c 0 (by omega)).trans h0.c0, (c 1 (by omega)).trans h0.c1, (c 2 (by omega)).trans h0.c2, (c 3 (by omega)).trans h0.c3, (c 4 (by omega)).trans h0.c4, (c 5 (by omega)).trans h0.c5, (c 6 (by omega)).trans h0.c6, (c 7 (by omega)).trans h0.c7, (c 8 (by omega)).trans h0.c8⟩
  · by_cases e : i = k
    · subst e; simp only [if_true]; exact hlist
    · simp only [e, if_false]
      rcases h.hist i hi with h0 | ⟨g, h1, h2, h3⟩
      · exact .inl h0
      · by_cases hz : (X i).n = 0
        · exact .inl hz
        · have hb := hoth i g hi e (by omega) h1 h2
          exact .inr ⟨g, h1, h2, h3.bd, Nat.lt_of_lt_of_le h3.lt hsz, fun j hj => (World.cell?_of_block (w := w) (a := ⟨g, 0 + j, none⟩) hb).trans (h3.cell j hj), fun j hj => (World.frozen?_of_block (w := w) (a := ⟨g, 0 + j, none⟩) hb).trans (h3.free j hj)⟩
end Go.Proofs.YtpfjflbbpecbkaaGreat

namespace Go.Proofs.YtpfjflbbpecbkaaGreat
set_option maxRecDepth 100000
open Go.RowKit
set_option linter.unusedSimpArgs false
set_option linter.unusedVariables false

theorem CE.congr {w : World} {b n : Nat} {X X' : Nat → Ent} {L : Nat → Option Addr} {C : Nat → Nat} (h : CE w b n X L C) (e : ∀ i, i < n → X i = X' i) : CE w b n X' L C :=
  ⟨h.lt, fun i hi => by rw [← e i hi]; exact h.ent i hi, h.free, fun i hi => by rw [← e i hi]; exact h.hist i hi, fun i j hi hj hij => by rw [← e i hi, ← e j hj]; exact h.dis i j hi hj hij⟩
/-- The next mark behind the first i entries. -/
def kOf (X : Nat → Ent) (k0 : Nat) : Nat → Nat
  | 0 => k0
  | i + 1 => kOf X k0 i + 8 + (X i).n
theorem kOf_mono (X : Nat → Ent) (k0 : Nat) : ∀ {i j : Nat}, i ≤ j → kOf X k0 i ≤ kOf X k0 j
  | i, 0, h => by rw [show i = 0 by omega]; exact Nat.le_refl _
  | i, j + 1, h => by
    by_cases e : i = j + 1
    · rw [e]; exact Nat.le_refl _
    · have := kOf_mono X k0 (show i ≤ j by omega)
      show _ ≤ kOf X k0 j + 8 + (X j).n
      omega
theorem kOf_ge (X : Nat → Ent) (k0 i : Nat) : k0 ≤ kOf X k0 i := kOf_mono X k0 (Nat.zero_le i)

set_option maxHeartbeats 400000 in
theorem markI_zero (ao : Option Addr) (cap : Nat) (q : Int) (w : World) :
    Calls Tryz.prog 25 #[.slice ao 0 cap, .int .i64 q] w fun e w' => e = .returned (.int .i64 q) ∧ w' = w := by
  go_enter Tryz.func25, Tryz.ntmps25
  go_wp2
  go_loopw [1, 5] (fun p i wr => i = .int .i64 0 ∧ p = .int .i64 q ∧ wr = w) (fun _ _ _ => 0)
  case atStart => exact ⟨rfl, rfl, rfl⟩
  case round =>
    obtain ⟨rfl, rfl, rfl⟩ := hrel
    go_wp2
    go_ret
    exact ⟨rfl, rfl⟩

set_option maxRecDepth 100000 in
set_option maxHeartbeats 4000000 in
theorem markEntryS_any (b n cap k0 : Nat) (X : Nat → Ent) (L : Nat → Option Addr) (C : Nat → Nat) (w : World) (h : CE w b n X L C) (hk0 : 1 ≤ k0) (hz : ∀ i, i < n → (X i).n ≤ 1048576) (hn : n ≤ 1048576) (hbd : kOf X k0 n ≤ 16000000) :
    Calls Tryz.prog 13 #[.slice (some ⟨b, 0, none⟩) n cap, .int .i64 k0] w fun e w' => e = .returned (.int .i64 (kOf X k0 n : Int)) ∧ CE w' b n (fun i => if i < n then mkE (kOf X k0 i) (X i) else X i) L C ∧ CO b n X L w w' := by
  go_enter Tryz.func13, Tryz.ntmps13
  go_wp2
  go_loopw [1, 5] (fun q i wr => ∃ k : Nat, k ≤ n ∧ i = .int .i64 k ∧ q = .int .i64 (kOf X k0 k : Int) ∧ CE wr b n (fun i => if i < k then mkE (kOf X k0 i) (X i) else X i) L C ∧ CO b n X L w wr) (fun _ i _ => n - (intOf i).toNat)
  case atStart => exact ⟨0, Nat.zero_le _, rfl, rfl, by simpa using h, CO.refl _ _ _ _ _⟩
  case round =>
    obtain ⟨k, hk, rfl, rfl, hC, hCO⟩ := hrel
    clear h
    by_cases hlt : k < n
    · have hkb := kOf_mono X k0 (show k + 1 ≤ n by omega)
      have hkg := kOf_ge X k0 k
      have hks : kOf X k0 (k + 1) = kOf X k0 k + 8 + (X k).n := rfl
      have hzk := hz k hlt
      obtain ⟨kk, hkk⟩ : ∃ kk, kk = kOf X k0 k := ⟨_, rfl⟩
      rw [← hkk] at hkg hks ⊢
      have HK : Hid (kk = kOf X k0 k) := hkk
      have HKS : Hid (kOf X k0 (k + 1) = kk + 8 + (X k).n) := hks
      have hkt : kk + 8 + (X k).n ≤ 16000000 := by omega
      clear hkk hks hkb
      have hwn : IntKind.i64.wrap ((kk : Int) + 7 + ((X k).n : Int) + 1) = (kk : Int) + 7 + ((X k).n : Int) + 1 := by rw [IntKind.wrap_i64] <;> omega
      have hw1 : IntKind.i64.wrap ((kk : Int) + 1) = (kk : Int) + 1 := by rw [IntKind.wrap_i64] <;> omega
      have hw2 : IntKind.i64.wrap ((kk : Int) + 1 + 1) = (kk : Int) + 2 := by rw [IntKind.wrap_i64] <;> omega
      have hw3 : IntKind.i64.wrap ((kk : Int) + 2 + 1) = (kk : Int) + 3 := by rw [IntKind.wrap_i64] <;> omega
      have hw4 : IntKind.i64.wrap ((kk : Int) + 3 + 1) = (kk : Int) + 4 := by rw [IntKind.wrap_i64] <;> omega
      have hw5 : IntKind.i64.wrap ((kk : Int) + 4 + 1) = (kk : Int) + 5 := by rw [IntKind.wrap_i64] <;> omega
      have hw6 : IntKind.i64.wrap ((kk : Int) + 5 + 1) = (kk : Int) + 6 := by rw [IntKind.wrap_i64] <;> omega
      have hw7 : IntKind.i64.wrap ((kk : Int) + 6 + 1) = (kk : Int) + 7 := by rw [IntKind.wrap_i64] <;> omega
      go_wp2_with fail
      refine (markText_any (kk : Int) _ (by omega) (by omega)).mono ?_
      rintro e w1 ⟨rfl, hb1⟩
      have h1 := hC.keep hb1
      have e1 := h1.ent k hlt
      simp only [Nat.lt_irrefl, if_false] at e1
      obtain ⟨_, c0, c1, c2, c3, c4, c5, c6, c7, c8⟩ := e1
      have f0 := h1.free (k * 9) (by omega)
      have f1 := h1.free (k * 9 + 1) (by omega)
      have f2 := h1.free (k * 9 + 2) (by omega)
      have f3 := h1.free (k * 9 + 3) (by omega)
      have f4 := h1.free (k * 9 + 4) (by omega)
      have f5 := h1.free (k * 9 + 5) (by omega)
      have f6 := h1.free (k * 9 + 6) (by omega)
      have f7 := h1.free (k * 9 + 7) (by omega)
      have f8 := h1.free (k * 9 + 8) (by omega)
      have CO1 : CO b n X L w w1 := hCO.trans (CO.of_below hb1)
      clear hb1 hC hCO
      obtain ⟨w2, hw2⟩ : ∃ w2, w2 = w1.setCells b (k * 9) [.string (mt (kk : Int)), .int .i64 ((kk : Int) + 1), .int .i64 ((kk : Int) + 2), .int .i64 ((kk : Int) + 3), .int .i64 ((kk : Int) + 4), .int .i64 ((kk : Int) + 5), .int .i64 ((kk : Int) + 6)] := ⟨_, rfl⟩
      have ot2 : Others b w1 w2 := by rw [hw2]; exact setCells_others _ _ _ _
      have in2 : ∀ j (hj : j < 7), w2.cell? ⟨b, k * 9 + j, none⟩ = some (([.string (mt (kk : Int)), .int .i64 ((kk : Int) + 1), .int .i64 ((kk : Int) + 2), .int .i64 ((kk : Int) + 3), .int .i64 ((kk : Int) + 4), .int .i64 ((kk : Int) + 5), .int .i64 ((kk : Int) + 6)] : List Value)[j]'(by simpa using hj)) := fun j hj => by
        rw [hw2]
        exact World.cell?_setCells_in b [.string (mt (kk : Int)), .int .i64 ((kk : Int) + 1), .int .i64 ((kk : Int) + 2), .int .i64 ((kk : Int) + 3), .int .i64 ((kk : Int) + 4), .int .i64 ((kk : Int) + 5), .int .i64 ((kk : Int) + 6)] (k * 9) w1 (fun q hq => by
          have hq' : q < 7 := by simpa using hq
          have : q = 0 ∨ q = 1 ∨ q = 2 ∨ q = 3 ∨ q = 4 ∨ q = 5 ∨ q = 6 := by omega
          rcases this with rfl | rfl | rfl | rfl | rfl | rfl | rfl
          · rw [Nat.add_zero, c0]; rfl
          · rw [c1]; rfl
          · rw [c2]; rfl
          · rw [c3]; rfl
          · rw [c4]; rfl
          · rw [c5]; rfl
          · rw [c6]; rfl) j (by simpa using hj)
      have out2 : ∀ j, j < k * 9 ∨ k * 9 + 7 ≤ j → w2.cell? ⟨b, j, none⟩ = w1.cell? ⟨b, j, none⟩ := fun j hj => by
        rw [hw2]
        exact World.cell?_setCells_out b [.string (mt (kk : Int)), .int .i64 ((kk : Int) + 1), .int .i64 ((kk : Int) + 2), .int .i64 ((kk : Int) + 3), .int .i64 ((kk : Int) + 4), .int .i64 ((kk : Int) + 5), .int .i64 ((kk : Int) + 6)] (k * 9) w1 ⟨b, j, none⟩ (fun _ _ => by simpa using hj)
      have fz2 : ∀ a, w2.frozen? a = w1.frozen? a := fun a => by rw [hw2]; exact World.frozen?_setCells b _ _ _ a
      have hmark : Calls Tryz.prog 25 #[.slice (L k) (X k).n (C k), .int .i64 ((kk : Int) + 7)] w2 fun e w' => e = .returned (.int .i64 ((kk : Int) + 7 + ((X k).n : Int))) ∧ ((X k).n = 0 ∧ w' = w2 ∨ 0 < (X k).n ∧ ∃ g, L k = some ⟨g, 0, none⟩ ∧ g ≠ b ∧ Others g w2 w' ∧ ∃ fy, IOwn w' g 0 (X k).n fy ∧ ∀ i, i < (X k).n → fy i = (kk : Int) + 7 + i) := by
        by_cases hn0 : (X k).n = 0
        · rw [hn0]
          refine (markI_zero (L k) (C k) _ w2).mono ?_
          rintro e w' ⟨rfl, rfl⟩
          exact ⟨by simp, .inl ⟨rfl, rfl⟩⟩
        · have hh := h1.hist k hlt
          simp only [Nat.lt_irrefl, if_false] at hh
          obtain ⟨g, hg1, hg2, hg3⟩ := hh.resolve_left hn0
          have hsl : Value.slice (L k) (X k).n (C k) = .slice (some ⟨g, 0, none⟩) (X k).n (C k) := by rw [hg1]
          rw [hsl]
          have := markI_any g 0 (X k).n (C k) (X k).f (kk + 7) w2 (ot2.irow hg3 hg2) hzk (by omega)
          rw [show (((kk + 7 : Nat)) : Int) = (kk : Int) + 7 from by omega] at this
          refine this.mono ?_
          rintro e w' ⟨rfl, ⟨fy, h3, h4⟩, h5⟩
          exact ⟨by rw [show (((kk + 7 + (X k).n : Nat)) : Int) = (kk : Int) + 7 + ((X k).n : Int) from by rw [Int.natCast_add, Int.natCast_add]; rfl], .inr ⟨Nat.pos_of_ne_zero hn0, g, hg1, hg2, h5, fy, h3, fun i hi => by rw [h4 i hi, Int.natCast_add, Int.natCast_add]; rfl⟩⟩
      go_wp2_with fail
      change Calls Tryz.prog 25 _ (w1.setCells b (k * 9) [.string (mt (kk : Int)), .int .i64 ((kk : Int) + 1), .int .i64 ((kk : Int) + 2), .int .i64 ((kk : Int) + 3), .int .i64 ((kk : Int) + 4), .int .i64 ((kk : Int) + 5), .int .i64 ((kk : Int) + 6)]) _
      rw [← hw2]
      refine hmark.mono ?_
      rintro e w3 ⟨rfl, h3⟩
      have cb3 : ∀ j, w3.cell? ⟨b, j, none⟩ = w2.cell? ⟨b, j, none⟩ := fun j => by
        rcases h3 with ⟨_, rfl⟩ | ⟨_, g, _, hg, ho, _⟩
        · rfl
        · exact World.cell?_of_block (w := w2) (a := ⟨b, j, none⟩) (ho.block b (Ne.symm hg))
      have fb3 : ∀ j, w3.frozen? ⟨b, j, none⟩ = w2.frozen? ⟨b, j, none⟩ := fun j => by
        rcases h3 with ⟨_, rfl⟩ | ⟨_, g, _, hg, ho, _⟩
        · rfl
        · exact World.frozen?_of_block (w := w2) (a := ⟨b, j, none⟩) (ho.block b (Ne.symm hg))
      have d8 : w3.cell? ⟨b, k * 9 + 3 + 5, none⟩ = some (.bool (X k).fu) := by rw [show k * 9 + 3 + 5 = k * 9 + 8 from rfl, cb3, out2 _ (by omega), c8]
      have g8 : w3.frozen? ⟨b, k * 9 + 3 + 5, none⟩ = false := by rw [show k * 9 + 3 + 5 = k * 9 + 8 from rfl, fb3, fz2, f8]
      have hfin : CE (w3.setCell ⟨b, k * 9 + 3 + 5, none⟩ (.bool (((kk : Int) + 7 + ((X k).n : Int)) % 3 == 0))) b n (fun i => if i < k + 1 then mkE (kOf X k0 i) (X i) else X i) L C := by
        have hput := CE.put (w2 := w3.setCell ⟨b, k * 9 + 3 + 5, none⟩ (.bool (((kk : Int) + 7 + ((X k).n : Int)) % 3 == 0))) (y := mkE (kk : Int) (X k)) h1 hlt (by simp [mkE]) (by
            have := ot2.size
            rcases h3 with ⟨_, rfl⟩ | ⟨_, g, _, hg, ho, _⟩
            · simp; omega
            · have := ho.size; simp; omega) (by
            have q : ∀ j, j < 8 → (w3.setCell ⟨b, k * 9 + 3 + 5, none⟩ (.bool (((kk : Int) + 7 + ((X k).n : Int)) % 3 == 0))).cell? ⟨b, k * 9 + j, none⟩ = w2.cell? ⟨b, k * 9 + j, none⟩ := fun j hj => by
              rw [World.cell?_setCell_other _ _ _ _ (by intro hh; injection hh with _ h2 _; omega), cb3]
            refine ⟨by have := h1.lt; have := ot2.size; rcases h3 with ⟨_, rfl⟩ | ⟨_, g, _, hg, ho, _⟩; (simp; omega); (have := ho.size; simp; omega), ?_, ?_, ?_, ?_, ?_, ?_, ?_, ?_, ?_⟩
            · exact (q 0 (by omega)).trans (in2 0 (by omega))
            · exact (q 1 (by omega)).trans (in2 1 (by omega))
            · exact (q 2 (by omega)).trans (in2 2 (by omega))
            · exact (q 3 (by omega)).trans (in2 3 (by omega))
            · exact (q 4 (by omega)).trans (in2 4 (by omega))
            · exact (q 5 (by omega)).trans (in2 5 (by omega))
            · exact (q 6 (by omega)).trans (in2 6 (by omega))
            · rw [q 7 (by omega), out2 _ (by omega), c7]; rfl
            · exact World.cell?_setCell_same _ _ _ d8) (fun j => by rw [World.frozen?_setCell, fb3, fz2]) (fun j hj => by
            rw [World.cell?_setCell_other _ _ _ _ (by intro hh; injection hh with _ h2 _; omega), cb3, out2 _ (by omega)]) (by
            rcases h3 with ⟨h0, _⟩ | ⟨h0, g, hL, hg, ho, fy, hI, hfy⟩
            · exact .inl h0
            · exact .inr ⟨g, hL, hg, (Others.setCell _ _ _ _).irow (hI.congr (fun i => by simp only [mkE]; split <;> omega) (fun i hi => by rw [hfy i hi]; simp [mkE, hi])) hg⟩) (fun i g' hi hik h0 hL' hgb => by
            rw [(Others.setCell w3 b _ _).block g' hgb]
            rcases h3 with ⟨_, rfl⟩ | ⟨hp, g, hL, hg, ho, _⟩
            · exact ot2.block g' hgb
            · have hne : g' ≠ g := fun e => by
                subst e
                have hN : ∀ j, ((if j < k then mkE (kOf X k0 j) (X j) else X j) : Ent).n = (X j).n := fun j => by split <;> rfl
                exact h1.dis i k hi hlt hik h0 (by rw [hN]; exact hp) g' hL' hL
              rw [ho.block g' hne, ot2.block g' hgb])
        have hk' := HK.out
        refine hput.congr (fun i _ => ?_)
        by_cases e : i = k
        · subst e; simp [← hk']
        · by_cases e2 : i < k
          · simp [e, e2, show i < k + 1 by omega]
          · simp [e, e2, show ¬ i < k + 1 by omega]
      have hco : CO b n X L w (w3.setCell ⟨b, k * 9 + 3 + 5, none⟩ (.bool (((kk : Int) + 7 + ((X k).n : Int)) % 3 == 0))) := by
        refine ((CO1.trans (CO.of_others ot2)).trans ?_).trans (CO.of_others (Others.setCell _ _ _ _))
        rcases h3 with ⟨_, rfl⟩ | ⟨hp, g, hL, hg, ho, _⟩
        · exact CO.refl _ _ _ _ _
        · exact CO.of_list ho hlt hp hL
      clear hmark c0 c1 c2 c3 c4 c5 c6 c7 c8 f0 f1 f2 f3 f4 f5 f6 f7 f8 hw2 cb3 fb3 in2 out2 fz2 h3 h1 ot2 CO1
      go_wp2
      go_roundw
      case rel => exact ⟨k + 1, by omega, by go_num, by rw [HKS.out]; congr 1; omega, hfin, hco⟩
      case measure => simp [intOf]; omega
    · have e : k = n := by omega
      subst e
      go_wp2
      go_ret
      exact ⟨rfl, hC, hCO⟩
end Go.Proofs.YtpfjflbbpecbkaaGreat

namespace Go.Proofs.YtpfjflbbpecbkaaGreat
set_option maxRecDepth 100000
open Go.RowKit
set_option linter.unusedSimpArgs false
set_option linter.unusedVariables false

theorem EOwn.ce {w : World} {b n : Nat} {X : Nat → Ent} {G : Nat → Nat} (h : EOwn w b n n X G) : CE w b n X (fun i => some ⟨G i, 0, none⟩) (fun i => (X i).n) :=
  ⟨h.lt, h.ent, h.free, fun i hi => .inr ⟨G i, rfl, by have := (h.data i hi).1; omega, (h.data i hi).2⟩, fun i j hi hj hij _ _ g h1 h2 => by
    have e1 : G i = g := by injection h1 with h1; injection h1
    have e2 : G j = g := by injection h2 with h2; injection h2
    rcases Nat.lt_or_gt_of_ne hij with h3 | h3
    · have := h.mono i j h3 hj; omega
    · have := h.mono j i h3 hi; omega⟩

theorem kOf_tot (X : Nat → Ent) : ∀ n, kOf X 1 n ≤ 1 + 8 * n + tot X n
  | 0 => by simp [kOf, tot]
  | n + 1 => by
    have := kOf_tot X n
    unfold kOf tot
    omega
end Go.Proofs.YtpfjflbbpecbkaaGreat
namespace Go.Proofs.YtpfjflbbpecbkaaGreat
set_option maxRecDepth 100000
open Go.RowKit Go.Shelf
set_option linter.unusedSimpArgs false
set_option linter.unusedVariables false

/-- Entries of which a table may be made. -/
def FitT (X : Nat → Ent) (n : Nat) : Prop := (1 ≤ n ∧ n ≤ 100) ∧ GoodL X n
set_option maxHeartbeats 1600000 in
theorem fitTable_any (b off n bc : Nat) (X : Nat → Ent) (w : World) (hr : ERow w (some ⟨b, off, none⟩) n X) (hn : n ≤ 1048576) (hz : ESize n X) :
    Calls Tryz.prog 63 #[.slice (some ⟨b, off, none⟩) n bc] w fun e w' => Ans (FitT X n) w e w' := by
  by_cases h1 : 1 ≤ n
  · by_cases h2 : n ≤ 100
    · have hc := goodEntries_impl (some ⟨b, off, none⟩) n bc X w hr hn hz
      have h1i : (1 : Int) ≤ (n : Int) := by omega
      have h2i : (n : Int) ≤ 100 := by omega
      go_enter Tryz.func63, Tryz.ntmps63
      go_wp2_with fail
      refine hc.mono ?_
      rintro e w1 ⟨bb, rfl, hb, q1⟩
      have H : Hid (bb = true ↔ FitT X n) := ⟨fun h => ⟨⟨h1, h2⟩, hb.1 h⟩, fun h => hb.2 h.2⟩
      clear hc hb
      cases bb
      · go_wp2
        go_ret
        exact ⟨false, rfl, H.out, q1⟩
      · go_wp2
        go_ret
        exact ⟨true, rfl, by simpa using H.out, q1⟩
    · have H : Hid (false = true ↔ FitT X n) := ⟨fun h => by simp at h, fun h => absurd h.1.2 h2⟩
      have h2i : ¬ (n : Int) ≤ 100 := by omega
      have h1i : (1 : Int) ≤ (n : Int) := by omega
      go_enter Tryz.func63, Tryz.ntmps63
      go_wp2
      go_ret
      exact ⟨false, rfl, H.out, Below.refl _ _⟩
  · have H : Hid (false = true ↔ FitT X n) := ⟨fun h => by simp at h, fun h => absurd h.1.1 h1⟩
    have h1i : ¬ (1 : Int) ≤ (n : Int) := by omega
    go_enter Tryz.func63, Tryz.ntmps63
    go_wp2
    go_ret
    exact ⟨false, rfl, H.out, Below.refl _ _⟩

/-- The table's bytes of entries and perKey. -/
def tbP (X : Nat → Ent) (n : Nat) (p : Int) : List Int := tbl X n (fwI p) (fLt X n p)
/-- There is a table. -/
def BTg (X : Nat → Ent) (n : Nat) (p : Int) : Prop := FitT X n ∧ (1 ≤ p ∧ p ≤ 20) ∧ (tbP X n p).length ≤ 8000
/-- What BuildTable answers. -/
def BTO (X : Nat → Ent) (n : Nat) (p : Int) (w : World) (e : Ending) (w' : World) : Prop := (BTg X n p → FO (tbP X n p) true w e w') ∧ (¬ BTg X n p → FO [] false w e w')
theorem bto_no {X : Nat → Ent} {n : Nat} {p : Int} {w w' : World} (h : ¬ BTg X n p) (hb : Below w.heap.size w w') : BTO X n p w (.returned (.tuple #[.slice none 0 0, .bool false])) w' :=
  ⟨fun h' => absurd h' h, fun _ => ⟨none, 0, rfl, bv_nil _ _ _ (Nat.le_refl _), hb⟩⟩
theorem bto_yes {X : Nat → Ent} {n : Nat} {p : Int} {w w' : World} {v : Value} (h : BTg X n p) (ho : OwnL w' w.heap.size v (tbP X n p)) (hb : Below w.heap.size w w') : BTO X n p w (.returned (.tuple #[v, .bool true])) w' := by
  refine ⟨fun _ => ?_, fun h' => absurd h h'⟩
  obtain ⟨ao, c, rfl, hB⟩ := bv_of ho
  exact ⟨ao, c, rfl, hB, hb⟩
theorem ffl_self (L : List Int) : ffl (fl L) L.length = L := by
  refine List.ext_getElem (by rw [ffl_len]) fun i h1 h2 => ?_
  simp [ffl, fl, h2]
theorem OwnL.at_lower {w : World} {base base' : Nat} {v : Value} {L : List Int} (h : OwnL w base v L) (hb : base' ≤ base) : OwnL w base' v L := h.mono hb

end Go.Proofs.YtpfjflbbpecbkaaGreat

namespace Go.Proofs.YtpfjflbbpecbkaaGreat
set_option maxRecDepth 100000
open Go.RowKit Go.Shelf
set_option linter.unusedSimpArgs false
set_option linter.unusedVariables false

end Go.Proofs.YtpfjflbbpecbkaaGreat

namespace Go.Proofs.YtpfjflbbpecbkaaGreat
set_option maxRecDepth 100000
open Go.RowKit Go.Shelf
set_option linter.unusedSimpArgs false
set_option linter.unusedVariables false

end Go.Proofs.YtpfjflbbpecbkaaGreat

namespace Go.Proofs.YtpfjflbbpecbkaaGreat
set_option maxRecDepth 100000
open Go.RowKit Go.Shelf
set_option linter.unusedSimpArgs false
set_option linter.unusedVariables false

theorem bto_ex (X : Nat → Ent) (n : Nat) (p : Int) : ∃ L ok, (∀ w e w', BTO X n p w e w' → FO L ok w e w') ∧ L.length ≤ 1048576 := by
  by_cases h : BTg X n p
  · exact ⟨_, true, fun w e w' hb => hb.1 h, by have := h.2.2; omega⟩
  · exact ⟨[], false, fun w e w' hb => hb.2 h, by simp⟩

end Go.Proofs.YtpfjflbbpecbkaaGreat
namespace Go.Proofs.YtpfjflbbpecbkaaGreat
set_option maxRecDepth 100000
open Go.RowKit
set_option linter.unusedSimpArgs false
set_option linter.unusedVariables false

theorem SameE.refl (x : Ent) : SameE x x := ⟨rfl, rfl, rfl, rfl, rfl, rfl, rfl, rfl, fun _ _ => rfl, rfl⟩
theorem SameE.symm {x y : Ent} (h : SameE x y) : SameE y x := by
  obtain ⟨h1, h2, h3, h4, h5, h6, h7, h8, h9, h10⟩ := h
  exact ⟨h1.symm, h2.symm, h3.symm, h4.symm, h5.symm, h6.symm, h7.symm, h8.symm, fun i hi => (h9 i (by omega)).symm, h10.symm⟩
theorem SameE.goodA {x y : Ent} (h : SameE x y) (g : GoodA x.c x.s x.lo x.hi x.n x.f x.fu) : GoodA y.c y.s y.lo y.hi y.n y.f y.fu := by
  obtain ⟨h1, h2, h3, h4, h5, h6, h7, h8, h9, h10⟩ := h
  obtain ⟨a1, a2, a3, a4, a5, a6, a7⟩ := g
  have hf : ∀ i, i < 8 → x.f i = y.f i := fun i hi => h9 i (by omega)
  rw [← h4, ← h5, ← h6, ← h7, ← h8, ← h10]
  refine ⟨a1, a2, fun i hi => by rw [← hf i hi]; exact a3 i hi, fun e => ?_, a5, a6, a7⟩
  rw [← sumF_same hf]
  exact a4 e
theorem SameE.good {x y : Ent} (h : SameE x y) (g : GoodE x) : GoodE y := by
  obtain ⟨k, s, f⟩ := g
  refine ⟨by rw [← h.1]; exact k, by rw [← h.2.1]; exact s, ?_⟩
  rcases f with ⟨hk, hA⟩ | ⟨hk, z⟩
  · exact .inl ⟨by rw [← h.2.2.1]; exact hk, h.goodA hA⟩
  · obtain ⟨z1, z2, z3, z4, z5, z6⟩ := z
    obtain ⟨h1, h2, h3, h4, h5, h6, h7, h8, h9, h10⟩ := h
    exact .inr ⟨by omega, by omega, by omega, by omega, by omega, by omega, by rw [← h10]; exact z6⟩
theorem bl_same {fu : Bool} {N M : Nat → Int} : ∀ {k : Nat}, (∀ i, i < k → N i = M i) → bl fu N k = bl fu M k
  | 0, _ => rfl
  | k + 1, h => by
    have := bl_same (fu := fu) (N := N) (M := M) (k := k) fun i hi => h i (by omega)
    simp only [bl, this, h k (by omega)]
theorem same_agL {x y : Ent} (h : SameE x y) (g : GoodE x) : agL x = agL y := by
  obtain ⟨h1, h2, h3, h4, h5, h6, h7, h8, h9, h10⟩ := h
  unfold agL
  by_cases hk : x.kind = 2
  · rw [if_pos hk, if_pos (by omega)]
  · rw [if_neg hk, if_neg (by omega), h10]
    have h8' : x.n = 8 := by
      rcases g.2.2 with ⟨_, hA⟩ | ⟨e, _⟩
      · exact hA.2.1
      · exact absurd e hk
    refine bl_same fun i hi => ?_
    unfold nm
    repeat' split
    · exact h4
    · exact h5
    · exact h6
    · exact h7
    · exact h9 _ (by omega)
theorem same_enE {x y : Ent} (a : ByteArray) (h : SameE x y) (g : GoodE x) : enE a x = enE a y := by
  unfold enE shK
  rw [same_agL h g, h.1, h.2.1, h.2.2.1]
theorem blk_same {X Y : Nat → Ent} {o : Nat} : ∀ {k : Nat}, (∀ i, i < k → SameE (X (o + i)) (Y (o + i)) ∧ GoodE (X (o + i))) → blk X o k = blk Y o k
  | 0, _ => rfl
  | k + 1, h => by
    have ih := blk_same (X := X) (Y := Y) (o := o) (k := k) fun i hi => h i (by omega)
    have hk := h k (by omega)
    have ha : ahd X o k = ahd Y o k := by
      cases k with
      | zero => rfl
      | succ j => exact (h j (by omega)).1.1
    simp only [blk, ih, ha, same_enE _ hk.1 hk.2]
/-- The first n of X and Y hold the same, and are good. -/
def Alike (X Y : Nat → Ent) (n : Nat) : Prop := ∀ i, i < n → SameE (X i) (Y i) ∧ GoodE (X i)
section
variable {X Y : Nat → Ent} {n : Nat}
theorem Alike.blks (h : Alike X Y n) : ∀ j, blks X n j = blks Y n j
  | 0 => rfl
  | j + 1 => by
    have hb := bsz_le n j
    have e : blk X (4 * j) (bsz n j) = blk Y (4 * j) (bsz n j) := blk_same fun i hi => h _ (by unfold bsz at hi; omega)
    show Go.Proofs.YtpfjflbbpecbkaaGreat.blks X n j ++ _ = Go.Proofs.YtpfjflbbpecbkaaGreat.blks Y n j ++ _
    rw [h.blks j, e]
theorem Alike.last (h : Alike X Y n) {j : Nat} (hj : j < nbl n) : lastK X n j = lastK Y n j := by
  unfold lastK
  exact (h _ (by unfold bsz; unfold nbl at hj; omega)).1.1
theorem Alike.idx (h : Alike X Y n) : ∀ j, j ≤ nbl n → idx X n j = idx Y n j
  | 0, _ => rfl
  | j + 1, hj => by
    have e : blk X (4 * j) (bsz n j) = blk Y (4 * j) (bsz n j) := blk_same fun i hi => h _ (by unfold bsz at hi; omega)
    show Go.Proofs.YtpfjflbbpecbkaaGreat.idx X n j ++ _ = Go.Proofs.YtpfjflbbpecbkaaGreat.idx Y n j ++ _
    rw [h.idx j (by omega)]
    unfold idR
    rw [h.last (by omega), h.blks, e]
theorem Alike.tbl (h : Alike X Y n) (y : Int) (F : List Int) : tbl X n y F = tbl Y n y F := by
  unfold Go.Proofs.YtpfjflbbpecbkaaGreat.tbl bodyT
  rw [h.blks, h.idx _ (Nat.le_refl _)]
theorem Alike.cK (h : Alike X Y n) : ∀ k, k ≤ n → cK X k = cK Y k
  | 0, _ => rfl
  | k + 1, hk => by
    rw [cK_succ, cK_succ, h.cK k (by omega), (h k (by omega)).1.1]
    have e : kp X k = kp Y k := by
      unfold kp
      by_cases h0 : k = 0
      · simp [h0]
      · rw [(h k (by omega)).1.1, (h (k - 1) (by omega)).1.1]
    rw [e]
theorem Alike.fLt (h : Alike X Y n) (p : Int) : fLt X n p = fLt Y n p := by
  have e := h.cK n (Nat.le_refl _)
  unfold Go.Proofs.YtpfjflbbpecbkaaGreat.fLt fbN
  have e2 : cF X n = cF Y n := by funext i; unfold cF; rw [e]
  rw [e2, e]
theorem Alike.tbP (h : Alike X Y n) (p : Int) : tbP X n p = tbP Y n p := by
  unfold Go.Proofs.YtpfjflbbpecbkaaGreat.tbP
  rw [h.fLt, h.tbl]
theorem Alike.bef (h : Alike X Y n) {i j : Nat} (hi : i < n) (hj : j < n) : Bef (X i) (X j) → Bef (Y i) (Y j) := by
  intro hb
  unfold Bef at hb ⊢
  rw [← (h i hi).1.1, ← (h j hj).1.1, ← (h i hi).1.2.1, ← (h j hj).1.2.1]
  exact hb
theorem Alike.fit (h : Alike X Y n) (g : FitT X n) : FitT Y n := by
  obtain ⟨g1, g2, g3, g4⟩ := g
  refine ⟨g1, fun i hi => (h i hi).1.good (h i hi).2, fun i hi => h.bef (by omega) hi (g3 i hi), fun i j hij hj => ?_⟩
  rw [← (h i (by omega)).1.2.1, ← (h j hj).1.2.1]
  exact g4 i j hij hj
theorem Alike.symm (h : Alike X Y n) : Alike Y X n := fun i hi => ⟨(h i hi).1.symm, (h i hi).1.good (h i hi).2⟩
end
theorem crcTo_same {f g : Nat → Int} : ∀ {k : Nat}, (∀ i, i < k → f i = g i) → crcTo f k = crcTo g k
  | 0, _ => rfl
  | k + 1, h => by
    have := crcTo_same (f := f) (g := g) (k := k) fun i hi => h i (by omega)
    simp only [crcTo, this, h k (by omega)]
theorem crcOf_same {f g : Nat → Int} {k : Nat} (h : ∀ i, i < k → f i = g i) : crcOf f k = crcOf g k := by
  unfold crcOf; rw [crcTo_same h]
theorem seg_fl {f : Nat → Int} {L : List Int} (h : Seg f 0 L) {i : Nat} (hi : i < L.length) : f i = fl L i := by
  have := h i hi
  rwa [Nat.zero_add] at this
end Go.Proofs.YtpfjflbbpecbkaaGreat
namespace Go.Proofs.YtpfjflbbpecbkaaGreat
set_option maxRecDepth 100000
open Go.RowKit
set_option linter.unusedSimpArgs false
set_option linter.unusedVariables false

/-- The number of the k bytes from q on. -/
def num (f : Nat → Int) (q : Nat) : Nat → Int
  | 0 => 0
  | k + 1 => num f q k * 256 + f (q + k)
theorem num_bd (f : Nat → Int) (hf : ∀ i, 0 ≤ f i ∧ f i ≤ 255) (q k : Nat) : 0 ≤ num f q k ∧ num f q k < 256 ^ k := by
  induction k with
  | zero => simp [num]
  | succ k ih =>
    have := hf (q + k)
    simp only [num, Int.pow_succ]
    omega
theorem pow256 {k e : Nat} (h : k ≤ e) : (256 : Int) ^ k ≤ 256 ^ e := by
  have h1 : (256 : Nat) ^ k ≤ 256 ^ e := Nat.pow_le_pow_right (by omega) h
  have h2 : ((256 ^ k : Nat) : Int) ≤ ((256 ^ e : Nat) : Int) := Int.ofNat_le.2 h1
  rw [Int.natCast_pow, Int.natCast_pow] at h2
  exact h2
theorem num_bd7 (f : Nat → Int) (hf : ∀ i, 0 ≤ f i ∧ f i ≤ 255) (q k : Nat) (hk : k ≤ 7) : 0 ≤ num f q k ∧ num f q k < 72057594037927936 := by
  have h := num_bd f hf q k
  have h2 : (256 : Int) ^ k ≤ 256 ^ 7 := by
    exact pow256 hk
  have h3 : (256 : Int) ^ 7 = 72057594037927936 := by decide
  omega
theorem num_bd8 (f : Nat → Int) (hf : ∀ i, 0 ≤ f i ∧ f i ≤ 255) (q k : Nat) (hk : k ≤ 8) : 0 ≤ num f q k ∧ num f q k < 18446744073709551616 := by
  have h := num_bd f hf q k
  have h2 : (256 : Int) ^ k ≤ 256 ^ 8 := by
    exact pow256 hk
  have h3 : (256 : Int) ^ 8 = 18446744073709551616 := by decide
  omega

theorem or_step_i (N x : Int) (h : 0 ≤ N ∧ N < 72057594037927936) (hx : 0 ≤ x ∧ x ≤ 255) : bits .or .i64 (wrap64 (wrap64 N * 256)) x = wrap64 (N * 256 + x) := by
  obtain ⟨M, rfl⟩ := Int.eq_ofNat_of_zero_le h.1
  obtain ⟨y, rfl⟩ := Int.eq_ofNat_of_zero_le hx.1
  have e1 : wrap64 (M : Int) = M := by unfold wrap64; omega
  rw [e1]
  show IntKind.i64.wrap ((BitVec.ofInt 64 (wrap64 ((M : Int) * 256)) ||| BitVec.ofInt 64 (y : Int)).toNat : Int) = _
  rw [BitVec.toNat_or, BitVec.toNat_ofInt, BitVec.toNat_ofInt]
  have e2 : (wrap64 ((M : Int) * 256) % ((2 ^ 64 : Nat) : Int)).toNat = M * 256 := by
    rw [show ((2 ^ 64 : Nat) : Int) = 18446744073709551616 by decide]
    unfold wrap64; omega
  have e3 : ((y : Int) % ((2 ^ 64 : Nat) : Int)).toNat = y := by
    rw [show ((2 ^ 64 : Nat) : Int) = 18446744073709551616 by decide]; omega
  rw [e2, e3, nat_join 8 (M * 256) y (by omega) (by omega), IntKind.wrap_i64]
  unfold wrap64
  omega
theorem or_step_u (N x : Int) (h : 0 ≤ N ∧ N < 72057594037927936) (hx : 0 ≤ x ∧ x ≤ 255) : bits .or .u64 (N * 256) x = N * 256 + x := by
  obtain ⟨M, rfl⟩ := Int.eq_ofNat_of_zero_le h.1
  obtain ⟨y, rfl⟩ := Int.eq_ofNat_of_zero_le hx.1
  rw [show (M : Int) * 256 = ((M * 256 : Nat) : Int) from by omega, u64_or_nat _ _ (by omega) (by omega), nat_join 8 (M * 256) y (by omega) (by omega)]
  omega

/-- What ReadFixed takes, and what it answers. -/
def RFGood (n : Nat) (a m : Int) : Prop := 1 ≤ m ∧ m ≤ 8 ∧ 0 ≤ a ∧ a ≤ (n : Int) - m
def rfAns (N : Int) : Int × Bool := if N < 9223372036854775808 then (N, true) else (0, false)

theorem rfAns_yes {N : Int} (h : N < 9223372036854775808) : rfAns N = (N, true) := by unfold rfAns; rw [if_pos h]
theorem rfAns_no {N : Int} (h : ¬ N < 9223372036854775808) : rfAns N = (0, false) := by unfold rfAns; rw [if_neg h]

set_option maxHeartbeats 1000000 in
theorem readFixed_impl_yes (ao : Option Addr) (n cap : Nat) (f : Nat → Int) (q m : Nat) (w : World) (hr : Row w ao n f) (hn : n ≤ 1048576) (hcap : n ≤ cap) (hm1 : 1 ≤ m) (hm : m ≤ 8) (hq : q + m ≤ n) :
    Calls Tryz.prog 59 #[.slice ao n cap, .int .i64 q, .int .i64 m] w fun e w' => e = .returned (.tuple #[.int .i64 (rfAns (num f q m)).1, .bool (rfAns (num f q m)).2]) ∧ Below w.heap.size w w' := by
  obtain ⟨hbd, hl⟩ := hr
  obtain ⟨b, off, rfl, hblt, hc⟩ := hl.resolve_left (by omega)
  have hd1 : decide ((m : Int) < 1) = false := by simp; omega
  have hd2 : decide ((8 : Int) < (m : Int)) = false := by simp; omega
  have hd3 : decide ((q : Int) < 0) = false := by simp
  have hd4 : decide ((n : Int) - (m : Int) < (q : Int)) = false := by simp; omega
  generalize hA : rfAns (num f q m) = A
  have HA : Hid (rfAns (num f q m) = A) := hA
  clear hA
  go_enter Tryz.func59, Tryz.ntmps59
  go_wp2
  go_loopw [8, 39] (fun s i wr => ∃ k : Nat, ∃ c : Int, k ≤ m ∧ i = .int .i64 k ∧ s = .int .u64 c ∧ Hid (c = num f q k) ∧ Below w.heap.size w wr) (fun _ i _ => m - (intOf i).toNat)
  case atStart => exact ⟨0, 0, by omega, rfl, rfl, rfl, Below.refl _ _⟩
  case round =>
    obtain ⟨k, c, hk, rfl, rfl, HC, hbk⟩ := hrel
    by_cases hlt : k < m
    · have h1 : wr.cell? ⟨b, off + q + k, none⟩ = some (.int .u8 (f (q + k))) := by rw [Nat.add_assoc]; exact (hbk.cell (p := ⟨b, off + (q + k), none⟩) hblt).trans (hc _ (by omega))
      have hb := hbd (q + k)
      have hcb : 0 ≤ c ∧ c < 72057594037927936 := by rw [HC.out]; exact num_bd7 f hbd q k (by omega)
      have HS : Hid (bits .or .u64 (c * 256) (f (q + k)) = num f q (k + 1)) := by
        unfold Hid; rw [or_step_u _ _ hcb hb, HC.out]; rfl
      clear hc
      go_wp2
      go_roundw
      case rel => exact ⟨k + 1, _, by omega, by go_num, rfl, HS, hbk⟩
      case measure => simp [intOf]; omega
    · have e : k = m := by omega
      subst e
      have hcb : 0 ≤ c ∧ c < 18446744073709551616 := by rw [HC.out]; exact num_bd8 f hbd q k (by omega)
      by_cases h63 : c < 9223372036854775808
      · have HB : Hid (A = (c, true)) := by unfold Hid; rw [← HA.out, ← HC.out, rfAns_yes h63]
        have h63' : ¬ 9223372036854775807 < c := by omega
        go_wp2
        go_ret2
        rw [HB.out]
        exact ⟨rfl, hbk⟩
      · have HB : Hid (A = (0, false)) := by unfold Hid; rw [← HA.out, ← HC.out, rfAns_no h63]
        have h63' : 9223372036854775807 < c := by omega
        go_wp2
        go_ret2
        rw [HB.out]
        exact ⟨rfl, hbk⟩

set_option maxHeartbeats 1000000 in
theorem readFixed_impl_no (ao : Option Addr) (n cap : Nat) (a m : Int) (w : World) (hn : n ≤ 1048576) (ha : -9223372036854775808 ≤ a ∧ a ≤ 9223372036854775807) (hm : -9223372036854775808 ≤ m ∧ m ≤ 9223372036854775807) (h : ¬ RFGood n a m) :
    Calls Tryz.prog 59 #[.slice ao n cap, .int .i64 a, .int .i64 m] w fun e w' => e = .returned (.tuple #[.int .i64 0, .bool false]) ∧ w' = w := by
  by_cases h1 : m < 1
  · clear h
    go_enter Tryz.func59, Tryz.ntmps59
    go_wp2
    go_ret2
    exact ⟨rfl, rfl⟩
  · have hd1 : decide (m < 1) = false := by simp; omega
    by_cases h2 : 8 < m
    · clear h
      go_enter Tryz.func59, Tryz.ntmps59
      go_wp2
      go_ret2
      exact ⟨rfl, rfl⟩
    · have hd2 : decide (8 < m) = false := by simp; omega
      by_cases h3 : a < 0
      · clear h
        go_enter Tryz.func59, Tryz.ntmps59
        go_wp2
        go_ret2
        exact ⟨rfl, rfl⟩
      · have hd3 : decide (a < 0) = false := by simp; omega
        have h4 : (n : Int) - m < a := by
          rcases Int.lt_or_le ((n : Int) - m) a with h3 | h3
          · exact h3
          · exact absurd ⟨by omega, by omega, by omega, h3⟩ h
        clear h
        go_enter Tryz.func59, Tryz.ntmps59
        go_wp2
        go_ret2
        exact ⟨rfl, rfl⟩

/-- What ReadFixed answers. -/
def rdFix (f : Nat → Int) (n : Nat) (a m : Int) : Int × Bool :=
  if 1 ≤ m ∧ m ≤ 8 ∧ 0 ≤ a ∧ a ≤ (n : Int) - m then rfAns (num f a.toNat m.toNat) else (0, false)

end Go.Proofs.YtpfjflbbpecbkaaGreat
namespace Go.Proofs.YtpfjflbbpecbkaaGreat
set_option maxRecDepth 100000
open Go.RowKit

theorem num_back {n : Int} {m q : Nat} {f : Nat → Int} (h : n / 2 ^ (8 * m) = 0) (hf : ∀ i, i < m → f (q + i) = pf n m i) : ∀ k, k ≤ m → num f q k = n / 2 ^ (8 * (m - k)) := by
  intro k
  induction k with
  | zero => intro _; simp [num, h]
  | succ k ih =>
    intro hk
    rw [num, ih (by omega), hf k (by omega), pf]
    have e : n / 2 ^ (8 * (m - k)) = n / 2 ^ (8 * (m - (k + 1))) / 256 := by
      rw [Int.ediv_ediv_of_nonneg (Int.pow_nonneg (by omega)), show (2 : Int) ^ (8 * (m - (k + 1))) * 256 = 2 ^ (8 * (m - k)) from by
        rw [show (256 : Int) = 2 ^ 8 from by decide, ← Int.pow_add]
        congr 1
        omega]
    rw [e, show m - 1 - k = m - (k + 1) by omega]
    omega
theorem num_all {n : Int} {m q : Nat} {f : Nat → Int} (h : n / 2 ^ (8 * m) = 0) (hf : ∀ i, i < m → f (q + i) = pf n m i) : num f q m = n := by
  have := num_back h hf m (Nat.le_refl _)
  simpa using this
end Go.Proofs.YtpfjflbbpecbkaaGreat
namespace Go.Proofs.YtpfjflbbpecbkaaGreat
set_option maxRecDepth 100000
open Go.RowKit
set_option linter.unusedSimpArgs false
set_option linter.unusedVariables false

/-- The bytes f of length n are the table of X, m and p. -/
def IsTb (f : Nat → Int) (n : Nat) (X : Nat → Ent) (m : Nat) (p : Int) : Prop := BTg X m p ∧ (tbP X m p).length = n ∧ Seg f 0 (tbP X m p)
/-- What the end tells, as a code. -/
def endC (f : Nat → Int) (n : Nat) : Int :=
  if n < 20 ∨ 8000 < n then 1 else if ¬ (f (n - 4) = 84 ∧ f (n - 3) = 66 ∧ f (n - 2) = 76 ∧ f (n - 1) = 49) then 2 else if crcOf f (n - 8) ≠ num f (n - 8) 4 then 3 else 0
theorem num_pf {f : Nat → Int} {q : Nat} {x : Int} (h : 0 ≤ x ∧ x ≤ 4294967295) (hs : Seg f q (pfL x 4)) : num f q 4 = x := by
  refine num_all (n := x) (m := 4) ?_ fun i hi => ?_
  · rw [show (2 : Int) ^ (8 * 4) = 4294967296 from by decide]; omega
  · rw [hs i (by rw [pfL_length]; exact hi)]
    simp [pfL, fl, hi]
def tA (X : Nat → Ent) (m : Nat) : Nat := (ens X m).length
def tB (X : Nat → Ent) (m : Nat) (p : Int) : Nat := tA X m + 1 + fbN X m p

set_option maxRecDepth 100000 in
theorem IsTb.plc {f : Nat → Int} {n : Nat} {X : Nat → Ent} {m : Nat} {p : Int} (h : IsTb f n X m p) :
    (20 ≤ n ∧ n ≤ 8000) ∧ tB X m p + 20 ≤ n ∧ Seg f 0 (ens X m) ∧ f (tA X m) = fwI p ∧ Seg f (tA X m + 1) (fLt X m p) ∧ num f (n - 20) 4 = ((tA X m : Nat) : Int) ∧ num f (n - 16) 4 = ((tB X m p : Nat) : Int) ∧ num f (n - 12) 4 = (m : Int) ∧ endC f n = 0 := by
  obtain ⟨hB, hl, hs⟩ := h
  have h8 := hB.2.2
  have hm := hB.1.1
  rw [hl] at h8
  unfold tbP at hl hs
  have hFl := fLt_len X m p
  have hft := fbN_le X m p
  have eA : (ens X m).length = tA X m := rfl
  have eB : tB X m p = tA X m + 1 + fbN X m p := rfl
  have hb : bodyT X m (fwI p) (fLt X m p) = ens X m ++ ([fwI p] ++ fLt X m p) ++ idx X m (nbl m) ++ pfL ((tA X m : Nat) : Int) 4 ++ pfL ((tB X m p : Nat) : Int) 4 ++ pfL ((m : Nat) : Int) 4 := by
    unfold bodyT
    rw [blks_all]
    have e1 : (ens X m ++ ([fwI p] ++ fLt X m p)).length = tB X m p := by
      simp only [List.length_append, List.length_singleton, hFl]
      omega
    rw [e1, eA]
  generalize hbd : bodyT X m (fwI p) (fLt X m p) = body at *
  have et : tbl X m (fwI p) (fLt X m p) = body ++ pfL (crcL body) 4 ++ [84, 66, 76, 49] := by unfold tbl; rw [hbd]
  rw [et] at hl hs
  have hbl : body.length = n - 8 ∧ 8 ≤ n := by
    simp only [List.length_append, pfL_length, List.length_cons, List.length_nil] at hl
    omega
  have hbl2 : body.length = tB X m p + (idx X m (nbl m)).length + 12 := by
    rw [hb]
    simp only [List.length_append, pfL_length, List.length_singleton, hFl, eA]
    omega
  have hS := hs.right
  have h7 := hs.left
  have hC := h7.right
  have h6 := h7.left
  have crc := num_pf (crcL_bd body) hC
  have hcr : crcL body = crcOf f (n - 8) := by
    unfold crcL
    rw [hbl.1]
    exact (crcOf_same fun i hi => seg_fl h6 (by omega)).symm
  have hcq : num f (n - 8) 4 = crcOf f (n - 8) := by
    rw [← hcr]
    rw [Nat.zero_add, hbl.1] at crc
    exact crc
  simp only [List.length_append, pfL_length, hbl.1, Nat.zero_add] at hS
  have q0 := hS 0 (by simp)
  have q1 := hS 1 (by simp)
  have q2 := hS 2 (by simp)
  have q3 := hS 3 (by simp)
  clear hs h7 hC hS crc hcr et hbd
  rw [hb] at h6
  have hc := num_pf (by omega) h6.right
  have h5 := h6.left
  have hbb := num_pf (by omega) h5.right
  have h4 := h5.left
  have ha := num_pf (by omega) h4.right
  have h3 := h4.left
  have h2 := h3.left
  have hE := h2.left
  have hYF := h2.right
  have hy := hYF.left 0 (by simp)
  have hF := hYF.right
  have lE : (ens X m).length = tA X m := rfl
  simp only [List.length_append, pfL_length, List.length_singleton, hFl, lE, Nat.zero_add] at hc hbb ha hy hF
  refine ⟨by omega, by omega, hE, ?_, hF, ?_, ?_, ?_, ?_⟩
  · simpa [fl] using hy
  · rw [← ha]; congr 1; omega
  · rw [← hbb]; congr 1; omega
  · rw [← hc]; congr 1; omega
  · unfold endC
    rw [if_neg (by omega), if_neg, if_neg]
    · exact fun hne => hne hcq.symm
    · refine fun hne => hne ⟨?_, ?_, ?_, ?_⟩
      · rw [show n - 4 = n - 8 + 4 + 0 by omega, q0]; rfl
      · rw [show n - 3 = n - 8 + 4 + 1 by omega, q1]; rfl
      · rw [show n - 2 = n - 8 + 4 + 2 by omega, q2]; rfl
      · rw [show n - 1 = n - 8 + 4 + 3 by omega, q3]; rfl
/-- Entries that are read of all ahead of the filter are the table's. -/
theorem IsTb.rd {f : Nat → Int} {n : Nat} {X : Nat → Ent} {m : Nat} {p : Int} (h : IsTb f n X m p) : RdK f (tA X m) X m (tA X m) :=
  rdK_ens m h.1.1.2.1 h.plc.2.2.1 (Nat.le_refl _)
/-- Two tables of the same bytes have the same entries. -/
theorem IsTb.one {f : Nat → Int} {n : Nat} {X Y : Nat → Ent} {m k : Nat} {p q : Int} (h : IsTb f n X m p) (h2 : IsTb f n Y k q) : k = m ∧ Alike X Y m := by
  have r1 := h.rd
  have r2 := h2.rd
  have e : tA X m = tA Y k := by
    have a := h.plc.2.2.2.2.2.1
    have b := h2.plc.2.2.2.2.2.1
    omega
  rw [← e] at r2
  obtain ⟨e2, hS⟩ := rdK_all r1 r2
  subst e2
  exact ⟨rfl, fun i hi => ⟨hS i hi, h.1.1.2.1 i hi⟩⟩
end Go.Proofs.YtpfjflbbpecbkaaGreat
