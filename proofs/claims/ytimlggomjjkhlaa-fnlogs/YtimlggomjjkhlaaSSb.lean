/- Lists of bytes' lists: read, copied, compared, marked. -/
import Derived.Test.YtimlggomjjkhlaaLists
import Derived.Test.YtimlggomjjkhlaaMarks
import Derived.Deep.RegionHeld3
namespace Go.Proofs.Ytimlggomjjkhlaa
open Go.RowKit
set_option linter.unusedSimpArgs false
set_option linter.unusedVariables false

def tot (Rs : Nat → List Int) : Nat → Nat
  | 0 => 0
  | k + 1 => tot Rs k + (Rs k).length
theorem tot_mono (Rs : Nat → List Int) {i j : Nat} (h : i ≤ j) : tot Rs i ≤ tot Rs j := by
  induction j with
  | zero => rw [Nat.le_zero.1 h]; exact Nat.le_refl _
  | succ j ih =>
    rcases Nat.lt_or_ge j i with h1 | h1
    · rw [show i = j + 1 from by omega]; exact Nat.le_refl _
    · have := ih h1; simp only [tot]; omega
theorem len_le_tot (Rs : Nat → List Int) {i n : Nat} (h : i < n) : (Rs i).length ≤ tot Rs n := by
  have := tot_mono Rs (show i + 1 ≤ n by omega)
  simp only [tot] at this
  omega

/-- n slices of bytes that can be read. -/
structure RdS (w : World) (ao : Option Addr) (n : Nat) (V : Nat → Value) (Rs : Nat → List Int) : Prop where
  rows : ∀ i, i < n → ∃ a c, V i = .slice a (Rs i).length c ∧ Row w a (Rs i).length (fl (Rs i))
  lies : n = 0 ∨ ∃ b off, ao = some ⟨b, off, none⟩ ∧ b < w.heap.size ∧ ∀ i, i < n → w.cell? ⟨b, off + i, none⟩ = some (V i)
theorem RdS.keep {w w' : World} {ao : Option Addr} {n : Nat} {V : Nat → Value} {Rs : Nat → List Int} (h : RdS w ao n V Rs) (hb : Below w.heap.size w w') : RdS w' ao n V Rs := by
  refine ⟨fun i hi => ?_, ?_⟩
  · obtain ⟨a, c, e, hr⟩ := h.rows i hi
    exact ⟨a, c, e, hr.keep hb⟩
  · rcases h.lies with h0 | ⟨b, off, e, hlt, hc⟩
    · exact .inl h0
    · exact .inr ⟨b, off, e, Nat.lt_of_lt_of_le hlt hb.size, fun i hi => (hb.cell (p := ⟨b, off + i, none⟩) hlt).trans (hc i hi)⟩

/-- n slices of bytes of the call's own, each in memory of its own, all between lo and hi. -/
structure OwS (w : World) (lo hi : Nat) (ao : Option Addr) (n : Nat) (V : Nat → Value) (Rs : Nat → List Int) : Prop where
  bd : ∀ i, i < n → Byt (Rs i)
  rows : ∀ i, i < n → (∃ c, V i = .slice none (Rs i).length c ∧ (Rs i).length = 0) ∨ ∃ g off c, V i = .slice (some ⟨g, off, none⟩) (Rs i).length c ∧ lo ≤ g ∧ g < hi ∧ Own w g off (Rs i).length (fl (Rs i))
  dis : ∀ i j, i < n → j < n → i ≠ j → ∀ k, (V i).ownBlock = some k → (V j).ownBlock ≠ some k
  lies : n = 0 ∨ ∃ b off, ao = some ⟨b, off, none⟩ ∧ lo ≤ b ∧ b < hi ∧ (∀ i, i < n → w.cell? ⟨b, off + i, none⟩ = some (V i)) ∧ ∀ i, i < n → (V i).ownBlock ≠ some b
  top : hi ≤ w.heap.size
theorem OwS.rd {w : World} {lo hi : Nat} {ao : Option Addr} {n : Nat} {V : Nat → Value} {Rs : Nat → List Int} (h : OwS w lo hi ao n V Rs) : RdS w ao n V Rs := by
  refine ⟨fun i hi => ?_, ?_⟩
  · rcases h.rows i hi with ⟨c, e, h0⟩ | ⟨g, off, c, e, _, _, ho⟩
    · exact ⟨none, c, e, (h.bd i hi).fl, .inl h0⟩
    · exact ⟨_, c, e, ho.row⟩
  · have ht := h.top
    rcases h.lies with h0 | ⟨b, off, e, h1, h2, hc, _⟩
    · exact .inl h0
    · exact .inr ⟨b, off, e, by omega, hc⟩
theorem OwS.keep {w w' : World} {lo hi : Nat} {ao : Option Addr} {n : Nat} {V : Nat → Value} {Rs : Nat → List Int} (h : OwS w lo hi ao n V Rs) (hb : Below w.heap.size w w') : OwS w' lo hi ao n V Rs := by
  have ht := h.top
  refine ⟨h.bd, fun i hi => ?_, h.dis, ?_, Nat.le_trans ht hb.size⟩
  · rcases h.rows i hi with h0 | ⟨g, off, c, e, h1, h2, ho⟩
    · exact .inl h0
    · exact .inr ⟨g, off, c, e, h1, h2, ho.keep hb⟩
  · rcases h.lies with h0 | ⟨b, off, e, h1, h2, hc, hne⟩
    · exact .inl h0
    · exact .inr ⟨b, off, e, h1, h2, fun i hi => (hb.cell (p := ⟨b, off + i, none⟩) (show b < w.heap.size by omega)).trans (hc i hi), hne⟩

/-- All blocks that do not lie between lo and hi are as they were. -/
structure Wit (lo hi : Nat) (w w' : World) : Prop where
  os : w'.os = w.os
  tape : w'.tape = w.tape
  output : w'.output = w.output
  size : w'.heap.size = w.heap.size
  block : ∀ k, ¬ (lo ≤ k ∧ k < hi) → w'.heap[k]? = w.heap[k]?
theorem Wit.refl (lo hi : Nat) (w : World) : Wit lo hi w w := ⟨rfl, rfl, rfl, rfl, fun _ _ => rfl⟩
theorem Wit.trans {lo hi : Nat} {u v w : World} (h : Wit lo hi u v) (k : Wit lo hi v w) : Wit lo hi u w :=
  ⟨k.os.trans h.os, k.tape.trans h.tape, k.output.trans h.output, k.size.trans h.size, fun i hi => (k.block i hi).trans (h.block i hi)⟩
theorem Wit.ofOthers {lo hi b : Nat} {w w' : World} (h : Others b w w') (h1 : lo ≤ b) (h2 : b < hi) : Wit lo hi w w' :=
  ⟨h.os, h.tape, h.output, h.size, fun k hk => h.block k (fun e => hk (by omega))⟩
theorem Wit.below {lo hi B : Nat} {w w' : World} (h : Wit lo hi w w') (hB : B ≤ lo) : Below B w w' :=
  ⟨h.os, h.tape, h.output, by rw [h.size]; exact Nat.le_refl _, fun k hk => h.block k (by omega)⟩
theorem Wit.own {lo hi : Nat} {w w' : World} (h : Wit lo hi w w') {c off n : Nat} {f : Nat → Int} (hr : Own w c off n f) (hne : c < lo ∨ hi ≤ c) : Own w' c off n f :=
  ⟨hr.bd, by rw [h.size]; exact hr.lt, fun i hi => (World.cell?_of_block (w := w) (a := ⟨c, off + i, none⟩) (h.block c (by omega))).trans (hr.cell i hi),
    fun i hi => (World.frozen?_of_block (w := w) (a := ⟨c, off + i, none⟩) (h.block c (by omega))).trans (hr.free i hi)⟩
theorem Wit.ows {lo hi lo' hi' : Nat} {w w' : World} (h : Wit lo hi w w') {ao : Option Addr} {n : Nat} {V : Nat → Value} {Rs : Nat → List Int} (hs : OwS w lo' hi' ao n V Rs) (hd : hi' ≤ lo ∨ hi ≤ lo') : OwS w' lo' hi' ao n V Rs := by
  have ht := hs.top
  refine ⟨hs.bd, fun i hi => ?_, hs.dis, ?_, by rw [h.size]; exact ht⟩
  · rcases hs.rows i hi with h0 | ⟨g, off, c, e, h1, h2, ho⟩
    · exact .inl h0
    · exact .inr ⟨g, off, c, e, h1, h2, h.own ho (by omega)⟩
  · rcases hs.lies with h0 | ⟨b, off, e, h1, h2, hc, hne⟩
    · exact .inl h0
    · exact .inr ⟨b, off, e, h1, h2, fun i hi => (World.cell?_of_block (w := w) (a := ⟨b, off + i, none⟩) (h.block b (by omega))).trans (hc i hi), hne⟩

theorem szByteS_ok (ao : Option Addr) (n cap : Nat) (l : Int) (w : World) (h : (n : Int) ≤ l) (hl : l ≤ 1048576) :
    Calls Try.prog 30 #[.slice ao n cap, .int .i64 l] w fun e w' => e = .returned (.int .i64 (l - n)) ∧ w' = w := by
  have h' : ¬ l - (n : Int) < 0 := by omega
  go_enter Try.func30, Try.ntmps30
  go_wp2
  go_ret
  exact ⟨rfl, rfl⟩
theorem szByteS_no (ao : Option Addr) (n cap : Nat) (l : Int) (w : World) (h : l < (n : Int)) (h0 : 0 ≤ l) (hn : n ≤ 9223372036854775807) :
    Calls Try.prog 30 #[.slice ao n cap, .int .i64 l] w fun e w' => e = .returned (.int .i64 (-1)) ∧ w' = w := by
  have h' : l - (n : Int) < 0 := by omega
  go_enter Try.func30, Try.ntmps30
  go_wp2
  go_ret
  exact ⟨rfl, rfl⟩

set_option maxHeartbeats 400000 in
theorem szByteSS_ok (ao : Option Addr) (n cap : Nat) (V : Nat → Value) (Rs : Nat → List Int) (w : World) (h : RdS w ao n V Rs) (ht : n + tot Rs n ≤ 1048576) :
    Calls Try.prog 22 #[.slice ao n cap, .int .i64 1048576] w fun e w' => ∃ l, e = .returned (.int .i64 l) ∧ 0 ≤ l ∧ Below w.heap.size w w' := by
  obtain ⟨hrows, hl⟩ := h
  have h0 : ¬ (1048576 : Int) - (n : Int) < 0 := by omega
  go_enter Try.func22, Try.ntmps22
  go_wp2
  go_loopw [1, 5] (fun q i wr => ∃ k : Nat, k ≤ n ∧ i = .int .i64 k ∧ q = .int .i64 ((1048576 : Int) - n - (tot Rs k : Int)) ∧ Below w.heap.size w wr) (fun _ i _ => n - (intOf i).toNat)
  case atStart => exact ⟨0, Nat.zero_le _, rfl, by simp [tot], Below.refl _ _⟩
  case round =>
    obtain ⟨k, hk, rfl, rfl, hbk⟩ := hrel
    have hm := tot_mono Rs hk
    by_cases hlt : k < n
    · obtain ⟨b, off, rfl, hblt, hc⟩ := hl.resolve_left (by omega)
      obtain ⟨a, c, hV, hr⟩ := hrows k hlt
      have h1 : wr.cell? ⟨b, off + k, none⟩ = some (.slice a (Rs k).length c) := ((hbk.cell (p := ⟨b, off + k, none⟩) hblt).trans (hc k hlt)).trans (by rw [hV])
      have hle := tot_mono Rs (show k + 1 ≤ n by omega)
      have HT : Hid (tot Rs (k + 1) = tot Rs k + (Rs k).length) := rfl
      rw [HT.out] at hle
      clear hc hl hrows hV
      go_wp2_with fail
      refine (szByteS_ok _ _ _ _ _ (by omega) (by omega)).mono ?_
      rintro e w' ⟨rfl, rfl⟩
      have h2 : ¬ (1048576 : Int) - n - (tot Rs k : Int) - ((Rs k).length : Int) < 0 := by omega
      go_wp2
      go_roundw
      case rel => exact ⟨k + 1, by omega, by go_num, by rw [HT.out]; go_num, hbk⟩
      case measure => simp [intOf]; omega
    · go_wp2
      go_ret
      exact ⟨_, rfl, by omega, hbk⟩

set_option maxHeartbeats 400000 in
theorem szByteSS_no (ao : Option Addr) (n cap : Nat) (V : Nat → Value) (Rs : Nat → List Int) (w : World) (h : RdS w ao n V Rs) (hn : n ≤ 9223372036854775807) (hs : ∀ i, i < n → (Rs i).length ≤ 9223372036854775807) (ht : ¬ n + tot Rs n ≤ 1048576) :
    Calls Try.prog 22 #[.slice ao n cap, .int .i64 1048576] w fun e w' => e = .returned (.int .i64 (-1)) ∧ Below w.heap.size w w' := by
  obtain ⟨hrows, hl⟩ := h
  by_cases h0 : (1048576 : Int) - (n : Int) < 0
  · go_enter Try.func22, Try.ntmps22
    go_wp2
    go_ret
    exact ⟨rfl, Below.refl _ _⟩
  · go_enter Try.func22, Try.ntmps22
    go_wp2
    go_loopw [1, 5] (fun q i wr => ∃ k : Nat, k ≤ n ∧ i = .int .i64 k ∧ q = .int .i64 ((1048576 : Int) - n - (tot Rs k : Int)) ∧ n + tot Rs k ≤ 1048576 ∧ Below w.heap.size w wr) (fun _ i _ => n - (intOf i).toNat)
    case atStart => exact ⟨0, Nat.zero_le _, rfl, by simp [tot], by simp only [tot]; omega, Below.refl _ _⟩
    case round =>
      obtain ⟨k, hk, rfl, rfl, hle, hbk⟩ := hrel
      have hlt : k < n := by
        rcases Nat.lt_or_ge k n with h1 | h1
        · exact h1
        · obtain rfl : k = n := by omega
          exact absurd hle ht
      obtain ⟨b, off, rfl, hblt, hc⟩ := hl.resolve_left (by omega)
      obtain ⟨a, c, hV, hr⟩ := hrows k hlt
      have hsk := hs k hlt
      have h1 : wr.cell? ⟨b, off + k, none⟩ = some (.slice a (Rs k).length c) := ((hbk.cell (p := ⟨b, off + k, none⟩) hblt).trans (hc k hlt)).trans (by rw [hV])
      have HT : Hid (tot Rs (k + 1) = tot Rs k + (Rs k).length) := rfl
      clear hc hl hrows hV hs
      by_cases hfit : n + tot Rs k + (Rs k).length ≤ 1048576
      · go_wp2_with fail
        refine (szByteS_ok _ _ _ _ _ (by omega) (by omega)).mono ?_
        rintro e w' ⟨rfl, rfl⟩
        have h2 : ¬ (1048576 : Int) - n - (tot Rs k : Int) - ((Rs k).length : Int) < 0 := by omega
        go_wp2
        go_roundw
        case rel => exact ⟨k + 1, by omega, by go_num, by rw [HT.out]; go_num, by rw [HT.out]; omega, hbk⟩
        case measure => simp [intOf]; omega
      · go_wp2_with fail
        refine (szByteS_no _ _ _ _ _ (by omega) (by omega) hsk).mono ?_
        rintro e w' ⟨rfl, rfl⟩
        go_wp2
        go_ret
        exact ⟨rfl, hbk⟩

set_option maxHeartbeats 400000 in
theorem eqByteSS_same (ao bo : Option Addr) (n ca cb : Nat) (V U : Nat → Value) (Rs : Nat → List Int) (w : World) (h : RdS w ao n V Rs) (k : RdS w bo n U Rs) (ht : n + tot Rs n ≤ 1048576) :
    Calls Try.prog 19 #[.slice ao n ca, .slice bo n cb] w fun e w' => e = .returned (.bool true) ∧ Below w.heap.size w w' := by
  obtain ⟨hrows, hl⟩ := h
  obtain ⟨krows, kl⟩ := k
  go_enter Try.func19, Try.ntmps19
  go_wp2
  go_loopw [5] (fun i wr => ∃ k : Nat, k ≤ n ∧ i = .int .i64 k ∧ Below w.heap.size w wr) (fun i _ => n - (intOf i).toNat)
  case atStart => exact ⟨0, Nat.zero_le _, rfl, Below.refl _ _⟩
  case round =>
    obtain ⟨k, hk, rfl, hbk⟩ := hrel
    by_cases hlt : k < n
    · obtain ⟨b, off, rfl, hblt, hc⟩ := hl.resolve_left (by omega)
      obtain ⟨b', off', rfl, hblt', hc'⟩ := kl.resolve_left (by omega)
      obtain ⟨a, c, hV, hr⟩ := hrows k hlt
      obtain ⟨a', c', hU, hr'⟩ := krows k hlt
      have h1 : wr.cell? ⟨b, off + k, none⟩ = some (.slice a (Rs k).length c) := ((hbk.cell (p := ⟨b, off + k, none⟩) hblt).trans (hc k hlt)).trans (by rw [hV])
      have h2 : wr.cell? ⟨b', off' + k, none⟩ = some (.slice a' (Rs k).length c') := ((hbk.cell (p := ⟨b', off' + k, none⟩) hblt').trans (hc' k hlt)).trans (by rw [hU])
      have hle := len_le_tot Rs hlt
      clear hc hc' hl kl hrows krows hV hU
      go_wp2
      go_region_held3 (fun w' => w'.cell? ⟨b, off + k, none⟩ = some (.slice a (Rs k).length c) ∧ w'.cell? ⟨b', off' + k, none⟩ = some (.slice a' (Rs k).length c')) (go_keep) (first | (go_at_call 15; refine (eqByteS_same a a' (Rs k).length c c' (fl (Rs k)) _ ((hr.keep hbk).keep (Below.refl _ _).drew) ((hr'.keep hbk).keep (Below.refl _ _).drew) (by omega)).mono ?_; rintro e w1 ⟨rfl, hb1⟩; have hb1' := (Below.refl _ wr).drew.trans hb1; have g1 := (hb1'.cell (p := ⟨b, off + k, none⟩) (Nat.lt_of_lt_of_le hblt hbk.size)).trans h1; have g2 := (hb1'.cell (p := ⟨b', off' + k, none⟩) (Nat.lt_of_lt_of_le hblt' hbk.size)).trans h2; have bw1 : Below w.heap.size w w1 := hbk.trans (hb1'.mono hbk.size)))
      clear h1 h2 hbk hb1 hb1' g1 g2
      go_wp2
      go_roundw
      case rel => exact ⟨k + 1, by omega, by go_num, bw1⟩
      case measure => simp [intOf]; omega
    · go_wp2
      go_ret
      exact ⟨rfl, hbk⟩

/-- Cells that may be written. -/
structure Cel (w : World) (b off n : Nat) (V : Nat → Value) : Prop where
  lt : b < w.heap.size
  cell : ∀ i, i < n → w.cell? ⟨b, off + i, none⟩ = some (V i)
  free : ∀ i, i < n → w.frozen? ⟨b, off + i, none⟩ = false
theorem Cel.keep {w w' : World} {b off n : Nat} {V : Nat → Value} (h : Cel w b off n V) (hb : Below w.heap.size w w') : Cel w' b off n V :=
  ⟨Nat.lt_of_lt_of_le h.lt hb.size, fun i hi => (hb.cell (p := ⟨b, off + i, none⟩) h.lt).trans (h.cell i hi), fun i hi => (hb.frozen (p := ⟨b, off + i, none⟩) h.lt).trans (h.free i hi)⟩
theorem Cel.store {w : World} {b off n : Nat} {V : Nat → Value} (h : Cel w b off n V) (k : Nat) (hk : k < n) (x : Value) :
    Cel (w.setCell ⟨b, off + k, none⟩ x) b off n (fun i => if i = k then x else V i) := by
  refine ⟨by simpa using h.lt, fun i hi => ?_, fun i hi => by simpa using h.free i hi⟩
  by_cases e : i = k
  · subst e; simp [World.cell?_setCell_same _ _ _ (h.cell i hi)]
  · rw [World.cell?_setCell_other _ _ _ _ (by intro hh; injection hh with _ h2 _; omega), h.cell i hi]; simp [e]
theorem Try.info22 : (Try.prog.info? 22).map (fun i => (i.zero, i.size, i.bytes)) = some (some (.slice none 0 0), 1, 24) := by kernel_rfl
theorem cel_of_made {w : World} {base g n : Nat} (h : w.ownsRow base 22 1 (.slice (some ⟨g, 0, none⟩) n n) n (madeCells (Value.slice none 0 0).cells (n * 1)).toList) (hlt : g < w.heap.size) : Cel w g 0 n (fun _ => .slice none 0 0) := by
  refine ⟨hlt, fun i hi => ?_, fun i _ => by simpa using h.frozenAt i⟩
  have := h.cellAt i (by omega)
  rw [Nat.zero_add, this]
  simp only [Value.cells, toList_madeCells_one]
  rw [List.getElem?_replicate]
  simp [hi]

/-- What toByteSS has made after k rows. -/
structure MadeS (w wr : World) (n k : Nat) (G : Nat → Nat) (Rs : Nat → List Int) : Prop where
  cel : Cel wr w.heap.size 0 n (fun i => if i < k then .slice (some ⟨G i, 0, none⟩) (Rs i).length (Rs i).length else .slice none 0 0)
  row : ∀ i, i < k → Own wr (G i) 0 (Rs i).length (fl (Rs i))
  gt : ∀ i, i < k → w.heap.size < G i
  inc : ∀ i j, i < j → j < k → G i < G j
  bel : Below w.heap.size w wr

theorem MadeS.step {w wr w' : World} {n k : Nat} {G : Nat → Nat} {Rs : Nat → List Int} (h : MadeS w wr n k G Rs) (hk : k < n) (hb : Below wr.heap.size wr w') (ho : Own w' wr.heap.size 0 (Rs k).length (fl (Rs k))) :
    MadeS w (w'.setCell ⟨w.heap.size, 0 + k, none⟩ (.slice (some ⟨wr.heap.size, 0, none⟩) (Rs k).length (Rs k).length)) n (k + 1) (fun i => if i = k then wr.heap.size else G i) Rs := by
  have hsz := h.bel.size
  have hlt := h.cel.lt
  have hst := (h.cel.keep hb).store k hk (.slice (some ⟨wr.heap.size, 0, none⟩) (Rs k).length (Rs k).length)
  have hX : Others w.heap.size w' (w'.setCell ⟨w.heap.size, 0 + k, none⟩ (.slice (some ⟨wr.heap.size, 0, none⟩) (Rs k).length (Rs k).length)) := Others.setCell _ _ _ _
  refine ⟨⟨hst.lt, fun i hi => ?_, hst.free⟩, fun i hi => ?_, fun i hi => ?_, fun i j hij hj => ?_, ?_⟩
  · rw [hst.cell i hi]
    by_cases e : i = k
    · subst e; simp
    · by_cases hl : i < k
      · simp [e, hl, show i < k + 1 by omega]
      · simp [e, hl, show ¬ i < k + 1 by omega]
  · by_cases e : i = k
    · subst e; simp only [if_true]; exact hX.row ho (by omega)
    · simp only [e, if_false]
      have hi' : i < k := by omega
      exact hX.row ((h.row i hi').keep hb) (Nat.ne_of_gt (h.gt i hi'))
  · by_cases e : i = k
    · subst e; simp only [if_true]; exact hlt
    · simp only [e, if_false]; exact h.gt i (by omega)
  · by_cases e : j = k
    · subst e
      have hn : ¬ i = j := by omega
      simp only [hn, if_false, if_true]
      exact (h.row i (by omega)).lt
    · have hn : ¬ i = k := by omega
      simp only [e, hn, if_false]
      exact h.inc i j hij (by omega)
  · exact (h.bel.trans (hb.mono hsz)).setCell (Nat.le_refl _) _

theorem MadeS.ows {w wr : World} {n : Nat} {G : Nat → Nat} {Rs : Nat → List Int} (h : MadeS w wr n n G Rs) (hb : ∀ i, i < n → Byt (Rs i)) :
    OwS wr w.heap.size wr.heap.size (some ⟨w.heap.size, 0, none⟩) n (fun i => .slice (some ⟨G i, 0, none⟩) (Rs i).length (Rs i).length) Rs := by
  refine ⟨hb, fun i hi => .inr ⟨G i, 0, _, rfl, Nat.le_of_lt (h.gt i hi), (h.row i hi).lt, h.row i hi⟩, ?_, .inr ⟨w.heap.size, 0, rfl, Nat.le_refl _, h.cel.lt, fun i hi => ?_, fun i hi => ?_⟩, Nat.le_refl _⟩
  · intro i j hi hj hij k h1 h2
    simp only [Value.ownBlock, Option.some.injEq] at h1 h2
    rcases Nat.lt_or_ge i j with hl | hl
    · have := h.inc i j hl hj; omega
    · have := h.inc j i (by omega) hi; omega
  · rw [h.cel.cell i hi]; simp [hi]
  · have := h.gt i hi
    simp only [Value.ownBlock, ne_eq, Option.some.injEq]
    omega

/-- n slices of bytes that can be read, each with an address. -/
structure RdA (w : World) (ao : Option Addr) (n : Nat) (V : Nat → Value) (Rs : Nat → List Int) : Prop where
  rows : ∀ i, i < n → ∃ g off c, V i = .slice (some ⟨g, off, none⟩) (Rs i).length c ∧ (Rs i).length ≤ c ∧ At w g off (Rs i)
  lies : n = 0 ∨ ∃ b off, ao = some ⟨b, off, none⟩ ∧ b < w.heap.size ∧ ∀ i, i < n → w.cell? ⟨b, off + i, none⟩ = some (V i)
theorem MadeS.rda {w wr : World} {n : Nat} {G : Nat → Nat} {Rs : Nat → List Int} (h : MadeS w wr n n G Rs) (hb : ∀ i, i < n → Byt (Rs i)) :
    RdA wr (some ⟨w.heap.size, 0, none⟩) n (fun i => .slice (some ⟨G i, 0, none⟩) (Rs i).length (Rs i).length) Rs := by
  refine ⟨fun i hi => ⟨G i, 0, _, rfl, Nat.le_refl _, hb i hi, (h.row i hi).lt, (h.row i hi).cell⟩, .inr ⟨w.heap.size, 0, rfl, h.cel.lt, fun i hi => ?_⟩⟩
  rw [h.cel.cell i hi]; simp [hi]
theorem RdA.keep {w w' : World} {ao : Option Addr} {n : Nat} {V : Nat → Value} {Rs : Nat → List Int} (h : RdA w ao n V Rs) (hb : Below w.heap.size w w') : RdA w' ao n V Rs := by
  refine ⟨fun i hi => ?_, ?_⟩
  · obtain ⟨g, off, c, e, hc, hr⟩ := h.rows i hi
    exact ⟨g, off, c, e, hc, hr.keep hb⟩
  · rcases h.lies with h0 | ⟨b, off, e, hlt, hc⟩
    · exact .inl h0
    · exact .inr ⟨b, off, e, Nat.lt_of_lt_of_le hlt hb.size, fun i hi => (hb.cell (p := ⟨b, off + i, none⟩) hlt).trans (hc i hi)⟩

set_option maxHeartbeats 1000000 in
theorem toByteSS_any (ao : Option Addr) (n cap : Nat) (V : Nat → Value) (Rs : Nat → List Int) (w : World) (h : RdS w ao n V Rs) (hB : ∀ i, i < n → Byt (Rs i)) (ht : n + tot Rs n ≤ 1048576) :
    Calls Try.prog 23 #[.slice ao n cap] w fun e w' => ∃ U, e = .returned (.slice (some ⟨w.heap.size, 0, none⟩) n n) ∧ OwS w' w.heap.size w'.heap.size (some ⟨w.heap.size, 0, none⟩) n U Rs ∧ RdA w' (some ⟨w.heap.size, 0, none⟩) n U Rs ∧ Below w.heap.size w w' := by
  obtain ⟨i0, hi, hz0, hz1, hz2⟩ := info_parts Try.info22
  obtain ⟨hrows, hlies⟩ := h
  go_enter Try.func23, Try.ntmps23
  go_wp2_with (at_make; refine wpList_make_full _ rfl (.tmp 6) (.tmp 6) 23 rfl w.heap.size 22 i0 (.slice none 0 0) 1 Try.underlying23 hi hz0 hz1 .i64 .i64 _ _ n rfl rfl rfl rfl (by rw [hz2]; omega) (by unfold maxLen; omega) (Nat.le_refl _) ?_; intro w1 hown hgrow)
  have hb1 : Below w.heap.size w w1 := (Below.refl _ _).grown hgrow (Nat.le_refl _) (fun k h => by simp at h)
  have hlt1 : w.heap.size < w1.heap.size := by
    rcases hown.2 with ⟨h, _⟩ | ⟨g', cap', cur, h, _, hg, _⟩
    · simp at h
    · simp at h; obtain ⟨rfl, _⟩ := h
      exact (Array.getElem?_eq_some_iff.1 hg).1
  have ho := cel_of_made hown hlt1
  clear hown hgrow
  go_loopw [4] (fun i wr => ∃ k : Nat, ∃ G : Nat → Nat, k ≤ n ∧ i = .int .i64 k ∧ MadeS w wr n k G Rs) (fun i _ => n - (intOf i).toNat)
  case atStart => exact ⟨0, fun _ => 0, Nat.zero_le _, rfl, by simpa using ho, fun i hi => absurd hi (Nat.not_lt_zero _), fun i hi => absurd hi (Nat.not_lt_zero _), fun i j _ hj => absurd hj (Nat.not_lt_zero _), hb1⟩
  case round =>
    obtain ⟨k, G, hk, rfl, hM⟩ := hrel
    clear ho hb1 hlt1
    by_cases hlt : k < n
    · obtain ⟨b, off, rfl, hblt, hc⟩ := hlies.resolve_left (by omega)
      obtain ⟨a, c, hV, hr⟩ := hrows k hlt
      have h1 : wr.cell? ⟨b, off + k, none⟩ = some (.slice a (Rs k).length c) := ((hM.bel.cell (p := ⟨b, off + k, none⟩) hblt).trans (hc k hlt)).trans (by rw [hV])
      have hle := len_le_tot Rs hlt
      have hr' := hr.keep hM.bel
      clear hc hlies hrows hV
      go_wp2_with fail
      refine (toByteS_any a (Rs k).length c (fl (Rs k)) _ hr' (by omega)).mono ?_
      rintro e w' ⟨rfl, ho, hb⟩
      have hst := hM.step hlt hb ho
      have hd := (hM.cel.keep hb).cell k hlt
      have hfz := (hM.cel.keep hb).free k hlt
      simp only [Nat.zero_add] at hst hd hfz
      clear hM
      go_wp2
      go_roundw
      case rel => exact ⟨k + 1, _, by omega, by go_num, hst⟩
      case measure => simp [intOf]; omega
    · obtain rfl : k = n := by omega
      go_wp2
      go_ret
      exact ⟨_, rfl, hM.ows hB, hM.rda hB, hM.bel⟩
end Go.Proofs.Ytimlggomjjkhlaa
