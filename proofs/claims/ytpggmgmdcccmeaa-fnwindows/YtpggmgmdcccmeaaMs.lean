/- Good aggs, in the program. / Marks laid into texts, tags and ints, and looked for. -/
import Derived.Test.YtpggmgmdcccmeaaWr
import Derived.Laws.BytesArg
import Derived.Deep.RegionHeld3
namespace Go.Proofs.Ytpggmgmdcccmeaa
open Go.RowKit
set_option linter.unusedSimpArgs false
set_option linter.unusedVariables false

/-- The first k together. -/
def sumF (f : Nat → Int) : Nat → Int
  | 0 => 0
  | k + 1 => sumF f k + f k
theorem sumF_bd {f : Nat → Int} {k : Nat} (h : ∀ i, i < k → isC (f i) = true) : 0 ≤ sumF f k ∧ sumF f k ≤ 1000000000 * (k : Int) := by
  induction k with
  | zero => simp [sumF]
  | succ k ih =>
    have h1 := ih (fun i hi => h i (by omega))
    have h2 := h k (by omega)
    simp [isC, btw] at h2
    simp only [sumF]
    omega

/-- Good, in the document's words. -/
def GoodA (c s lo hi : Int) (n : Nat) (f : Nat → Int) (fu : Bool) : Prop :=
  isC c = true ∧ n = 8 ∧ (∀ i, i < 8 → isC (f i) = true) ∧ (fu = false → sumF f 8 = c ∧ -1000000000 * c ≤ s ∧ s ≤ 1000000000 * c) ∧ (fu = true → s = 0 ∧ 0 < c) ∧
    (c = 0 → lo = 0 ∧ hi = 0) ∧ (c ≠ 0 → isV lo = true ∧ isV hi = true ∧ lo ≤ hi)

/-- What a question leaves: an answer that says whether p. -/
def Ans (p : Prop) (w : World) (e : Ending) (w' : World) : Prop := ∃ b : Bool, e = .returned (.bool b) ∧ (b = true ↔ p) ∧ Below w.heap.size w w'
theorem Ans.mk {p : Prop} {w w' : World} (b : Bool) (h : b = true ↔ p) (hb : Below w.heap.size w w') : Ans p w (.returned (.bool b)) w' := ⟨b, rfl, h, hb⟩

theorem goodHist_any (ao : Option Addr) (n cap : Nat) (f : Nat → Int) (w : World) (hr : IRow w ao n f) (hn : n ≤ 1048576) :
    Calls Try.prog 94 #[.slice ao n cap] w fun e w' => Ans (n = 8 ∧ ∀ i, i < 8 → isC (f i) = true) w e w' := by
  obtain ⟨hbd, hlies⟩ := hr
  go_enter Try.func94, Try.ntmps94
  go_wp2
  go_loopw [7] (fun i wr => ∃ k : Nat, k ≤ n ∧ i = .int .i64 k ∧ Hid (∀ i, i < k → isC (f i) = true) ∧ wr = w) (fun i _ => n - (intOf i).toNat)
  case atStart => exact ⟨0, Nat.zero_le _, rfl, fun i h => by omega, rfl⟩
  case round =>
    obtain ⟨k, hk, rfl, hall, rfl⟩ := hrel
    by_cases hlt : k < n
    · obtain ⟨b, off, rfl, hblt, hc⟩ := hlies.resolve_left (by omega)
      have h1 := hc k hlt
      clear hc hlies
      go_wp2_with fail
      refine (isCount_any (f k) _).mono ?_
      rintro e w1 ⟨rfl, rfl⟩
      cases hx : isC (f k)
      · go_wp2
        refine bodyPost_ret (v := .bool false) (by simp [results, Try.results94, go_sem]) rfl (Ans.mk false ?_ (Below.refl _ _))
        simp only [Bool.false_eq_true, false_iff]
        rintro ⟨rfl, h⟩
        rw [h k hlt] at hx
        cases hx
      · have HX : Hid (isC (f k) = true) := hx
        clear hx
        go_wp2
        go_roundw
        case rel =>
          refine ⟨k + 1, by omega, by go_num, ?_, by first | rfl | trivial⟩
          intro i hi
          rcases Nat.lt_succ_iff_lt_or_eq.1 hi with h | rfl
          · exact hall.out i h
          · exact HX.out
        case measure => simp [intOf]; omega
    · have e : k = n := by omega
      have HE : Hid (k = n) := e
      clear e
      go_wp2
      refine bodyPost_ret (v := .bool ((n : Int) == 8)) (by simp [results, Try.results94, go_sem]) rfl (Ans.mk _ ?_ (Below.refl _ _))
      have e := HE.out
      subst e
      constructor
      · intro h
        have h8 : k = 8 := by have h' : (k : Int) = 8 := by simpa using h
                              omega
        subst h8
        exact ⟨rfl, hall.out⟩
      · rintro ⟨rfl, _⟩
        rfl

set_option maxHeartbeats 800000 in
theorem goodBounds_any (c s lo hi : Int) (hv : Value) (fu : Bool) (w : World) :
    Calls Try.prog 96 #[.agg #[.int .i64 c, .int .i64 s, .int .i64 lo, .int .i64 hi, hv, .bool fu]] w fun e w' => Ans ((c = 0 → lo = 0 ∧ hi = 0) ∧ (c ≠ 0 → isV lo = true ∧ isV hi = true ∧ lo ≤ hi)) w e w' := by
  have hB := fun o => below_new w o
  by_cases hc : c = 0
  · subst hc
    by_cases h1 : lo = 0
    · subst h1
      go_enter Try.func96, Try.ntmps96
      go_wp2
      exact bodyPost_ret (v := .bool (hi == 0)) (by simp [results, Try.results96, go_sem]) rfl (Ans.mk _ (by simp) (hB _))
    · have H1 : Hid (¬ lo = 0) := h1
      go_enter Try.func96, Try.ntmps96
      go_wp2
      exact bodyPost_ret (v := .bool false) (by simp [results, Try.results96, go_sem]) rfl (Ans.mk _ (by have := H1.out; simp [this]) (hB _))
  · cases hl : isV lo
    · go_enter Try.func96, Try.ntmps96
      go_wp2_with fail
      refine (isValue_any lo _).mono ?_
      rintro e w1 ⟨rfl, rfl⟩
      go_wp2
      exact bodyPost_ret (v := .bool false) (by simp [results, Try.results96, go_sem]) rfl (Ans.mk _ (by simp [hc, hl]) (hB _))
    · cases hh : isV hi
      · go_enter Try.func96, Try.ntmps96
        go_wp2_with fail
        refine (isValue_any lo _).mono ?_
        rintro e w1 ⟨rfl, rfl⟩
        go_wp2_with fail
        refine (isValue_any hi _).mono ?_
        rintro e w1 ⟨rfl, rfl⟩
        go_wp2
        exact bodyPost_ret (v := .bool false) (by simp [results, Try.results96, go_sem]) rfl (Ans.mk _ (by simp [hc, hh]) (hB _))
      · go_enter Try.func96, Try.ntmps96
        go_wp2_with fail
        refine (isValue_any lo _).mono ?_
        rintro e w1 ⟨rfl, rfl⟩
        go_wp2_with fail
        refine (isValue_any hi _).mono ?_
        rintro e w1 ⟨rfl, rfl⟩
        go_wp2
        exact bodyPost_ret (v := .bool (decide (lo ≤ hi))) (by simp [results, Try.results96, go_sem]) rfl (Ans.mk _ (by simp [hc, hl, hh]) (hB _))

theorem goodTotals_full (c s lo hi : Int) (hv : Value) (w : World) :
    Calls Try.prog 95 #[.agg #[.int .i64 c, .int .i64 s, .int .i64 lo, .int .i64 hi, hv, .bool true]] w fun e w' => Ans (s = 0 ∧ 0 < c) w e w' := by
  have hB := fun o => below_new w o
  by_cases h1 : s = 0
  · subst h1
    go_enter Try.func95, Try.ntmps95
    go_wp2
    exact bodyPost_ret (v := .bool (decide (0 < c))) (by simp [results, Try.results95, go_sem]) rfl (Ans.mk _ (by simp) (hB _))
  · have H1 : Hid (¬ s = 0) := h1
    go_enter Try.func95, Try.ntmps95
    go_wp2
    exact bodyPost_ret (v := .bool false) (by simp [results, Try.results95, go_sem]) rfl (Ans.mk _ (by have := H1.out; simp [this]) (hB _))

set_option maxHeartbeats 800000 in
theorem goodTotals_not (c s lo hi : Int) (ao : Option Addr) (cap : Nat) (f : Nat → Int) (w : World) (hr : IRow w ao 8 f) (hc : 0 ≤ c ∧ c ≤ 1000000000) (hs : -9223372036854775808 ≤ s ∧ s ≤ 9223372036854775807) (hf : ∀ i, i < 8 → isC (f i) = true) :
    Calls Try.prog 95 #[.agg #[.int .i64 c, .int .i64 s, .int .i64 lo, .int .i64 hi, .slice ao 8 cap, .bool false]] w fun e w' => Ans (sumF f 8 = c ∧ -1000000000 * c ≤ s ∧ s ≤ 1000000000 * c) w e w' := by
  obtain ⟨b, off, rfl, hblt, hcell⟩ := hr.lies.resolve_left (by omega)
  have hB := fun o => below_new w o
  have HF : Hid (∀ i, i < 8 → isC (f i) = true) := hf
  have hw : IntKind.i64.wrap (1000000000 * c) = 1000000000 * c := by rw [IntKind.wrap_i64] <;> omega
  have hwn : IntKind.i64.wrap (-(1000000000 * c)) = -(1000000000 * c) := by rw [IntKind.wrap_i64] <;> omega
  have hal : ∀ O i, i < 8 → (w.alloc O).cell? ⟨b, off + i, none⟩ = some (.int .i64 (f i)) := fun O i hi => (World.cell?_alloc_old _ _ _ (Nat.ne_of_lt hblt)).trans (hcell i hi)
  clear hf hcell hr
  generalize hO : (Obj.cells #[Value.int .i64 c, .int .i64 s, .int .i64 lo, .int .i64 hi, .slice (some ⟨b, off, none⟩) 8 cap, .bool false] 35) = O
  have A := AAt.new w c s lo hi (.slice (some ⟨b, off, none⟩) 8 cap) false 35
  rw [hO] at A
  obtain ⟨la, a0, a1, a2, a3, a4, a5⟩ := A
  go_enter Try.func95, Try.ntmps95
  go_wp2
  go_loopw [3, 20] (fun q i wr => ∃ k : Nat, k ≤ 8 ∧ i = .int .i64 k ∧ q = .int .i64 (sumF f k) ∧ wr = w.alloc O) (fun _ i _ => 8 - (intOf i).toNat)
  case atStart => exact ⟨0, Nat.zero_le _, rfl, rfl, rfl⟩
  case round =>
    obtain ⟨k, hk, rfl, rfl, rfl⟩ := hrel
    have hsb := sumF_bd (f := f) (k := k) (fun i hi => HF.out i (by omega))
    by_cases hlt : k < 8
    · have h1 := hal O k hlt
      have h2 := HF.out k hlt
      simp [isC, btw] at h2
      clear hal hO
      go_wp2
      go_roundw
      case rel => exact ⟨k + 1, by omega, by go_num, by go_num, by first | rfl | trivial⟩
      case measure => simp [intOf]; omega
    · have e : k = 8 := by omega
      subst e
      clear hal hO
      by_cases h1 : sumF f 8 = c
      · subst h1
        by_cases h2 : -(1000000000 * sumF f 8) ≤ s
        · have H2 : Hid (-(1000000000 * sumF f 8) ≤ s) := h2
          go_wp2
          exact bodyPost_ret (v := .bool (decide (s ≤ 1000000000 * sumF f 8))) (by simp [results, Try.results95, go_sem]) rfl (Ans.mk _ (by have := H2.out; simp; omega) (hB _))
        · have H2 : Hid (¬ -(1000000000 * sumF f 8) ≤ s) := h2
          have hd : decide (-(1000000000 * sumF f 8) ≤ s) = false := by simpa using h2
          go_wp2
          exact bodyPost_ret (v := .bool false) (by simp [results, Try.results95, go_sem]) rfl (Ans.mk _ (by have := H2.out; simp; omega) (hB _))
      · have H1 : Hid (¬ sumF f 8 = c) := h1
        go_wp2
        exact bodyPost_ret (v := .bool false) (by simp [results, Try.results95, go_sem]) rfl (Ans.mk _ (by have := H1.out; simp [this]) (hB _))
end Go.Proofs.Ytpggmgmdcccmeaa
namespace Go.Proofs.Ytpggmgmdcccmeaa
open Go.RowKit
set_option linter.unusedSimpArgs false
set_option linter.unusedVariables false

def mtLoop : Nat → Int → ByteArray → ByteArray
  | 0, _, out => out
  | f + 1, k, out => if 0 < k then mtLoop f (k / 10) (strOfNums [48 + k % 10] ++ out) else out
/-- The mark of k. -/
def mt (k : Int) : ByteArray := (⟨#[109]⟩ : ByteArray) ++ mtLoop k.toNat k ⟨#[]⟩
theorem mtLoop_zero (f : Nat) (k : Int) (out : ByteArray) (h : ¬ 0 < k) : mtLoop f k out = out := by
  cases f with
  | zero => rfl
  | succ f => simp [mtLoop, h]
theorem mtLoop_fuel : ∀ (f g : Nat) (k : Int) (out : ByteArray), k.toNat ≤ f → k.toNat ≤ g → mtLoop f k out = mtLoop g k out
  | 0, g, k, out, h, _ => by rw [mtLoop_zero g k out (by omega)]; rfl
  | f + 1, 0, k, out, _, h => by rw [mtLoop_zero (f + 1) k out (by omega)]; rfl
  | f + 1, g + 1, k, out, h1, h2 => by
    simp only [mtLoop]
    split
    · exact mtLoop_fuel f g _ _ (by omega) (by omega)
    · rfl
theorem one_nums (z : Int) : (strOfNums [z]).size = 1 := rfl

/-- All blocks that were there but g are as they were. -/
structure Thru (g : Nat) (w w' : World) : Prop where
  os : w'.os = w.os
  tape : w'.tape = w.tape
  output : w'.output = w.output
  size : w.heap.size ≤ w'.heap.size
  block : ∀ k, k < w.heap.size → k ≠ g → w'.heap[k]? = w.heap[k]?
theorem Thru.refl (g : Nat) (w : World) : Thru g w w := ⟨rfl, rfl, rfl, Nat.le_refl _, fun _ _ _ => rfl⟩
theorem Thru.trans {g : Nat} {u v w : World} (h : Thru g u v) (k : Thru g v w) : Thru g u w :=
  ⟨k.os.trans h.os, k.tape.trans h.tape, k.output.trans h.output, Nat.le_trans h.size k.size, fun i hi hg => (k.block i (Nat.lt_of_lt_of_le hi h.size) hg).trans (h.block i hi hg)⟩
theorem Thru.of_below {g : Nat} {w w' : World} (h : Below w.heap.size w w') : Thru g w w' := ⟨h.os, h.tape, h.output, h.size, fun k hk _ => h.block k hk⟩
theorem Thru.of_others {g : Nat} {w w' : World} (h : Others g w w') : Thru g w w' := ⟨h.os, h.tape, h.output, by rw [h.size]; exact Nat.le_refl _, fun k _ hg => h.block k hg⟩
theorem Thru.below {g B : Nat} {w w' : World} (h : Thru g w w') (hB : B ≤ g) (hs : B ≤ w.heap.size) : Below B w w' := ⟨h.os, h.tape, h.output, h.size, fun k hk => h.block k (by omega) (by omega)⟩
theorem Thru.cell {g b o : Nat} {w w' : World} (h : Thru g w w') (hb : b < w.heap.size) (hne : b ≠ g) : w'.cell? ⟨b, o, none⟩ = w.cell? ⟨b, o, none⟩ := World.cell?_of_block (w := w) (a := ⟨b, o, none⟩) (h.block b hb hne)
theorem Thru.frozen {g b o : Nat} {w w' : World} (h : Thru g w w') (hb : b < w.heap.size) (hne : b ≠ g) : w'.frozen? ⟨b, o, none⟩ = w.frozen? ⟨b, o, none⟩ := World.frozen?_of_block (w := w) (a := ⟨b, o, none⟩) (h.block b hb hne)

/-- Only blocks from lo on and below hi have been written. -/
structure Rng (lo hi : Nat) (w w' : World) : Prop where
  os : w'.os = w.os
  tape : w'.tape = w.tape
  output : w'.output = w.output
  size : w.heap.size ≤ w'.heap.size
  block : ∀ c, c < w.heap.size → (c < lo ∨ hi ≤ c) → w'.heap[c]? = w.heap[c]?
theorem Rng.refl (lo hi : Nat) (w : World) : Rng lo hi w w := ⟨rfl, rfl, rfl, Nat.le_refl _, fun _ _ _ => rfl⟩
theorem Rng.trans {lo hi : Nat} {u v w : World} (h : Rng lo hi u v) (k : Rng lo hi v w) : Rng lo hi u w :=
  ⟨k.os.trans h.os, k.tape.trans h.tape, k.output.trans h.output, Nat.le_trans h.size k.size, fun c hc hd => (k.block c (Nat.lt_of_lt_of_le hc h.size) hd).trans (h.block c hc hd)⟩
theorem Rng.below {lo hi B : Nat} {w w' : World} (h : Rng lo hi w w') (hB : B ≤ lo) (hs : B ≤ w.heap.size) : Below B w w' :=
  ⟨h.os, h.tape, h.output, h.size, fun c hc => h.block c (by omega) (.inl (by omega))⟩
theorem Rng.of_below {lo hi : Nat} {w w' : World} (h : Below w.heap.size w w') : Rng lo hi w w' := ⟨h.os, h.tape, h.output, h.size, fun c hc _ => h.block c hc⟩
theorem Thru.rng {g lo hi : Nat} {w w' : World} (h : Thru g w w') (h1 : lo ≤ g) (h2 : g < hi) : Rng lo hi w w' := ⟨h.os, h.tape, h.output, h.size, fun c hc hd => h.block c hc (by omega)⟩

/-- Half of the next tag is laid. -/
theorem TOwn.first {w : World} {b n k : Nat} {nm vl : Nat → ByteArray} (h : TOwn w b n k nm vl) (hk : k < n) (x : Value) :
    TOwn (w.setCell ⟨b, k * 2, none⟩ x) b n k nm vl ∧ (w.setCell ⟨b, k * 2, none⟩ x).cell? ⟨b, k * 2, none⟩ = some x := by
  obtain ⟨v1, hv1⟩ := h.there (k * 2) (by omega)
  have other : ∀ j, j ≠ k * 2 → (w.setCell ⟨b, k * 2, none⟩ x).cell? ⟨b, j, none⟩ = w.cell? ⟨b, j, none⟩ := fun j h1 => World.cell?_setCell_other _ _ _ _ (by intro hh; injection hh with _ h3 _; omega)
  have same := World.cell?_setCell_same w ⟨b, k * 2, none⟩ x hv1
  refine ⟨⟨by simpa using h.lt, fun i hi hin => ?_, fun j hj => ?_, fun j hj => by simpa using h.free j hj⟩, same⟩
  · rw [other _ (by omega), other _ (by omega)]; exact h.cell i hi hin
  · by_cases e : j = k * 2
    · subst e; exact ⟨_, same⟩
    · rw [other _ e]; exact h.there j hj
theorem TOwn.second {w : World} {b n k : Nat} {nm vl : Nat → ByteArray} (h : TOwn w b n k nm vl) (hk : k < n) (h0 : w.cell? ⟨b, k * 2, none⟩ = some (.string (nm k))) :
    TOwn (w.setCell ⟨b, k * 2 + 1, none⟩ (.string (vl k))) b n (k + 1) nm vl := by
  obtain ⟨v2, hv2⟩ := h.there (k * 2 + 1) (by omega)
  have other : ∀ j, j ≠ k * 2 + 1 → (w.setCell ⟨b, k * 2 + 1, none⟩ (.string (vl k))).cell? ⟨b, j, none⟩ = w.cell? ⟨b, j, none⟩ := fun j h1 => World.cell?_setCell_other _ _ _ _ (by intro hh; injection hh with _ h3 _; omega)
  have same := World.cell?_setCell_same w ⟨b, k * 2 + 1, none⟩ (.string (vl k)) hv2
  refine ⟨by simpa using h.lt, fun i hi hin => ?_, fun j hj => ?_, fun j hj => by simpa using h.free j hj⟩
  · by_cases e : i = k
    · subst e; exact ⟨(other _ (by omega)).trans h0, same⟩
    · rw [other _ (by omega), other _ (by omega)]; exact h.cell i (by omega) hin
  · by_cases e : j = k * 2 + 1
    · subst e; exact ⟨_, same⟩
    · rw [other _ e]; exact h.there j hj

/-- The marks of tags from k0 on. -/
def mtN (k0 i : Nat) : ByteArray := mt (((k0 + 2 * i : Nat)) : Int)
def mtV (k0 i : Nat) : ByteArray := mt (((k0 + 1 + 2 * i : Nat)) : Int)

/-- The marks of ints from k0 on. -/
def mI (k0 i : Nat) : Int := ((k0 + i : Nat) : Int)
/-- Marks of n ints, noughts behind them. -/
def mIn (k0 n i : Nat) : Int := if i < n then mI k0 i else 0
theorem mIn_bd (k0 n : Nat) (hn : n ≤ 1048576) (hk : k0 ≤ 8796093022208) (i : Nat) : -9223372036854775808 ≤ mIn k0 n i ∧ mIn k0 n i ≤ 9223372036854775807 := by
  unfold mIn mI
  split <;> omega
theorem Rng.of_set {b lo hi : Nat} {w : World} (h : lo ≤ b ∧ b < hi) (o : Nat) (v : Value) : Rng lo hi w (w.setCell ⟨b, o, none⟩ v) := (Thru.of_others (Others.setCell w b o v)).rng h.1 h.2
theorem TOwn.blk {w w' : World} {b n k : Nat} {nm vl : Nat → ByteArray} (h : TOwn w b n k nm vl) (hb : w'.heap[b]? = w.heap[b]?) (hs : w.heap.size ≤ w'.heap.size) : TOwn w' b n k nm vl :=
  have cl : ∀ j, w'.cell? ⟨b, j, none⟩ = w.cell? ⟨b, j, none⟩ := fun j => World.cell?_of_block (w := w) (a := ⟨b, j, none⟩) hb
  have fz : ∀ j, w'.frozen? ⟨b, j, none⟩ = w.frozen? ⟨b, j, none⟩ := fun j => World.frozen?_of_block (w := w) (a := ⟨b, j, none⟩) hb
  ⟨Nat.lt_of_lt_of_le h.lt hs, fun i hk hi => by rw [cl, cl]; exact h.cell i hk hi, fun j hj => by rw [cl]; exact h.there j hj, fun j hj => by rw [fz]; exact h.free j hj⟩
theorem IOwn.blk {w w' : World} {b off n : Nat} {f : Nat → Int} (h : IOwn w b off n f) (hb : w'.heap[b]? = w.heap[b]?) (hs : w.heap.size ≤ w'.heap.size) : IOwn w' b off n f :=
  ⟨h.bd, Nat.lt_of_lt_of_le h.lt hs, fun i hi => (World.cell?_of_block (w := w) (a := ⟨b, off + i, none⟩) hb).trans (h.cell i hi), fun i hi => (World.frozen?_of_block (w := w) (a := ⟨b, off + i, none⟩) hb).trans (h.free i hi)⟩
end Go.Proofs.Ytpggmgmdcccmeaa
