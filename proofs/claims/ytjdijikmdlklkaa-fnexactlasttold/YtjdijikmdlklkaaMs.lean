/- Marks laid into texts, tags and ints, and looked for. -/
import Derived.Test.YtjdijikmdlklkaaWr
import Derived.Laws.BytesArg
import Derived.Deep.RegionHeld3
namespace Go.Proofs.Ytjdijikmdlklkaa
open Go.RowKit
set_option linter.unusedSimpArgs false
set_option linter.unusedVariables false

def mtLoop : Nat → Int → ByteArray → ByteArray
  | 0, _, out => out
  | f + 1, k, out => if 0 < k then mtLoop f (k / 10) (strOfNums [48 + k % 10] ++ out) else out
/-- The mark of k. -/
def mt (k : Int) : ByteArray := (⟨#[109]⟩ : ByteArray) ++ mtLoop k.toNat k ⟨#[]⟩
theorem mtLoop_zero (f : Nat) (k : Int) (out : ByteArray) (h : ¬ 0 < k) : mtLoop f k out = out := by
  cases f with
  | zero => rfl
  | succ f => simp [mtLoop, h]
theorem mtLoop_fuel : ∀ (f g : Nat) (k : Int) (out : ByteArray), k.toNat ≤ f → k.toNat ≤ g → mtLoop f k out = mtLoop g k out
  | 0, g, k, out, h, _ => by rw [mtLoop_zero g k out (by omega)]; rfl
  | f + 1, 0, k, out, _, h => by rw [mtLoop_zero (f + 1) k out (by omega)]; rfl
  | f + 1, g + 1, k, out, h1, h2 => by
    simp only [mtLoop]
    split
    · exact mtLoop_fuel f g _ _ (by omega) (by omega)
    · rfl
theorem one_nums (z : Int) : (strOfNums [z]).size = 1 := rfl

set_option maxHeartbeats 1000000 in
theorem markText_any (k : Int) (w : World) (h1 : 1 ≤ k) (h2 : k ≤ 17592186044416) :
    Calls Try.prog 23 #[.int .i64 k] w fun e w' => e = .returned (.string (mt k)) ∧ Below w.heap.size w w' := by
  generalize hM : mt k = M
  have HM : Hid ((⟨#[109]⟩ : ByteArray) ++ mtLoop k.toNat k ⟨#[]⟩ = M) := hM
  clear hM
  have hk0 : ¬ k ≤ 0 := by omega
  go_enter Try.func23, Try.ntmps23
  go_wp2
  go_loopw [0, 3] (fun q v wr => ∃ (c : Int) (s : ByteArray), q = .int .i64 c ∧ v = .string s ∧ 0 ≤ c ∧ c ≤ 17592186044416 ∧ s.size + c.toNat ≤ 17592186044416 ∧ Hid ((⟨#[109]⟩ : ByteArray) ++ mtLoop c.toNat c s = M) ∧ Below w.heap.size w wr) (fun q _ _ => (intOf q).toNat)
  case atStart => exact ⟨k, _, rfl, rfl, by omega, by omega, by have : (⟨#[]⟩ : ByteArray).size = 0 := rfl; omega, HM, Below.refl _ _⟩
  case round =>
    obtain ⟨c, s, rfl, rfl, hc0, hc1, hcs, HC, hbk⟩ := hrel
    by_cases hc : 0 < c
    · have hcv := run_convert_bytes_arg (P := Try.prog) (wr.alloc (.cells #[.int .u8 (48 + c % 10)] 5)) 76 5 Try.underlying76 Try.underlying5 wr.heap.size 0 1 1 [48 + c % 10] rfl (fun i hi => by
        have : i = 0 := by omega
        subst this; simp [go_sem]) 9 Try.underlying9
      have HC' : Hid ((⟨#[109]⟩ : ByteArray) ++ mtLoop (c / 10).toNat (c / 10) (strOfNums [48 + c % 10] ++ s) = M) := by
        unfold Hid
        rw [← HC.out, show c.toNat = (c.toNat - 1) + 1 from by omega]
        conv => rhs; rw [mtLoop, if_pos hc]
        rw [mtLoop_fuel (c / 10).toNat (c.toNat - 1) _ _ (Nat.le_refl _) (by omega)]
      have hsz := one_nums (48 + c % 10)
      generalize strOfNums [48 + c % 10] = z at *
      have hz1 : z.size ≤ 1 := by omega
      have hz2 : (z ++ s).size + (c / 10).toNat ≤ 17592186044416 := by rw [ByteArray.size_append]; omega
      clear hsz
      go_wp2
      go_roundw
      case rel => exact ⟨c / 10, _, rfl, rfl, by omega, by omega, hz2, HC', hbk.alloc hbk.size _⟩
      case measure => simp [intOf]; omega
    · have HZ : Hid ((⟨#[109]⟩ : ByteArray) ++ s = M) := by unfold Hid; rw [← HC.out, mtLoop_zero _ _ _ hc]
      have hs2 : s.size ≤ 17592186044416 := by omega
      go_wp2
      go_ret
      rw [← HZ.out]
      exact ⟨rfl, hbk⟩


/-- All blocks that were there but g are as they were. -/
structure Thru (g : Nat) (w w' : World) : Prop where
  os : w'.os = w.os
  tape : w'.tape = w.tape
  output : w'.output = w.output
  size : w.heap.size ≤ w'.heap.size
  block : ∀ k, k < w.heap.size → k ≠ g → w'.heap[k]? = w.heap[k]?
theorem Thru.refl (g : Nat) (w : World) : Thru g w w := ⟨rfl, rfl, rfl, Nat.le_refl _, fun _ _ _ => rfl⟩
theorem Thru.trans {g : Nat} {u v w : World} (h : Thru g u v) (k : Thru g v w) : Thru g u w :=
  ⟨k.os.trans h.os, k.tape.trans h.tape, k.output.trans h.output, Nat.le_trans h.size k.size, fun i hi hg => (k.block i (Nat.lt_of_lt_of_le hi h.size) hg).trans (h.block i hi hg)⟩
theorem Thru.of_below {g : Nat} {w w' : World} (h : Below w.heap.size w w') : Thru g w w' := ⟨h.os, h.tape, h.output, h.size, fun k hk _ => h.block k hk⟩
theorem Thru.of_others {g : Nat} {w w' : World} (h : Others g w w') : Thru g w w' := ⟨h.os, h.tape, h.output, by rw [h.size]; exact Nat.le_refl _, fun k _ hg => h.block k hg⟩
theorem Thru.below {g B : Nat} {w w' : World} (h : Thru g w w') (hB : B ≤ g) (hs : B ≤ w.heap.size) : Below B w w' := ⟨h.os, h.tape, h.output, h.size, fun k hk => h.block k (by omega) (by omega)⟩
theorem Thru.cell {g b o : Nat} {w w' : World} (h : Thru g w w') (hb : b < w.heap.size) (hne : b ≠ g) : w'.cell? ⟨b, o, none⟩ = w.cell? ⟨b, o, none⟩ := World.cell?_of_block (w := w) (a := ⟨b, o, none⟩) (h.block b hb hne)
theorem Thru.frozen {g b o : Nat} {w w' : World} (h : Thru g w w') (hb : b < w.heap.size) (hne : b ≠ g) : w'.frozen? ⟨b, o, none⟩ = w.frozen? ⟨b, o, none⟩ := World.frozen?_of_block (w := w) (a := ⟨b, o, none⟩) (h.block b hb hne)

/-- Only blocks from lo on and below hi have been written. -/
structure Rng (lo hi : Nat) (w w' : World) : Prop where
  os : w'.os = w.os
  tape : w'.tape = w.tape
  output : w'.output = w.output
  size : w.heap.size ≤ w'.heap.size
  block : ∀ c, c < w.heap.size → (c < lo ∨ hi ≤ c) → w'.heap[c]? = w.heap[c]?
theorem Rng.refl (lo hi : Nat) (w : World) : Rng lo hi w w := ⟨rfl, rfl, rfl, Nat.le_refl _, fun _ _ _ => rfl⟩
theorem Rng.trans {lo hi : Nat} {u v w : World} (h : Rng lo hi u v) (k : Rng lo hi v w) : Rng lo hi u w :=
  ⟨k.os.trans h.os, k.tape.trans h.tape, k.output.trans h.output, Nat.le_trans h.size k.size, fun c hc hd => (k.block c (Nat.lt_of_lt_of_le hc h.size) hd).trans (h.block c hc hd)⟩
theorem Rng.below {lo hi B : Nat} {w w' : World} (h : Rng lo hi w w') (hB : B ≤ lo) (hs : B ≤ w.heap.size) : Below B w w' :=
  ⟨h.os, h.tape, h.output, h.size, fun c hc => h.block c (by omega) (.inl (by omega))⟩
theorem Rng.of_below {lo hi : Nat} {w w' : World} (h : Below w.heap.size w w') : Rng lo hi w w' := ⟨h.os, h.tape, h.output, h.size, fun c hc _ => h.block c hc⟩
theorem Thru.rng {g lo hi : Nat} {w w' : World} (h : Thru g w w') (h1 : lo ≤ g) (h2 : g < hi) : Rng lo hi w w' := ⟨h.os, h.tape, h.output, h.size, fun c hc hd => h.block c hc (by omega)⟩

/-- Half of the next tag is laid. -/
theorem TOwn.first {w : World} {b n k : Nat} {nm vl : Nat → ByteArray} (h : TOwn w b n k nm vl) (hk : k < n) (x : Value) :
    TOwn (w.setCell ⟨b, k * 2, none⟩ x) b n k nm vl ∧ (w.setCell ⟨b, k * 2, none⟩ x).cell? ⟨b, k * 2, none⟩ = some x := by
  obtain ⟨v1, hv1⟩ := h.there (k * 2) (by omega)
  have other : ∀ j, j ≠ k * 2 → (w.setCell ⟨b, k * 2, none⟩ x).cell? ⟨b, j, none⟩ = w.cell? ⟨b, j, none⟩ := fun j h1 => World.cell?_setCell_other _ _ _ _ (by intro hh; injection hh with _ h3 _; omega)
  have same := World.cell?_setCell_same w ⟨b, k * 2, none⟩ x hv1
  refine ⟨⟨by simpa using h.lt, fun i hi hin => ?_, fun j hj => ?_, fun j hj => by simpa using h.free j hj⟩, same⟩
  · rw [other _ (by omega), other _ (by omega)]; exact h.cell i hi hin
  · by_cases e : j = k * 2
    · subst e; exact ⟨_, same⟩
    · rw [other _ e]; exact h.there j hj
theorem TOwn.second {w : World} {b n k : Nat} {nm vl : Nat → ByteArray} (h : TOwn w b n k nm vl) (hk : k < n) (h0 : w.cell? ⟨b, k * 2, none⟩ = some (.string (nm k))) :
    TOwn (w.setCell ⟨b, k * 2 + 1, none⟩ (.string (vl k))) b n (k + 1) nm vl := by
  obtain ⟨v2, hv2⟩ := h.there (k * 2 + 1) (by omega)
  have other : ∀ j, j ≠ k * 2 + 1 → (w.setCell ⟨b, k * 2 + 1, none⟩ (.string (vl k))).cell? ⟨b, j, none⟩ = w.cell? ⟨b, j, none⟩ := fun j h1 => World.cell?_setCell_other _ _ _ _ (by intro hh; injection hh with _ h3 _; omega)
  have same := World.cell?_setCell_same w ⟨b, k * 2 + 1, none⟩ (.string (vl k)) hv2
  refine ⟨by simpa using h.lt, fun i hi hin => ?_, fun j hj => ?_, fun j hj => by simpa using h.free j hj⟩
  · by_cases e : i = k
    · subst e; exact ⟨(other _ (by omega)).trans h0, same⟩
    · rw [other _ (by omega), other _ (by omega)]; exact h.cell i (by omega) hin
  · by_cases e : j = k * 2 + 1
    · subst e; exact ⟨_, same⟩
    · rw [other _ e]; exact h.there j hj

/-- The marks of tags from k0 on. -/
def mtN (k0 i : Nat) : ByteArray := mt (((k0 + 2 * i : Nat)) : Int)
def mtV (k0 i : Nat) : ByteArray := mt (((k0 + 1 + 2 * i : Nat)) : Int)

set_option maxHeartbeats 1000000 in
theorem markTagS_any (g n cap k0 : Nat) (w : World) (nm vl : Nat → ByteArray) (ho : TOwn w g n n nm vl) (hn : n ≤ 1048576) (hk1 : 1 ≤ k0) (hk2 : k0 ≤ 8796093022208) :
    Calls Try.prog 24 #[.slice (some ⟨g, 0, none⟩) n cap, .int .i64 k0] w fun e w' => e = .returned (.int .i64 ((k0 : Int) + 2 * (n : Int))) ∧ TOwn w' g n n (mtN k0) (mtV k0) ∧ Thru g w w' := by
  have h0 : TOwn w g n 0 (mtN k0) (mtV k0) := ⟨ho.lt, fun i hi => by omega, ho.there, ho.free⟩
  clear ho
  go_enter Try.func24, Try.ntmps24
  go_wp2
  go_loopw [1, 5] (fun q i wr => ∃ k : Nat, k ≤ n ∧ i = .int .i64 k ∧ q = .int .i64 ((k0 : Int) + 2 * (k : Int)) ∧ TOwn wr g n k (mtN k0) (mtV k0) ∧ Thru g w wr) (fun _ i _ => n - (intOf i).toNat)
  case atStart => exact ⟨0, by omega, rfl, rfl, h0, Thru.refl _ _⟩
  case round =>
    clear h0
    obtain ⟨k, hk, rfl, rfl, hok, hbk⟩ := hrel
    by_cases hlt : k < n
    · go_wp2_with fail
      refine (markText_any _ _ (by omega) (by omega)).mono ?_
      rintro e w1 ⟨rfl, hb1⟩
      rw [show mt ((k0 : Int) + 2 * (k : Int)) = mtN k0 k from by unfold mtN; congr 1]
      have ok1 := hok.keep hb1
      obtain ⟨v1, hv1⟩ := ok1.there (k * 2) (by omega)
      have hf1 := ok1.free (k * 2) (by omega)
      obtain ⟨ok2, hc2⟩ := ok1.first hlt (.string (mtN k0 k))
      have hbk2 : Thru g w (w1.setCell ⟨g, k * 2, none⟩ (.string (mtN k0 k))) := (hbk.trans (Thru.of_below hb1)).trans (Thru.of_others (Others.setCell _ _ _ _))
      go_wp2_with fail
      refine (markText_any _ _ (by omega) (by omega)).mono ?_
      rintro e w2 ⟨rfl, hb2⟩
      rw [show mt ((k0 : Int) + 2 * (k : Int) + 1) = mtV k0 k from by unfold mtV; congr 1; omega]
      have ok3 := ok2.keep hb2
      have hc3 := (hb2.cell (p := ⟨g, k * 2, none⟩) ok2.lt).trans hc2
      obtain ⟨v2, hv2⟩ := ok3.there (k * 2 + 1) (by omega)
      have hf2 := ok3.free (k * 2 + 1) (by omega)
      have ok4 := ok3.second hlt hc3
      have hbk4 : Thru g w (w2.setCell ⟨g, k * 2 + 1, none⟩ (.string (mtV k0 k))) := (hbk2.trans (Thru.of_below hb2)).trans (Thru.of_others (Others.setCell _ _ _ _))
      clear ok1 ok2 ok3 hok hbk hbk2 hb1 hb2 hv1 hf1 hc2 hc3
      go_wp2
      go_roundw
      case rel => exact ⟨k + 1, by omega, by go_num, by go_num, ok4, hbk4⟩
      case measure => simp [intOf]; omega
    · have e : k = n := by omega
      subst e
      go_wp2
      go_ret
      exact ⟨rfl, hok, hbk⟩

set_option maxHeartbeats 1000000 in
theorem heldTagS_yes (ao : Option Addr) (n cap k0 : Nat) (w : World) (hr : TRow w ao n (mtN k0) (mtV k0)) (hn : n ≤ 1048576) (hk1 : 1 ≤ k0) (hk2 : k0 ≤ 8796093022208) :
    Calls Try.prog 26 #[.slice ao n cap, .int .i64 k0] w fun e w' => e = .returned (.int .i64 ((k0 : Int) + 2 * (n : Int))) ∧ Below w.heap.size w w' := by
  obtain ⟨hl⟩ := hr
  go_enter Try.func26, Try.ntmps26
  go_wp2
  go_loopw [1, 5] (fun q i wr => ∃ k : Nat, k ≤ n ∧ i = .int .i64 k ∧ q = .int .i64 ((k0 : Int) + 2 * (k : Int)) ∧ Below w.heap.size w wr) (fun _ i _ => n - (intOf i).toNat)
  case atStart => exact ⟨0, by omega, rfl, rfl, Below.refl _ _⟩
  case round =>
    obtain ⟨k, hk, rfl, rfl, hbk⟩ := hrel
    by_cases hlt : k < n
    · obtain ⟨b, off, rfl, hblt, hc⟩ := hl.resolve_left (by omega)
      have hc1 : wr.cell? ⟨b, off + k * 2, none⟩ = some (.string (mtN k0 k)) := (hbk.cell (p := ⟨b, off + k * 2, none⟩) hblt).trans (hc k hlt).1
      have hc2 : wr.cell? ⟨b, off + k * 2 + 1, none⟩ = some (.string (mtV k0 k)) := (hbk.cell (p := ⟨b, off + k * 2 + 1, none⟩) hblt).trans (hc k hlt).2
      have hb' : b < wr.heap.size := by have := hbk.size; omega
      clear hc hl
      go_wp2
      go_region_held3 (fun w' => w'.cell? ⟨b, off + k * 2, none⟩ = some (.string (mtN k0 k)) ∧ w'.cell? ⟨b, off + k * 2 + 1, none⟩ = some (.string (mtV k0 k))) (go_keep) (first | (go_at_call 23; refine (markText_any _ _ (by omega) (by omega)).mono ?_; rintro e w1 ⟨rfl, hb1⟩; rw [show mt ((k0 : Int) + 2 * (k : Int)) = mtN k0 k from by unfold mtN; congr 1]; have hb1' := (Below.refl _ wr).drew.trans hb1; have c1 := (hb1'.cell (p := ⟨b, off + k * 2, none⟩) hb').trans hc1; have c2 := (hb1'.cell (p := ⟨b, off + k * 2 + 1, none⟩) hb').trans hc2; have bw1 : Below w.heap.size w w1 := hbk.trans (hb1'.mono hbk.size); have hb1s : b < w1.heap.size := by have := hb1'.size; omega))
      clear hb1 hb1' hc1 hc2 hbk hb'
      go_wp2
      go_region_held3 (fun w' => w'.cell? ⟨b, off + k * 2, none⟩ = some (.string (mtN k0 k)) ∧ w'.cell? ⟨b, off + k * 2 + 1, none⟩ = some (.string (mtV k0 k))) (go_keep) (first | (go_at_call 23; refine (markText_any _ _ (by omega) (by omega)).mono ?_; rintro e w2 ⟨rfl, hb2⟩; rw [show mt ((k0 : Int) + 2 * (k : Int) + 1) = mtV k0 k from by unfold mtV; congr 1; omega]; have hb2' := (Below.refl _ w1).drew.trans hb2; have d1 := (hb2'.cell (p := ⟨b, off + k * 2, none⟩) hb1s).trans c1; have d2 := (hb2'.cell (p := ⟨b, off + k * 2 + 1, none⟩) hb1s).trans c2; have bw2 : Below w.heap.size w w2 := bw1.trans (hb2'.mono bw1.size)))
      clear hb2 hb2' c1 c2 bw1 hb1s
      go_wp2
      go_roundw
      case rel => exact ⟨k + 1, by omega, by go_num, by go_num, bw2⟩
      case measure => simp [intOf]; omega
    · have e : k = n := by omega
      subst e
      go_wp2
      go_ret
      exact ⟨rfl, hbk⟩


set_option maxHeartbeats 400000 in
theorem markT_zero (ao : Option Addr) (cap : Nat) (q : Int) (w : World) :
    Calls Try.prog 24 #[.slice ao 0 cap, .int .i64 q] w fun e w' => e = .returned (.int .i64 q) ∧ w' = w := by
  go_enter Try.func24, Try.ntmps24
  go_wp2
  go_loopw [1, 5] (fun p i wr => i = .int .i64 0 ∧ p = .int .i64 q ∧ wr = w) (fun _ _ _ => 0)
  case atStart => exact ⟨rfl, rfl, rfl⟩
  case round =>
    obtain ⟨rfl, rfl, rfl⟩ := hrel
    go_wp2
    go_ret
    exact ⟨rfl, rfl⟩

set_option maxHeartbeats 400000 in
theorem markI_zero (ao : Option Addr) (cap : Nat) (q : Int) (w : World) :
    Calls Try.prog 25 #[.slice ao 0 cap, .int .i64 q] w fun e w' => e = .returned (.int .i64 q) ∧ w' = w := by
  go_enter Try.func25, Try.ntmps25
  go_wp2
  go_loopw [1, 5] (fun p i wr => i = .int .i64 0 ∧ p = .int .i64 q ∧ wr = w) (fun _ _ _ => 0)
  case atStart => exact ⟨rfl, rfl, rfl⟩
  case round =>
    obtain ⟨rfl, rfl, rfl⟩ := hrel
    go_wp2
    go_ret
    exact ⟨rfl, rfl⟩

/-- The marks of ints from k0 on. -/
def mI (k0 i : Nat) : Int := ((k0 + i : Nat) : Int)
/-- Marks of n ints, noughts behind them. -/
def mIn (k0 n i : Nat) : Int := if i < n then mI k0 i else 0
theorem mIn_bd (k0 n : Nat) (hn : n ≤ 1048576) (hk : k0 ≤ 8796093022208) (i : Nat) : -9223372036854775808 ≤ mIn k0 n i ∧ mIn k0 n i ≤ 9223372036854775807 := by
  unfold mIn mI
  split <;> omega
set_option maxHeartbeats 400000 in
theorem markI_any (g off n cap : Nat) (f : Nat → Int) (k0 : Nat) (w : World) (ho : IOwn w g off n f) (hn : n ≤ 1048576) (hk0 : k0 ≤ 8796093022208) :
    Calls Try.prog 25 #[.slice (some ⟨g, off, none⟩) n cap, .int .i64 k0] w fun e w' => e = .returned (.int .i64 ((k0 + n : Nat) : Int)) ∧ (∃ fy, IOwn w' g off n fy ∧ ∀ i, i < n → fy i = ((k0 + i : Nat) : Int)) ∧ Others g w w' := by
  go_enter Try.func25, Try.ntmps25
  go_wp2
  go_loopw [1, 5] (fun q i wr => ∃ k : Nat, k ≤ n ∧ i = .int .i64 k ∧ q = .int .i64 ((k0 + k : Nat) : Int) ∧ IOwn wr g off n (fun j => if j < k then ((k0 + j : Nat) : Int) else f j) ∧ Others g w wr) (fun _ i _ => n - (intOf i).toNat)
  case atStart => exact ⟨0, Nat.zero_le _, rfl, by simp, by simpa using ho, Others.refl _ _⟩
  case round =>
    obtain ⟨k, hk, rfl, rfl, hok, hbk⟩ := hrel
    by_cases hlt : k < n
    · have hd := hok.cell k hlt
      have hfz := hok.free k hlt
      have hst := hok.store k hlt (((k0 + k : Nat) : Int)) (by omega)
      rw [Int.natCast_add] at hst
      clear ho
      go_wp2
      go_roundw
      case rel =>
        refine ⟨k + 1, by omega, by go_num, by go_num, hst.congr (fun i => ?_) (fun i _ => ?_), hbk.trans (Others.setCell _ _ _ _)⟩
        · have := hok.bd i
          by_cases h : i < k + 1
          · simp only [h, if_true]; omega
          · rw [if_neg (by omega)] at this; rw [if_neg h]; exact this
        · by_cases h1 : i = k
          · subst h1; rw [if_pos rfl, if_pos (by omega), Int.natCast_add]
          · by_cases h2 : i < k
            · rw [if_neg h1, if_pos h2, if_pos (by omega)]
            · rw [if_neg h1, if_neg h2, if_neg (by omega)]
      case measure => simp [intOf]; omega
    · go_wp2
      go_ret
      have : k = n := by omega
      subst this
      exact ⟨rfl, ⟨_, hok, fun i hi => by rw [if_pos hi]⟩, hbk⟩

set_option maxHeartbeats 400000 in
theorem heldI_from (ao : Option Addr) (n cap : Nat) (q : Int) (f : Nat → Int) (w : World) (hr : IRow w ao n f) (hf : ∀ i, i < n → f i = q + i) (hn : n ≤ 1048576) (hq : 0 ≤ q ∧ q ≤ 8796093022208) :
    Calls Try.prog 27 #[.slice ao n cap, .int .i64 q] w fun e w' => e = .returned (.int .i64 (q + n)) ∧ Below w.heap.size w w' := by
  obtain ⟨hbd, hl⟩ := hr
  go_enter Try.func27, Try.ntmps27
  go_wp2
  go_loopw [1, 5] (fun p i wr => ∃ k : Nat, k ≤ n ∧ i = .int .i64 k ∧ p = .int .i64 (q + k) ∧ Below w.heap.size w wr) (fun _ i _ => n - (intOf i).toNat)
  case atStart => exact ⟨0, Nat.zero_le _, rfl, by simp, Below.refl _ _⟩
  case round =>
    obtain ⟨k, hk, rfl, rfl, hbk⟩ := hrel
    by_cases hlt : k < n
    · obtain ⟨b, off, rfl, hblt, hc⟩ := hl.resolve_left (by omega)
      have h1 : wr.cell? ⟨b, off + k, none⟩ = some (.int .i64 (q + k)) := by rw [← hf k hlt]; exact (hbk.cell (p := ⟨b, off + k, none⟩) hblt).trans (hc k hlt)
      have hw : IntKind.i64.wrap (q + (k : Int) + 1) = q + ((k + 1 : Nat) : Int) := by rw [IntKind.wrap_i64] <;> omega
      clear hc hl hbd hf
      go_wp2
      go_roundw
      case rel => exact ⟨k + 1, by omega, by go_num, by first | rfl | go_num, hbk⟩
      case measure => simp [intOf]; omega
    · have e : k = n := by omega
      subst e
      go_wp2
      go_ret
      exact ⟨rfl, hbk⟩

theorem Rng.of_set {b lo hi : Nat} {w : World} (h : lo ≤ b ∧ b < hi) (o : Nat) (v : Value) : Rng lo hi w (w.setCell ⟨b, o, none⟩ v) := (Thru.of_others (Others.setCell w b o v)).rng h.1 h.2
theorem TOwn.blk {w w' : World} {b n k : Nat} {nm vl : Nat → ByteArray} (h : TOwn w b n k nm vl) (hb : w'.heap[b]? = w.heap[b]?) (hs : w.heap.size ≤ w'.heap.size) : TOwn w' b n k nm vl :=
  have cl : ∀ j, w'.cell? ⟨b, j, none⟩ = w.cell? ⟨b, j, none⟩ := fun j => World.cell?_of_block (w := w) (a := ⟨b, j, none⟩) hb
  have fz : ∀ j, w'.frozen? ⟨b, j, none⟩ = w.frozen? ⟨b, j, none⟩ := fun j => World.frozen?_of_block (w := w) (a := ⟨b, j, none⟩) hb
  ⟨Nat.lt_of_lt_of_le h.lt hs, fun i hk hi => by rw [cl, cl]; exact h.cell i hk hi, fun j hj => by rw [cl]; exact h.there j hj, fun j hj => by rw [fz]; exact h.free j hj⟩
theorem IOwn.blk {w w' : World} {b off n : Nat} {f : Nat → Int} (h : IOwn w b off n f) (hb : w'.heap[b]? = w.heap[b]?) (hs : w.heap.size ≤ w'.heap.size) : IOwn w' b off n f :=
  ⟨h.bd, Nat.lt_of_lt_of_le h.lt hs, fun i hi => (World.cell?_of_block (w := w) (a := ⟨b, off + i, none⟩) hb).trans (h.cell i hi), fun i hi => (World.frozen?_of_block (w := w) (a := ⟨b, off + i, none⟩) hb).trans (h.free i hi)⟩
end Go.Proofs.Ytjdijikmdlklkaa
