/- Marks laid into tags. -/
import Derived.Test.YtddppcfkjhhmhaaKeyAt
import Derived.Test.YtddppcfkjhhmhaaMarks
import Derived.Laws.BytesArg
namespace Go.Proofs.Ytddppcfkjhhmhaa
open Go.RowKit
set_option linter.unusedSimpArgs false
set_option linter.unusedVariables false

def mtLoop : Nat → Int → ByteArray → ByteArray
  | 0, _, out => out
  | f + 1, k, out => if 0 < k then mtLoop f (k / 10) (strOfNums [48 + k % 10] ++ out) else out
/-- The mark of k. -/
def mt (k : Int) : ByteArray := (⟨#[109]⟩ : ByteArray) ++ mtLoop k.toNat k ⟨#[]⟩
theorem mtLoop_zero (f : Nat) (k : Int) (out : ByteArray) (h : ¬ 0 < k) : mtLoop f k out = out := by
  cases f with
  | zero => rfl
  | succ f => simp [mtLoop, h]
theorem mtLoop_fuel : ∀ (f g : Nat) (k : Int) (out : ByteArray), k.toNat ≤ f → k.toNat ≤ g → mtLoop f k out = mtLoop g k out
  | 0, g, k, out, h, _ => by rw [mtLoop_zero g k out (by omega)]; rfl
  | f + 1, 0, k, out, _, h => by rw [mtLoop_zero (f + 1) k out (by omega)]; rfl
  | f + 1, g + 1, k, out, h1, h2 => by
    simp only [mtLoop]
    split
    · exact mtLoop_fuel f g _ _ (by omega) (by omega)
    · rfl
theorem one_nums (z : Int) : (strOfNums [z]).size = 1 := rfl

set_option maxHeartbeats 1000000 in
theorem markText_any (k : Int) (w : World) (h1 : 1 ≤ k) (h2 : k ≤ 4194304) :
    Calls Try.prog 66 #[.int .i64 k] w fun e w' => e = .returned (.string (mt k)) ∧ Below w.heap.size w w' := by
  generalize hM : mt k = M
  have HM : Hid ((⟨#[109]⟩ : ByteArray) ++ mtLoop k.toNat k ⟨#[]⟩ = M) := hM
  clear hM
  have hk0 : ¬ k ≤ 0 := by omega
  go_enter Try.func66, Try.ntmps66
  go_wp2
  go_loopw [0, 3] (fun q v wr => ∃ (c : Int) (s : ByteArray), q = .int .i64 c ∧ v = .string s ∧ 0 ≤ c ∧ c ≤ 4194304 ∧ s.size + c.toNat ≤ 4194304 ∧ Hid ((⟨#[109]⟩ : ByteArray) ++ mtLoop c.toNat c s = M) ∧ Below w.heap.size w wr) (fun q _ _ => (intOf q).toNat)
  case atStart => exact ⟨k, _, rfl, rfl, by omega, by omega, by have : (⟨#[]⟩ : ByteArray).size = 0 := rfl; omega, HM, Below.refl _ _⟩
  case round =>
    obtain ⟨c, s, rfl, rfl, hc0, hc1, hcs, HC, hbk⟩ := hrel
    by_cases hc : 0 < c
    · have hcv := run_convert_bytes_arg (P := Try.prog) (wr.alloc (.cells #[.int .u8 (48 + c % 10)] 5)) 23 5 Try.underlying23 Try.underlying5 wr.heap.size 0 1 1 [48 + c % 10] rfl (fun i hi => by
        have : i = 0 := by omega
        subst this; simp [go_sem]) 9 Try.underlying9
      have HC' : Hid ((⟨#[109]⟩ : ByteArray) ++ mtLoop (c / 10).toNat (c / 10) (strOfNums [48 + c % 10] ++ s) = M) := by
        unfold Hid
        rw [← HC.out, show c.toNat = (c.toNat - 1) + 1 from by omega]
        conv => rhs; rw [mtLoop, if_pos hc]
        rw [mtLoop_fuel (c / 10).toNat (c.toNat - 1) _ _ (Nat.le_refl _) (by omega)]
      have hsz := one_nums (48 + c % 10)
      generalize strOfNums [48 + c % 10] = z at *
      have hz1 : z.size ≤ 1 := by omega
      have hz2 : (z ++ s).size + (c / 10).toNat ≤ 4194304 := by rw [ByteArray.size_append]; omega
      clear hsz
      go_wp2
      go_roundw
      case rel => exact ⟨c / 10, _, rfl, rfl, by omega, by omega, hz2, HC', hbk.alloc hbk.size _⟩
      case measure => simp [intOf]; omega
    · have HZ : Hid ((⟨#[109]⟩ : ByteArray) ++ s = M) := by unfold Hid; rw [← HC.out, mtLoop_zero _ _ _ hc]
      have hs2 : s.size ≤ 4194304 := by omega
      go_wp2
      go_ret
      rw [← HZ.out]
      exact ⟨rfl, hbk⟩

/-- All blocks that were there but g are as they were. -/
structure Thru (g : Nat) (w w' : World) : Prop where
  os : w'.os = w.os
  tape : w'.tape = w.tape
  output : w'.output = w.output
  size : w.heap.size ≤ w'.heap.size
  block : ∀ k, k < w.heap.size → k ≠ g → w'.heap[k]? = w.heap[k]?
theorem Thru.refl (g : Nat) (w : World) : Thru g w w := ⟨rfl, rfl, rfl, Nat.le_refl _, fun _ _ _ => rfl⟩
theorem Thru.trans {g : Nat} {u v w : World} (h : Thru g u v) (k : Thru g v w) : Thru g u w :=
  ⟨k.os.trans h.os, k.tape.trans h.tape, k.output.trans h.output, Nat.le_trans h.size k.size, fun i hi hg => (k.block i (Nat.lt_of_lt_of_le hi h.size) hg).trans (h.block i hi hg)⟩
theorem Thru.of_below {g : Nat} {w w' : World} (h : Below w.heap.size w w') : Thru g w w' := ⟨h.os, h.tape, h.output, h.size, fun k hk _ => h.block k hk⟩
theorem Thru.of_others {g : Nat} {w w' : World} (h : Others g w w') : Thru g w w' := ⟨h.os, h.tape, h.output, by rw [h.size]; exact Nat.le_refl _, fun k _ hg => h.block k hg⟩
theorem Thru.below {g B : Nat} {w w' : World} (h : Thru g w w') (hB : B ≤ g) (hs : B ≤ w.heap.size) : Below B w w' := ⟨h.os, h.tape, h.output, h.size, fun k hk => h.block k (by omega) (by omega)⟩
theorem Thru.cell {g b o : Nat} {w w' : World} (h : Thru g w w') (hb : b < w.heap.size) (hne : b ≠ g) : w'.cell? ⟨b, o, none⟩ = w.cell? ⟨b, o, none⟩ := World.cell?_of_block (w := w) (a := ⟨b, o, none⟩) (h.block b hb hne)
theorem Thru.frozen {g b o : Nat} {w w' : World} (h : Thru g w w') (hb : b < w.heap.size) (hne : b ≠ g) : w'.frozen? ⟨b, o, none⟩ = w.frozen? ⟨b, o, none⟩ := World.frozen?_of_block (w := w) (a := ⟨b, o, none⟩) (h.block b hb hne)
theorem Thru.own {g c off n : Nat} {f : Nat → Int} {w w' : World} (h : Thru g w w') (ho : Own w c off n f) (hne : c ≠ g) : Own w' c off n f :=
  ⟨ho.bd, Nat.lt_of_lt_of_le ho.lt h.size, fun i hi => (h.cell ho.lt hne).trans (ho.cell i hi), fun i hi => (h.frozen ho.lt hne).trans (ho.free i hi)⟩
theorem Thru.kat {g b : Nat} {m : ByteArray} {sv : Value} {st : Int} {w w' : World} (h : Thru g w w') (hk : KAt w b m sv st) (hne : b ≠ g) : KAt w' b m sv st :=
  ⟨Nat.lt_of_lt_of_le hk.lt h.size, (h.cell hk.lt hne).trans hk.c0, (h.cell hk.lt hne).trans hk.c1, (h.cell hk.lt hne).trans hk.c2⟩

/-- Half of the next tag is laid. -/
theorem TOwn.first {w : World} {b n k : Nat} {nm vl : Nat → ByteArray} (h : TOwn w b n k nm vl) (hk : k < n) (x : Value) :
    TOwn (w.setCell ⟨b, k * 2, none⟩ x) b n k nm vl ∧ (w.setCell ⟨b, k * 2, none⟩ x).cell? ⟨b, k * 2, none⟩ = some x := by
  obtain ⟨v1, hv1⟩ := h.there (k * 2) (by omega)
  have other : ∀ j, j ≠ k * 2 → (w.setCell ⟨b, k * 2, none⟩ x).cell? ⟨b, j, none⟩ = w.cell? ⟨b, j, none⟩ := fun j h1 => World.cell?_setCell_other _ _ _ _ (by intro hh; injection hh with _ h3 _; omega)
  have same := World.cell?_setCell_same w ⟨b, k * 2, none⟩ x hv1
  refine ⟨⟨by simpa using h.lt, fun i hi hin => ?_, fun j hj => ?_, fun j hj => by simpa using h.free j hj⟩, same⟩
  · rw [other _ (by omega), other _ (by omega)]; exact h.cell i hi hin
  · by_cases e : j = k * 2
    · subst e; exact ⟨_, same⟩
    · rw [other _ e]; exact h.there j hj
theorem TOwn.second {w : World} {b n k : Nat} {nm vl : Nat → ByteArray} (h : TOwn w b n k nm vl) (hk : k < n) (h0 : w.cell? ⟨b, k * 2, none⟩ = some (.string (nm k))) :
    TOwn (w.setCell ⟨b, k * 2 + 1, none⟩ (.string (vl k))) b n (k + 1) nm vl := by
  obtain ⟨v2, hv2⟩ := h.there (k * 2 + 1) (by omega)
  have other : ∀ j, j ≠ k * 2 + 1 → (w.setCell ⟨b, k * 2 + 1, none⟩ (.string (vl k))).cell? ⟨b, j, none⟩ = w.cell? ⟨b, j, none⟩ := fun j h1 => World.cell?_setCell_other _ _ _ _ (by intro hh; injection hh with _ h3 _; omega)
  have same := World.cell?_setCell_same w ⟨b, k * 2 + 1, none⟩ (.string (vl k)) hv2
  refine ⟨by simpa using h.lt, fun i hi hin => ?_, fun j hj => ?_, fun j hj => by simpa using h.free j hj⟩
  · by_cases e : i = k
    · subst e; exact ⟨(other _ (by omega)).trans h0, same⟩
    · rw [other _ (by omega), other _ (by omega)]; exact h.cell i (by omega) hin
  · by_cases e : j = k * 2 + 1
    · subst e; exact ⟨_, same⟩
    · rw [other _ e]; exact h.there j hj

def mtN (i : Nat) : ByteArray := mt (((1 + 2 * i : Nat)) : Int)
def mtV (i : Nat) : ByteArray := mt (((2 + 2 * i : Nat)) : Int)

set_option maxHeartbeats 1000000 in
theorem markTagS_any (g n cap : Nat) (w : World) (nm vl : Nat → ByteArray) (ho : TOwn w g n n nm vl) (hn : n ≤ 1048576) :
    Calls Try.prog 51 #[.slice (some ⟨g, 0, none⟩) n cap, .int .i64 1] w fun e w' => e = .returned (.int .i64 (1 + 2 * (n : Int))) ∧ TOwn w' g n n mtN mtV ∧ Thru g w w' := by
  have h0 : TOwn w g n 0 mtN mtV := ⟨ho.lt, fun i hi => by omega, ho.there, ho.free⟩
  clear ho
  go_enter Try.func51, Try.ntmps51
  go_wp2
  go_loopw [1, 5] (fun q i wr => ∃ k : Nat, k ≤ n ∧ i = .int .i64 k ∧ q = .int .i64 (1 + 2 * (k : Int)) ∧ TOwn wr g n k mtN mtV ∧ Thru g w wr) (fun _ i _ => n - (intOf i).toNat)
  case atStart => exact ⟨0, by omega, rfl, rfl, h0, Thru.refl _ _⟩
  case round =>
    clear h0
    obtain ⟨k, hk, rfl, rfl, hok, hbk⟩ := hrel
    by_cases hlt : k < n
    · go_wp2_with fail
      refine (markText_any _ _ (by omega) (by omega)).mono ?_
      rintro e w1 ⟨rfl, hb1⟩
      rw [show mt (1 + 2 * (k : Int)) = mtN k from by unfold mtN; congr 1]
      have ok1 := hok.keep hb1
      obtain ⟨v1, hv1⟩ := ok1.there (k * 2) (by omega)
      have hf1 := ok1.free (k * 2) (by omega)
      obtain ⟨ok2, hc2⟩ := ok1.first hlt (.string (mtN k))
      have hbk2 : Thru g w (w1.setCell ⟨g, k * 2, none⟩ (.string (mtN k))) := (hbk.trans (Thru.of_below hb1)).trans (Thru.of_others (Others.setCell _ _ _ _))
      go_wp2_with fail
      refine (markText_any _ _ (by omega) (by omega)).mono ?_
      rintro e w2 ⟨rfl, hb2⟩
      rw [show mt (1 + 2 * (k : Int) + 1) = mtV k from by unfold mtV; congr 1; omega]
      have ok3 := ok2.keep hb2
      have hc3 := (hb2.cell (p := ⟨g, k * 2, none⟩) ok2.lt).trans hc2
      obtain ⟨v2, hv2⟩ := ok3.there (k * 2 + 1) (by omega)
      have hf2 := ok3.free (k * 2 + 1) (by omega)
      have ok4 := ok3.second hlt hc3
      have hbk4 : Thru g w (w2.setCell ⟨g, k * 2 + 1, none⟩ (.string (mtV k))) := (hbk2.trans (Thru.of_below hb2)).trans (Thru.of_others (Others.setCell _ _ _ _))
      clear ok1 ok2 ok3 hok hbk hbk2 hb1 hb2 hv1 hf1 hc2 hc3
      go_wp2
      go_roundw
      case rel => exact ⟨k + 1, by omega, by go_num, by go_num, ok4, hbk4⟩
      case measure => simp [intOf]; omega
    · have e : k = n := by omega
      subst e
      go_wp2
      go_ret
      exact ⟨rfl, hok, hbk⟩

set_option maxHeartbeats 1000000 in
theorem markKey_any (m : ByteArray) (st : Int) (g n cap : Nat) (w : World) (nm vl : Nat → ByteArray) (ho : TOwn w g n n nm vl) (hn : n ≤ 1048576) :
    Calls Try.prog 33 #[.agg #[.string m, .slice (some ⟨g, 0, none⟩) n cap, .int .i64 st], .int .i64 1] w fun e w' => e = .returned (.int .i64 (1 + 2 * (n : Int))) ∧ TOwn w' g n n mtN mtV ∧ Thru g w w' := by
  have hB : Below w.heap.size w (w.alloc (.cells #[.string m, .slice (some ⟨g, 0, none⟩) n cap, .int .i64 st] 48)) := (Below.refl _ _).alloc (Nat.le_refl _) _
  go_enter Try.func33, Try.ntmps33
  go_wp2_with fail
  refine (markTagS_any g n cap _ nm vl (ho.keep hB) hn).mono ?_
  rintro e w1 ⟨rfl, h1, h2⟩
  go_wp2
  go_ret
  exact ⟨rfl, h1, (Thru.of_below hB).trans h2⟩
end Go.Proofs.Ytddppcfkjhhmhaa
