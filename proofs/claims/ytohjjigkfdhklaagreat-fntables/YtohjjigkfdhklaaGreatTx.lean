/- Rows of texts: measured, copied, compared, marked. -/
import Derived.Test.YtohjjigkfdhklaaGreatBase
import Derived.Laws.BytesArg
import Derived.Maps.AppendAt
import Derived.OwnWalk
namespace Go.Proofs.YtohjjigkfdhklaaGreat
set_option maxRecDepth 100000
open Go.RowKit
set_option linter.unusedSimpArgs false
set_option linter.unusedVariables false

/-- n texts lie at ao. -/
structure TRow (w : World) (ao : Option Addr) (n : Nat) (K : Nat → ByteArray) : Prop where
  lies : n = 0 ∨ ∃ b off, ao = some ⟨b, off, none⟩ ∧ b < w.heap.size ∧ ∀ i, i < n → w.cell? ⟨b, off + i, none⟩ = some (.string (K i))
theorem TRow.keep {w w' : World} {ao : Option Addr} {n : Nat} {K : Nat → ByteArray} (h : TRow w ao n K) (hb : Below w.heap.size w w') : TRow w' ao n K :=
  ⟨h.lies.elim .inl fun ⟨b, off, e, hlt, hc⟩ => .inr ⟨b, off, e, Nat.lt_of_lt_of_le hlt hb.size, fun i hi => (hb.cell (p := ⟨b, off + i, none⟩) hlt).trans (hc i hi)⟩⟩

/-- Each text is short. -/
def TSz (K : Nat → ByteArray) (n : Nat) : Prop := n ≤ 1048576 ∧ ∀ i, i < n → (K i).size ≤ 1048576
def mtLoop : Nat → Int → ByteArray → ByteArray
  | 0, _, out => out
  | f + 1, k, out => if 0 < k then mtLoop f (k / 10) (strOfNums [48 + k % 10] ++ out) else out
/-- The mark of k. -/
def mt (k : Int) : ByteArray := (⟨#[109]⟩ : ByteArray) ++ mtLoop k.toNat k ⟨#[]⟩
theorem mtLoop_zero (f : Nat) (k : Int) (out : ByteArray) (h : ¬ 0 < k) : mtLoop f k out = out := by
  cases f with
  | zero => rfl
  | succ f => simp [mtLoop, h]
theorem mtLoop_fuel : ∀ (f g : Nat) (k : Int) (out : ByteArray), k.toNat ≤ f → k.toNat ≤ g → mtLoop f k out = mtLoop g k out
  | 0, g, k, out, h, _ => by rw [mtLoop_zero g k out (by omega)]; rfl
  | f + 1, 0, k, out, _, h => by rw [mtLoop_zero (f + 1) k out (by omega)]; rfl
  | f + 1, g + 1, k, out, h1, h2 => by
    simp only [mtLoop]
    split
    · exact mtLoop_fuel f g _ _ (by omega) (by omega)
    · rfl
theorem one_nums (z : Int) : (strOfNums [z]).size = 1 := rfl

set_option maxHeartbeats 1000000 in
theorem markText_any (k : Int) (w : World) (h1 : 1 ≤ k) (h2 : k ≤ 16777216) :
    Calls Tryz.prog 40 #[.int .i64 k] w fun e w' => e = .returned (.string (mt k)) ∧ Below w.heap.size w w' := by
  generalize hM : mt k = M
  have HM : Hid ((⟨#[109]⟩ : ByteArray) ++ mtLoop k.toNat k ⟨#[]⟩ = M) := hM
  clear hM
  have hk0 : ¬ k ≤ 0 := by omega
  go_enter Tryz.func40, Tryz.ntmps40
  go_wp2
  go_loopw [0, 3] (fun q v wr => ∃ (c : Int) (s : ByteArray), q = .int .i64 c ∧ v = .string s ∧ 0 ≤ c ∧ c ≤ 16777216 ∧ s.size + c.toNat ≤ 16777216 ∧ Hid ((⟨#[109]⟩ : ByteArray) ++ mtLoop c.toNat c s = M) ∧ Below w.heap.size w wr) (fun q _ _ => (intOf q).toNat)
  case atStart => exact ⟨k, _, rfl, rfl, by omega, by omega, by have : (⟨#[]⟩ : ByteArray).size = 0 := rfl; omega, HM, Below.refl _ _⟩
  case round =>
    obtain ⟨c, s, rfl, rfl, hc0, hc1, hcs, HC, hbk⟩ := hrel
    by_cases hc : 0 < c
    · have hcv := run_convert_bytes_arg (P := Tryz.prog) (wr.alloc (.cells #[.int .u8 (48 + c % 10)] 5)) 22 5 Tryz.underlying22 Tryz.underlying5 wr.heap.size 0 1 1 [48 + c % 10] rfl (fun i hi => by
        have : i = 0 := by omega
        subst this; simp [go_sem]) 9 Tryz.underlying9
      have HC' : Hid ((⟨#[109]⟩ : ByteArray) ++ mtLoop (c / 10).toNat (c / 10) (strOfNums [48 + c % 10] ++ s) = M) := by
        unfold Hid
        rw [← HC.out, show c.toNat = (c.toNat - 1) + 1 from by omega]
        conv => rhs; rw [mtLoop, if_pos hc]
        rw [mtLoop_fuel (c / 10).toNat (c.toNat - 1) _ _ (Nat.le_refl _) (by omega)]
      have hsz := one_nums (48 + c % 10)
      generalize strOfNums [48 + c % 10] = z at *
      have hz1 : z.size ≤ 1 := by omega
      have hz2 : (z ++ s).size + (c / 10).toNat ≤ 16777216 := by rw [ByteArray.size_append]; omega
      clear hsz
      go_wp2
      go_roundw
      case rel => exact ⟨c / 10, _, rfl, rfl, by omega, by omega, hz2, HC', hbk.alloc hbk.size _⟩
      case measure => simp [intOf]; omega
    · have HZ : Hid ((⟨#[109]⟩ : ByteArray) ++ s = M) := by unfold Hid; rw [← HC.out, mtLoop_zero _ _ _ hc]
      have hs2 : s.size ≤ 16777216 := by omega
      go_wp2
      go_ret
      rw [← HZ.out]
      exact ⟨rfl, hbk⟩


theorem Tryz.infoStr : (Tryz.prog.info? 9).map (fun i => (i.zero, i.size, i.bytes)) = some (some (.string ByteArray.empty), 1, 16) := by kernel_rfl

theorem Others.grown {b : Nat} {w w' : World} (h : Others b w w') : w.grownBy w' (some b) := ⟨h.os, h.tape, h.output, by rw [h.size]; exact Nat.le_refl _, fun i _ hne => h.block i (fun e => hne (by rw [e]))⟩
theorem grown_of_below {w w' : World} (h : Below w.heap.size w w') (r : Option Nat) : w.grownBy w' r := ⟨h.os, h.tape, h.output, h.size, fun i hi _ => h.block i hi⟩
theorem below_grown {B b : Nat} {w w1 w' : World} (hb : Below B w w1) (hg : w1.grownBy w' (some b)) (h1 : B ≤ b) (h2 : B ≤ w1.heap.size) : Below B w w' := hb.grown hg h2 (fun k hk => by injection hk with hk; omega)
/-- n texts of the call's own in block b. -/
structure TOwn (w : World) (b n : Nat) (K : Nat → ByteArray) : Prop where
  lt : b < w.heap.size
  cell : ∀ i, i < n → w.cell? ⟨b, i, none⟩ = some (.string (K i))
  free : ∀ i, i < n → w.frozen? ⟨b, i, none⟩ = false
section
variable {w w' : World} {b n : Nat} {K : Nat → ByteArray}
theorem TOwn.row (h : TOwn w b n K) : TRow w (some ⟨b, 0, none⟩) n K := ⟨.inr ⟨b, 0, rfl, h.lt, fun i hi => by rw [Nat.zero_add]; exact h.cell i hi⟩⟩
theorem TOwn.keep (h : TOwn w b n K) (hb : Below w.heap.size w w') : TOwn w' b n K :=
  ⟨Nat.lt_of_lt_of_le h.lt hb.size, fun i hi => (hb.cell (p := ⟨b, i, none⟩) h.lt).trans (h.cell i hi), fun i hi => (hb.frozen (p := ⟨b, i, none⟩) h.lt).trans (h.free i hi)⟩
theorem TOwn.store (h : TOwn w b n K) (k : Nat) (hk : k < n) (s : ByteArray) : TOwn (w.setCell ⟨b, k, none⟩ (.string s)) b n (fun i => if i = k then s else K i) := by
  refine ⟨by simpa using h.lt, fun i hi => ?_, fun i hi => by simpa using h.free i hi⟩
  by_cases e : i = k
  · subst e; simp [World.cell?_setCell_same _ _ _ (h.cell i hi)]
  · rw [World.cell?_setCell_other _ _ _ _ (by intro hh; injection hh with _ h2 _; omega), h.cell i hi]; simp [e]
theorem TOwn.congr {K' : Nat → ByteArray} (h : TOwn w b n K) (e : ∀ i, i < n → K i = K' i) : TOwn w b n K' := ⟨h.lt, fun i hi => by rw [h.cell i hi, e i hi], h.free⟩
end

end Go.Proofs.YtohjjigkfdhklaaGreat
