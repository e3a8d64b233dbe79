/- Marks: bytes marked and looked for, a mark's text; blocks that are let alone. -/
import Derived.Test.YtapmbgmmonhdoaaGreatDoorBase
import Derived.Laws.BytesArg
namespace Go.Proofs.YtapmbgmmonhdoaaGreatDoor
set_option maxRecDepth 100000
open Go.RowKit
set_option linter.unusedSimpArgs false
set_option linter.unusedVariables false

set_option maxHeartbeats 400000 in
theorem markByteS_any (g off n cap : Nat) (f : Nat → Int) (k0 : Nat) (w : World) (ho : Own w g off n f) (hn : n ≤ 1048576) (hk0 : k0 ≤ 4194304) :
    Calls Tryz.prog 47 #[.slice (some ⟨g, off, none⟩) n cap, .int .i64 k0] w fun e w' => e = .returned (.int .i64 ((k0 + n : Nat) : Int)) ∧ Own w' g off n (fun i => ((k0 + i : Nat) : Int) % 256) ∧ Others g w w' := by
  go_enter Tryz.func47, Tryz.ntmps47
  go_wp2
  go_loopw [1, 5] (fun q i wr => ∃ k : Nat, k ≤ n ∧ i = .int .i64 k ∧ q = .int .i64 ((k0 + k : Nat) : Int) ∧ Own wr g off n (fun j => if j < k then ((k0 + j : Nat) : Int) % 256 else f j) ∧ Others g w wr) (fun _ i _ => n - (intOf i).toNat)
  case atStart => exact ⟨0, Nat.zero_le _, rfl, by simp, by simpa using ho, Others.refl _ _⟩
  case round =>
    obtain ⟨k, hk, rfl, rfl, hok, hbk⟩ := hrel
    by_cases hlt : k < n
    · have hd := hok.cell k hlt
      have hfz := hok.free k hlt
      have hst := hok.store k hlt (((k0 + k : Nat) : Int) % 256) (by omega)
      rw [Int.natCast_add] at hst
      clear ho
      go_wp2
      go_roundw
      case rel =>
        refine ⟨k + 1, by omega, by go_num, by go_num, hst.congr (fun i => ?_) (fun i _ => ?_), hbk.trans (Others.setCell _ _ _ _)⟩
        · have := hok.bd i
          by_cases h : i < k + 1
          · simp only [h, if_true]; omega
          · rw [if_neg (by omega)] at this; rw [if_neg h]; exact this
        · by_cases h1 : i = k
          · subst h1; rw [if_pos rfl, if_pos (by omega), Int.natCast_add]
          · by_cases h2 : i < k
            · rw [if_neg h1, if_pos h2, if_pos (by omega)]
            · rw [if_neg h1, if_neg h2, if_neg (by omega)]
      case measure => simp [intOf]; omega
    · go_wp2
      go_ret
      have : k = n := by omega
      subst this
      exact ⟨rfl, hok.congr (fun i => by omega) (fun i hi => by rw [if_pos (by omega)]), hbk⟩

set_option maxHeartbeats 400000 in
theorem heldByteS_yes (ao : Option Addr) (n cap : Nat) (k0 : Nat) (w : World) (hr : Row w ao n (fun i => ((k0 + i : Nat) : Int) % 256)) (hn : n ≤ 1048576) (hk0 : k0 ≤ 4194304) :
    Calls Tryz.prog 49 #[.slice ao n cap, .int .i64 k0] w fun e w' => e = .returned (.int .i64 ((k0 + n : Nat) : Int)) ∧ Below w.heap.size w w' := by
  obtain ⟨hbd, hl⟩ := hr
  go_enter Tryz.func49, Tryz.ntmps49
  go_wp2
  go_loopw [1, 5] (fun q i wr => ∃ k : Nat, k ≤ n ∧ i = .int .i64 k ∧ q = .int .i64 ((k0 + k : Nat) : Int) ∧ Below w.heap.size w wr) (fun _ i _ => n - (intOf i).toNat)
  case atStart => exact ⟨0, Nat.zero_le _, rfl, by simp, Below.refl _ _⟩
  case round =>
    obtain ⟨k, hk, rfl, rfl, hbk⟩ := hrel
    by_cases hlt : k < n
    · obtain ⟨b, off, rfl, hblt, hc⟩ := hl.resolve_left (by omega)
      have h1 : wr.cell? ⟨b, off + k, none⟩ = some (.int .u8 (((k0 + k : Nat) : Int) % 256)) := (hbk.cell (p := ⟨b, off + k, none⟩) hblt).trans (hc k hlt)
      clear hc hl hbd
      go_wp2
      go_roundw
      case rel => exact ⟨k + 1, by omega, by go_num, by go_num, hbk⟩
      case measure => simp [intOf]; omega
    · go_wp2
      go_ret
      have : k = n := by omega
      subst this
      exact ⟨rfl, hbk⟩

def mtLoop : Nat → Int → ByteArray → ByteArray
  | 0, _, out => out
  | f + 1, k, out => if 0 < k then mtLoop f (k / 10) (strOfNums [48 + k % 10] ++ out) else out
/-- The mark of k. -/
def mt (k : Int) : ByteArray := (⟨#[109]⟩ : ByteArray) ++ mtLoop k.toNat k ⟨#[]⟩
theorem mtLoop_zero (f : Nat) (k : Int) (out : ByteArray) (h : ¬ 0 < k) : mtLoop f k out = out := by
  cases f with
  | zero => rfl
  | succ f => simp [mtLoop, h]
theorem mtLoop_fuel : ∀ (f g : Nat) (k : Int) (out : ByteArray), k.toNat ≤ f → k.toNat ≤ g → mtLoop f k out = mtLoop g k out
  | 0, g, k, out, h, _ => by rw [mtLoop_zero g k out (by omega)]; rfl
  | f + 1, 0, k, out, _, h => by rw [mtLoop_zero (f + 1) k out (by omega)]; rfl
  | f + 1, g + 1, k, out, h1, h2 => by
    simp only [mtLoop]
    split
    · exact mtLoop_fuel f g _ _ (by omega) (by omega)
    · rfl
theorem one_nums (z : Int) : (strOfNums [z]).size = 1 := rfl

set_option maxHeartbeats 1000000 in
theorem markText_any (k : Int) (w : World) (h1 : 1 ≤ k) (h2 : k ≤ 16777216) :
    Calls Tryz.prog 32 #[.int .i64 k] w fun e w' => e = .returned (.string (mt k)) ∧ Below w.heap.size w w' := by
  generalize hM : mt k = M
  have HM : Hid ((⟨#[109]⟩ : ByteArray) ++ mtLoop k.toNat k ⟨#[]⟩ = M) := hM
  clear hM
  have hk0 : ¬ k ≤ 0 := by omega
  go_enter Tryz.func32, Tryz.ntmps32
  go_wp2
  go_loopw [0, 3] (fun q v wr => ∃ (c : Int) (s : ByteArray), q = .int .i64 c ∧ v = .string s ∧ 0 ≤ c ∧ c ≤ 16777216 ∧ s.size + c.toNat ≤ 16777216 ∧ Hid ((⟨#[109]⟩ : ByteArray) ++ mtLoop c.toNat c s = M) ∧ Below w.heap.size w wr) (fun q _ _ => (intOf q).toNat)
  case atStart => exact ⟨k, _, rfl, rfl, by omega, by omega, by have : (⟨#[]⟩ : ByteArray).size = 0 := rfl; omega, HM, Below.refl _ _⟩
  case round =>
    obtain ⟨c, s, rfl, rfl, hc0, hc1, hcs, HC, hbk⟩ := hrel
    by_cases hc : 0 < c
    · have hcv := run_convert_bytes_arg (P := Tryz.prog) (wr.alloc (.cells #[.int .u8 (48 + c % 10)] 5)) 38 5 Tryz.underlying38 Tryz.underlying5 wr.heap.size 0 1 1 [48 + c % 10] rfl (fun i hi => by
        have : i = 0 := by omega
        subst this; simp [go_sem]) 9 Tryz.underlying9
      have HC' : Hid ((⟨#[109]⟩ : ByteArray) ++ mtLoop (c / 10).toNat (c / 10) (strOfNums [48 + c % 10] ++ s) = M) := by
        unfold Hid
        rw [← HC.out, show c.toNat = (c.toNat - 1) + 1 from by omega]
        conv => rhs; rw [mtLoop, if_pos hc]
        rw [mtLoop_fuel (c / 10).toNat (c.toNat - 1) _ _ (Nat.le_refl _) (by omega)]
      have hsz := one_nums (48 + c % 10)
      generalize strOfNums [48 + c % 10] = z at *
      have hz1 : z.size ≤ 1 := by omega
      have hz2 : (z ++ s).size + (c / 10).toNat ≤ 16777216 := by rw [ByteArray.size_append]; omega
      clear hsz
      go_wp2
      go_roundw
      case rel => exact ⟨c / 10, _, rfl, rfl, by omega, by omega, hz2, HC', hbk.alloc hbk.size _⟩
      case measure => simp [intOf]; omega
    · have HZ : Hid ((⟨#[109]⟩ : ByteArray) ++ s = M) := by unfold Hid; rw [← HC.out, mtLoop_zero _ _ _ hc]
      have hs2 : s.size ≤ 16777216 := by omega
      go_wp2
      go_ret
      rw [← HZ.out]
      exact ⟨rfl, hbk⟩

/-- All blocks but those from B up to U are as they were. -/
structure Mid (B U : Nat) (w w' : World) : Prop where
  os : w'.os = w.os
  tape : w'.tape = w.tape
  output : w'.output = w.output
  size : w.heap.size ≤ w'.heap.size
  block : ∀ k, k < w.heap.size → (k < B ∨ U ≤ k) → w'.heap[k]? = w.heap[k]?
section
variable {B U : Nat} {w w' : World}
theorem Mid.of_below (h : Below w.heap.size w w') : Mid B U w w' := ⟨h.os, h.tape, h.output, h.size, fun k hk _ => h.block k hk⟩
theorem Mid.of_others {g : Nat} (h : Others g w w') (h1 : B ≤ g) (h2 : g < U) : Mid B U w w' := ⟨h.os, h.tape, h.output, by rw [h.size]; exact Nat.le_refl _, fun k hk hne => h.block k (by omega)⟩
theorem Mid.refl (B U : Nat) (w : World) : Mid B U w w := ⟨rfl, rfl, rfl, Nat.le_refl _, fun _ _ _ => rfl⟩
theorem Mid.trans {u : World} (h : Mid B U w w') (k : Mid B U w' u) : Mid B U w u := ⟨k.os.trans h.os, k.tape.trans h.tape, k.output.trans h.output, Nat.le_trans h.size k.size, fun j hj hne => (k.block j (Nat.lt_of_lt_of_le hj h.size) hne).trans (h.block j hj hne)⟩
theorem Mid.cell (h : Mid B U w w') {b o : Nat} (hb : b < w.heap.size) (hne : b < B ∨ U ≤ b) : w'.cell? ⟨b, o, none⟩ = w.cell? ⟨b, o, none⟩ := World.cell?_of_block (w := w) (a := ⟨b, o, none⟩) (h.block b hb hne)
theorem Mid.frozen (h : Mid B U w w') {b o : Nat} (hb : b < w.heap.size) (hne : b < B ∨ U ≤ b) : w'.frozen? ⟨b, o, none⟩ = w.frozen? ⟨b, o, none⟩ := World.frozen?_of_block (w := w) (a := ⟨b, o, none⟩) (h.block b hb hne)
theorem Mid.own (h : Mid B U w w') {c off n : Nat} {f : Nat → Int} (ho : Own w c off n f) (hne : c < B ∨ U ≤ c) : Own w' c off n f :=
  ⟨ho.bd, Nat.lt_of_lt_of_le ho.lt h.size, fun i hi => (h.cell ho.lt hne).trans (ho.cell i hi), fun i hi => (h.frozen ho.lt hne).trans (ho.free i hi)⟩
theorem Mid.below (h : Mid B U w w') {C : Nat} (hC : C ≤ B) (hs : C ≤ w.heap.size) : Below C w w' := ⟨h.os, h.tape, h.output, h.size, fun k hk => h.block k (by omega) (by omega)⟩
end
/-- A row of bytes elsewhere stays. -/
theorem Mid.row {B U : Nat} {w w' : World} (h : Mid B U w w') {ao : Option Addr} {n : Nat} {f : Nat → Int} (hr : Row w ao n f) (hne : ∀ b off, ao = some ⟨b, off, none⟩ → 0 < n → b < B ∨ U ≤ b) : Row w' ao n f := by
  refine ⟨hr.bd, ?_⟩
  by_cases h0 : n = 0
  · exact .inl h0
  · obtain ⟨b, off, e, hlt, hc⟩ := hr.lies.resolve_left h0
    exact .inr ⟨b, off, e, Nat.lt_of_lt_of_le hlt h.size, fun i hi => (h.cell hlt (hne b off e (by omega))).trans (hc i hi)⟩
end Go.Proofs.YtapmbgmmonhdoaaGreatDoor
