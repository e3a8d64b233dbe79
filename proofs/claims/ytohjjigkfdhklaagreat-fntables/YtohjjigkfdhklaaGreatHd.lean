/- heldEntryS. -/
import Derived.Test.YtohjjigkfdhklaaGreatKt
import Derived.Deep.RegionHeld3
namespace Go.Proofs.YtohjjigkfdhklaaGreat
set_option maxRecDepth 100000
open Go.RowKit
set_option linter.unusedSimpArgs false
set_option linter.unusedVariables false

set_option maxHeartbeats 400000 in
theorem heldI_from (ao : Option Addr) (n cap : Nat) (q : Int) (f : Nat → Int) (w : World) (hr : IRow w ao n f) (hf : ∀ i, i < n → f i = q + i) (hn : n ≤ 1048576) (hq : 0 ≤ q ∧ q ≤ 16000000) :
    Calls Tryz.prog 42 #[.slice ao n cap, .int .i64 q] w fun e w' => e = .returned (.int .i64 (q + n)) ∧ Below w.heap.size w w' := by
  obtain ⟨hbd, hl⟩ := hr
  go_enter Tryz.func42, Tryz.ntmps42
  go_wp2
  go_loopw [1, 5] (fun p i wr => ∃ k : Nat, k ≤ n ∧ i = .int .i64 k ∧ p = .int .i64 (q + k) ∧ Below w.heap.size w wr) (fun _ i _ => n - (intOf i).toNat)
  case atStart => exact ⟨0, Nat.zero_le _, rfl, by simp, Below.refl _ _⟩
  case round =>
    obtain ⟨k, hk, rfl, rfl, hbk⟩ := hrel
    by_cases hlt : k < n
    · obtain ⟨b, off, rfl, hblt, hc⟩ := hl.resolve_left (by omega)
      have h1 : wr.cell? ⟨b, off + k, none⟩ = some (.int .i64 (q + k)) := by rw [← hf k hlt]; exact (hbk.cell (p := ⟨b, off + k, none⟩) hblt).trans (hc k hlt)
      have hw : IntKind.i64.wrap (q + (k : Int) + 1) = q + ((k + 1 : Nat) : Int) := by rw [IntKind.wrap_i64] <;> omega
      clear hc hl hbd hf
      go_wp2
      go_roundw
      case rel => exact ⟨k + 1, by omega, by go_num, by first | rfl | go_num, hbk⟩
      case measure => simp [intOf]; omega
    · have e : k = n := by omega
      subst e
      go_wp2
      go_ret
      exact ⟨rfl, hbk⟩

set_option maxRecDepth 100000 in
set_option maxHeartbeats 4000000 in
theorem heldEntryS_yes (b n cap k0 : Nat) (X : Nat → Ent) (L : Nat → Option Addr) (C : Nat → Nat) (w : World) (hE : ∀ i, i < n → EAt w b (i * 9) (mkE (kOf X k0 i) (X i)) (L i) (C i)) (hI : ∀ i, i < n → IRow w (L i) (X i).n (mkE (kOf X k0 i) (X i)).f) (hk0 : 1 ≤ k0) (hz : ∀ i, i < n → (X i).n ≤ 1048576) (hn : n ≤ 1048576) (hbd : kOf X k0 n ≤ 16000000) :
    Calls Tryz.prog 20 #[.slice (some ⟨b, 0, none⟩) n cap, .int .i64 k0] w fun e w' => e = .returned (.int .i64 (kOf X k0 n : Int)) ∧ Below w.heap.size w w' := by
  go_enter Tryz.func20, Tryz.ntmps20
  go_wp2
  go_loopw [1, 5] (fun q i wr => ∃ k : Nat, k ≤ n ∧ i = .int .i64 k ∧ q = .int .i64 (kOf X k0 k : Int) ∧ Below w.heap.size w wr) (fun _ i _ => n - (intOf i).toNat)
  case atStart => exact ⟨0, Nat.zero_le _, rfl, rfl, Below.refl _ _⟩
  case round =>
    obtain ⟨k, hk, rfl, rfl, hbk⟩ := hrel
    by_cases hlt : k < n
    · have hkb := kOf_mono X k0 (show k + 1 ≤ n by omega)
      have hkg := kOf_ge X k0 k
      have hks : kOf X k0 (k + 1) = kOf X k0 k + 8 + (X k).n := rfl
      have hzk := hz k hlt
      have ek := (hE k hlt).keep hbk
      have ik := (hI k hlt).keep hbk
      obtain ⟨kk, hkk⟩ : ∃ kk, kk = kOf X k0 k := ⟨_, rfl⟩
      rw [← hkk] at hkg hks ek ik ⊢
      have HKS : Hid (kOf X k0 (k + 1) = kk + 8 + (X k).n) := hks
      have hkt : kk + 8 + (X k).n ≤ 16000000 := by omega
      clear hkk hks hkb hE hI
      have hq0 : (0 : Int) ≤ (k : Int) := by omega
      have hq1 : (k : Int) < (n : Int) := by omega
      have hwn : IntKind.i64.wrap ((kk : Int) + 7 + ((X k).n : Int) + 1) = (kk : Int) + 7 + ((X k).n : Int) + 1 := by rw [IntKind.wrap_i64] <;> omega
      have hw1 : IntKind.i64.wrap ((kk : Int) + 1) = (kk : Int) + 1 := by rw [IntKind.wrap_i64] <;> omega
      have hw2 : IntKind.i64.wrap ((kk : Int) + 1 + 1) = (kk : Int) + 2 := by rw [IntKind.wrap_i64] <;> omega
      have hw3 : IntKind.i64.wrap ((kk : Int) + 2 + 1) = (kk : Int) + 3 := by rw [IntKind.wrap_i64] <;> omega
      have hw4 : IntKind.i64.wrap ((kk : Int) + 3 + 1) = (kk : Int) + 4 := by rw [IntKind.wrap_i64] <;> omega
      have hw5 : IntKind.i64.wrap ((kk : Int) + 4 + 1) = (kk : Int) + 5 := by rw [IntKind.wrap_i64] <;> omega
      have hw6 : IntKind.i64.wrap ((kk : Int) + 5 + 1) = (kk : Int) + 6 := by rw [IntKind.wrap_i64] <;> omega
      have hw7 : IntKind.i64.wrap ((kk : Int) + 6 + 1) = (kk : Int) + 7 := by rw [IntKind.wrap_i64] <;> omega
      have hneg : ¬ (kk : Int) + 7 + ((X k).n : Int) < 0 := by omega
      have hnegd : decide ((kk : Int) + 7 + ((X k).n : Int) < 0) = false := by simpa using hneg
      have hh := fun W h => heldI_from (L k) (X k).n (C k) ((kk : Int) + 7) (mkE (kk : Int) (X k)).f W h (fun i hi => by simp [mkE, hi]) hzk (by omega)
      obtain ⟨_, a0, a1, a2, a3, a4, a5, a6, a7, a8⟩ := id ek
      simp only [mkE] at a0 a1 a2 a3 a4 a5 a6 a7 a8
      go_wp2
      go_region_held3 (fun w' => w'.cell? ⟨b, k * 9, none⟩ = some (.string (mt (kk : Int)))) (go_keep) (first | (go_at_call 40; refine (markText_any (kk : Int) _ (by omega) (by omega)).mono ?_; rintro e w1 ⟨rfl, hb1⟩; have hb1' := (Below.refl _ wr).drew.trans hb1; have ek1 := ek.keep hb1'; have ik1 := ik.keep hb1'; obtain ⟨_, c0, c1, c2, c3, c4, c5, c6, c7, c8⟩ := id ek1; simp only [mkE] at c0 c1 c2 c3 c4 c5 c6 c7 c8; have bw1 := hbk.trans (hb1'.mono hbk.size); clear hb1 hb1'))
      go_wp2_with fail
      refine (hh _ ik1).mono ?_
      rintro e w2 ⟨rfl, hb2⟩
      have d8 := (ek1.keep hb2).c8
      simp only [mkE] at d8
      have bw2 := bw1.trans (hb2.mono bw1.size)
      clear hb2 hh
      go_wp2
      go_roundw
      case rel => exact ⟨k + 1, by omega, by go_num, by rw [HKS.out]; congr 1; omega, bw2⟩
      case measure => simp [intOf]; omega
    · have e : k = n := by omega
      subst e
      go_wp2
      go_ret
      exact ⟨rfl, hbk⟩
set_option maxHeartbeats 400000 in
theorem markE_zero (ao : Option Addr) (cap : Nat) (q : Int) (w : World) :
    Calls Tryz.prog 19 #[.slice ao 0 cap, .int .i64 q] w fun e w' => e = .returned (.int .i64 q) ∧ w' = w := by
  go_enter Tryz.func19, Tryz.ntmps19
  go_wp2
  go_loopw [1, 5] (fun p i wr => i = .int .i64 0 ∧ p = .int .i64 q ∧ wr = w) (fun _ _ _ => 0)
  case atStart => exact ⟨rfl, rfl, rfl⟩
  case round =>
    obtain ⟨rfl, rfl, rfl⟩ := hrel
    go_wp2
    go_ret
    exact ⟨rfl, rfl⟩

set_option maxHeartbeats 1000000 in
set_option maxHeartbeats 400000 in
theorem heldE_zero (ao : Option Addr) (cap : Nat) (q : Int) (w : World) :
    Calls Tryz.prog 20 #[.slice ao 0 cap, .int .i64 q] w fun e w' => e = .returned (.int .i64 q) ∧ w' = w := by
  go_enter Tryz.func20, Tryz.ntmps20
  go_wp2
  go_loopw [1, 5] (fun p i wr => i = .int .i64 0 ∧ p = .int .i64 q ∧ wr = w) (fun _ _ _ => 0)
  case atStart => exact ⟨rfl, rfl, rfl⟩
  case round =>
    obtain ⟨rfl, rfl, rfl⟩ := hrel
    go_wp2
    go_ret
    exact ⟨rfl, rfl⟩

end Go.Proofs.YtohjjigkfdhklaaGreat
