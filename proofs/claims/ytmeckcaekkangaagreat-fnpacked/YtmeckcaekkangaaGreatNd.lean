/- What is needed of entries, and whether they have one key, in the program. -/
import Derived.Test.YtmeckcaekkangaaGreatLo
import Derived.Test.YtmeckcaekkangaaGreatAm
import Derived.BigQuiet
namespace Go.Proofs.YtmeckcaekkangaaGreat
set_option maxRecDepth 100000
open Go.RowKit
set_option linter.unusedSimpArgs false
set_option linter.unusedVariables false

/-- From q on, the first that is no join. -/
def enF (X : Nat → Ent) (n : Nat) : Nat → Nat → Nat
  | 0, q => q
  | f + 1, q => if q < n ∧ (X q).kind = 3 then enF X n f (q + 1) else q
def en (X : Nat → Ent) (n q : Nat) : Nat := enF X n (n - q) q
section
variable {X : Nat → Ent} {n q : Nat}
theorem en_end (h : n ≤ q) : en X n q = q := by unfold en; rw [Nat.sub_eq_zero_of_le h]; rfl
theorem en_stop (h : q < n) (h2 : ¬ (X q).kind = 3) : en X n q = q := by
  unfold en
  obtain ⟨f, hf⟩ : ∃ f, n - q = f + 1 := ⟨n - q - 1, by omega⟩
  rw [hf]
  simp [enF, h2]
theorem en_step (h : q < n) (h2 : (X q).kind = 3) : en X n q = en X n (q + 1) := by
  unfold en
  obtain ⟨f, hf⟩ : ∃ f, n - q = f + 1 := ⟨n - q - 1, by omega⟩
  rw [hf, show n - (q + 1) = f by omega]
  simp [enF, h, h2]
theorem enF_le (X : Nat → Ent) (n : Nat) : ∀ f q, q ≤ n → q ≤ enF X n f q ∧ enF X n f q ≤ n ∧ ∀ i, q ≤ i → i < enF X n f q → (X i).kind = 3
  | 0, q, h => ⟨Nat.le_refl _, h, fun i h1 h2 => by unfold enF at h2; omega⟩
  | f + 1, q, h => by
    unfold enF
    split
    · rename_i hc
      obtain ⟨h1, h2, h3⟩ := enF_le X n f (q + 1) (by omega)
      refine ⟨by omega, h2, fun i hi1 hi2 => ?_⟩
      by_cases e : i = q
      · subst e; exact hc.2
      · exact h3 i (by omega) hi2
    · exact ⟨Nat.le_refl _, h, fun i h1 h2 => by omega⟩
theorem en_le (h : q ≤ n) : q ≤ en X n q ∧ en X n q ≤ n ∧ ∀ i, q ≤ i → i < en X n q → (X i).kind = 3 := enF_le X n _ q h
end
/-- How many are needed. -/
def mN (X : Nat → Ent) (n : Nat) : Nat := if en X n 0 < n then en X n 0 + 1 else n

set_option maxHeartbeats 1000000 in
theorem neededOf_any (ao : Option Addr) (n cap : Nat) (X : Nat → Ent) (w : World) (hr : ERow w ao n X) (hn : n ≤ 1048576) (hcap : n ≤ cap) :
    Calls Tryz.prog 55 #[.slice ao n cap] w fun e w' => e = .returned (.slice ao (mN X n) cap) ∧ Below w.heap.size w w' := by
  obtain ⟨M, hM⟩ : ∃ M, mN X n = M := ⟨_, rfl⟩
  obtain ⟨Q, hQ⟩ : ∃ Q, en X n 0 = Q := ⟨_, rfl⟩
  have HM : Hid ((if Q < n then Q + 1 else n) = M) := by rw [← hM, ← hQ]; rfl
  have HQ : Hid (en X n 0 = Q) := hQ
  rw [hM]
  clear hM hQ
  obtain ⟨_, hlies⟩ := hr
  go_enter Tryz.func55, Tryz.ntmps55
  go_wp2
  go_loopw [7] (fun i wr => ∃ k : Nat, k ≤ n ∧ i = .int .i64 k ∧ Hid (en X n k = Q) ∧ Below w.heap.size w wr) (fun i _ => n - (intOf i).toNat)
  case atStart => exact ⟨0, Nat.zero_le _, rfl, HQ, Below.refl _ _⟩
  case round =>
    clear HQ
    obtain ⟨k, hk, rfl, HK, hbk⟩ := hrel
    by_cases hlt : k < n
    · obtain ⟨b, off, rfl, hblt, hc⟩ := hlies.resolve_left (by omega)
      obtain ⟨da, dc, ea, _⟩ := hc k hlt
      obtain ⟨_, a0, a1, a2, a3, a4, a5, a6, a7, a8⟩ := ea.keep hbk
      have bwn := hbk.trans ((below_new wr (.cells #[.string (X k).key, .int .i64 (X k).seq, .int .i64 (X k).kind, .int .i64 (X k).c, .int .i64 (X k).s, .int .i64 (X k).lo, .int .i64 (X k).hi, .slice da (X k).n dc, .bool (X k).fu] 48)).mono hbk.size)
      clear hc hlies ea
      by_cases hj : (X k).kind = 3
      · have hjb : ((X k).kind != 3) = false := by simp [hj]
        have HK2 : Hid (en X n (k + 1) = Q) := by have := HK.out; rw [en_step hlt hj] at this; exact this
        clear hj HK
        go_wp2
        go_roundw
        case rel => exact ⟨k + 1, by omega, by go_num, HK2, bwn⟩
        case measure => simp [intOf]; omega
      · have hjb : ((X k).kind != 3) = true := by simp [hj]
        have HK2 : Hid (k + 1 = M) := by
          have := HK.out
          rw [en_stop hlt hj] at this
          have h2 := HM.out
          rw [← this, if_pos hlt] at h2
          exact h2
        clear hj HK
        go_wp2
        refine bodyPost_ret (v := .slice (some ⟨b, off, none⟩) (k + 1) cap) (by simp [results, Tryz.results55, go_sem]) rfl ⟨by rw [HK2.out], bwn⟩
    · obtain rfl : k = n := by omega
      have HK2 : Hid (k = M) := by
        have := HK.out
        rw [en_end (Nat.le_refl _)] at this
        have h2 := HM.out
        rw [← this, if_neg (Nat.lt_irrefl _)] at h2
        exact h2
      clear hlies HK
      go_wp2
      refine bodyPost_ret (v := .slice ao k cap) (by simp [results, Tryz.results55, go_sem]) rfl ⟨by have := HK2.out; subst this; rfl, hbk⟩

/-- The first and the last have one key. -/
def OneK (X : Nat → Ent) (n : Nat) : Prop := n = 0 ∨ (X 0).key.toList = (X (n - 1)).key.toList
set_option maxHeartbeats 1000000 in
theorem haveOneKey_any (ao : Option Addr) (n cap : Nat) (X : Nat → Ent) (w : World) (hr : ERow w ao n X) (hn : n ≤ 1048576) :
    Calls Tryz.prog 53 #[.slice ao n cap] w fun e w' => Ans (OneK X n) w e w' := by
  obtain ⟨_, hlies⟩ := hr
  by_cases h0 : n = 0
  · subst h0
    have H : Hid (OneK X 0) := .inl rfl
    clear hlies
    go_enter Tryz.func53, Tryz.ntmps53
    go_wp2
    go_quiet (fail)
    go_wp2
    exact bodyPost_ret (v := .bool true) (by simp [results, Tryz.results53, go_sem]) rfl (Ans.mk true (by have := H.out; simp [this]) (below_drewN (Below.refl _ _) _))
  · obtain ⟨m, hm⟩ : ∃ m, n = m + 1 := ⟨n - 1, by omega⟩
    obtain ⟨b, off, rfl, hblt, hc⟩ := hlies.resolve_left h0
    obtain ⟨da, dc, ea, _⟩ := hc 0 (by omega)
    obtain ⟨db, dd, eb, _⟩ := hc m (by omega)
    have c0 := ea.c0
    have c1 := eb.c0
    rw [Nat.zero_mul, Nat.add_zero] at c0
    have H : Hid (((X 0).key.toList == (X m).key.toList) = true ↔ OneK X n) := by
      unfold Hid OneK
      rw [hm]
      simp
    have hnd : ((n : Int) == 0) = false := by simp; omega
    have hw1 : IntKind.i64.wrap ((n : Int) - 1) = (m : Int) := by rw [IntKind.wrap_i64]; omega
    have hpos : 0 < n := by omega
    have hmm : m < n := by omega
    have hpi : (0 : Int) < (n : Int) := by omega
    clear hc hlies ea eb h0 hm
    go_enter Tryz.func53, Tryz.ntmps53
    go_wp2
    go_quiet (fail)
    go_wp2
    exact bodyPost_ret (v := .bool ((X 0).key.toList == (X m).key.toList)) (by simp [results, Tryz.results53, go_sem]) rfl (Ans.mk _ H.out (below_drewN (Below.refl _ _) _))
end Go.Proofs.YtmeckcaekkangaaGreat
