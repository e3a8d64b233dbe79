/- The bucket of a value, in the program and in the model. / Aggs joined, in numbers. -/
import Derived.Test.YtiigpmhaicfocaaVal
import Derived.Test.YtiigpmhaicfocaaGe
import Derived.Test.YtiigpmhaicfocaaEnS
namespace Go.Proofs.Ytiigpmhaicfocaa
open Go.RowKit
set_option linter.unusedSimpArgs false
set_option linter.unusedVariables false

/-- The bucket of a value. -/
def bk (v : Int) : Int :=
  if v < 0 then 0 else if v < 1 then 1 else if v < 10 then 2 else if v < 100 then 3 else if v < 1000 then 4 else if v < 10000 then 5 else if v < 100000 then 6 else 7
def bkAll (v : Int) : Int := if isV v then bk v else -1

def tenTo : Nat → Int
  | 0 => 1
  | k + 1 => tenTo k * 10
theorem tenTo_bd (k : Nat) (h : k ≤ 6) : 1 ≤ tenTo k ∧ tenTo k ≤ 1000000 := by
  have : k = 0 ∨ k = 1 ∨ k = 2 ∨ k = 3 ∨ k = 4 ∨ k = 5 ∨ k = 6 := by omega
  rcases this with rfl | rfl | rfl | rfl | rfl | rfl | rfl <;> simp [tenTo]

set_option maxHeartbeats 800000 in
theorem l4Bucket_any (v : Int) (w : World) (hv : isV v = true) :
    Calls Try.prog 69 #[.int .i64 v] w fun e w' => e = .returned (.int .i64 (bk v)) ∧ w' = w := by
  have hb : -1000000000 ≤ v ∧ v ≤ 1000000000 := by simpa [isV, btw] using hv
  by_cases h0 : v < 0
  · go_enter Try.func69, Try.ntmps69
    go_wp2
    go_ret
    exact ⟨by simp [bk, h0], rfl⟩
  · go_enter Try.func69, Try.ntmps69
    go_wp2
    go_loopw [3, 4] (fun q t wr => ∃ k : Nat, k ≤ 6 ∧ q = .int .i64 ((k + 1 : Nat) : Int) ∧ t = .int .i64 (tenTo k) ∧ (∀ j, j < k → tenTo j ≤ v) ∧ wr = w) (fun q _ _ => 7 - (intOf q).toNat)
    case atStart => exact ⟨0, by omega, rfl, rfl, by omega, rfl⟩
    case round =>
      obtain ⟨k, hk, rfl, rfl, hle, rfl⟩ := hrel
      have ht := tenTo_bd k hk
      have hfin : ¬ (k < 6 ∧ tenTo k ≤ v) → bk v = ((k + 1 : Nat) : Int) := by
        intro hn
        have hc : k = 0 ∨ k = 1 ∨ k = 2 ∨ k = 3 ∨ k = 4 ∨ k = 5 ∨ k = 6 := by omega
        rcases hc with rfl | rfl | rfl | rfl | rfl | rfl | rfl
        · simp [tenTo] at hn; simp only [bk]; repeat' split
          all_goals omega
        · have := hle 0 (by omega); simp [tenTo] at hn this; simp only [bk]; repeat' split
          all_goals omega
        · have := hle 1 (by omega); simp [tenTo] at hn this; simp only [bk]; repeat' split
          all_goals omega
        · have := hle 2 (by omega); simp [tenTo] at hn this; simp only [bk]; repeat' split
          all_goals omega
        · have := hle 3 (by omega); simp [tenTo] at hn this; simp only [bk]; repeat' split
          all_goals omega
        · have := hle 4 (by omega); simp [tenTo] at hn this; simp only [bk]; repeat' split
          all_goals omega
        · have := hle 5 (by omega); simp [tenTo] at this; simp only [bk]; repeat' split
          all_goals omega
      by_cases h6 : k < 6
      · by_cases hlt : tenTo k ≤ v
        · clear hfin
          go_wp2
          go_roundw
          case rel =>
            refine ⟨k + 1, by omega, by go_num, by go_num, fun j hj => ?_, trivial⟩
            rcases Nat.lt_succ_iff_lt_or_eq.1 hj with h | rfl
            · exact hle j h
            · exact hlt
          case measure => simp [intOf]; omega
        · have e := hfin (by omega)
          clear hfin
          go_wp2
          go_ret
          exact ⟨rfl, rfl⟩
      · have e := hfin (by omega)
        clear hfin
        go_wp2
        go_ret
        exact ⟨rfl, rfl⟩
end Go.Proofs.Ytiigpmhaicfocaa
namespace Go.Proofs.Ytiigpmhaicfocaa
open Go.RowKit
set_option linter.unusedSimpArgs false
set_option linter.unusedVariables false

/-- An entry's agg alone. -/
def cA (x : Ent) : Ent := ⟨.empty, 0, 0, x.c, x.s, x.lo, x.hi, 8, fun i => if i < 8 then x.f i else 0, x.fu⟩
/-- Count 0 and a Hist of noughts. -/
def dZ : Ent := ⟨.empty, 0, 0, 0, 0, 0, 0, 8, fun _ => 0, false⟩
/-- A sum of Hists is cut among the first k. -/
def ov (f g : Nat → Int) : Nat → Bool
  | 0 => false
  | k + 1 => ov f g k || decide ((1000000000 : Int) < f k + g k)
def fu0 (a b : Ent) : Bool := a.fu || b.fu || decide ((1000000000 : Int) < a.c + b.c)
def fuJ (a b : Ent) : Bool := fu0 a b || ov a.f b.f 8
/-- Two joined. -/
def jn (a b : Ent) : Ent :=
  if a.c = 0 then cA b else if b.c = 0 then cA a else
    ⟨.empty, 0, 0, min (a.c + b.c) 1000000000, if fuJ a b = true then 0 else IntKind.i64.wrap (a.s + b.s), min a.lo b.lo, max a.hi b.hi, 8, fun i => if i < 8 then min (a.f i + b.f i) 1000000000 else 0, fuJ a b⟩
/-- What an agg that is gathered holds to. -/
structure AI (a : Ent) : Prop where
  can : cA a = a
  z : a.c = 0 → a = dZ
  c : 0 ≤ a.c ∧ a.c ≤ 1000000000
  f : ∀ i, 0 ≤ a.f i ∧ a.f i ≤ 1000000000
  s : -9223372036854775808 ≤ a.s ∧ a.s ≤ 9223372036854775807
def GA (b : Ent) : Prop := GoodA b.c b.s b.lo b.hi b.n b.f b.fu
theorem isC_iff {v : Int} : isC v = true ↔ 0 ≤ v ∧ v ≤ 1000000000 := by simp [isC, btw]
theorem GA.n {b : Ent} (h : GA b) : b.n = 8 := h.2.1
theorem GA.c {b : Ent} (h : GA b) : 0 ≤ b.c ∧ b.c ≤ 1000000000 := isC_iff.1 h.1
theorem GA.f {b : Ent} (h : GA b) : ∀ i, i < 8 → 0 ≤ b.f i ∧ b.f i ≤ 1000000000 := fun i hi => isC_iff.1 (h.2.2.1 i hi)
theorem GA.s {b : Ent} (h : GA b) : -9223372036854775808 ≤ b.s ∧ b.s ≤ 9223372036854775807 := by
  have hc := h.c
  cases hf : b.fu
  · have := (h.2.2.2.1 hf).2
    omega
  · have := (h.2.2.2.2.1 hf).1
    omega
theorem GA.full {b : Ent} (h : GA b) (hf : b.fu = true) : b.s = 0 := (h.2.2.2.2.1 hf).1
theorem sumF_nonneg {f : Nat → Int} : ∀ {n : Nat}, (∀ i, i < n → 0 ≤ f i) → 0 ≤ sumF f n
  | 0, _ => by simp [sumF]
  | n + 1, h => by
    have := sumF_nonneg (n := n) (fun i hi => h i (by omega))
    have := h n (by omega)
    unfold sumF
    omega
theorem sumF_zero {f : Nat → Int} : ∀ {n : Nat}, (∀ i, i < n → 0 ≤ f i) → sumF f n = 0 → ∀ i, i < n → f i = 0
  | 0, _, _, i, hi => by omega
  | n + 1, h, hs, i, hi => by
    have hp : 0 ≤ sumF f n := sumF_nonneg (fun i hi => h i (by omega))
    have hn := h n (by omega)
    unfold sumF at hs
    rcases Nat.lt_succ_iff_lt_or_eq.1 hi with h1 | rfl
    · exact sumF_zero (fun i hi => h i (by omega)) (by omega) i h1
    · omega
theorem GA.zero {b : Ent} (h : GA b) (hc : b.c = 0) : cA b = dZ := by
  have hf : b.fu = false := by
    cases hf : b.fu
    · rfl
    · have := (h.2.2.2.2.1 hf).2; omega
  obtain ⟨h1, h2, h3⟩ := h.2.2.2.1 hf
  obtain ⟨h4, h5⟩ := h.2.2.2.2.2.1 hc
  have hs : b.s = 0 := by rw [hc] at h2 h3; omega
  have hz := sumF_zero (fun i hi => (h.f i hi).1) (h1.trans hc)
  unfold cA dZ
  rw [hc, hs, h4, h5, hf]
  congr 1
  funext i
  split
  · rename_i hi; exact hz i hi
  · rfl
theorem ai_zero : AI dZ := ⟨by unfold cA dZ; simp, fun _ => rfl, by simp [dZ], fun i => by simp [dZ], by simp [dZ]⟩
theorem ai_of {b : Ent} (h : GA b) : AI (cA b) := by
  refine ⟨?_, fun hc => h.zero hc, h.c, fun i => ?_, h.s⟩
  · unfold cA
    congr 1
    funext i
    by_cases hi : i < 8 <;> simp [hi]
  · show 0 ≤ (if i < 8 then b.f i else 0) ∧ _
    by_cases hi : i < 8
    · simpa [cA, hi] using h.f i hi
    · simp [cA, hi]
theorem ai_jn {a b : Ent} (ha : AI a) (hb : GA b) : AI (jn a b) := by
  unfold jn
  split
  · exact ai_of hb
  · rename_i h1
    split
    · rw [ha.can]; exact ha
    · rename_i h2
      have hac := ha.c
      have hbc := hb.c
      refine ⟨?_, fun hc => ?_, ?_, fun i => ?_, ?_⟩
      · unfold cA
        congr 1
        funext i
        by_cases hi : i < 8 <;> simp [hi]
      · exfalso
        have : min (a.c + b.c) 1000000000 = 0 := hc
        omega
      · show 0 ≤ min (a.c + b.c) 1000000000 ∧ _
        constructor
        · omega
        · show min (a.c + b.c) 1000000000 ≤ _; omega
      · show 0 ≤ (if i < 8 then min (a.f i + b.f i) 1000000000 else 0) ∧ (if i < 8 then min (a.f i + b.f i) 1000000000 else 0) ≤ 1000000000
        by_cases hi : i < 8
        · have h3 := ha.f i
          have h4 := hb.f i hi
          simp only [hi, if_true]
          omega
        · simp [hi]
      · show -9223372036854775808 ≤ (if fuJ a b = true then 0 else IntKind.i64.wrap (a.s + b.s)) ∧ (if fuJ a b = true then 0 else IntKind.i64.wrap (a.s + b.s)) ≤ 9223372036854775807
        split
        · omega
        · rw [IntKind.wrap_i64]; omega
end Go.Proofs.Ytiigpmhaicfocaa
