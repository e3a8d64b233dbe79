/- A joined agg is good. -/
import Derived.Test.YtpggmgmdcccmeaaTkS
namespace Go.Proofs.Ytpggmgmdcccmeaa
open Go.RowKit
set_option linter.unusedSimpArgs false
set_option linter.unusedVariables false

theorem sumF_add {f g h : Nat → Int} : ∀ {n : Nat}, (∀ i, i < n → h i = f i + g i) → sumF h n = sumF f n + sumF g n
  | 0, _ => by simp [sumF]
  | n + 1, e => by
    have ih := sumF_add (n := n) (fun i hi => e i (by omega))
    have := e n (by omega)
    unfold sumF
    omega
theorem ov_no {f g : Nat → Int} : ∀ {k : Nat}, ov f g k = false → ∀ i, i < k → f i + g i ≤ 1000000000
  | 0, _, i, hi => by omega
  | k + 1, h, i, hi => by
    simp only [ov, Bool.or_eq_false_iff, decide_eq_false_iff_not] at h
    by_cases e : i = k
    · subst e; omega
    · exact ov_no h.1 i (by omega)
theorem ga_zero : GA dZ := by
  refine ⟨by simp [dZ, isC, btw], rfl, fun i _ => by simp [dZ, isC, btw], fun _ => ⟨by simp [dZ, sumF], by simp [dZ], by simp [dZ]⟩, fun h => by simp [dZ] at h, fun _ => ⟨rfl, rfl⟩, fun h => absurd rfl h⟩
theorem ga_cA {b : Ent} (h : GA b) : GA (cA b) := by
  obtain ⟨h1, h2, h3, h4, h5, h6, h7⟩ := h
  have hs : sumF (fun i => if i < 8 then b.f i else 0) 8 = sumF b.f 8 := by simp [sumF]
  refine ⟨h1, rfl, fun i hi => ?_, fun hf => ?_, h5, h6, h7⟩
  · show isC (if i < 8 then b.f i else 0) = true
    rw [if_pos hi]; exact h3 i hi
  · show sumF (fun i => if i < 8 then b.f i else 0) 8 = b.c ∧ _
    rw [hs]; exact h4 hf
theorem isV_iff {v : Int} : isV v = true ↔ -1000000000 ≤ v ∧ v ≤ 1000000000 := by simp [isV, btw]
theorem ga_jn {a b : Ent} (ha : GA a) (hb : GA b) : GA (jn a b) := by
  unfold jn
  split
  · exact ga_cA hb
  · split
    · exact ga_cA ha
    · rename_i ca cb
      have ac := ha.c
      have bc := hb.c
      have af := ha.f
      have bf := hb.f
      obtain ⟨a1, a2, a3, a4, a5, a6, a7⟩ := ha
      obtain ⟨b1, b2, b3, b4, b5, b6, b7⟩ := hb
      obtain ⟨av, aw, al⟩ := a7 ca
      obtain ⟨bv, bw, bl⟩ := b7 cb
      rw [isV_iff] at av aw bv bw
      refine ⟨isC_iff.2 (by show 0 ≤ min (a.c + b.c) 1000000000 ∧ min (a.c + b.c) 1000000000 ≤ 1000000000; omega), rfl, fun i hi => ?_, fun hf => ?_, fun hf => ?_, fun h0 => ?_, fun _ => ⟨isV_iff.2 (by show -1000000000 ≤ min a.lo b.lo ∧ min a.lo b.lo ≤ 1000000000; omega), isV_iff.2 (by show -1000000000 ≤ max a.hi b.hi ∧ max a.hi b.hi ≤ 1000000000; omega), by show min a.lo b.lo ≤ max a.hi b.hi; omega⟩⟩
      · show isC (if i < 8 then min (a.f i + b.f i) 1000000000 else 0) = true
        rw [if_pos hi, isC_iff]
        have := af i hi
        have := bf i hi
        omega
      · have hf' : fuJ a b = false := hf
        unfold fuJ fu0 at hf'
        simp only [Bool.or_eq_false_iff, decide_eq_false_iff_not] at hf'
        obtain ⟨⟨⟨fa, fb⟩, fc⟩, fo⟩ := hf'
        obtain ⟨p1, p2, p3⟩ := a4 fa
        obtain ⟨q1, q2, q3⟩ := b4 fb
        have hs : sumF (fun i => if i < 8 then min (a.f i + b.f i) 1000000000 else 0) 8 = sumF a.f 8 + sumF b.f 8 := sumF_add fun i hi => by
          have := ov_no fo i hi
          simp only [hi, if_true]
          omega
        refine ⟨?_, ?_, ?_⟩
        · show sumF (fun i => if i < 8 then min (a.f i + b.f i) 1000000000 else 0) 8 = min (a.c + b.c) 1000000000
          rw [hs]; omega
        · show -1000000000 * min (a.c + b.c) 1000000000 ≤ (if fuJ a b = true then 0 else IntKind.i64.wrap (a.s + b.s))
          have hf2 : fuJ a b = false := hf
          rw [hf2, if_neg (by decide), IntKind.wrap_i64]
          omega
        · show (if fuJ a b = true then 0 else IntKind.i64.wrap (a.s + b.s)) ≤ 1000000000 * min (a.c + b.c) 1000000000
          have hf2 : fuJ a b = false := hf
          rw [hf2, if_neg (by decide), IntKind.wrap_i64]
          omega
      · have hf2 : fuJ a b = true := hf
        refine ⟨?_, ?_⟩
        · show (if fuJ a b = true then 0 else IntKind.i64.wrap (a.s + b.s)) = 0
          rw [hf2, if_pos rfl]
        · show 0 < min (a.c + b.c) 1000000000
          omega
      · have : min (a.c + b.c) 1000000000 = 0 := h0
        omega
end Go.Proofs.Ytpggmgmdcccmeaa
