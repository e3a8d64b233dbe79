/- Aggs joined, in numbers. / An agg that is written: its cells and its Hist. -/
import Derived.Test.YtohjjigkfdhklaaGreatGe
import Derived.Test.YtohjjigkfdhklaaGreatOe
import Derived.Test.YtohjjigkfdhklaaGreatAd
namespace Go.Proofs.YtohjjigkfdhklaaGreat
set_option maxRecDepth 100000
open Go.RowKit
set_option linter.unusedSimpArgs false
set_option linter.unusedVariables false

/-- An entry's agg alone. -/
def cA (x : Ent) : Ent := ⟨.empty, 0, 0, x.c, x.s, x.lo, x.hi, 8, fun i => if i < 8 then x.f i else 0, x.fu⟩
/-- Count 0 and a Hist of noughts. -/
def dZ : Ent := ⟨.empty, 0, 0, 0, 0, 0, 0, 8, fun _ => 0, false⟩
/-- A sum of Hists is cut among the first k. -/
def ov (f g : Nat → Int) : Nat → Bool
  | 0 => false
  | k + 1 => ov f g k || decide ((1000000000 : Int) < f k + g k)
def fu0 (a b : Ent) : Bool := a.fu || b.fu || decide ((1000000000 : Int) < a.c + b.c)
def fuJ (a b : Ent) : Bool := fu0 a b || ov a.f b.f 8
/-- Two joined. -/
def jn (a b : Ent) : Ent :=
  if a.c = 0 then cA b else if b.c = 0 then cA a else
    ⟨.empty, 0, 0, min (a.c + b.c) 1000000000, if fuJ a b = true then 0 else IntKind.i64.wrap (a.s + b.s), min a.lo b.lo, max a.hi b.hi, 8, fun i => if i < 8 then min (a.f i + b.f i) 1000000000 else 0, fuJ a b⟩
/-- What an agg that is gathered holds to. -/
structure AI (a : Ent) : Prop where
  can : cA a = a
  z : a.c = 0 → a = dZ
  c : 0 ≤ a.c ∧ a.c ≤ 1000000000
  f : ∀ i, 0 ≤ a.f i ∧ a.f i ≤ 1000000000
  s : -9223372036854775808 ≤ a.s ∧ a.s ≤ 9223372036854775807
def GA (b : Ent) : Prop := GoodA b.c b.s b.lo b.hi b.n b.f b.fu
theorem isC_iff {v : Int} : isC v = true ↔ 0 ≤ v ∧ v ≤ 1000000000 := by simp [isC, btw]
theorem GA.n {b : Ent} (h : GA b) : b.n = 8 := h.2.1
theorem GA.c {b : Ent} (h : GA b) : 0 ≤ b.c ∧ b.c ≤ 1000000000 := isC_iff.1 h.1
theorem GA.f {b : Ent} (h : GA b) : ∀ i, i < 8 → 0 ≤ b.f i ∧ b.f i ≤ 1000000000 := fun i hi => isC_iff.1 (h.2.2.1 i hi)
theorem GA.s {b : Ent} (h : GA b) : -9223372036854775808 ≤ b.s ∧ b.s ≤ 9223372036854775807 := by
  have hc := h.c
  cases hf : b.fu
  · have := (h.2.2.2.1 hf).2
    omega
  · have := (h.2.2.2.2.1 hf).1
    omega
theorem GA.full {b : Ent} (h : GA b) (hf : b.fu = true) : b.s = 0 := (h.2.2.2.2.1 hf).1
theorem sumF_nonneg {f : Nat → Int} : ∀ {n : Nat}, (∀ i, i < n → 0 ≤ f i) → 0 ≤ sumF f n
  | 0, _ => by simp [sumF]
  | n + 1, h => by
    have := sumF_nonneg (n := n) (fun i hi => h i (by omega))
    have := h n (by omega)
    unfold sumF
    omega
theorem sumF_zero {f : Nat → Int} : ∀ {n : Nat}, (∀ i, i < n → 0 ≤ f i) → sumF f n = 0 → ∀ i, i < n → f i = 0
  | 0, _, _, i, hi => by omega
  | n + 1, h, hs, i, hi => by
    have hp : 0 ≤ sumF f n := sumF_nonneg (fun i hi => h i (by omega))
    have hn := h n (by omega)
    unfold sumF at hs
    rcases Nat.lt_succ_iff_lt_or_eq.1 hi with h1 | rfl
    · exact sumF_zero (fun i hi => h i (by omega)) (by omega) i h1
    · omega
theorem GA.zero {b : Ent} (h : GA b) (hc : b.c = 0) : cA b = dZ := by
  have hf : b.fu = false := by
    cases hf : b.fu
    · rfl
    · have := (h.2.2.2.2.1 hf).2; omega
  obtain ⟨h1, h2, h3⟩ := h.2.2.2.1 hf
  obtain ⟨h4, h5⟩ := h.2.2.2.2.2.1 hc
  have hs : b.s = 0 := by rw [hc] at h2 h3; omega
  have hz := sumF_zero (fun i hi => (h.f i hi).1) (h1.trans hc)
  unfold cA dZ
  rw [hc, hs, h4, h5, hf]
  congr 1
  funext i
  split
  · rename_i hi; exact hz i hi
  · rfl
theorem ai_zero : AI dZ := ⟨by unfold cA dZ; simp, fun _ => rfl, by simp [dZ], fun i => by simp [dZ], by simp [dZ]⟩
theorem ai_of {b : Ent} (h : GA b) : AI (cA b) := by
  refine ⟨?_, fun hc => h.zero hc, h.c, fun i => ?_, h.s⟩
  · unfold cA
    congr 1
    funext i
    by_cases hi : i < 8 <;> simp [hi]
  · show 0 ≤ (if i < 8 then b.f i else 0) ∧ _
    by_cases hi : i < 8
    · simpa [cA, hi] using h.f i hi
    · simp [cA, hi]
theorem ai_jn {a b : Ent} (ha : AI a) (hb : GA b) : AI (jn a b) := by
  unfold jn
  split
  · exact ai_of hb
  · rename_i h1
    split
    · rw [ha.can]; exact ha
    · rename_i h2
      have hac := ha.c
      have hbc := hb.c
      refine ⟨?_, fun hc => ?_, ?_, fun i => ?_, ?_⟩
      · unfold cA
        congr 1
        funext i
        by_cases hi : i < 8 <;> simp [hi]
      · exfalso
        have : min (a.c + b.c) 1000000000 = 0 := hc
        omega
      · show 0 ≤ min (a.c + b.c) 1000000000 ∧ _
        constructor
        · omega
        · show min (a.c + b.c) 1000000000 ≤ _; omega
      · show 0 ≤ (if i < 8 then min (a.f i + b.f i) 1000000000 else 0) ∧ (if i < 8 then min (a.f i + b.f i) 1000000000 else 0) ≤ 1000000000
        by_cases hi : i < 8
        · have h3 := ha.f i
          have h4 := hb.f i hi
          simp only [hi, if_true]
          omega
        · simp [hi]
      · show -9223372036854775808 ≤ (if fuJ a b = true then 0 else IntKind.i64.wrap (a.s + b.s)) ∧ (if fuJ a b = true then 0 else IntKind.i64.wrap (a.s + b.s)) ≤ 9223372036854775807
        split
        · omega
        · rw [IntKind.wrap_i64]; omega
end Go.Proofs.YtohjjigkfdhklaaGreat
namespace Go.Proofs.YtohjjigkfdhklaaGreat
set_option maxRecDepth 100000
open Go.RowKit
set_option linter.unusedSimpArgs false
set_option linter.unusedVariables false

theorem Others.drew {d : Nat} {w w' : World} (h : Others d w w') : Others d w w'.drew := ⟨h.os, h.tape, h.output, h.size, h.block⟩
theorem frozen_set (w : World) (a p : Addr) (v : Value) : (w.setCell a v).frozen? p = w.frozen? p := by simp [go_sem]
/-- An agg at B whose Hist is at G, and another one, only read, in the box D. -/
structure TSk (B G D : Nat) (b : Ent) (bo : Option Addr) (bc : Nat) (w W : World) (c s lo hi : Int) (fu : Bool) (f : Nat → Int) : Prop where
  A : AAt W B c s lo hi (.slice (some ⟨G, 0, none⟩) 8 8) fu
  fz : ∀ j, j < 6 → W.frozen? ⟨B, j, none⟩ = false
  N : AAt W D b.c b.s b.lo b.hi (.slice bo b.n bc) b.fu
  H : IOwn W G 0 8 f
  R : IRow W bo b.n b.f
  os : W.os = w.os
  tape : W.tape = w.tape
  output : W.output = w.output
  size : W.heap.size = w.heap.size
  block : ∀ c, c ≠ B → c ≠ G → W.heap[c]? = w.heap[c]?
section
variable {B G D : Nat} {b : Ent} {bo : Option Addr} {bc : Nat} {w W : World} {c s lo hi : Int} {fu : Bool} {f : Nat → Int}
theorem irow_others {d : Nat} {W W' : World} {ao : Option Addr} {n : Nat} {f : Nat → Int} (h : IRow W ao n f) (ho : Others d W W') (hne : ∀ g off p, ao = some ⟨g, off, p⟩ → g ≠ d) : IRow W' ao n f := by
  obtain ⟨h1, h2⟩ := h
  refine ⟨h1, h2.elim .inl ?_⟩
  rintro ⟨g, off, rfl, hlt, hc⟩
  exact .inr ⟨g, off, rfl, by rw [ho.size]; exact hlt, fun i hi => (World.cell?_of_block (w := W) (a := ⟨g, off + i, none⟩) (ho.block g (hne _ _ _ rfl))).trans (hc i hi)⟩
theorem TSk.drew (h : TSk B G D b bo bc w W c s lo hi fu f) : TSk B G D b bo bc w W.drew c s lo hi fu f :=
  have ho : Below W.heap.size W W.drew := (Below.refl _ _).drew
  ⟨h.A.keep ho, fun j hj => (ho.frozen (p := ⟨B, j, none⟩) h.A.lt).trans (h.fz j hj), h.N.keep ho, h.H.keep ho, h.R.keep ho, h.os, h.tape, h.output, h.size, h.block⟩
theorem TSk.keep0 {W' : World} {c' s' lo' hi' : Int} {fu' : Bool} (h : TSk B G D b bo bc w W c s lo hi fu f) (hBG : B ≠ G) (hDB : D ≠ B) (hbo : ∀ g off p, bo = some ⟨g, off, p⟩ → g ≠ B ∧ g ≠ G) (ho : Others B W W') (hA : AAt W' B c' s' lo' hi' (.slice (some ⟨G, 0, none⟩) 8 8) fu') (hf : ∀ j, j < 6 → W'.frozen? ⟨B, j, none⟩ = false) : TSk B G D b bo bc w W' c' s' lo' hi' fu' f :=
  ⟨hA, hf, h.N.others ho hDB, ho.irow h.H hBG.symm, irow_others h.R ho (fun g off p e => (hbo g off p e).1), ho.os.trans h.os, ho.tape.trans h.tape, ho.output.trans h.output, ho.size.trans h.size, fun c h1 h2 => (ho.block c h1).trans (h.block c h1 h2)⟩
theorem adr_ne {B i j : Nat} (h : i ≠ j) : (⟨B, i, none⟩ : Addr) ≠ ⟨B, j, none⟩ := fun e => by injection e; omega
theorem TSk.set0 (h : TSk B G D b bo bc w W c s lo hi fu f) (hBG : B ≠ G) (hDB : D ≠ B) (hbo : ∀ g off p, bo = some ⟨g, off, p⟩ → g ≠ B ∧ g ≠ G) (v : Int) : TSk B G D b bo bc w (W.setCell ⟨B, 0, none⟩ (.int .i64 v)) v s lo hi fu f :=
  h.keep0 hBG hDB hbo (Others.setCell _ _ _ _) ⟨by rw [World.size_setCell]; exact h.A.lt, World.cell?_setCell_same _ _ _ h.A.c0, (World.cell?_setCell_other _ _ _ _ (adr_ne (by decide))).trans h.A.c1, (World.cell?_setCell_other _ _ _ _ (adr_ne (by decide))).trans h.A.c2, (World.cell?_setCell_other _ _ _ _ (adr_ne (by decide))).trans h.A.c3, (World.cell?_setCell_other _ _ _ _ (adr_ne (by decide))).trans h.A.c4, (World.cell?_setCell_other _ _ _ _ (adr_ne (by decide))).trans h.A.c5⟩ (fun j hj => (frozen_set _ _ _ _).trans (h.fz j hj))
theorem TSk.set1 (h : TSk B G D b bo bc w W c s lo hi fu f) (hBG : B ≠ G) (hDB : D ≠ B) (hbo : ∀ g off p, bo = some ⟨g, off, p⟩ → g ≠ B ∧ g ≠ G) (v : Int) : TSk B G D b bo bc w (W.setCell ⟨B, 1, none⟩ (.int .i64 v)) c v lo hi fu f :=
  h.keep0 hBG hDB hbo (Others.setCell _ _ _ _) ⟨by rw [World.size_setCell]; exact h.A.lt, (World.cell?_setCell_other _ _ _ _ (adr_ne (by decide))).trans h.A.c0, World.cell?_setCell_same _ _ _ h.A.c1, (World.cell?_setCell_other _ _ _ _ (adr_ne (by decide))).trans h.A.c2, (World.cell?_setCell_other _ _ _ _ (adr_ne (by decide))).trans h.A.c3, (World.cell?_setCell_other _ _ _ _ (adr_ne (by decide))).trans h.A.c4, (World.cell?_setCell_other _ _ _ _ (adr_ne (by decide))).trans h.A.c5⟩ (fun j hj => (frozen_set _ _ _ _).trans (h.fz j hj))
theorem TSk.set2 (h : TSk B G D b bo bc w W c s lo hi fu f) (hBG : B ≠ G) (hDB : D ≠ B) (hbo : ∀ g off p, bo = some ⟨g, off, p⟩ → g ≠ B ∧ g ≠ G) (v : Int) : TSk B G D b bo bc w (W.setCell ⟨B, 2, none⟩ (.int .i64 v)) c s v hi fu f :=
  h.keep0 hBG hDB hbo (Others.setCell _ _ _ _) ⟨by rw [World.size_setCell]; exact h.A.lt, (World.cell?_setCell_other _ _ _ _ (adr_ne (by decide))).trans h.A.c0, (World.cell?_setCell_other _ _ _ _ (adr_ne (by decide))).trans h.A.c1, World.cell?_setCell_same _ _ _ h.A.c2, (World.cell?_setCell_other _ _ _ _ (adr_ne (by decide))).trans h.A.c3, (World.cell?_setCell_other _ _ _ _ (adr_ne (by decide))).trans h.A.c4, (World.cell?_setCell_other _ _ _ _ (adr_ne (by decide))).trans h.A.c5⟩ (fun j hj => (frozen_set _ _ _ _).trans (h.fz j hj))
theorem TSk.set3 (h : TSk B G D b bo bc w W c s lo hi fu f) (hBG : B ≠ G) (hDB : D ≠ B) (hbo : ∀ g off p, bo = some ⟨g, off, p⟩ → g ≠ B ∧ g ≠ G) (v : Int) : TSk B G D b bo bc w (W.setCell ⟨B, 3, none⟩ (.int .i64 v)) c s lo v fu f :=
  h.keep0 hBG hDB hbo (Others.setCell _ _ _ _) ⟨by rw [World.size_setCell]; exact h.A.lt, (World.cell?_setCell_other _ _ _ _ (adr_ne (by decide))).trans h.A.c0, (World.cell?_setCell_other _ _ _ _ (adr_ne (by decide))).trans h.A.c1, (World.cell?_setCell_other _ _ _ _ (adr_ne (by decide))).trans h.A.c2, World.cell?_setCell_same _ _ _ h.A.c3, (World.cell?_setCell_other _ _ _ _ (adr_ne (by decide))).trans h.A.c4, (World.cell?_setCell_other _ _ _ _ (adr_ne (by decide))).trans h.A.c5⟩ (fun j hj => (frozen_set _ _ _ _).trans (h.fz j hj))
theorem TSk.set5 (h : TSk B G D b bo bc w W c s lo hi fu f) (hBG : B ≠ G) (hDB : D ≠ B) (hbo : ∀ g off p, bo = some ⟨g, off, p⟩ → g ≠ B ∧ g ≠ G) (v : Bool) : TSk B G D b bo bc w (W.setCell ⟨B, 5, none⟩ (.bool v)) c s lo hi v f :=
  h.keep0 hBG hDB hbo (Others.setCell _ _ _ _) ⟨by rw [World.size_setCell]; exact h.A.lt, (World.cell?_setCell_other _ _ _ _ (adr_ne (by decide))).trans h.A.c0, (World.cell?_setCell_other _ _ _ _ (adr_ne (by decide))).trans h.A.c1, (World.cell?_setCell_other _ _ _ _ (adr_ne (by decide))).trans h.A.c2, (World.cell?_setCell_other _ _ _ _ (adr_ne (by decide))).trans h.A.c3, (World.cell?_setCell_other _ _ _ _ (adr_ne (by decide))).trans h.A.c4, World.cell?_setCell_same _ _ _ h.A.c5⟩ (fun j hj => (frozen_set _ _ _ _).trans (h.fz j hj))
theorem TSk.hist (h : TSk B G D b bo bc w W c s lo hi fu f) (hBG : B ≠ G) (hDG : D ≠ G) (hbo : ∀ g off p, bo = some ⟨g, off, p⟩ → g ≠ B ∧ g ≠ G) (i : Nat) (hi8 : i < 8) (v : Int) (hv : -9223372036854775808 ≤ v ∧ v ≤ 9223372036854775807) : TSk B G D b bo bc w (W.setCell ⟨G, i, none⟩ (.int .i64 v)) c s lo hi fu (fun j => if j = i then v else f j) := by
  have ho : Others G W (W.setCell ⟨G, i, none⟩ (.int .i64 v)) := Others.setCell _ _ _ _
  refine ⟨h.A.others ho hBG, fun j hj => (frozen_set _ _ _ _).trans (h.fz j hj), h.N.others ho hDG, ?_, irow_others h.R ho (fun g off p e => (hbo g off p e).2), ho.os.trans h.os, ho.tape.trans h.tape, ho.output.trans h.output, ho.size.trans h.size, fun c h1 h2 => (ho.block c h2).trans (h.block c h1 h2)⟩
  refine ⟨fun j => ?_, by rw [World.size_setCell]; exact h.H.lt, fun j hj => ?_, fun j hj => (frozen_set _ _ _ _).trans (h.H.free j hj)⟩
  · split
    · exact hv
    · exact h.H.bd j
  · have h0 := h.H.cell j hj
    rw [Nat.zero_add] at h0 ⊢
    by_cases e : j = i
    · subst e
      rw [if_pos rfl]
      exact World.cell?_setCell_same _ _ _ h0
    · rw [if_neg e]
      exact (World.cell?_setCell_other _ _ _ _ (adr_ne (Ne.symm e))).trans h0
end
end Go.Proofs.YtohjjigkfdhklaaGreat
