/- From what a row's form says of told ones that came in to what the walks are told of them. -/
import Derived.Test.YtjdijikmdlklkaaTr
import Derived.Test.YtjdijikmdlklkaaKeyLift
import Derived.OpenShut
import Derived.Lib.SmallJoins
import Derived.Deep.SlicePairs
namespace Go.Proofs.Ytjdijikmdlklkaa
open Go.RowKit Go.Deep Go.ChangeShapes Go.WideShapes
set_option linter.unusedSimpArgs false
set_option linter.unusedVariables false

/-- A slice of integers that came in: nil, or it leads to 'cap' cells. -/
def IsRow (k : IntKind) (w : World) (a : Option Addr) (len cap : Nat) (zs : List Int) : Prop :=
  (a = none ∧ len = 0 ∧ cap = 0 ∧ zs = []) ∨
  ∃ x, a = some x ∧ len ≤ cap ∧ cap ≤ maxLen ∧ zs.length = cap ∧ (∀ i, i < zs.length → w.cell? (x.add i) = some (.int k (zs.getD i 0))) ∧ ∀ n ∈ zs, (Lit.int k n).wf = true

theorem irow_of {w : World} {a : Option Addr} {len cap : Nat} {zs : List Int} (h : IsRow .i64 w a len cap zs) : ∃ f, IRow w a len f ∧ len ≤ maxLen := by
  rcases h with ⟨rfl, rfl, rfl, rfl⟩ | ⟨x, rfl, hl, hm, hz, hcell, hwz⟩
  · exact ⟨fun _ => 0, ⟨fun _ => by omega, .inl rfl⟩, Nat.zero_le _⟩
  · refine ⟨fun i => zs[i]?.getD 0, ⟨fun i => ?_, ?_⟩, Nat.le_trans hl hm⟩
    · by_cases hi : i < zs.length
      · have := bounds_i64 (hwz (zs[i]) (List.getElem_mem hi))
        simpa [hi] using this
      · simp [hi]
    by_cases h0 : len = 0
    · exact .inl h0
    · obtain ⟨b, off, spot⟩ := x
      have hc := hcell 0 (by omega)
      have hspot : spot = none := by simpa [Addr.add] using World.cell?_spot hc
      subst hspot
      have hc0 : w.cell? ⟨b, off, none⟩ = some (.int .i64 (zs.getD 0 0)) := by simpa [Addr.add] using hc
      refine .inr ⟨b, off, rfl, lt_of_cell hc0, fun i hi => ?_⟩
      have := hcell i (by omega)
      by_cases hi0 : i = 0
      · subst hi0; simpa [Addr.add] using this
      · simpa [Addr.add, hi0] using this

theorem ints_of {H : Type} {enc : TypeId × Value → H} {w : World} {base : Nat} {held : Bool} {fuel : Nat} {v : Value} {x : DataW H × List MemPlace}
    (h : DataW.trod enc Try.prog w base (fun _ => true) held fuel 35 [v] = some x) : ∃ ao n cap f, v = .slice ao n cap ∧ IRow w ao n f ∧ n ≤ maxLen := by
  rcases open_ints Try.underlying35 Try.underlying3 (by kernel_rfl) h with ⟨hcs, _⟩ | ⟨a, l, c, zs, hcs, _, hl, hm, hz, _, hcell, hwz⟩
  · simp at hcs
    obtain ⟨f, hf, hn⟩ := irow_of (w := w) (a := none) (len := 0) (cap := 0) (zs := []) (.inl ⟨rfl, rfl, rfl, rfl⟩)
    exact ⟨none, 0, 0, f, hcs, hf, hn⟩
  · simp at hcs
    obtain ⟨f, hf, hn⟩ := irow_of (w := w) (a := some a) (len := l) (cap := c) (zs := zs) (.inr ⟨_, rfl, hl, hm, by simpa using hz, hcell, hwz⟩)
    exact ⟨some a, l, c, f, hcs, hf, hn⟩

set_option maxRecDepth 100000 in
theorem list4 {α : Type} {l : List α} (h : l.length = 4) : ∃ a0 a1 a2 a3, l = [a0, a1, a2, a3] := by
  match l, h with
  | [a0, a1, a2, a3], _ => exact ⟨a0, a1, a2, a3, rfl⟩
set_option maxRecDepth 100000 in
theorem list6 {α : Type} {l : List α} (h : l.length = 6) : ∃ a0 a1 a2 a3 a4 a5, l = [a0, a1, a2, a3, a4, a5] := by
  match l, h with
  | [a0, a1, a2, a3, a4, a5], _ => exact ⟨a0, a1, a2, a3, a4, a5, rfl⟩
set_option maxRecDepth 100000 in
theorem list9 {α : Type} {l : List α} (h : l.length = 9) : ∃ a0 a1 a2 a3 a4 a5 a6 a7 a8, l = [a0, a1, a2, a3, a4, a5, a6, a7, a8] := by
  match l, h with
  | [a0, a1, a2, a3, a4, a5, a6, a7, a8], _ => exact ⟨a0, a1, a2, a3, a4, a5, a6, a7, a8, rfl⟩

set_option maxRecDepth 100000 in
theorem list3 {α : Type} {l : List α} (h : l.length = 3) : ∃ a0 a1 a2, l = [a0, a1, a2] := by
  match l, h with
  | [a0, a1, a2], _ => exact ⟨a0, a1, a2, rfl⟩

set_option maxRecDepth 100000 in
theorem list10 {α : Type} {l : List α} (h : l.length = 10) : ∃ a0 a1 a2 a3 a4 a5 a6 a7 a8 a9, l = [a0, a1, a2, a3, a4, a5, a6, a7, a8, a9] := by
  match l, h with
  | [a0, a1, a2, a3, a4, a5, a6, a7, a8, a9], _ => exact ⟨a0, a1, a2, a3, a4, a5, a6, a7, a8, a9, rfl⟩

set_option maxRecDepth 100000 in
set_option maxHeartbeats 1600000 in
/-- Ten cells that read as a told one. -/
theorem told_of {H : Type} {enc : TypeId × Value → H} {w : World} {base : Nat} {held : Bool} {fuel : Nat} {cs : List Value} {y : DataW H × List MemPlace}
    (h : DataW.trod enc Try.prog w base (fun _ => true) held fuel 39 cs = some y) :
    ∃ (x : Wn) (a0 a1 : Option Addr) (c0 c1 : Nat), cs = [.string x.m, .slice a0 x.tn c0, .int .i64 x.st, .int .i64 x.ver, .int .i64 x.c, .int .i64 x.s, .int .i64 x.lo, .int .i64 x.hi, .slice a1 x.n c1, .bool x.fu] ∧ TRow w a0 x.tn x.nm x.vl ∧ IRow w a1 x.n x.f ∧ TlB x := by
  obtain ⟨xs, n, _, _, hl, hxl, hf⟩ := DataW.trod_struct Try.underlying39 h
  have ce : Try.prog.cellsOf 39 = 10 := by kernel_rfl
  have cS : Try.prog.cellsOf 9 = 1 := by kernel_rfl
  have cI : Try.prog.cellsOf 3 = 1 := by kernel_rfl
  have cK : Try.prog.cellsOf 34 = 3 := by kernel_rfl
  have cT : Try.prog.cellsOf 32 = 1 := by kernel_rfl
  have cA : Try.prog.cellsOf 37 = 6 := by kernel_rfl
  have cH : Try.prog.cellsOf 35 = 1 := by kernel_rfl
  have cB : Try.prog.cellsOf 4 = 1 := by kernel_rfl
  rw [ce] at hl
  obtain ⟨v0, v1, v2, v3, v4, v5, v6, v7, v8, v9, rfl⟩ := list10 hl
  obtain ⟨y0, y1, y2, rfl⟩ := list3 hxl
  have g0 := hf 0 _ rfl
  have g1 := hf 1 _ rfl
  have g2 := hf 2 _ rfl
  simp [cS, cI, cA, cK, cB] at g0 g1 g2
  obtain ⟨ks, kn, _, _, _, hkl, hk⟩ := DataW.trod_struct Try.underlying34 g0
  obtain ⟨k0, k1, k2, rfl⟩ := list3 hkl
  have p0 := hk 0 _ rfl
  have p1 := hk 1 _ rfl
  have p2 := hk 2 _ rfl
  simp [cS, cI, cT] at p0 p1 p2
  obtain ⟨zs, m, _, _, _, hzl, hg⟩ := DataW.trod_struct Try.underlying37 g2
  obtain ⟨z0, z1, z2, z3, z4, z5, rfl⟩ := list6 hzl
  have q0 := hg 0 _ rfl
  have q1 := hg 1 _ rfl
  have q2 := hg 2 _ rfl
  have q3 := hg 3 _ rfl
  have q4 := hg 4 _ rfl
  have q5 := hg 5 _ rfl
  simp [cI, cH, cB] at q0 q1 q2 q3 q4 q5
  obtain ⟨mt, e0, _, r0⟩ := DataW.trod_string Try.underlying9 p0
  obtain ⟨a0, tn, c0, nm, vl, e1, hr0, hn0, hs0⟩ := trow_of p1
  obtain ⟨st, e2, _, r2⟩ := DataW.trod_int Try.underlying3 p2
  obtain ⟨c, e3, _, r3⟩ := DataW.trod_int Try.underlying3 q0
  obtain ⟨s, e4, _, r4⟩ := DataW.trod_int Try.underlying3 q1
  obtain ⟨lo, e5, _, r5⟩ := DataW.trod_int Try.underlying3 q2
  obtain ⟨hi, e6, _, r6⟩ := DataW.trod_int Try.underlying3 q3
  obtain ⟨a1, k, c1, f, e7, hr1, hn1⟩ := ints_of q4
  obtain ⟨fu, e8, _⟩ := DataW.trod_bool Try.underlying4 q5
  obtain ⟨ver, e9, _, r9⟩ := DataW.trod_int Try.underlying3 g1
  simp at e0 e2 e3 e4 e5 e6 e8 e9
  subst e0 e1 e2 e3 e4 e5 e6 e7 e8 e9
  unfold maxLen at r0 hn1
  exact ⟨⟨mt, tn, nm, vl, st, c, s, lo, hi, k, f, fu, ver, false⟩, a0, a1, c0, c1, rfl, hr0, hr1, ⟨bounds_i64 r2, bounds_i64 r3, bounds_i64 r4, bounds_i64 r9, by show mt.size ≤ _; omega, hn0, hs0, by show k ≤ _; omega⟩⟩

theorem add_flat (b off k : Nat) : (⟨b, off, none⟩ : Addr).add k = ⟨b, off + k, none⟩ := by
  unfold Addr.add
  split
  · simp_all
  · rfl

/-- No window. -/
def noWn : Wn := ⟨.empty, 0, fun _ => .empty, fun _ => .empty, 0, 0, 0, 0, 0, 0, fun _ => 0, false, 0, false⟩

set_option maxRecDepth 100000 in
set_option maxHeartbeats 1600000 in
/-- A slice of told ones that came in. -/
theorem tolds_cs {H : Type} {enc : TypeId × Value → H} {w : World} {base : Nat} {held : Bool} {fuel : Nat} {cs : List Value} {y : DataW H × List MemPlace}
    (hf : DataW.trod enc Try.prog w base (fun _ => true) held fuel 22 cs = some y) :
    ∃ (ao : Option Addr) (n cap : Nat) (X : Nat → Wn), cs = [.slice ao n cap] ∧ ToRow w ao n X ∧ n ≤ 9223372036854775807 := by
  have ce : Try.prog.cellsOf 39 = 10 := by kernel_rfl
  rcases open_slice Try.underlying22 hf with h0 | ⟨a, len, cap, m, n, D, Pl, hcs, hb, hl, hm, hmm, hy, hx⟩
  · exact ⟨none, 0, 0, fun _ => noWn, h0.1, ⟨fun i hi => by omega, .inl rfl⟩, by omega⟩
  · have hlm : len ≤ m := by rw [hmm]; split <;> omega
    unfold maxLen at hm
    rw [ce] at hx
    by_cases h0 : len = 0
    · subst h0
      exact ⟨some a, 0, cap, fun _ => noWn, hcs, ⟨fun i hi => by omega, .inl rfl⟩, by omega⟩
    have hsp : a.spot = none := by
      obtain ⟨cs', h1, h2⟩ := hx 0 (by omega)
      obtain ⟨x, da, db, dc, dd, rfl, hr, hr', hbd⟩ := told_of h2
      obtain ⟨_, _, hcell⟩ := World.cells?_some h1
      have e0 := World.cell?_spot (hcell 0 (by simp))
      simpa [Addr.add] using e0
    obtain ⟨b, off, spot⟩ := a
    simp only at hsp
    subst hsp
    have key : ∀ i, ∃ x : Wn, i < len → TlB x ∧ ∃ a0 a1 c0 c1, ToAt w b (off + i * 10) x a0 a1 c0 c1 ∧ TRow w a0 x.tn x.nm x.vl ∧ IRow w a1 x.n x.f := by
      intro i
      by_cases hi : i < len
      · obtain ⟨cs', h1, h2⟩ := hx i (by omega)
        obtain ⟨x, da, db, dc, dd, rfl, hr, hr', hbd⟩ := told_of h2
        obtain ⟨_, _, hcell⟩ := World.cells?_some h1
        have e0 := hcell 0 (by simp)
        have e1 := hcell 1 (by simp)
        have e2 := hcell 2 (by simp)
        have e3 := hcell 3 (by simp)
        have e4 := hcell 4 (by simp)
        have e5 := hcell 5 (by simp)
        have e6 := hcell 6 (by simp)
        have e7 := hcell 7 (by simp)
        have e8 := hcell 8 (by simp)
        have e9 := hcell 9 (by simp)
        simp [add_flat] at e0 e1 e2 e3 e4 e5 e6 e7 e8 e9
        exact ⟨x, fun _ => ⟨hbd, da, db, dc, dd, ⟨lt_of_cell e0, e0, e1, e2, e3, e4, e5, e6, e7, e8, e9⟩, hr, hr'⟩⟩
      · exact ⟨noWn, fun h => absurd h hi⟩
    obtain ⟨X, hX⟩ := Classical.axiomOfChoice key
    exact ⟨some ⟨b, off, none⟩, len, cap, X, hcs, ⟨fun i hi => (hX i hi).1, .inr ⟨b, off, rfl, by obtain ⟨_, a0, a1, c0, c1, h1, _⟩ := hX 0 (by omega); exact h1.lt, fun i hi => (hX i hi).2⟩⟩, by omega⟩


theorem tolds_of {H : Type} {enc : TypeId × Value → H} {w : World} {base : Nat} {held : Bool} {v : Value} {d : DataW H} {p : List MemPlace}
    (h : DataW.Trod enc Try.prog w base (fun _ => true) held 22 v d p) : ∃ (ao : Option Addr) (n cap : Nat) (X : Nat → Wn), v.cells.toList = [.slice ao n cap] ∧ ToRow w ao n X ∧ n ≤ 9223372036854775807 := by
  obtain ⟨fuel, hf⟩ := h
  exact tolds_cs hf
end Go.Proofs.Ytjdijikmdlklkaa
