/- From what a row's form says of ints, strings and entries that came in to what the walks are told of them. -/
import Derived.Test.YtfdbhkjmkpgomaaRw
import Derived.OpenShut
import Derived.Lib.SmallJoins
import Derived.Deep.SlicePairs
namespace Go.Proofs.Ytfdbhkjmkpgomaa
open Go.RowKit Go.Deep Go.ChangeShapes Go.WideShapes
set_option linter.unusedSimpArgs false
set_option linter.unusedVariables false

/-- A slice of integers that came in: nil, or it leads to 'cap' cells. -/
def IsRow (k : IntKind) (w : World) (a : Option Addr) (len cap : Nat) (zs : List Int) : Prop :=
  (a = none ∧ len = 0 ∧ cap = 0 ∧ zs = []) ∨
  ∃ x, a = some x ∧ len ≤ cap ∧ cap ≤ maxLen ∧ zs.length = cap ∧ (∀ i, i < zs.length → w.cell? (x.add i) = some (.int k (zs.getD i 0))) ∧ ∀ n ∈ zs, (Lit.int k n).wf = true

theorem lt_of_cell {w : World} {b o : Nat} {v : Value} (h : w.cell? ⟨b, o, none⟩ = some v) : b < w.heap.size := by
  unfold World.cell? at h
  split at h
  · rename_i hb
    exact (Array.getElem?_eq_some_iff.1 hb).1
  · simp at h

theorem irow_of {w : World} {a : Option Addr} {len cap : Nat} {zs : List Int} (h : IsRow .i64 w a len cap zs) : ∃ f, IRow w a len f ∧ len ≤ maxLen := by
  rcases h with ⟨rfl, rfl, rfl, rfl⟩ | ⟨x, rfl, hl, hm, hz, hcell, hwz⟩
  · exact ⟨fun _ => 0, ⟨fun _ => by omega, .inl rfl⟩, Nat.zero_le _⟩
  · refine ⟨fun i => zs[i]?.getD 0, ⟨fun i => ?_, ?_⟩, Nat.le_trans hl hm⟩
    · by_cases hi : i < zs.length
      · have := bounds_i64 (hwz (zs[i]) (List.getElem_mem hi))
        simpa [hi] using this
      · simp [hi]
    by_cases h0 : len = 0
    · exact .inl h0
    · obtain ⟨b, off, spot⟩ := x
      have hc := hcell 0 (by omega)
      have hspot : spot = none := by simpa [Addr.add] using World.cell?_spot hc
      subst hspot
      have hc0 : w.cell? ⟨b, off, none⟩ = some (.int .i64 (zs.getD 0 0)) := by simpa [Addr.add] using hc
      refine .inr ⟨b, off, rfl, lt_of_cell hc0, fun i hi => ?_⟩
      have := hcell i (by omega)
      by_cases hi0 : i = 0
      · subst hi0; simpa [Addr.add] using this
      · simpa [Addr.add, hi0] using this

theorem ints_of {H : Type} {enc : TypeId × Value → H} {w : World} {base : Nat} {held : Bool} {fuel : Nat} {v : Value} {x : DataW H × List MemPlace}
    (h : DataW.trod enc Try.prog w base (fun _ => true) held fuel 50 [v] = some x) : ∃ ao n cap f, v = .slice ao n cap ∧ IRow w ao n f ∧ n ≤ maxLen := by
  rcases open_ints Try.underlying50 Try.underlying3 (by kernel_rfl) h with ⟨hcs, _⟩ | ⟨a, l, c, zs, hcs, _, hl, hm, hz, _, hcell, hwz⟩
  · simp at hcs
    obtain ⟨f, hf, hn⟩ := irow_of (w := w) (a := none) (len := 0) (cap := 0) (zs := []) (.inl ⟨rfl, rfl, rfl, rfl⟩)
    exact ⟨none, 0, 0, f, hcs, hf, hn⟩
  · simp at hcs
    obtain ⟨f, hf, hn⟩ := irow_of (w := w) (a := some a) (len := l) (cap := c) (zs := zs) (.inr ⟨_, rfl, hl, hm, by simpa using hz, hcell, hwz⟩)
    exact ⟨some a, l, c, f, hcs, hf, hn⟩

set_option maxRecDepth 100000 in
theorem list4 {α : Type} {l : List α} (h : l.length = 4) : ∃ a0 a1 a2 a3, l = [a0, a1, a2, a3] := by
  match l, h with
  | [a0, a1, a2, a3], _ => exact ⟨a0, a1, a2, a3, rfl⟩
set_option maxRecDepth 100000 in
theorem list6 {α : Type} {l : List α} (h : l.length = 6) : ∃ a0 a1 a2 a3 a4 a5, l = [a0, a1, a2, a3, a4, a5] := by
  match l, h with
  | [a0, a1, a2, a3, a4, a5], _ => exact ⟨a0, a1, a2, a3, a4, a5, rfl⟩
set_option maxRecDepth 100000 in
theorem list9 {α : Type} {l : List α} (h : l.length = 9) : ∃ a0 a1 a2 a3 a4 a5 a6 a7 a8, l = [a0, a1, a2, a3, a4, a5, a6, a7, a8] := by
  match l, h with
  | [a0, a1, a2, a3, a4, a5, a6, a7, a8], _ => exact ⟨a0, a1, a2, a3, a4, a5, a6, a7, a8, rfl⟩

set_option maxRecDepth 100000 in
set_option maxHeartbeats 800000 in
/-- Nine cells that read as an entry. -/
theorem ent_of {H : Type} {enc : TypeId × Value → H} {w : World} {base : Nat} {held : Bool} {fuel : Nat} {cs : List Value} {y : DataW H × List MemPlace}
    (h : DataW.trod enc Try.prog w base (fun _ => true) held fuel 64 cs = some y) :
    ∃ (x : Ent) (ao : Option Addr) (cap : Nat), cs = [.string x.key, .int .i64 x.seq, .int .i64 x.kind, .int .i64 x.c, .int .i64 x.s, .int .i64 x.lo, .int .i64 x.hi, .slice ao x.n cap, .bool x.fu] ∧ IRow w ao x.n x.f ∧ EB x := by
  obtain ⟨xs, n, _, _, hl, hxl, hf⟩ := DataW.trod_struct Try.underlying64 h
  have ce : Try.prog.cellsOf 64 = 9 := by kernel_rfl
  have cS : Try.prog.cellsOf 9 = 1 := by kernel_rfl
  have cI : Try.prog.cellsOf 3 = 1 := by kernel_rfl
  have cA : Try.prog.cellsOf 62 = 6 := by kernel_rfl
  have cH : Try.prog.cellsOf 50 = 1 := by kernel_rfl
  have cB : Try.prog.cellsOf 4 = 1 := by kernel_rfl
  rw [ce] at hl
  obtain ⟨v0, v1, v2, v3, v4, v5, v6, v7, v8, rfl⟩ := list9 hl
  obtain ⟨y0, y1, y2, y3, rfl⟩ := list4 hxl
  · skip
    have g0 := hf 0 _ rfl
    have g1 := hf 1 _ rfl
    have g2 := hf 2 _ rfl
    have g3 := hf 3 _ rfl
    simp [cS, cI, cA] at g0 g1 g2 g3
    obtain ⟨zs, m, _, _, _, hzl, hg⟩ := DataW.trod_struct Try.underlying62 g3
    obtain ⟨z0, z1, z2, z3, z4, z5, rfl⟩ := list6 hzl
    · skip
      have q0 := hg 0 _ rfl
      have q1 := hg 1 _ rfl
      have q2 := hg 2 _ rfl
      have q3 := hg 3 _ rfl
      have q4 := hg 4 _ rfl
      have q5 := hg 5 _ rfl
      simp [cI, cH, cB] at q0 q1 q2 q3 q4 q5
      obtain ⟨key, e0, _, r0⟩ := DataW.trod_string Try.underlying9 g0
      obtain ⟨seq, e1, _, r1⟩ := DataW.trod_int Try.underlying3 g1
      obtain ⟨kind, e2, _, r2⟩ := DataW.trod_int Try.underlying3 g2
      obtain ⟨c, e3, _, r3⟩ := DataW.trod_int Try.underlying3 q0
      obtain ⟨s, e4, _, r4⟩ := DataW.trod_int Try.underlying3 q1
      obtain ⟨lo, e5, _, r5⟩ := DataW.trod_int Try.underlying3 q2
      obtain ⟨hi, e6, _, r6⟩ := DataW.trod_int Try.underlying3 q3
      obtain ⟨ao, k, cap, f, e7, hr, hk⟩ := ints_of q4
      obtain ⟨fu, e8, _⟩ := DataW.trod_bool Try.underlying4 q5
      simp at e0 e1 e2 e3 e4 e5 e6 e8
      subst e0 e1 e2 e3 e4 e5 e6 e7 e8
      unfold maxLen at r0 hk
      exact ⟨⟨key, seq, kind, c, s, lo, hi, k, f, fu⟩, ao, cap, rfl, hr, ⟨bounds_i64 r1, bounds_i64 r4, by show key.size ≤ _; omega, by show k ≤ _; omega⟩⟩

set_option maxRecDepth 100000 in
theorem entry_of {H : Type} {enc : TypeId × Value → H} {w : World} {r : Reach} {b0 base : Nat} {held : Bool} {v : Value} {d : DataW H} {p : List MemPlace}
    (hv : Value.okWide Try.prog w r b0 64 v) (h : DataW.Trod enc Try.prog w base (fun _ => true) held 64 v d p) :
    ∃ (x : Ent) (ao : Option Addr) (cap : Nat), v = .agg #[.string x.key, .int .i64 x.seq, .int .i64 x.kind, .int .i64 x.c, .int .i64 x.s, .int .i64 x.lo, .int .i64 x.hi, .slice ao x.n cap, .bool x.fu] ∧ IRow w ao x.n x.f ∧ EB x := by
  obtain ⟨cs, rfl, hsz⟩ := okWide_struct Try.underlying64 hv
  obtain ⟨fuel, hf⟩ := h
  obtain ⟨x, ao, cap, hcs, hr, hb⟩ := ent_of hf
  have hc : cs = #[.string x.key, .int .i64 x.seq, .int .i64 x.kind, .int .i64 x.c, .int .i64 x.s, .int .i64 x.lo, .int .i64 x.hi, .slice ao x.n cap, .bool x.fu] := by
    cases cs
    simpa [Value.cells] using hcs
  subst hc
  exact ⟨x, ao, cap, rfl, hr, hb⟩

theorem add_flat (b off k : Nat) : (⟨b, off, none⟩ : Addr).add k = ⟨b, off + k, none⟩ := by
  unfold Addr.add
  split
  · simp_all
  · rfl

set_option maxRecDepth 100000 in
set_option maxHeartbeats 800000 in
/-- A slice of entries that came in. -/
theorem entries_of {H : Type} {enc : TypeId × Value → H} {w : World} {base : Nat} {held : Bool} {v : Value} {d : DataW H} {p : List MemPlace}
    (h : DataW.Trod enc Try.prog w base (fun _ => true) held 34 v d p) :
    ∃ (ao : Option Addr) (n cap : Nat) (X : Nat → Ent), v.cells.toList = [.slice ao n cap] ∧ ERow w ao n X ∧ n ≤ 9223372036854775807 := by
  obtain ⟨fuel, hf⟩ := h
  have ce : Try.prog.cellsOf 64 = 9 := by kernel_rfl
  rcases open_slice Try.underlying34 hf with h0 | ⟨a, len, cap, m, n, D, Pl, hcs, hb, hl, hm, hmm, hy, hx⟩
  · exact ⟨none, 0, 0, fun _ => ⟨.empty, 0, 0, 0, 0, 0, 0, 0, fun _ => 0, false⟩, h0.1, ⟨fun i hi => by omega, .inl rfl⟩, by omega⟩
  · have hlm : len ≤ m := by rw [hmm]; split <;> omega
    unfold maxLen at hm
    rw [ce] at hx
    by_cases h0 : len = 0
    · subst h0
      exact ⟨some a, 0, cap, fun _ => ⟨.empty, 0, 0, 0, 0, 0, 0, 0, fun _ => 0, false⟩, hcs, ⟨fun i hi => by omega, .inl rfl⟩, by omega⟩
    have hsp : a.spot = none := by
      obtain ⟨cs', h1, h2⟩ := hx 0 (by omega)
      obtain ⟨x, da, dc, rfl, hr, hbd⟩ := ent_of h2
      obtain ⟨_, _, hcell⟩ := World.cells?_some h1
      have e0 := World.cell?_spot (hcell 0 (by simp))
      simpa [Addr.add] using e0
    obtain ⟨b, off, spot⟩ := a
    simp only at hsp
    subst hsp
    have key : ∀ i, ∃ x : Ent, i < len → EB x ∧ ∃ da dc, EAt w b (off + i * 9) x da dc ∧ IRow w da x.n x.f := by
      intro i
      by_cases hi : i < len
      · obtain ⟨cs', h1, h2⟩ := hx i (by omega)
        obtain ⟨x, da, dc, rfl, hr, hbd⟩ := ent_of h2
        obtain ⟨_, _, hcell⟩ := World.cells?_some h1
        have e0 := hcell 0 (by simp)
        have e1 := hcell 1 (by simp)
        have e2 := hcell 2 (by simp)
        have e3 := hcell 3 (by simp)
        have e4 := hcell 4 (by simp)
        have e5 := hcell 5 (by simp)
        have e6 := hcell 6 (by simp)
        have e7 := hcell 7 (by simp)
        have e8 := hcell 8 (by simp)
        simp [add_flat] at e0 e1 e2 e3 e4 e5 e6 e7 e8
        exact ⟨x, fun _ => ⟨hbd, da, dc, ⟨lt_of_cell e0, e0, e1, e2, e3, e4, e5, e6, e7, e8⟩, hr⟩⟩
      · exact ⟨⟨.empty, 0, 0, 0, 0, 0, 0, 0, fun _ => 0, false⟩, fun h => absurd h hi⟩
    obtain ⟨X, hX⟩ := Classical.axiomOfChoice key
    exact ⟨some ⟨b, off, none⟩, len, cap, X, hcs, ⟨fun i hi => (hX i hi).1, .inr ⟨b, off, rfl, by obtain ⟨_, da, dc, h1, _⟩ := hX 0 (by omega); exact h1.lt, fun i hi => (hX i hi).2⟩⟩, by omega⟩
end Go.Proofs.Ytfdbhkjmkpgomaa
