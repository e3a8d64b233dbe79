/- From what a row's form says of ints, metas, versions and edits that came in to what the walks are told of them. -/
import Derived.Test.YtofdhgffnkhdfaaVr
import Derived.Test.YtofdhgffnkhdfaaDt
import Derived.OpenShut
import Derived.Lib.SmallJoins
import Derived.Deep.SlicePairs
namespace Go.Proofs.Ytofdhgffnkhdfaa
open Go.RowKit Go.Deep Go.ChangeShapes Go.WideShapes
set_option linter.unusedSimpArgs false
set_option linter.unusedVariables false

/-- A slice of integers that came in: nil, or it leads to 'cap' cells. -/
def IsRow (k : IntKind) (w : World) (a : Option Addr) (len cap : Nat) (zs : List Int) : Prop :=
  (a = none ∧ len = 0 ∧ cap = 0 ∧ zs = []) ∨
  ∃ x, a = some x ∧ len ≤ cap ∧ cap ≤ maxLen ∧ zs.length = cap ∧ (∀ i, i < zs.length → w.cell? (x.add i) = some (.int k (zs.getD i 0))) ∧ ∀ n ∈ zs, (Lit.int k n).wf = true

theorem lt_of_cell {w : World} {b o : Nat} {v : Value} (h : w.cell? ⟨b, o, none⟩ = some v) : b < w.heap.size := by
  unfold World.cell? at h
  split at h
  · rename_i hb
    exact (Array.getElem?_eq_some_iff.1 hb).1
  · simp at h

theorem irow_of {w : World} {a : Option Addr} {len cap : Nat} {zs : List Int} (h : IsRow .i64 w a len cap zs) : ∃ f, IRow w a len f ∧ len ≤ maxLen := by
  rcases h with ⟨rfl, rfl, rfl, rfl⟩ | ⟨x, rfl, hl, hm, hz, hcell, hwz⟩
  · exact ⟨fun _ => 0, ⟨fun _ => by omega, .inl rfl⟩, Nat.zero_le _⟩
  · refine ⟨fun i => zs[i]?.getD 0, ⟨fun i => ?_, ?_⟩, Nat.le_trans hl hm⟩
    · by_cases hi : i < zs.length
      · have := bounds_i64 (hwz (zs[i]) (List.getElem_mem hi))
        simpa [hi] using this
      · simp [hi]
    by_cases h0 : len = 0
    · exact .inl h0
    · obtain ⟨b, off, spot⟩ := x
      have hc := hcell 0 (by omega)
      have hspot : spot = none := by simpa [Addr.add] using World.cell?_spot hc
      subst hspot
      have hc0 : w.cell? ⟨b, off, none⟩ = some (.int .i64 (zs.getD 0 0)) := by simpa [Addr.add] using hc
      refine .inr ⟨b, off, rfl, lt_of_cell hc0, fun i hi => ?_⟩
      have := hcell i (by omega)
      by_cases hi0 : i = 0
      · subst hi0; simpa [Addr.add] using this
      · simpa [Addr.add, hi0] using this

theorem ints_of {H : Type} {enc : TypeId × Value → H} {w : World} {base : Nat} {held : Bool} {fuel : Nat} {v : Value} {x : DataW H × List MemPlace}
    (h : DataW.trod enc Try.prog w base (fun _ => true) held fuel 37 [v] = some x) : ∃ ao n cap f, v = .slice ao n cap ∧ IRow w ao n f ∧ n ≤ maxLen := by
  rcases open_ints Try.underlying37 Try.underlying3 (by kernel_rfl) h with ⟨hcs, _⟩ | ⟨a, l, c, zs, hcs, _, hl, hm, hz, _, hcell, hwz⟩
  · simp at hcs
    obtain ⟨f, hf, hn⟩ := irow_of (w := w) (a := none) (len := 0) (cap := 0) (zs := []) (.inl ⟨rfl, rfl, rfl, rfl⟩)
    exact ⟨none, 0, 0, f, hcs, hf, hn⟩
  · simp at hcs
    obtain ⟨f, hf, hn⟩ := irow_of (w := w) (a := some a) (len := l) (cap := c) (zs := zs) (.inr ⟨_, rfl, hl, hm, by simpa using hz, hcell, hwz⟩)
    exact ⟨some a, l, c, f, hcs, hf, hn⟩

set_option maxRecDepth 100000 in
theorem list4 {α : Type} {l : List α} (h : l.length = 4) : ∃ a0 a1 a2 a3, l = [a0, a1, a2, a3] := by
  match l, h with
  | [a0, a1, a2, a3], _ => exact ⟨a0, a1, a2, a3, rfl⟩
set_option maxRecDepth 100000 in
theorem list6 {α : Type} {l : List α} (h : l.length = 6) : ∃ a0 a1 a2 a3 a4 a5, l = [a0, a1, a2, a3, a4, a5] := by
  match l, h with
  | [a0, a1, a2, a3, a4, a5], _ => exact ⟨a0, a1, a2, a3, a4, a5, rfl⟩
set_option maxRecDepth 100000 in
theorem list9 {α : Type} {l : List α} (h : l.length = 9) : ∃ a0 a1 a2 a3 a4 a5 a6 a7 a8, l = [a0, a1, a2, a3, a4, a5, a6, a7, a8] := by
  match l, h with
  | [a0, a1, a2, a3, a4, a5, a6, a7, a8], _ => exact ⟨a0, a1, a2, a3, a4, a5, a6, a7, a8, rfl⟩

theorem add_flat (b off k : Nat) : (⟨b, off, none⟩ : Addr).add k = ⟨b, off + k, none⟩ := by
  unfold Addr.add
  split
  · simp_all
  · rfl

set_option maxRecDepth 100000 in
theorem list5 {α : Type} {l : List α} (h : l.length = 5) : ∃ a0 a1 a2 a3 a4, l = [a0, a1, a2, a3, a4] := by
  match l, h with
  | [a0, a1, a2, a3, a4], _ => exact ⟨a0, a1, a2, a3, a4, rfl⟩
set_option maxRecDepth 100000 in
theorem list2 {α : Type} {l : List α} (h : l.length = 2) : ∃ a0 a1, l = [a0, a1] := by
  match l, h with
  | [a0, a1], _ => exact ⟨a0, a1, rfl⟩

set_option maxRecDepth 100000 in
set_option maxHeartbeats 800000 in
/-- Four cells that read as a meta. -/
theorem met_of {H : Type} {enc : TypeId × Value → H} {w : World} {base : Nat} {held : Bool} {fuel : Nat} {cs : List Value} {y : DataW H × List MemPlace}
    (h : DataW.trod enc Try.prog w base (fun _ => true) held fuel 76 cs = some y) :
    ∃ x : Met, cs = [.int .i64 x.file, .string x.least, .string x.most, .int .i64 x.many] ∧ MB x := by
  obtain ⟨xs, n, _, _, hl, hxl, hf⟩ := DataW.trod_struct Try.underlying76 h
  have ce : Try.prog.cellsOf 76 = 4 := by kernel_rfl
  have cS : Try.prog.cellsOf 9 = 1 := by kernel_rfl
  have cI : Try.prog.cellsOf 3 = 1 := by kernel_rfl
  rw [ce] at hl
  obtain ⟨v0, v1, v2, v3, rfl⟩ := list4 hl
  obtain ⟨y0, y1, y2, y3, rfl⟩ := list4 hxl
  have g0 := hf 0 _ rfl
  have g1 := hf 1 _ rfl
  have g2 := hf 2 _ rfl
  have g3 := hf 3 _ rfl
  simp [cS, cI] at g0 g1 g2 g3
  obtain ⟨file, e0, _, r0⟩ := DataW.trod_int Try.underlying3 g0
  obtain ⟨least, e1, _, r1⟩ := DataW.trod_string Try.underlying9 g1
  obtain ⟨most, e2, _, r2⟩ := DataW.trod_string Try.underlying9 g2
  obtain ⟨many, e3, _, r3⟩ := DataW.trod_int Try.underlying3 g3
  simp at e0 e1 e2 e3
  subst e0 e1 e2 e3
  unfold maxLen at r1 r2
  exact ⟨⟨file, least, most, many⟩, rfl, ⟨bounds_i64 r0, bounds_i64 r3, by show least.size ≤ _; omega, by show most.size ≤ _; omega⟩⟩

set_option maxRecDepth 100000 in
set_option maxHeartbeats 800000 in
/-- Five cells that read as an add. -/
theorem adm_of {H : Type} {enc : TypeId × Value → H} {w : World} {base : Nat} {held : Bool} {fuel : Nat} {cs : List Value} {y : DataW H × List MemPlace}
    (h : DataW.trod enc Try.prog w base (fun _ => true) held fuel 78 cs = some y) :
    ∃ x : Adm, cs = [.int .i64 x.lv, .int .i64 x.m.file, .string x.m.least, .string x.m.most, .int .i64 x.m.many] ∧ DB x := by
  obtain ⟨xs, n, _, _, hl, hxl, hf⟩ := DataW.trod_struct Try.underlying78 h
  have ce : Try.prog.cellsOf 78 = 5 := by kernel_rfl
  have cM : Try.prog.cellsOf 76 = 4 := by kernel_rfl
  have cI : Try.prog.cellsOf 3 = 1 := by kernel_rfl
  rw [ce] at hl
  obtain ⟨v0, v1, v2, v3, v4, rfl⟩ := list5 hl
  obtain ⟨y0, y1, rfl⟩ := list2 hxl
  have g0 := hf 0 _ rfl
  have g1 := hf 1 _ rfl
  simp [cM, cI] at g0 g1
  obtain ⟨lv, e0, _, r0⟩ := DataW.trod_int Try.underlying3 g0
  obtain ⟨x, e1, hx⟩ := met_of g1
  simp at e0 e1
  obtain ⟨rfl, rfl, rfl, rfl⟩ := e1
  subst e0
  exact ⟨⟨lv, x⟩, rfl, ⟨bounds_i64 r0, hx⟩⟩

set_option maxRecDepth 100000 in
set_option maxHeartbeats 800000 in
/-- Cells that read as a slice of them. -/
theorem adds_cs {H : Type} {enc : TypeId × Value → H} {w : World} {base : Nat} {held : Bool} {fuel : Nat} {cs : List Value} {y : DataW H × List MemPlace}
    (hf : DataW.trod enc Try.prog w base (fun _ => true) held fuel 38 cs = some y) :
    ∃ (ao : Option Addr) (n cap : Nat) (X : Nat → Adm), cs = [.slice ao n cap] ∧ DRow w ao n X ∧ n ≤ 9223372036854775807 := by
  have ce : Try.prog.cellsOf 78 = 5 := by kernel_rfl
  rcases open_slice Try.underlying38 hf with h0 | ⟨a, len, cap, m, n, D, Pl, hcs, hb, hl, hm, hmm, hy, hx⟩
  · exact ⟨none, 0, 0, fun _ => (⟨0, ⟨0, .empty, .empty, 0⟩⟩ : Adm), h0.1, DRow.nil _ _ _, by omega⟩
  · have hlm : len ≤ m := by rw [hmm]; split <;> omega
    unfold maxLen at hm
    rw [ce] at hx
    by_cases h0 : len = 0
    · subst h0
      exact ⟨some a, 0, cap, fun _ => (⟨0, ⟨0, .empty, .empty, 0⟩⟩ : Adm), hcs, DRow.nil _ _ _, by omega⟩
    have hsp : a.spot = none := by
      obtain ⟨cs', h1, h2⟩ := hx 0 (by omega)
      obtain ⟨x, rfl, hbd⟩ := adm_of h2
      obtain ⟨_, _, hcell⟩ := World.cells?_some h1
      have e0 := World.cell?_spot (hcell 0 (by simp))
      simpa [Addr.add] using e0
    obtain ⟨b, off, spot⟩ := a
    simp only at hsp
    subst hsp
    have key : ∀ i, ∃ x : Adm, i < len → DB x ∧ DAt w b (off + i * 5) x := by
      intro i
      by_cases hi : i < len
      · obtain ⟨cs', h1, h2⟩ := hx i (by omega)
        obtain ⟨x, rfl, hbd⟩ := adm_of h2
        obtain ⟨_, _, hcell⟩ := World.cells?_some h1
        have e0 := hcell 0 (by simp)
        have e1 := hcell 1 (by simp)
        have e2 := hcell 2 (by simp)
        have e3 := hcell 3 (by simp)
        have e4 := hcell 4 (by simp)
        simp [add_flat] at e0 e1 e2 e3 e4
        exact ⟨x, fun _ => ⟨hbd, ⟨lt_of_cell e0, e0, e1, e2, e3, e4⟩⟩⟩
      · exact ⟨(⟨0, ⟨0, .empty, .empty, 0⟩⟩ : Adm), fun h => absurd h hi⟩
    obtain ⟨X, hX⟩ := Classical.axiomOfChoice key
    exact ⟨some ⟨b, off, none⟩, len, cap, X, hcs, ⟨fun i hi => (hX i hi).1, .inr ⟨b, off, rfl, (hX 0 (by omega)).2.lt, fun i hi => (hX i hi).2⟩⟩, by omega⟩

set_option maxRecDepth 100000 in
set_option maxHeartbeats 800000 in
/-- Five cells that read as an edit. -/
theorem edit_cs {H : Type} {enc : TypeId × Value → H} {w : World} {base : Nat} {held : Bool} {fuel : Nat} {cs : List Value} {y : DataW H × List MemPlace}
    (h : DataW.trod enc Try.prog w base (fun _ => true) held fuel 40 cs = some y) :
    ∃ (nx lg sq : Int) (da : Option Addr) (nd cd : Nat) (f : Nat → Int) (aa : Option Addr) (na ca : Nat) (Y : Nat → Adm), cs = [.int .i64 nx, .int .i64 lg, .int .i64 sq, .slice da nd cd, .slice aa na ca] ∧ IRow w da nd f ∧ DRow w aa na Y ∧ (-9223372036854775808 ≤ nx ∧ nx ≤ 9223372036854775807) ∧ (-9223372036854775808 ≤ lg ∧ lg ≤ 9223372036854775807) ∧ (-9223372036854775808 ≤ sq ∧ sq ≤ 9223372036854775807) ∧ nd ≤ 9223372036854775807 ∧ na ≤ 9223372036854775807 := by
  obtain ⟨xs, n, _, _, hl, hxl, hf⟩ := DataW.trod_struct Try.underlying40 h
  have ce : Try.prog.cellsOf 40 = 5 := by kernel_rfl
  have cS : Try.prog.cellsOf 38 = 1 := by kernel_rfl
  have cD : Try.prog.cellsOf 37 = 1 := by kernel_rfl
  have cI : Try.prog.cellsOf 3 = 1 := by kernel_rfl
  rw [ce] at hl
  obtain ⟨v0, v1, v2, v3, v4, rfl⟩ := list5 hl
  obtain ⟨y0, y1, y2, y3, y4, rfl⟩ := list5 hxl
  have g0 := hf 0 _ rfl
  have g1 := hf 1 _ rfl
  have g2 := hf 2 _ rfl
  have g3 := hf 3 _ rfl
  have g4 := hf 4 _ rfl
  simp [cS, cI, cD] at g0 g1 g2 g3 g4
  obtain ⟨nx, e0, _, r0⟩ := DataW.trod_int Try.underlying3 g0
  obtain ⟨lg, e1, _, r1⟩ := DataW.trod_int Try.underlying3 g1
  obtain ⟨sq, e2, _, r2⟩ := DataW.trod_int Try.underlying3 g2
  obtain ⟨da, nd, cd, f, e3, hr, hd⟩ := ints_of g3
  obtain ⟨aa, na, ca, Y, e4, hy, ha⟩ := adds_cs g4
  simp at e0 e1 e2 e4
  subst e0 e1 e2 e3 e4
  unfold maxLen at hd
  exact ⟨nx, lg, sq, da, nd, cd, f, aa, na, ca, Y, rfl, hr, hy, bounds_i64 r0, bounds_i64 r1, bounds_i64 r2, by omega, ha⟩

set_option maxRecDepth 100000 in
/-- An edit that came in. -/
theorem edit_of {H : Type} {enc : TypeId × Value → H} {w : World} {r : Reach} {b0 base : Nat} {held : Bool} {v : Value} {d : DataW H} {p : List MemPlace}
    (hv : Value.okWide Try.prog w r b0 40 v) (h : DataW.Trod enc Try.prog w base (fun _ => true) held 40 v d p) :
    ∃ (nx lg sq : Int) (da : Option Addr) (nd cd : Nat) (f : Nat → Int) (aa : Option Addr) (na ca : Nat) (Y : Nat → Adm), v = .agg #[.int .i64 nx, .int .i64 lg, .int .i64 sq, .slice da nd cd, .slice aa na ca] ∧ IRow w da nd f ∧ DRow w aa na Y ∧ ((-9223372036854775808 ≤ nx ∧ nx ≤ 9223372036854775807) ∧ (-9223372036854775808 ≤ lg ∧ lg ≤ 9223372036854775807) ∧ (-9223372036854775808 ≤ sq ∧ sq ≤ 9223372036854775807)) ∧ nd ≤ 9223372036854775807 ∧ na ≤ 9223372036854775807 := by
  obtain ⟨cs, rfl, hsz⟩ := okWide_struct Try.underlying40 hv
  obtain ⟨fuel, h⟩ := h
  obtain ⟨nx, lg, sq, da, nd, cd, f, aa, na, ca, Y, hcs, hr, hy, b0, b1, b2, hd, ha⟩ := edit_cs h
  have hc : cs = #[.int .i64 nx, .int .i64 lg, .int .i64 sq, .slice da nd cd, .slice aa na ca] := by
    cases cs
    simpa [Value.cells] using hcs
  subst hc
  exact ⟨nx, lg, sq, da, nd, cd, f, aa, na, ca, Y, rfl, hr, hy, ⟨b0, b1, b2⟩, hd, ha⟩
end Go.Proofs.Ytofdhgffnkhdfaa
