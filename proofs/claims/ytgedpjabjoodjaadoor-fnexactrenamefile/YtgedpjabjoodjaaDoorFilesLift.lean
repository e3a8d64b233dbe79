/- From what a row's form says of a slice of bytes that came in to what the walks are told of it. / From what a row's form says of files that came in to what the walks are told of them. -/
import Derived.Test.YtgedpjabjoodjaaDoorBase
import Derived.OpenShut
import Derived.Test.YtgedpjabjoodjaaDoorFiles
import Derived.Lib.SmallJoins
import Derived.Deep.SlicePairs
namespace Go.Proofs.YtgedpjabjoodjaaDoor
open Go.RowKit

/-- A slice of integers that came in: nil, or it leads to 'cap' cells. -/
def IsRow (k : IntKind) (w : World) (a : Option Addr) (len cap : Nat) (zs : List Int) : Prop :=
  (a = none ∧ len = 0 ∧ cap = 0 ∧ zs = []) ∨
  ∃ x, a = some x ∧ len ≤ cap ∧ cap ≤ maxLen ∧ zs.length = cap ∧ (∀ i, i < zs.length → w.cell? (x.add i) = some (.int k (zs.getD i 0))) ∧ ∀ n ∈ zs, (Lit.int k n).wf = true

theorem lt_of_cell {w : World} {b o : Nat} {v : Value} (h : w.cell? ⟨b, o, none⟩ = some v) : b < w.heap.size := by
  unfold World.cell? at h
  split at h
  · rename_i hb
    exact (Array.getElem?_eq_some_iff.1 hb).1
  · simp at h

theorem row_of {w : World} {a : Option Addr} {len cap : Nat} {zs : List Int} (h : IsRow .u8 w a len cap zs) : ∃ f, Row w a len f ∧ len ≤ maxLen := by
  rcases h with ⟨rfl, rfl, rfl, rfl⟩ | ⟨x, rfl, hl, hm, hz, hcell, hwz⟩
  · exact ⟨fun _ => 0, ⟨fun _ => by omega, .inl rfl⟩, Nat.zero_le _⟩
  · refine ⟨fun i => zs[i]?.getD 0, ⟨fun i => range_u8 hwz i, ?_⟩, Nat.le_trans hl hm⟩
    by_cases h0 : len = 0
    · exact .inl h0
    · obtain ⟨b, off, spot⟩ := x
      have hc := hcell 0 (by omega)
      have hspot : spot = none := by simpa [Addr.add] using World.cell?_spot hc
      subst hspot
      have hc0 : w.cell? ⟨b, off, none⟩ = some (.int .u8 (zs.getD 0 0)) := by simpa [Addr.add] using hc
      refine .inr ⟨b, off, rfl, lt_of_cell hc0, fun i hi => ?_⟩
      have := hcell i (by omega)
      by_cases hi0 : i = 0
      · subst hi0; simpa [Addr.add] using this
      · simpa [Addr.add, hi0] using this

end Go.Proofs.YtgedpjabjoodjaaDoor
namespace Go.Proofs.YtgedpjabjoodjaaDoor
open Go.RowKit Go.Deep Go.ChangeShapes Go.WideShapes
set_option linter.unusedSimpArgs false
set_option linter.unusedVariables false

section
variable {H : Type} {enc : TypeId × Value → H} {P : Program} {w : World} {base : Nat} {spare : Nat → Bool} {held : Bool}
/-- A slice of structs of three cells, opened at every index. -/
theorem open_triples {t e : TypeId} {f0 f1 f2 : Field} {fuel : Nat} {cs : List Value} {x : DataW H × List MemPlace} (ht : P.underlying t = some (.slice e)) (he : P.underlying e = some (.struct #[f0, f1, f2]))
    (ce : P.cellsOf e = 3) (o0 : f0.offset = 0) (o1 : f1.offset = 1) (o2 : f2.offset = 2) (c0 : P.cellsOf f0.type = 1) (c1 : P.cellsOf f1.type = 1) (c2 : P.cellsOf f2.type = 1)
    (h : DataW.trod enc P w base spare held fuel t cs = some x) :
    cs = [.slice none 0 0] ∨
    ∃ (a : Addr) (len cap n : Nat), cs = [.slice (some a) len cap] ∧ len ≤ cap ∧ cap ≤ maxLen ∧
      ∀ i, i < len → ∃ v0 v1 v2 y0 y1 y2, w.cell? (a.add (i * 3)) = some v0 ∧ w.cell? (a.add (i * 3 + 1)) = some v1 ∧ w.cell? (a.add (i * 3 + 2)) = some v2 ∧
        DataW.trod enc P w base spare held n f0.type [v0] = some y0 ∧ DataW.trod enc P w base spare held n f1.type [v1] = some y1 ∧ DataW.trod enc P w base spare held n f2.type [v2] = some y2 := by
  rcases open_slice ht h with h0 | ⟨a, len, cap, m, n, D, Pl, rfl, hb, hl, hm, hmm, rfl, hx⟩
  · exact Or.inl h0.1
  right
  have hlm : len ≤ m := by rw [hmm]; split <;> omega
  refine ⟨a, len, cap, n - 1, rfl, hl, hm, fun i hi => ?_⟩
  obtain ⟨cs', h1, h2⟩ := hx i (by omega)
  rw [ce] at h1
  obtain ⟨_, hlen, hcell⟩ := World.cells?_some h1
  obtain ⟨xs, k, hk, hxy, _, hxl, hf⟩ := DataW.trod_struct he h2
  have hk' : k = n - 1 := by omega
  subst hk'
  match xs, hxl, cs', hlen with
  | [y0, y1, y2], _, [v0, v1, v2], _ =>
    have g0 := hf 0 f0 rfl
    have g1 := hf 1 f1 rfl
    have g2 := hf 2 f2 rfl
    simp [o0, o1, o2, c0, c1, c2] at g0 g1 g2
    have e0 := hcell 0 (by omega)
    have e1 := hcell 1 (by omega)
    have e2 := hcell 2 (by omega)
    rw [add_add] at e0 e1 e2
    exact ⟨v0, v1, v2, y0, y1, y2, by simpa using e0, by simpa using e1, by simpa using e2, g0, g1, g2⟩
end

theorem bytes_of {H : Type} {enc : TypeId × Value → H} {w : World} {base : Nat} {held : Bool} {fuel : Nat} {v : Value} {x : DataW H × List MemPlace}
    (h : DataW.trod enc Tryd.prog w base (fun _ => true) held fuel 35 [v] = some x) : ∃ ao n cap f, v = .slice ao n cap ∧ Row w ao n f ∧ n ≤ maxLen := by
  rcases open_ints Tryd.underlying35 Tryd.underlying5 (by kernel_rfl) h with ⟨hcs, _⟩ | ⟨a, l, c, zs, hcs, _, hl, hm, hz, _, hcell, hwz⟩
  · simp at hcs
    obtain ⟨f, hf, hn⟩ := row_of (w := w) (a := none) (len := 0) (cap := 0) (zs := []) (.inl ⟨rfl, rfl, rfl, rfl⟩)
    exact ⟨none, 0, 0, f, hcs, hf, hn⟩
  · simp at hcs
    obtain ⟨f, hf, hn⟩ := row_of (w := w) (a := some a) (len := l) (cap := c) (zs := zs) (.inr ⟨_, rfl, hl, hm, by simpa using hz, hcell, hwz⟩)
    exact ⟨some a, l, c, f, hcs, hf, hn⟩

theorem frow_of {H : Type} {enc : TypeId × Value → H} {w : World} {base : Nat} {held : Bool} {fuel : Nat} {v : Value} {x : DataW H × List MemPlace}
    (h : DataW.trod enc Tryd.prog w base (fun _ => true) held fuel 22 [v] = some x) :
    ∃ ao n cap F, v = .slice ao n cap ∧ FRow w ao n F ∧ n ≤ 9223372036854775807 ∧ FSize n F 9223372036854775807 := by
  rcases open_triples Tryd.underlying22 Tryd.underlying83 (by kernel_rfl) rfl rfl rfl (by kernel_rfl) (by kernel_rfl) (by kernel_rfl) h with hcs | ⟨a, len, cap, n, hcs, hl, hm, hx⟩
  · simp at hcs
    exact ⟨none, 0, 0, fun _ => ⟨ByteArray.empty, 0, fun _ => 0, 0⟩, hcs, ⟨.inl rfl⟩, by omega, fun i hi => by omega⟩
  · simp at hcs
    have hx' : ∀ i, i < len → ∃ q : Fil, (∃ da dc, w.cell? (a.add (i * 3)) = some (.string q.nm) ∧ w.cell? (a.add (i * 3 + 1)) = some (.slice da q.len dc) ∧ w.cell? (a.add (i * 3 + 2)) = some (.int .i64 q.sy) ∧ Row w da q.len q.f) ∧ q.nm.size ≤ maxLen ∧ q.len ≤ maxLen := by
      intro i hi
      obtain ⟨v0, v1, v2, y0, y1, y2, e0, e1, e2, t0, t1, t2⟩ := hx i hi
      obtain ⟨s0, r0, _, z0⟩ := DataW.trod_string Tryd.underlying9 t0
      obtain ⟨da, dn, dc, f, r1, hrow, hdn⟩ := bytes_of t1
      obtain ⟨st, r2, _, hst⟩ := DataW.trod_int Tryd.underlying3 t2
      simp at r0 r2
      subst r0 r1 r2
      exact ⟨⟨s0, dn, f, st⟩, ⟨da, dc, e0, e1, e2, hrow⟩, z0, hdn⟩
    have : Inhabited Fil := ⟨⟨ByteArray.empty, 0, fun _ => 0, 0⟩⟩
    obtain ⟨F, hF⟩ := choose_lt (α := Fil) hx'
    unfold maxLen at hm hF
    refine ⟨some a, len, cap, F, hcs, ⟨?_⟩, by omega, fun i hi => (hF i hi).2⟩
    by_cases h0 : len = 0
    · exact .inl h0
    · obtain ⟨b, off, spot⟩ := a
      obtain ⟨⟨da, dc, hc, _⟩, _⟩ := hF 0 (by omega)
      have hspot : spot = none := by simpa [Addr.add] using World.cell?_spot hc
      subst hspot
      have hc0 : w.cell? ⟨b, off, none⟩ = some (.string (F 0).nm) := by simpa [Addr.add] using hc
      refine .inr ⟨b, off, rfl, lt_of_cell hc0, fun i hi => ?_⟩
      obtain ⟨⟨da, dc, g0, g1, g2, g3⟩, _⟩ := hF i hi
      refine ⟨da, dc, ?_, ?_, ?_, g3⟩
      · by_cases hi0 : i = 0
        · subst hi0; simpa [Addr.add] using g0
        · simpa [Addr.add, show ¬ i * 3 = 0 by omega] using g0
      · simpa [Addr.add, Nat.add_assoc] using g1
      · simpa [Addr.add, Nat.add_assoc] using g2

set_option maxRecDepth 100000 in
theorem files_of {H : Type} {enc : TypeId × Value → H} {w : World} {r : Reach} {b0 base : Nat} {held : Bool} {v : Value} {d : DataW H} {p : List MemPlace}
    (hv : Value.okWide Tryd.prog w r b0 24 v) (h : DataW.Trod enc Tryd.prog w base (fun _ => true) held 24 v d p) :
    ∃ Q ao n cap F, v = .agg #[.int .i64 Q, .slice ao n cap] ∧ FRow w ao n F ∧ (-9223372036854775808 ≤ Q ∧ Q ≤ 9223372036854775807) ∧ n ≤ 9223372036854775807 ∧ FSize n F 9223372036854775807 := by
  obtain ⟨c0, c1, y0, y1, k, rfl, _, _, h0, h1⟩ := Joins.open_agg2 Tryd.underlying24 (by kernel_rfl) (by kernel_rfl) hv h
  obtain ⟨Q, e0, _, hq⟩ := DataW.trod_int Tryd.underlying3 h0
  obtain ⟨ao, n, cap, F, e1, hr, hn, hs⟩ := frow_of h1
  simp at e0
  subst e0 e1
  exact ⟨Q, ao, n, cap, F, rfl, hr, bounds_i64 hq, hn, hs⟩
end Go.Proofs.YtgedpjabjoodjaaDoor
