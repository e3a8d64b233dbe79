/- markFiles, walked. / Marks looked for in files; no files marked. / The disk's files as a list; sync; SyncFile. -/
import Derived.Test.YtiojjihonmonkaaDoorMarkFiles
import Derived.Test.YtiojjihonmonkaaDoorSortF
import Derived.Test.YtiojjihonmonkaaDoorSyncS
namespace Go.Proofs.YtiojjihonmonkaaDoor
open Go.RowKit
set_option linter.unusedSimpArgs false
set_option linter.unusedVariables false

end Go.Proofs.YtiojjihonmonkaaDoor
namespace Go.Proofs.YtiojjihonmonkaaDoor
open Go.RowKit
set_option linter.unusedSimpArgs false
set_option linter.unusedVariables false

/-- Files of a call's own, between B and U: none, or in a block. -/
def FV (w : World) (B U : Nat) (ao : Option Addr) (n : Nat) (F : Nat → Fil) (G : Nat → Nat) : Prop :=
  n = 0 ∨ ∃ b, ao = some ⟨b, 0, none⟩ ∧ FBox w b n F G B U
theorem FV.row {w : World} {B U n : Nat} {ao : Option Addr} {F : Nat → Fil} {G : Nat → Nat} (h : FV w B U ao n F G) : FRow w ao n F := by
  rcases h with h | ⟨b, rfl, h⟩
  · exact ⟨.inl h⟩
  · exact h.row
theorem FV.keep {w w' : World} {B U n : Nat} {ao : Option Addr} {F : Nat → Fil} {G : Nat → Nat} (h : FV w B U ao n F G) (hb : Below w.heap.size w w') : FV w' B U ao n F G := by
  rcases h with h | ⟨b, rfl, h⟩
  · exact .inl h
  · exact .inr ⟨b, rfl, h.keep hb⟩
theorem cK_zero (F : Nat → Fil) : cK F 0 = 1 := by unfold cK; rfl
end Go.Proofs.YtiojjihonmonkaaDoor
namespace Go.Proofs.YtiojjihonmonkaaDoor
open Go.RowKit
open Go.ChangeMaps (setBlock)
set_option linter.unusedSimpArgs false
set_option linter.unusedVariables false

def sAd : Value → Option Addr
  | .slice a _ _ => a
  | _ => none
def sCp : Value → Nat
  | .slice _ _ c => c
  | _ => 0
/-- File i of the disk. -/
def fOf (F : Nat → Fil) (S : Nat → Value) (i : Nat) : FT := ((F i).nm, (sAd (S i), (F i).len, sCp (S i)), (F i).sy)
def lOf (F : Nat → Fil) (S : Nat → Value) (n : Nat) : List (FT × Nat) := (List.range n).map fun i => (fOf F S i, i)
theorem lOf_at (F : Nat → Fil) (S : Nat → Value) {n i : Nat} (h : i < n) : (lOf F S n)[i]? = some (fOf F S i, i) := by simp [lOf, h]
theorem lOf_len (F : Nat → Fil) (S : Nat → Value) (n : Nat) : (lOf F S n).length = n := by simp [lOf]
theorem ents_lOf {F : Nat → Fil} {S : Nat → Value} {n : Nat} (h : ∀ i, i < n → ∃ da dc, S i = .slice da (F i).len dc) : ents F S n = esOf (lOf F S n) := by
  unfold ents esOf lOf
  congr 1
  rw [List.map_map]
  refine List.map_congr_left fun i hi => ?_
  obtain ⟨da, dc, e⟩ := h i (List.mem_range.1 hi)
  simp [ent, mkE, fval, fOf, e, sAd, sCp]
theorem mhas_of {w : World} {bm n : Nat} {F : Nat → Fil} {S : Nat → Value} (hK : ∀ i, i < n → fileOk F i = true) (h : ∀ i, i < n → ∃ da dc, S i = .slice da (F i).len dc) (hb : w.heap[bm]? = some (.map (ents F S n) n)) : MHas w bm (lOf F S n) n := by
  refine ⟨by rw [hb, ents_lOf h], ?_, ?_, ?_⟩
  · have : (lOf F S n).map (·.2) = List.range n := by simp [lOf, List.map_map, Function.comp_def]
    rw [this]; exact List.nodup_range
  · intro p hp
    simp only [lOf, List.mem_map, List.mem_range] at hp
    obtain ⟨i, hi, rfl⟩ := hp
    exact hi
  · rw [List.nodup_iff_pairwise_ne, List.pairwise_iff_getElem]
    intro i j hi hj hij
    simp only [lOf, List.length_map, List.length_range] at hi hj
    simp only [lOf, List.getElem_map, List.getElem_range, fOf]
    exact names_ne hK hij hj

theorem eq_of_rising : ∀ {l m : List FT}, l.Perm m → l.Pairwise (fun x y => Op.bytesLess x.1.toList y.1.toList = true) → m.Pairwise (fun x y => Op.bytesLess x.1.toList y.1.toList = true) → l = m
  | [], m, hp, _, _ => by rw [List.nil_perm.1 hp]
  | x :: l, [], hp, _, _ => absurd hp.length_eq (by simp)
  | x :: l, y :: m, hp, h1, h2 => by
    obtain ⟨a1, b1⟩ := List.pairwise_cons.1 h1
    obtain ⟨a2, b2⟩ := List.pairwise_cons.1 h2
    have e : x = y := by
      rcases List.mem_cons.1 (hp.mem_iff.1 (List.mem_cons_self ..)) with e | hx
      · exact e
      · rcases List.mem_cons.1 (hp.mem_iff.2 (List.mem_cons_self ..)) with e | hy
        · exact e.symm
        · have g1 := a2 x hx
          have g2 := a1 y hy
          have := bl_trans _ _ _ g1 g2
          rw [bl_self] at this
          exact absurd this (by decide)
    subst e
    rw [eq_of_rising (List.perm_cons x |>.1 hp) b1 b2]

/-- What the program leaves: files of the call's own, and a code. -/
def IOut (Q c : Int) (m : Nat) (Fo : Nat → Fil) (w : World) (e : Ending) (w' : World) : Prop :=
  ∃ ao cap G, e = .returned (.tuple #[.agg #[.int .i64 Q, .slice ao m cap], .int .i64 c]) ∧ FV w' w.heap.size w'.heap.size ao m Fo G ∧ Below w.heap.size w w'

/-- The bytes of the files in the list zs are the call's own, each in its block. -/
structure ZOwn (w : World) (B m : Nat) (zs : List FT) (Fo : Nat → Fil) (G : Nat → Nat) : Prop where
  len : zs.length = m
  data : ∀ i x, zs[i]? = some x → x.1 = (Fo i).nm ∧ x.2.1.2.1 = (Fo i).len ∧ x.2.2 = (Fo i).sy ∧ ((Fo i).len = 0 ∨ x.2.1.1 = some ⟨G i, 0, none⟩ ∧ B ≤ G i ∧ Own w (G i) 0 (Fo i).len (Fo i).f)
  bd : ∀ i, i < m → ∀ j, 0 ≤ (Fo i).f j ∧ (Fo i).f j ≤ 255
  apart : ∀ i j, i < j → j < m → (Fo i).len ≠ 0 → (Fo j).len ≠ 0 → G i ≠ G j
theorem ZOwn.fv {w w' : World} {B m base : Nat} {zs : List FT} {Fo : Nat → Fil} {G : Nat → Nat} {p : Option Addr} {c : Nat} (h : ZOwn w B m zs Fo G) (hb : Below w.heap.size w w') (hB : B ≤ base) (hbase : w.heap.size ≤ base) (hown : w'.ownsRow base 35 3 (.slice p m c) m (zs.flatMap fenc)) : FV w' B w'.heap.size p m Fo G := by
  rcases id hown.2 with ⟨_, h0⟩ | ⟨g, cap, cur, e, hbg, hg, _⟩
  · exact .inl h0
  · injection e with e1 e2 e3
    subst e1 e3
    have hlt : g < w'.heap.size := (Array.getElem?_eq_some_iff.1 hg).1
    have at' : ∀ i, i < m → ∃ x, zs[i]? = some x := fun i hi => ⟨_, List.getElem?_eq_getElem (by rw [h.len]; exact hi)⟩
    have gl : ∀ i, i < m → (Fo i).len ≠ 0 → B ≤ G i ∧ G i < w.heap.size := fun i hi h0 => by
      obtain ⟨x, hx⟩ := at' i hi
      have := (h.data i x hx).2.2.2.resolve_left h0
      exact ⟨this.2.1, this.2.2.lt⟩
    refine .inr ⟨g, rfl, hlt, fun i hi => ?_, fun j _ => hown.frozenAt j, h.bd, fun i hi h0 => by have := gl i hi h0; omega, h.apart, by omega, hlt, fun i hi h0 => by have := gl i hi h0; have := hb.size; omega⟩
    obtain ⟨x, hx⟩ := at' i hi
    obtain ⟨k0, k1, k2⟩ := fm_cells zs hx
    obtain ⟨d1, d2, d3, d4⟩ := h.data i x hx
    refine ⟨x.2.1.1, x.2.1.2.2, ?_, ?_, ?_, d4.elim .inl fun ⟨e, _, ho⟩ => .inr ⟨e, ho.keep hb⟩⟩
    · rw [hown.cellAt _ (by omega), k0, d1]
    · rw [hown.cellAt _ (by omega), k1, d2]
    · rw [hown.cellAt _ (by omega), k2, d3]

end Go.Proofs.YtiojjihonmonkaaDoor
