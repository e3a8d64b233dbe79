/- What a method of the disk leaves. -/
import Derived.Test.YtgedpjabjoodjaaDoorSyncI
namespace Go.Proofs.YtgedpjabjoodjaaDoor
open Go.RowKit
open Go.ChangeMaps (setBlock)
set_option linter.unusedSimpArgs false
set_option linter.unusedVariables false

/-- The error E is not one of goodness, and its code is c. -/
def ErrC (E : Value) (c : Int) : Prop :=
  (∀ w : World, Calls Tryd.prog 68 #[E, .iface 88 (.int .i64 1)] w fun e w' => e = .returned (.bool false) ∧ Below w.heap.size w w') ∧
  (∀ w : World, ET w → Calls Tryd.prog 58 #[E] w fun e w' => e = .returned (.int .i64 c) ∧ Below w.heap.size w w')
theorem errNil : ErrC .nilIface 0 :=
  ⟨fun w => (is_nil w).mono fun e w' h => ⟨h.1, by rw [h.2]; exact Below.refl _ _⟩, fun w _ => code_nil w⟩
theorem errFault (s : ByteArray) (k : Int) (hk : (k == 1) = false) : ErrC (.iface 90 (.agg #[.string s, .int .i64 k])) k :=
  ⟨fun w => is_fault s k false hk w, fun w hE => code_fault s k w hE⟩

/-- What a method of the disk leaves behind good files. -/
def MOut (c : Int) (m : Nat) (Fo : Nat → Fil) (n : Nat) (F : Nat → Fil) (D : Nat → Nat) (bm : Nat) (w : World) (e : Ending) (w' : World) : Prop :=
  ∃ (E : Value) (L : List (FT × Nat)) (clock : Nat) (zs : List FT) (G : Nat → Nat), e = .returned E ∧ ErrC E c ∧ (E = .nilIface ∨ ∃ t v, E = .iface t v) ∧ MHas w' bm L clock ∧ L.length ≤ 1048576 ∧ zs.Perm (L.map (·.1)) ∧ zs.Pairwise (fun x y => Op.bytesLess x.1.toList y.1.toList = true) ∧ ZOwn w' bm m zs Fo G ∧ Below bm w w' ∧ ∀ k, k < w.heap.size → k ≠ bm → (∀ i, i < n → (F i).len ≠ 0 → k ≠ D i) → w'.heap[k]? = w.heap[k]?
theorem ZOwn.keep {w w' : World} {B B' m : Nat} {zs : List FT} {Fo : Nat → Fil} {G : Nat → Nat} (h : ZOwn w B m zs Fo G) (hb : Below w.heap.size w w') (hB : B' ≤ B) : ZOwn w' B' m zs Fo G :=
  ⟨h.len, fun i x hx => by
    obtain ⟨d1, d2, d3, d4⟩ := h.data i x hx
    exact ⟨d1, d2, d3, d4.elim .inl fun ⟨e, hg, ho⟩ => .inr ⟨e, by omega, ho.keep hb⟩⟩, h.bd, h.apart⟩

theorem FV.low {w w' : World} {B U n : Nat} {ao : Option Addr} {F : Nat → Fil} {G : Nat → Nat} (h : FV w B U ao n F G) (hs : w.heap.size ≤ w'.heap.size) (hb : ∀ k, B ≤ k → k < w.heap.size → w'.heap[k]? = w.heap[k]?) : FV w' B U ao n F G := by
  rcases h with h | ⟨b, rfl, h⟩
  · exact .inl h
  · have hlt := h.lt
    have hrg := h.range
    have cl : ∀ b' j, B ≤ b' → b' < w.heap.size → w'.cell? ⟨b', j, none⟩ = w.cell? ⟨b', j, none⟩ := fun b' j h1 h2 => World.cell?_of_block (w := w) (a := ⟨b', j, none⟩) (hb b' h1 h2)
    have fz : ∀ b' j, B ≤ b' → b' < w.heap.size → w'.frozen? ⟨b', j, none⟩ = w.frozen? ⟨b', j, none⟩ := fun b' j h1 h2 => World.frozen?_of_block (w := w) (a := ⟨b', j, none⟩) (hb b' h1 h2)
    refine .inr ⟨b, rfl, by omega, fun i hi => ?_, fun j hj => (fz b j hrg.1 hlt).trans (h.free j hj), h.bd, h.self, h.apart, h.range⟩
    obtain ⟨da, dc, c0, c1, c2, hd⟩ := h.cell i hi
    refine ⟨da, dc, (cl b _ hrg.1 hlt).trans c0, (cl b _ hrg.1 hlt).trans c1, (cl b _ hrg.1 hlt).trans c2, ?_⟩
    rcases hd with h0 | ⟨e, ho⟩
    · exact .inl h0
    · by_cases h0 : (F i).len = 0
      · exact .inl h0
      · have := (hrg.2.2 i hi h0).1
        exact .inr ⟨e, ho.bd, by have := ho.lt; omega, fun j hj => (cl _ _ this ho.lt).trans (ho.cell j hj), fun j hj => (fz _ _ this ho.lt).trans (ho.free j hj)⟩
theorem FV.mono {w : World} {B B' U U' n : Nat} {ao : Option Addr} {F : Nat → Fil} {G : Nat → Nat} (h : FV w B U ao n F G) (hB : B' ≤ B) (hU : U ≤ U') : FV w B' U' ao n F G := by
  rcases h with h | ⟨b, rfl, h⟩
  · exact .inl h
  · have hrg := h.range
    exact .inr ⟨b, rfl, h.lt, h.cell, h.free, h.bd, h.self, h.apart, by omega, by omega, fun i hi h0 => by have := hrg.2.2 i hi h0; omega⟩
/-- The files as they were opened. -/
theorem zown_of {w : World} {bm n : Nat} {F : Nat → Fil} {S : Nat → Value} {G : Nat → Nat} (hD : DOwn w (bm + 2) n F S G) (hbd : ∀ i, i < n → ∀ j, 0 ≤ (F i).f j ∧ (F i).f j ≤ 255) : ZOwn w bm n ((lOf F S n).map (·.1)) F G := by
  refine ⟨by rw [List.length_map, lOf_len], fun i x hx => ?_, hbd, fun i j hij hj _ _ => by have := hD.mono i j hij hj; omega⟩
  have hi : i < n := by
    have := (List.getElem?_eq_some_iff.1 hx).1
    rwa [List.length_map, lOf_len] at this
  rw [List.getElem?_map, lOf_at F S hi] at hx
  injection hx with hx
  subst hx
  refine ⟨rfl, rfl, rfl, ?_⟩
  rcases hD.data i hi with ⟨h0, _⟩ | ⟨c, e, ho⟩
  · exact .inl h0
  · exact .inr ⟨by show sAd (S i) = _; rw [e]; rfl, by have := hD.low i hi; omega, ho⟩
theorem rising_of {n : Nat} {F : Nat → Fil} {S : Nat → Value} (hK : ∀ i, i < n → fileOk F i = true) : ((lOf F S n).map (·.1)).Pairwise (fun x y => Op.bytesLess x.1.toList y.1.toList = true) := by
  rw [List.pairwise_iff_getElem]
  intro i j hi hj hij
  simp only [lOf, List.map_map, List.length_map, List.length_range] at hi hj
  simp only [lOf, List.map_map, List.getElem_map, List.getElem_range, Function.comp_apply, fOf]
  have := names_rise hK (j - i - 1) i (by omega)
  rwa [show i + (j - i - 1 + 1) = j by omega] at this
end Go.Proofs.YtgedpjabjoodjaaDoor
