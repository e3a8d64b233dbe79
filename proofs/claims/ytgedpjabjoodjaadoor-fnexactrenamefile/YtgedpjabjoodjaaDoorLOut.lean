/- What a law over files holds while it goes on. / What a method of the model leaves. -/
import Derived.Test.YtgedpjabjoodjaaDoorMOut
import Derived.Test.YtgedpjabjoodjaaDoorReadLaw
import Derived.Test.YtgedpjabjoodjaaDoorSyncS
namespace Go.Proofs.YtgedpjabjoodjaaDoor
open Go.RowKit
set_option linter.unusedSimpArgs false
set_option linter.unusedVariables false

theorem FV.mid {w w' : World} {B U n : Nat} {ao : Option Addr} {F : Nat → Fil} {G : Nat → Nat} (h : FV w B U ao n F G) (hs : w.heap.size ≤ w'.heap.size) (hb : ∀ k, B ≤ k → k < U → k < w.heap.size → w'.heap[k]? = w.heap[k]?) : FV w' B U ao n F G := by
  rcases h with h | ⟨b, rfl, h⟩
  · exact .inl h
  · have hlt := h.lt
    have hrg := h.range
    have cl : ∀ b' j, B ≤ b' → b' < U → b' < w.heap.size → w'.cell? ⟨b', j, none⟩ = w.cell? ⟨b', j, none⟩ := fun b' j h1 h3 h2 => World.cell?_of_block (w := w) (a := ⟨b', j, none⟩) (hb b' h1 h3 h2)
    have fz : ∀ b' j, B ≤ b' → b' < U → b' < w.heap.size → w'.frozen? ⟨b', j, none⟩ = w.frozen? ⟨b', j, none⟩ := fun b' j h1 h3 h2 => World.frozen?_of_block (w := w) (a := ⟨b', j, none⟩) (hb b' h1 h3 h2)
    refine .inr ⟨b, rfl, by omega, fun i hi => ?_, fun j hj => (fz b j hrg.1 hrg.2.1 hlt).trans (h.free j hj), h.bd, h.self, h.apart, h.range⟩
    obtain ⟨da, dc, c0, c1, c2, hd⟩ := h.cell i hi
    refine ⟨da, dc, (cl b _ hrg.1 hrg.2.1 hlt).trans c0, (cl b _ hrg.1 hrg.2.1 hlt).trans c1, (cl b _ hrg.1 hrg.2.1 hlt).trans c2, ?_⟩
    rcases hd with h0 | ⟨e, ho⟩
    · exact .inl h0
    · by_cases h0 : (F i).len = 0
      · exact .inl h0
      · have := hrg.2.2 i hi h0
        exact .inr ⟨e, ho.bd, by have := ho.lt; omega, fun j hj => (cl _ _ this.1 this.2 ho.lt).trans (ho.cell j hj), fun j hj => (fz _ _ this.1 this.2 ho.lt).trans (ho.free j hj)⟩

structure RG (w w3 : World) (B U XB GB : Nat) (Q : Int) (ao : Option Addr) (n cap g4 : Nat) (F : Nat → Fil) (G4 : Nat → Nat) (Q' : Int) (m : Nat) (a3 : Option Addr) (c3 : Nat) (Fo : Nat → Fil) (a5 : Option Addr) (c5 : Nat) (Fx : Nat → Fil) (G5 : Nat → Nat) (wr : World) : Prop where
  ord : w.heap.size < w3.heap.size ∧ w3.heap.size < B ∧ B ≤ U ∧ U ≤ XB ∧ XB < GB ∧ GB < wr.heap.size
  ka : QAt wr w.heap.size Q (.slice ao n cap)
  kw : QAt wr w3.heap.size Q' (.slice a3 m c3)
  kx : QAt wr XB Q (.slice (some ⟨g4, 0, none⟩) n n)
  kg : QAt wr GB Q' (.slice a5 m c5)
  fx : FV wr B U (some ⟨g4, 0, none⟩) n F G4
  r3 : FRow w3 a3 m Fo
  b3 : Below w3.heap.size w3 wr
  fg : FV wr (XB + 1) GB a5 m Fx G5
  bel : Below w.heap.size w wr
section
variable {w w3 wr w' : World} {B U XB GB : Nat} {Q : Int} {ao : Option Addr} {n cap g4 : Nat} {F : Nat → Fil} {G4 : Nat → Nat} {Q' : Int} {m : Nat} {a3 : Option Addr} {c3 : Nat} {Fo : Nat → Fil} {a5 : Option Addr} {c5 : Nat} {Fx : Nat → Fil} {G5 : Nat → Nat}
theorem RG.keep (h : RG w w3 B U XB GB Q ao n cap g4 F G4 Q' m a3 c3 Fo a5 c5 Fx G5 wr) (hb : Below wr.heap.size wr w') : RG w w3 B U XB GB Q ao n cap g4 F G4 Q' m a3 c3 Fo a5 c5 Fx G5 w' := by
  obtain ⟨o1, o2, o3, o4, o5, o6⟩ := h.ord
  have hs := hb.size
  exact ⟨⟨o1, o2, o3, o4, o5, by omega⟩, h.ka.keep hb, h.kw.keep hb, h.kx.keep hb, h.kg.keep hb, h.fx.keep hb, h.r3, h.b3.trans (hb.mono (by omega)), h.fg.keep hb, h.bel.trans (hb.mono (by omega))⟩
theorem RG.files (h : RG w w3 B U XB GB Q ao n cap g4 F G4 Q' m a3 c3 Fo a5 c5 Fx G5 wr) (M : Mid B U wr w') {F' : Nat → Fil} (hf : FV w' B U (some ⟨g4, 0, none⟩) n F' G4) : RG w w3 B U XB GB Q ao n cap g4 F' G4 Q' m a3 c3 Fo a5 c5 Fx G5 w' := by
  obtain ⟨o1, o2, o3, o4, o5, o6⟩ := h.ord
  have hs := M.size
  exact ⟨⟨o1, o2, o3, o4, o5, by omega⟩, M.qat h.ka (by omega), M.qat h.kw (by omega), M.qat h.kx (by omega), M.qat h.kg (by omega), hf, h.r3, h.b3.trans (M.below (by omega) (by omega)), h.fg.mid M.size (fun k h1 h2 h3 => M.block k h3 (by omega)), h.bel.trans (M.below (by omega) (by omega))⟩
theorem RG.gfiles (h : RG w w3 B U XB GB Q ao n cap g4 F G4 Q' m a3 c3 Fo a5 c5 Fx G5 wr) (M : Mid (XB + 1) GB wr w') {F' : Nat → Fil} (hf : FV w' (XB + 1) GB a5 m F' G5) : RG w w3 B U XB GB Q ao n cap g4 F G4 Q' m a3 c3 Fo a5 c5 F' G5 w' := by
  obtain ⟨o1, o2, o3, o4, o5, o6⟩ := h.ord
  have hs := M.size
  exact ⟨⟨o1, o2, o3, o4, o5, by omega⟩, M.qat h.ka (by omega), M.qat h.kw (by omega), M.qat h.kx (by omega), M.qat h.kg (by omega), h.fx.mid M.size (fun k h1 h2 h3 => M.block k h3 (by omega)), h.r3, h.b3.trans (M.below (by omega) (by omega)), hf, h.bel.trans (M.below (by omega) (by omega))⟩
theorem RG.row3 (h : RG w w3 B U XB GB Q ao n cap g4 F G4 Q' m a3 c3 Fo a5 c5 Fx G5 wr) : FRow wr a3 m Fo := h.r3.keep h.b3
end
theorem used_congr {F G : Nat → Fil} : ∀ n, (∀ i, i < n → (F i).len = (G i).len) → used F n = used G n
  | 0, _ => rfl
  | n + 1, h => by simp only [used]; rw [used_congr n (fun i hi => h i (by omega)), h n (by omega)]
end Go.Proofs.YtgedpjabjoodjaaDoor
namespace Go.Proofs.YtgedpjabjoodjaaDoor
open Go.RowKit
set_option linter.unusedSimpArgs false
set_option linter.unusedVariables false

/-- A method of the model leaves m files behind the box fb, from base on, and a code. -/
def LOut (Q c : Int) (m : Nat) (Fo : Nat → Fil) (fb base : Nat) (w : World) (e : Ending) (w' : World) : Prop :=
  ∃ p' c', e = .returned (.int .i64 c) ∧ QAt w' fb Q (.slice p' m c') ∧ FLow w' base p' m Fo ∧ w.heap.size ≤ w'.heap.size ∧ Below fb w w' ∧ ∀ k, k < base → k ≠ fb → k < w.heap.size → w'.heap[k]? = w.heap[k]?
end Go.Proofs.YtgedpjabjoodjaaDoor
