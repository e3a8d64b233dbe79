/- What a law over files and bytes holds while it goes on. / What a method of the model leaves. -/
import Derived.Test.YtgedpjabjoodjaaDoorLawG
import Derived.Test.YtgedpjabjoodjaaDoorSyncS
namespace Go.Proofs.YtgedpjabjoodjaaDoor
open Go.RowKit
set_option linter.unusedSimpArgs false
set_option linter.unusedVariables false

structure RY (w w3 : World) (B U XB YB GA GB : Nat) (Q : Int) (ao : Option Addr) (n cap g4 : Nat) (F : Nat → Fil) (G4 : Nat → Nat) (Q' : Int) (m : Nat) (a3 : Option Addr) (c3 : Nat) (Fo : Nat → Fil) (a5 : Option Addr) (c5 : Nat) (Fx : Nat → Fil) (G5 : Nat → Nat) (my : Nat) (fy : Nat → Int) (wr : World) : Prop where
  ord : w.heap.size < w3.heap.size ∧ w3.heap.size < B ∧ B ≤ U ∧ U ≤ XB ∧ XB < YB ∧ YB < GA ∧ GA ≤ GB ∧ GB < wr.heap.size
  ka : QAt wr w.heap.size Q (.slice ao n cap)
  kw : QAt wr w3.heap.size Q' (.slice a3 m c3)
  kx : QAt wr XB Q (.slice (some ⟨g4, 0, none⟩) n n)
  kg : QAt wr GB Q' (.slice a5 m c5)
  fx : FV wr B U (some ⟨g4, 0, none⟩) n F G4
  r3 : FRow w3 a3 m Fo
  b3 : Below w3.heap.size w3 wr
  fg : FV wr GA GB a5 m Fx G5
  bel : Below w.heap.size w wr
  y : Own wr YB 0 my fy
section
variable {w w3 wr w' : World} {B U XB YB GA GB : Nat} {Q : Int} {ao : Option Addr} {n cap g4 : Nat} {F : Nat → Fil} {G4 : Nat → Nat} {Q' : Int} {m : Nat} {a3 : Option Addr} {c3 : Nat} {Fo : Nat → Fil} {a5 : Option Addr} {c5 : Nat} {Fx : Nat → Fil} {G5 : Nat → Nat} {my : Nat} {fy : Nat → Int}
theorem RY.keep (h : RY w w3 B U XB YB GA GB Q ao n cap g4 F G4 Q' m a3 c3 Fo a5 c5 Fx G5 my fy wr) (hb : Below wr.heap.size wr w') : RY w w3 B U XB YB GA GB Q ao n cap g4 F G4 Q' m a3 c3 Fo a5 c5 Fx G5 my fy w' := by
  obtain ⟨o1, o2, o3, o4, o5, o6, o7, o8⟩ := h.ord
  have hs := hb.size
  exact ⟨⟨o1, o2, o3, o4, o5, o6, o7, by omega⟩, h.ka.keep hb, h.kw.keep hb, h.kx.keep hb, h.kg.keep hb, h.fx.keep hb, h.r3, h.b3.trans (hb.mono (by omega)), h.fg.keep hb, h.bel.trans (hb.mono (by omega)), h.y.keep hb⟩
theorem RY.files (h : RY w w3 B U XB YB GA GB Q ao n cap g4 F G4 Q' m a3 c3 Fo a5 c5 Fx G5 my fy wr) (M : Mid B U wr w') {F' : Nat → Fil} (hf : FV w' B U (some ⟨g4, 0, none⟩) n F' G4) : RY w w3 B U XB YB GA GB Q ao n cap g4 F' G4 Q' m a3 c3 Fo a5 c5 Fx G5 my fy w' := by
  obtain ⟨o1, o2, o3, o4, o5, o6, o7, o8⟩ := h.ord
  have hs := M.size
  exact ⟨⟨o1, o2, o3, o4, o5, o6, o7, by omega⟩, M.qat h.ka (by omega), M.qat h.kw (by omega), M.qat h.kx (by omega), M.qat h.kg (by omega), hf, h.r3, h.b3.trans (M.below (by omega) (by omega)), h.fg.mid M.size (fun k h1 h2 h3 => M.block k h3 (by omega)), h.bel.trans (M.below (by omega) (by omega)), M.own h.y (by omega)⟩
theorem RY.gfiles (h : RY w w3 B U XB YB GA GB Q ao n cap g4 F G4 Q' m a3 c3 Fo a5 c5 Fx G5 my fy wr) (M : Mid GA GB wr w') {F' : Nat → Fil} (hf : FV w' GA GB a5 m F' G5) : RY w w3 B U XB YB GA GB Q ao n cap g4 F G4 Q' m a3 c3 Fo a5 c5 F' G5 my fy w' := by
  obtain ⟨o1, o2, o3, o4, o5, o6, o7, o8⟩ := h.ord
  have hs := M.size
  exact ⟨⟨o1, o2, o3, o4, o5, o6, o7, by omega⟩, M.qat h.ka (by omega), M.qat h.kw (by omega), M.qat h.kx (by omega), M.qat h.kg (by omega), h.fx.mid M.size (fun k h1 h2 h3 => M.block k h3 (by omega)), h.r3, h.b3.trans (M.below (by omega) (by omega)), hf, h.bel.trans (M.below (by omega) (by omega)), M.own h.y (by omega)⟩
theorem RY.mark (h : RY w w3 B U XB YB GA GB Q ao n cap g4 F G4 Q' m a3 c3 Fo a5 c5 Fx G5 my fy wr) (M : Mid YB (YB + 1) wr w') {fy' : Nat → Int} (hy : Own w' YB 0 my fy') : RY w w3 B U XB YB GA GB Q ao n cap g4 F G4 Q' m a3 c3 Fo a5 c5 Fx G5 my fy' w' := by
  obtain ⟨o1, o2, o3, o4, o5, o6, o7, o8⟩ := h.ord
  have hs := M.size
  exact ⟨⟨o1, o2, o3, o4, o5, o6, o7, by omega⟩, M.qat h.ka (by omega), M.qat h.kw (by omega), M.qat h.kx (by omega), M.qat h.kg (by omega), h.fx.mid M.size (fun k h1 h2 h3 => M.block k h3 (by omega)), h.r3, h.b3.trans (M.below (by omega) (by omega)), h.fg.mid M.size (fun k h1 h2 h3 => M.block k h3 (by omega)), h.bel.trans (M.below (by omega) (by omega)), hy⟩
theorem RY.row3 (h : RY w w3 B U XB YB GA GB Q ao n cap g4 F G4 Q' m a3 c3 Fo a5 c5 Fx G5 my fy wr) : FRow wr a3 m Fo := h.r3.keep h.b3
end
end Go.Proofs.YtgedpjabjoodjaaDoor
namespace Go.Proofs.YtgedpjabjoodjaaDoor
open Go.RowKit
set_option linter.unusedSimpArgs false
set_option linter.unusedVariables false

/-- A method of the model leaves m files behind the box fb, from base on, and a code. -/
def LOut (Q c : Int) (m : Nat) (Fo : Nat → Fil) (fb base : Nat) (w : World) (e : Ending) (w' : World) : Prop :=
  ∃ p' c', e = .returned (.int .i64 c) ∧ QAt w' fb Q (.slice p' m c') ∧ FLow w' base p' m Fo ∧ w.heap.size ≤ w'.heap.size ∧ Below fb w w' ∧ ∀ k, k < base → k ≠ fb → k < w.heap.size → w'.heap[k]? = w.heap[k]?
end Go.Proofs.YtgedpjabjoodjaaDoor
