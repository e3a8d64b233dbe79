/- Rows of metas cut in two; a draft's levels where something else grows. -/
import Derived.Test.YtdcmclbbecnihaaCn
namespace Go.Proofs.Ytdcmclbbecnihaa
open Go.RowKit
set_option linter.unusedSimpArgs false
set_option linter.unusedVariables false

theorem mL_take {L : List Met} {i j : Nat} (h : j < i) : mL (L.take i) j = mL L j := by simp [mL, List.getD, List.getElem?_take, h]
theorem mL_drop (L : List Met) (i j : Nat) : mL (L.drop i) j = mL L (i + j) := by simp [mL, List.getD, List.getElem?_drop]
theorem MRow.take {w : World} {ao : Option Addr} {L : List Met} (h : MRow w ao L.length (mL L)) (i : Nat) : MRow w ao (L.take i).length (mL (L.take i)) := by
  have hl : (L.take i).length ≤ L.length := by rw [List.length_take]; omega
  have hi : ∀ j, j < (L.take i).length → mL (L.take i) j = mL L j := fun j hj => mL_take (by rw [List.length_take] at hj; omega)
  refine ⟨fun j hj => by rw [hi j hj]; exact h.bd j (by omega), ?_⟩
  rcases h.lies with h0 | ⟨b, off, e, hlt, hc⟩
  · exact .inl (by omega)
  · exact .inr ⟨b, off, e, hlt, fun j hj => by rw [hi j hj]; exact hc j (by omega)⟩
theorem MRow.drop {w : World} {g off : Nat} {L : List Met} (h : MRow w (some ⟨g, off, none⟩) L.length (mL L)) (i : Nat) : MRow w (some ⟨g, off + i * 4, none⟩) (L.drop i).length (mL (L.drop i)) := by
  have hl := List.length_drop (i := i) (l := L)
  refine ⟨fun j hj => by rw [mL_drop]; exact h.bd _ (by omega), ?_⟩
  by_cases h0 : (L.drop i).length = 0
  · exact .inl h0
  · obtain ⟨b, o', e, hlt, hc⟩ := h.lies.resolve_left (by omega)
    injection e with e
    injection e with e1 e2 _
    subst e1 e2
    refine .inr ⟨g, off + i * 4, rfl, hlt, fun j hj => ?_⟩
    rw [mL_drop]
    have := hc (i + j) (by omega)
    rw [show off + i * 4 + j * 4 = off + (i + j) * 4 by omega]
    exact this
theorem Lv.grw {w w' : World} {base g N : Nat} {V : Nat → Value} {LL : Nat → List Met} (h : Lv w base g N V LL) (hs : w.heap.size ≤ w'.heap.size) (hg : w'.heap[g]? = w.heap[g]?) (hv : ∀ i, i < N → ∀ c, (V i).ownBlock = some c → w'.heap[c]? = w.heap[c]?) : Lv w' base g N V LL :=
  ⟨Nat.lt_of_lt_of_le h.lt hs, h.bs, fun i hi => (World.cell?_of_block (w := w) (w' := w') (a := ⟨g, i, none⟩) hg).trans (h.cell i hi), fun i hi => (h.own i hi).same fun c hc => hv i hi c hc, h.apart, h.dis, fun j hj => (World.frozen?_of_block (w := w) (a := ⟨g, j, none⟩) hg).trans (h.free j hj)⟩
theorem putAt_app (L : List Met) (i : Nat) (x : Met) : putAt L i x = (L.take i ++ [x]) ++ L.drop i := by simp [putAt]
/-- One more of an edit's adds. -/
theorem apL_step {LL LLk : Nat → List Met} {D : List Int} {A : List Adm} {k kk : Nat} {m : Met} (hk : k < A.length) (hy : dL A k = ⟨(kk : Int), m⟩) (h : ∀ i, i < 3 → LLk i = apL LL D (A.take k) i) : ∀ i, i < 3 → (if i = kk then plP (LLk kk) kk m else LLk i) = apL LL D (A.take (k + 1)) i := fun i hi => by
  unfold apL
  rw [take_dL hk, addsL_push, hy]
  unfold stepA
  simp only [Int.toNat_natCast]
  by_cases e : i = kk
  · rw [← e]; simp only [if_true]; rw [h i hi]; rfl
  · simp only [e, if_false]; exact h i hi
end Go.Proofs.Ytdcmclbbecnihaa
