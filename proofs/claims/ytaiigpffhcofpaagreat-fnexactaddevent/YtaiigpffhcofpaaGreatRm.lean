/- RaiseMark, in both texts. -/
import Derived.Test.YtaiigpffhcofpaaGreatOp
import Derived.Test.YtaiigpffhcofpaaGreatTe
import Derived.Test.YtaiigpffhcofpaaGreatGc
namespace Go.Proofs.YtaiigpffhcofpaaGreat
set_option maxRecDepth 100000
open Go.RowKit
set_option linter.unusedSimpArgs false
set_option linter.unusedVariables false

theorem WiC.congr {w : World} {b n : Nat} {X X' : Nat → Wn} {A0 A1 : Nat → Option Addr} {K0 K1 G : Nat → Nat} (h : WiC w b n X A0 A1 K0 K1 G) (e : ∀ i, i < n → X i = X' i) : WiC w b n X' A0 A1 K0 K1 G :=
  ⟨h.lt, fun i hi => by rw [← e i hi]; exact h.ent i hi, h.free, fun i hi => by rw [← e i hi]; exact h.l0 i hi, fun i hi => by rw [← e i hi]; exact h.l1 i hi, h.dis⟩
theorem BA.congr {w : World} {base top n : Nat} {v : Value} {X X' : Nat → Wn} (h : BA w base top v n X) (e : ∀ i, i < n → X i = X' i) : BA w base top v n X' := by
  refine ⟨h.1, ?_⟩
  rcases h.2 with h0 | ⟨g, cap, A0, A1, K0, K1, G, e1, h1, h2, h3, h4, h5⟩
  · exact .inl h0
  · exact .inr ⟨g, cap, A0, A1, K0, K1, G, e1, h1, h2, h3.congr e, fun i hi hp => h4 i hi (by rw [e i hi]; exact hp), fun i hi hp => h5 i hi (by rw [e i hi]; exact hp)⟩
/-- A board opened and told is what it was. -/
theorem told_back {z : Int} {X : Nat → Wn} {n : Nat} (hG : GWs z X n) {b : Nat → Bool} (hb : ∀ i, i < n → (b i = true ↔ dS X n (kS (cln X i)))) : ∀ i, i < n → tldB (cln X) b n i = X i := by
  intro i hi
  have e : b i = (X i).di := by
    have h1 := hb i hi
    rw [show kS (cln X i) = kS (X i) from rfl] at h1
    cases hd : (X i).di with
    | true => exact h1.2 ⟨i, hi, hd, rfl⟩
    | false =>
      cases hx : b i with
      | false => rfl
      | true =>
        obtain ⟨j, hj, h2, h3⟩ := h1.1 hx
        by_cases ej : i = j
        · subst ej; rw [hd] at h2; cases h2
        · exact absurd h3 (kS_ne hG hi hj ej)
  simp only [tldB, hi, if_true, e]
  rfl
theorem WSt.mark {w : World} {base p r n : Nat} {z h mk : Int} {v : Value} {Y : Nat → Wn} {V : Nat → Value} {S : ByteArray → Prop} (H : WSt w base p r z h mk v n Y V S) (t : Int) : WSt (w.setCell ⟨p, 2, none⟩ (.int .i64 t)) base p r z h t v n Y V S := by
  have oth := Others.setCell w p 2 (.int .i64 t)
  have nc : ∀ j, j ≠ 2 → (w.setCell ⟨p, 2, none⟩ (.int .i64 t)).cell? ⟨p, j, none⟩ = w.cell? ⟨p, j, none⟩ := fun j hj => World.cell?_setCell_other _ _ _ _ (by intro hh; injection hh with _ h2 _; omega)
  exact ⟨⟨by rw [oth.size]; exact H.box.lt, (nc 0 (by omega)).trans H.box.c0, (nc 1 (by omega)).trans H.box.c1, World.cell?_setCell_same _ _ _ H.box.c2, (nc 3 (by omega)).trans H.box.c3⟩, (nc 4 (by omega)).trans H.c4, fun j => by rw [World.frozen?_setCell]; exact H.fz j, H.set.same (oth.block r (Ne.symm H.pr)), H.out.others oth H.pb, H.pr, H.pb, H.rb⟩

/-- An answer: a board whose memory is its own, and a code. -/
def BAns (z h mk : Int) (n : Nat) (X : Nat → Wn) (c : Int) (w : World) (e : Ending) (w' : World) : Prop :=
  ∃ v, e = .returned (.tuple #[.agg #[.int .i64 z, .int .i64 h, .int .i64 mk, v], .int .i64 c]) ∧ BA w' w.heap.size w'.heap.size v n X ∧ Below w.heap.size w w'

/-- Whether a mark may be raised to t. -/
def RmOk (mk t : Int) : Prop := isTm t = true ∧ mk ≤ t

end Go.Proofs.YtaiigpffhcofpaaGreat
