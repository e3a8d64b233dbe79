/- RaiseMark, in both texts. / ExpireWins: what is answered, told of its rows. -/
import Derived.Test.YtflmbcgokiiedaaOp
import Derived.Test.YtflmbcgokiiedaaTe
import Derived.Test.YtflmbcgokiiedaaGc
import Derived.Test.YtflmbcgokiiedaaOh
namespace Go.Proofs.Ytflmbcgokiiedaa
open Go.RowKit
set_option linter.unusedSimpArgs false
set_option linter.unusedVariables false

theorem WiC.congr {w : World} {b n : Nat} {X X' : Nat → Wn} {A0 A1 : Nat → Option Addr} {K0 K1 G : Nat → Nat} (h : WiC w b n X A0 A1 K0 K1 G) (e : ∀ i, i < n → X i = X' i) : WiC w b n X' A0 A1 K0 K1 G :=
  ⟨h.lt, fun i hi => by rw [← e i hi]; exact h.ent i hi, h.free, fun i hi => by rw [← e i hi]; exact h.l0 i hi, fun i hi => by rw [← e i hi]; exact h.l1 i hi, h.dis⟩
theorem BA.congr {w : World} {base top n : Nat} {v : Value} {X X' : Nat → Wn} (h : BA w base top v n X) (e : ∀ i, i < n → X i = X' i) : BA w base top v n X' := by
  refine ⟨h.1, ?_⟩
  rcases h.2 with h0 | ⟨g, cap, A0, A1, K0, K1, G, e1, h1, h2, h3, h4, h5⟩
  · exact .inl h0
  · exact .inr ⟨g, cap, A0, A1, K0, K1, G, e1, h1, h2, h3.congr e, fun i hi hp => h4 i hi (by rw [e i hi]; exact hp), fun i hi hp => h5 i hi (by rw [e i hi]; exact hp)⟩
/-- A board opened and told is what it was. -/
theorem told_back {z : Int} {X : Nat → Wn} {n : Nat} (hG : GWs z X n) {b : Nat → Bool} (hb : ∀ i, i < n → (b i = true ↔ dS X n (kS (cln X i)))) : ∀ i, i < n → tldB (cln X) b n i = X i := by
  intro i hi
  have e : b i = (X i).di := by
    have h1 := hb i hi
    rw [show kS (cln X i) = kS (X i) from rfl] at h1
    cases hd : (X i).di with
    | true => exact h1.2 ⟨i, hi, hd, rfl⟩
    | false =>
      cases hx : b i with
      | false => rfl
      | true =>
        obtain ⟨j, hj, h2, h3⟩ := h1.1 hx
        by_cases ej : i = j
        · subst ej; rw [hd] at h2; cases h2
        · exact absurd h3 (kS_ne hG hi hj ej)
  simp only [tldB, hi, if_true, e]
  rfl
theorem WSt.mark {w : World} {base p r n : Nat} {z h mk : Int} {v : Value} {Y : Nat → Wn} {V : Nat → Value} {S : ByteArray → Prop} (H : WSt w base p r z h mk v n Y V S) (t : Int) : WSt (w.setCell ⟨p, 2, none⟩ (.int .i64 t)) base p r z h t v n Y V S := by
  have oth := Others.setCell w p 2 (.int .i64 t)
  have nc : ∀ j, j ≠ 2 → (w.setCell ⟨p, 2, none⟩ (.int .i64 t)).cell? ⟨p, j, none⟩ = w.cell? ⟨p, j, none⟩ := fun j hj => World.cell?_setCell_other _ _ _ _ (by intro hh; injection hh with _ h2 _; omega)
  exact ⟨⟨by rw [oth.size]; exact H.box.lt, (nc 0 (by omega)).trans H.box.c0, (nc 1 (by omega)).trans H.box.c1, World.cell?_setCell_same _ _ _ H.box.c2, (nc 3 (by omega)).trans H.box.c3⟩, (nc 4 (by omega)).trans H.c4, fun j => by rw [World.frozen?_setCell]; exact H.fz j, H.set.same (oth.block r (Ne.symm H.pr)), H.out.others oth H.pb, H.pr, H.pb, H.rb⟩

/-- An answer: a board whose memory is its own, and a code. -/
def BAns (z h mk : Int) (n : Nat) (X : Nat → Wn) (c : Int) (w : World) (e : Ending) (w' : World) : Prop :=
  ∃ v, e = .returned (.tuple #[.agg #[.int .i64 z, .int .i64 h, .int .i64 mk, v], .int .i64 c]) ∧ BA w' w.heap.size w'.heap.size v n X ∧ Below w.heap.size w w'

/-- Whether a mark may be raised to t. -/
def RmOk (mk t : Int) : Prop := isTm t = true ∧ mk ≤ t

end Go.Proofs.Ytflmbcgokiiedaa
namespace Go.Proofs.Ytflmbcgokiiedaa
open Go.RowKit
set_option linter.unusedSimpArgs false
set_option linter.unusedVariables false

/-- Whether a window stays. -/
def stB (z h mk : Int) (X : Nat → Wn) (i : Nat) : Bool := decide (mk < (X i).st + z + h)
/-- The windows L of X. -/
def atL (X : Nat → Wn) (L : List Nat) (j : Nat) : Wn := X (L.getD j 0)
/-- An answer: a board and keys whose memory is their own, and whether. -/
def EAns (z h mk : Int) (n : Nat) (X : Nat → Wn) (m : Nat) (T : Nat → Wn) (ok : Bool) (w : World) (e : Ending) (w' : World) : Prop :=
  ∃ v t Q1 Q2, e = .returned (.tuple #[.agg #[.int .i64 z, .int .i64 h, .int .i64 mk, v], t, .bool ok]) ∧ BP w' Q1 v n X ∧ KP w' Q2 t m T ∧ (∀ c, Q1 c → w.heap.size ≤ c) ∧ (∀ c, Q2 c → w.heap.size ≤ c) ∧ (∀ c, Q1 c → ¬ Q2 c) ∧ Below w.heap.size w w'
theorem ex_parts {w : World} {base b2 n : Nat} {v v' v0 : Value} {X : Nat → Wn} {V : Nat → Value} {b : Nat → Bool} (hS : RW w b2 v X V (stL b n)) (hK : RK w b2 v' X V (stL (fun i => !b i) n)) (hO : OutW w base v0 n X V) (hf : FBw n X) (hb : base ≤ b2) (hl : ∀ p k, p < n * 2 → (V p).ownBlock = some k → k < b2) (hne : ∀ c, v.ownBlock = some c → v'.ownBlock ≠ some c) :
    ∃ (V' : Nat → Value) (Q1 Q2 : Nat → Prop), OutW w base v (stL b n).length (atL X (stL b n)) V' ∧ BP w Q1 v (stL b n).length (atL X (stL b n)) ∧ KP w Q2 v' (stL (fun i => !b i) n).length (atL X (stL (fun i => !b i) n)) ∧ (∀ c, Q1 c → base ≤ c) ∧ (∀ c, Q2 c → base ≤ c) ∧ (∀ c, Q1 c → ¬ Q2 c) ∧ (∀ c, v.ownBlock = some c → Q1 c) := by
  have m1 : ∀ i ∈ stL b n, i < n := fun i hi => (stL_mem.1 hi).1
  have m2 : ∀ i ∈ stL (fun i => !b i) n, i < n := fun i hi => (stL_mem.1 hi).1
  have O1 := hS.sub hO m1 (stL_nodup b n) hb hl
  have P1 := bp_of O1 (fun j hj q => hf _ (m1 _ (by
    rw [List.getD_eq_getElem?_getD, List.getElem?_eq_getElem hj]
    exact List.getElem_mem hj)) q)
  have P2 := kp_of hK hO m2 (stL_nodup _ n) hl
  refine ⟨_, _, _, O1, P1, P2, fun c hc => ?_, fun c hc => ?_, fun c h1 h2 => ?_, fun c hc => .inl hc⟩
  · rcases hc with hc | ⟨p, hp, hc⟩
    · have := (World.ownsRow.lt hS c hc).1; omega
    · exact (O1.lt hp hc).1
  · rcases hc with hc | ⟨i, him, hc⟩
    · have := (World.ownsRow.lt hK c hc).1; omega
    · exact (hO.lt (by have := m2 i him; omega) hc).1
  · rcases h1 with h1 | ⟨p, hp, h1⟩
    · rcases h2 with h2 | ⟨i, him, h2⟩
      · exact hne c h1 h2
      · have q1 := (World.ownsRow.lt hS c h1).1
        have q2 := hl (i * 2 + 0) c (by have := m2 i him; omega) h2
        omega
    · have hj : p / 2 < (stL b n).length := by omega
      have hm : (stL b n).getD (p / 2) 0 ∈ stL b n := by
        rw [List.getD_eq_getElem?_getD, List.getElem?_eq_getElem hj]
        exact List.getElem_mem hj
      have hi := stL_mem.1 hm
      rcases h2 with h2 | ⟨i, him, h2⟩
      · have q1 := (World.ownsRow.lt hK c h2).1
        have q2 := hl _ c (by omega) h1
        omega
      · have hi2 := stL_mem.1 him
        refine hO.dis _ _ (by omega) (by omega) (fun e => ?_) c h1 h2
        have e2 : (stL b n).getD (p / 2) 0 = i := by omega
        rw [e2] at hi
        have h3 := hi2.2
        rw [hi.2] at h3
        cases h3
end Go.Proofs.Ytflmbcgokiiedaa
