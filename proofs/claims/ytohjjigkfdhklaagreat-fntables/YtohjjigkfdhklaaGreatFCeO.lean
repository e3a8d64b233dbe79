/- Entries that may be written, out of copies and out of answers; answers that are let alone. -/
import Derived.Test.YtohjjigkfdhklaaGreatHd
import Derived.Test.YtohjjigkfdhklaaGreatOf
import Derived.Test.YtohjjigkfdhklaaGreatKt
namespace Go.Proofs.YtohjjigkfdhklaaGreat
set_option maxRecDepth 100000
open Go.RowKit
set_option linter.unusedSimpArgs false
set_option linter.unusedVariables false

theorem HOwn.io {w : World} {base : Nat} {hv : Value} {x : Ent} (h : HOwn w base hv x) : ∃ lo lc, hv = .slice lo x.n lc ∧ (x.n = 0 ∨ ∃ g, lo = some ⟨g, 0, none⟩ ∧ base ≤ g ∧ hv.ownBlock = some g ∧ IOwn w g 0 x.n x.f) := by
  have ho := h.own
  rcases ho.2 with ⟨rfl, h0⟩ | ⟨g, cap, cur, rfl, hbg, hg, hnc, _⟩
  · exact ⟨none, 0, by rw [h0], .inl h0⟩
  · refine ⟨some ⟨g, 0, none⟩, cap, rfl, .inr ⟨g, rfl, hbg, rfl, h.bd, (Array.getElem?_eq_some_iff.1 hg).1, fun i hi => ?_, fun i _ => by simpa using ho.frozenAt i⟩⟩
    rw [Nat.zero_add, ho.cellAt i (by omega)]
    simp [icells, hi]

theorem OutE.ce {w : World} {base : Nat} {v : Value} {n : Nat} {X : Nat → Ent} {V : Nat → Value} (h : OutE w base v n X V) (hn : 0 < n) :
    ∃ g cap L C, v = .slice (some ⟨g, 0, none⟩) n cap ∧ base ≤ g ∧ CE w g n X L C ∧ ∀ i, i < n → 0 < (X i).n → ∀ c, L i = some ⟨c, 0, none⟩ → base ≤ c := by
  rcases h.own.2 with ⟨_, h0⟩ | ⟨g, cap, cur, rfl, hbg, hg, hnc, _⟩
  · omega
  · have hlt := (Array.getElem?_eq_some_iff.1 hg).1
    have key : ∀ i, ∃ p : Option Addr × Nat, i < n → V i = .slice p.1 (X i).n p.2 ∧ ((X i).n = 0 ∨ ∃ c, p.1 = some ⟨c, 0, none⟩ ∧ base ≤ c ∧ (V i).ownBlock = some c ∧ IOwn w c 0 (X i).n (X i).f) := by
      intro i
      by_cases hi : i < n
      · obtain ⟨lo, lc, h1, h2⟩ := (h.row i hi).io
        exact ⟨(lo, lc), fun _ => ⟨h1, h2⟩⟩
      · exact ⟨(none, 0), fun hh => absurd hh hi⟩
    obtain ⟨P, hP⟩ := Classical.axiomOfChoice key
    have c : ∀ i j, i < n → j < 9 → w.cell? ⟨g, i * 9 + j, none⟩ = (ecells (X i) (V i))[j]? := fun i j hi hj => by rw [h.own.cellAt (i * 9 + j) (by omega), fm9_get n X V hi hj]
    refine ⟨g, cap, fun i => (P i).1, fun i => (P i).2, rfl, hbg, ⟨hlt, fun i hi => ?_, fun j _ => by simpa using h.own.frozenAt j, fun i hi => ?_, fun i j hi hj hij h1 h2 q hL1 hL2 => ?_⟩, fun i hi h0 q hL => ?_⟩
    · have cc := fun j hj => c i j hi hj
      rw [(hP i hi).1] at cc
      exact ⟨hlt, cc 0 (by omega), cc 1 (by omega), cc 2 (by omega), cc 3 (by omega), cc 4 (by omega), cc 5 (by omega), cc 6 (by omega), cc 7 (by omega), cc 8 (by omega)⟩
    · rcases (hP i hi).2 with h0 | ⟨q, h1, _, h3, h4⟩
      · exact .inl h0
      · exact .inr ⟨q, h1, fun e => h.apart i hi q h3 (by rw [e]; rfl), h4⟩
    · obtain ⟨q1, a1, _, a3, _⟩ := (hP i hi).2.resolve_left (by omega)
      obtain ⟨q2, b1, _, b3, _⟩ := (hP j hj).2.resolve_left (by omega)
      have e1 : q1 = q := by have hh : (P i).1 = some ⟨q, 0, none⟩ := hL1; rw [a1] at hh; injection hh with hh; injection hh
      have e2 : q2 = q := by have hh : (P j).1 = some ⟨q, 0, none⟩ := hL2; rw [b1] at hh; injection hh with hh; injection hh
      exact h.dis i j hi hj hij q1 a3 (by rw [b3, e1, e2])
    · obtain ⟨q1, a1, a2, _, _⟩ := (hP i hi).2.resolve_left (by omega)
      have e1 : q1 = q := by have hh : (P i).1 = some ⟨q, 0, none⟩ := hL; rw [a1] at hh; injection hh with hh; injection hh
      omega

theorem ownsRow_same {w w' : World} {base e size n : Nat} {v : Value} {xs : List Value} (h : w.ownsRow base e size v n xs) (hs : ∀ c, v.ownBlock = some c → w'.heap[c]? = w.heap[c]?) : w'.ownsRow base e size v n xs := by
  refine ⟨h.1, ?_⟩
  rcases h.2 with ⟨rfl, h0⟩ | ⟨g, cap, cur, rfl, h1, h2, h3⟩
  · exact .inl ⟨rfl, h0⟩
  · exact .inr ⟨g, cap, cur, rfl, h1, (hs g rfl).trans h2, h3⟩
/-- An answer stays where its own blocks do. -/
theorem OutE.same {w w' : World} {base : Nat} {v : Value} {n : Nat} {X : Nat → Ent} {V : Nat → Value} (h : OutE w base v n X V) (hs : ∀ c, base ≤ c → c < w.heap.size → (v.ownBlock = some c ∨ ∃ i, i < n ∧ (V i).ownBlock = some c) → w'.heap[c]? = w.heap[c]?) : OutE w' base v n X V :=
  ⟨ownsRow_same h.own (fun c hc => hs c (h.own.lt c hc).1 (h.own.lt c hc).2 (.inl hc)), fun i hi => ⟨(h.row i hi).bd, ownsRow_same (h.row i hi).own (fun c hc => hs c ((h.row i hi).own.lt c hc).1 ((h.row i hi).own.lt c hc).2 (.inr ⟨i, hi, hc⟩))⟩, h.dis, h.apart⟩
end Go.Proofs.YtohjjigkfdhklaaGreat
