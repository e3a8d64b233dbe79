/- What the model reads of an edit's bytes, in numbers: where it stops, there is no good edit. -/
import Derived.Test.YtdcmclbbecnihaaRy
import Derived.Test.YtdcmclbbecnihaaSn
namespace Go.Proofs.Ytdcmclbbecnihaa
open Go.RowKit
set_option linter.unusedSimpArgs false
set_option linter.unusedVariables false

section
variable {f : Nat → Int} {n q q' : Nat} {u : Int}
theorem sN_some (h : sN f n q = some (u, q')) : rdNum f n q = some (u, q') ∧ u ≤ 2000000000 := by
  unfold sN at h
  split at h
  · cases h
  · next a b e =>
    split at h
    · injection h with h
      injection h with h1 h2
      subst h1 h2
      exact ⟨e, by assumption⟩
    · cases h
theorem sN_of (h : rdNum f n q = some (u, q')) (hu : u ≤ 2000000000) : sN f n q = some (u, q') := by
  unfold sN
  rw [h]
  exact if_pos hu
theorem sT_some {x : ByteArray} (h : sT f n q = some (x, q')) : pTx f n q = some (x, q') := by
  unfold sT at h
  split at h
  · cases h
  · next a b e =>
    unfold pTx
    rw [(sN_some e).1]
    exact h
theorem sT_of {x : ByteArray} (hn : n ≤ 1048576) (h : pTx f n q = some (x, q')) : sT f n q = some (x, q') := by
  unfold pTx at h
  split at h
  · cases h
  · next a b e =>
    split at h
    · next hc =>
      unfold sT
      rw [sN_of e (by omega)]
      simp only
      rw [if_pos hc]
      exact h
    · cases h
/-- An add as the model reads it. -/
def sAdd (f : Nat → Int) (n q : Nat) : Option (Adm × Nat) :=
  match sN f n q with
  | none => none
  | some (a, q1) => match sN f n q1 with
    | none => none
    | some (b, q2) => match sN f n q2 with
      | none => none
      | some (c, q3) => match sT f n q3 with
        | none => none
        | some (x, q4) => match sT f n q4 with
          | none => none
          | some (y, q5) => some (⟨a, ⟨b, x, y, c⟩⟩, q5)
theorem sAdd_some {y : Adm} (h : sAdd f n q = some (y, q')) : ∃ q2, rdNum f n q = some (y.lv, q2) ∧ pMe f n q2 = some (y.m, q') := by
  unfold sAdd at h
  split at h
  · cases h
  · next a q1 e1 =>
    split at h
    · cases h
    · next b q2 e2 =>
      split at h
      · cases h
      · next c q3 e3 =>
        split at h
        · cases h
        · next x q4 e4 =>
          split at h
          · cases h
          · next z q5 e5 =>
            injection h with h
            injection h with h1 h2
            subst h1 h2
            refine ⟨q1, (sN_some e1).1, ?_⟩
            unfold pMe
            rw [(sN_some e2).1]
            simp only
            rw [(sN_some e3).1]
            simp only
            rw [sT_some e4]
            simp only
            rw [sT_some e5]
theorem sAdd_of {m : Met} {q2 : Nat} (hn : n ≤ 1048576) (h : rdNum f n q = some (u, q2)) (hm : pMe f n q2 = some (m, q')) (h1 : u ≤ 2000000000) (h2 : m.file ≤ 2000000000) (h3 : m.many ≤ 2000000000) : sAdd f n q = some (⟨u, m⟩, q') := by
  unfold pMe at hm
  split at hm
  · cases hm
  · next b q3 e2 =>
    split at hm
    · cases hm
    · next c q4 e3 =>
      split at hm
      · cases hm
      · next x q5 e4 =>
        split at hm
        · cases hm
        · next z q6 e5 =>
          injection hm with hm
          injection hm with hm1 hm2
          subst hm1 hm2
          unfold sAdd
          rw [sN_of h h1]
          simp only
          rw [sN_of e2 h2]
          simp only
          rw [sN_of e3 h3]
          simp only
          rw [sT_of hn e4]
          simp only
          rw [sT_of hn e5]
end
section
variable {f : Nat → Int} {n q q' : Nat}
theorem pNs_split : ∀ {k j : Nat} {D : List Int} {q' : Nat}, pNs f n k q = some (D, q') → j < k → ∃ L qj u q2, pNs f n j q = some (L, qj) ∧ rdNum f n qj = some (u, q2) ∧ u ∈ D
  | 0, j, D, q', _, hj => by omega
  | k + 1, j, D, q', h, hj => by
    unfold pNs at h
    split at h
    · cases h
    · next L q1 e1 =>
      split at h
      · cases h
      · next u q2 e2 =>
        injection h with h
        injection h with h1 h2
        subst h1 h2
        by_cases e : j = k
        · subst e
          exact ⟨L, q1, u, q2, e1, e2, by simp⟩
        · obtain ⟨L', qj, u', q2', a1, a2, a3⟩ := pNs_split e1 (show j < k by omega)
          exact ⟨L', qj, u', q2', a1, a2, List.mem_append_left _ a3⟩
theorem pAs_split : ∀ {k j : Nat} {D : List Adm} {q' : Nat}, pAs f n k q = some (D, q') → j < k → ∃ L qj u q2 m q3, pAs f n j q = some (L, qj) ∧ rdNum f n qj = some (u, q2) ∧ pMe f n q2 = some (m, q3) ∧ (⟨u, m⟩ : Adm) ∈ D
  | 0, j, D, q', _, hj => by omega
  | k + 1, j, D, q', h, hj => by
    unfold pAs at h
    split at h
    · cases h
    · next L q1 e1 =>
      split at h
      · cases h
      · next u q2 e2 =>
        split at h
        · cases h
        · next m q3 e3 =>
          injection h with h
          injection h with h1 h2
          subst h1 h2
          by_cases e : j = k
          · subst e
            exact ⟨L, q1, u, q2, m, q3, e1, e2, e3, by simp⟩
          · obtain ⟨L', qj, u', q2', m', q3', a1, a2, a3, a4⟩ := pAs_split e1 (show j < k by omega)
            exact ⟨L', qj, u', q2', m', q3', a1, a2, a3, List.mem_append_left _ a4⟩
end
/-- No good edit has these bytes. -/
def NoR (f : Nat → Int) (n : Nat) : Prop := ∀ r, ¬ Rok f n r
def H3 (f : Nat → Int) (n : Nat) (a b c : Int) (q : Nat) : Prop := ∃ q1 q2, rdNum f n 0 = some (a, q1) ∧ rdNum f n q1 = some (b, q2) ∧ rdNum f n q2 = some (c, q)
def H4 (f : Nat → Int) (n : Nat) (a b c : Int) (N q : Nat) : Prop := ∃ q3, H3 f n a b c q3 ∧ rdNum f n q3 = some ((N : Int), q)
def H5 (f : Nat → Int) (n : Nat) (a b c : Int) (D : List Int) (q : Nat) : Prop := ∃ N q4, H4 f n a b c N q4 ∧ N ≤ 24 ∧ pNs f n N q4 = some (D, q)
def H6 (f : Nat → Int) (n : Nat) (a b c : Int) (D : List Int) (M q : Nat) : Prop := ∃ q5, H5 f n a b c D q5 ∧ rdNum f n q5 = some ((M : Int), q)
def H7 (f : Nat → Int) (n : Nat) (a b c : Int) (D : List Int) (A : List Adm) (q : Nat) : Prop := ∃ M q6, H6 f n a b c D M q6 ∧ M ≤ 24 ∧ pAs f n M q6 = some (A, q)

section
variable {f : Nat → Int} {n q : Nat} {a b c : Int} {N M : Nat} {D : List Int} {A : List Adm}
theorem opt_two {α β : Type} {x : Option (α × β)} {a a' : α} {b b' : β} (h : x = some (a, b)) (h' : x = some (a', b')) : a = a' ∧ b = b' := by
  rw [h] at h'
  injection h' with h'
  injection h' with h1 h2
  exact ⟨h1, h2⟩
/-- What a good edit's bytes hold. -/
structure Rp (f : Nat → Int) (n : Nat) (r : RE) (q1 q2 q3 q4 q5 q6 N M : Nat) : Prop where
  e1 : rdNum f n 0 = some (r.nx, q1)
  e2 : rdNum f n q1 = some (r.lg, q2)
  e3 : rdNum f n q2 = some (r.sq, q3)
  e4 : rdNum f n q3 = some ((N : Int), q4)
  e5 : pNs f n N q4 = some (r.D, q5)
  e6 : rdNum f n q5 = some ((M : Int), q6)
  e7 : pAs f n M q6 = some (r.A, n)
  b4 : N ≤ 24
  b6 : M ≤ 24
  b1 : r.nx ≤ 2000000000
  b2 : r.lg ≤ 2000000000
  b3 : r.sq ≤ 2000000000
  bD : ∀ u ∈ r.D, u ≤ 2000000000
  bA : ∀ y ∈ r.A, y.lv ≤ 2000000000 ∧ y.m.file ≤ 2000000000 ∧ y.m.many ≤ 2000000000
theorem rdNum_nn {u : Int} {q' : Nat} (h : rdNum f n q = some (u, q')) : 0 ≤ u := (rdNum_pos h).2.2.1
theorem pMn_of {k q' : Nat} (h : pMn f n q = some (k, q')) : rdNum f n q = some ((k : Int), q') ∧ k ≤ 24 := by
  unfold pMn at h
  split at h
  · cases h
  · next u q1 e =>
    split at h
    · injection h with h
      injection h with h1 h2
      subst h1 h2
      have := rdNum_nn e
      exact ⟨by rw [e, Int.toNat_of_nonneg this], by omega⟩
    · cases h
theorem fN_le {x : Int} (h : fN x = true) : x ≤ 2000000000 := by
  simp only [fN, btw, Bool.and_eq_true, decide_eq_true_eq] at h
  omega
theorem isC_le {x : Int} (h : isC x = true) : x ≤ 2000000000 := by
  simp only [isC, btw, Bool.and_eq_true, decide_eq_true_eq] at h
  omega
theorem ga_le {y : Adm} (h : ga y = true) : y.lv ≤ 2000000000 ∧ y.m.file ≤ 2000000000 ∧ y.m.many ≤ 2000000000 := by
  simp only [ga, gm, fN, btw, Bool.and_eq_true, decide_eq_true_eq] at h
  omega
theorem Rok.parts {r : RE} (h : Rok f n r) : ∃ q1 q2 q3 q4 q5 q6 N M, Rp f n r q1 q2 q3 q4 q5 q6 N M := by
  obtain ⟨h, g1, g2, g3, ⟨g4, g5⟩, g6, g7⟩ := h
  unfold pEd at h
  split at h
  · cases h
  · next a q1 e1 =>
    split at h
    · cases h
    · next b q2 e2 =>
      split at h
      · cases h
      · next c q3 e3 =>
        split at h
        · cases h
        · next D q4 e4 =>
          split at h
          · cases h
          · next A q5 e5 =>
            injection h with h
            injection h with h1 h2
            subst h1 h2
            unfold pDr at e4
            split at e4
            · cases e4
            · next k q4' e4' =>
              unfold pAd at e5
              split at e5
              · cases e5
              · next k2 q6' e6' =>
                obtain ⟨a4, b4⟩ := pMn_of e4'
                obtain ⟨a6, b6⟩ := pMn_of e6'
                refine ⟨q1, q2, q3, q4', q4, q6', k, k2, e1, e2, e3, a4, e4, a6, e5, b4, b6, fN_le g1, fN_le g2, isC_le g3, fun u hu => ?_, fun y hy => ?_⟩
                · obtain ⟨i, hi, rfl⟩ := List.getElem_of_mem hu
                  have := g5 i hi
                  simp only [fi, List.getD, List.getElem?_eq_getElem hi, Option.getD_some] at this
                  exact fN_le this
                · obtain ⟨i, hi, rfl⟩ := List.getElem_of_mem hy
                  have := g7 i hi
                  simp only [dL, List.getD, List.getElem?_eq_getElem hi, Option.getD_some] at this
                  exact ga_le this
theorem no1 (h : sN f n 0 = none) : NoR f n := fun r hr => by
  obtain ⟨q1, q2, q3, q4, q5, q6, N, M, p⟩ := hr.parts
  rw [sN_of p.e1 p.b1] at h
  cases h
theorem no2 {q1 : Nat} (e1 : rdNum f n 0 = some (a, q1)) (h : sN f n q1 = none) : NoR f n := fun r hr => by
  obtain ⟨p1, p2, p3, p4, p5, p6, N, M, p⟩ := hr.parts
  obtain ⟨rfl, rfl⟩ := opt_two e1 p.e1
  rw [sN_of p.e2 p.b2] at h
  cases h
theorem no3 {q1 q2 : Nat} (e1 : rdNum f n 0 = some (a, q1)) (e2 : rdNum f n q1 = some (b, q2)) (h : sN f n q2 = none) : NoR f n := fun r hr => by
  obtain ⟨p1, p2, p3, p4, p5, p6, N, M, p⟩ := hr.parts
  obtain ⟨rfl, rfl⟩ := opt_two e1 p.e1
  obtain ⟨rfl, rfl⟩ := opt_two e2 p.e2
  rw [sN_of p.e3 p.b3] at h
  cases h
theorem Rp.at3 {r : RE} {q1 q2 q3 q4 q5 q6 N M : Nat} (p : Rp f n r q1 q2 q3 q4 q5 q6 N M) (h : H3 f n a b c q) : q = q3 ∧ r.nx = a ∧ r.lg = b ∧ r.sq = c := by
  obtain ⟨p1, p2, e1, e2, e3⟩ := h
  obtain ⟨h1, rfl⟩ := opt_two e1 p.e1
  obtain ⟨h2, rfl⟩ := opt_two e2 p.e2
  obtain ⟨h3, rfl⟩ := opt_two e3 p.e3
  exact ⟨rfl, h1.symm, h2.symm, h3.symm⟩
theorem Rp.at4 {r : RE} {q1 q2 q3 q4 q5 q6 N' M : Nat} (p : Rp f n r q1 q2 q3 q4 q5 q6 N' M) (h : H4 f n a b c N q) : q = q4 ∧ N = N' := by
  obtain ⟨p1, h3, e⟩ := h
  obtain ⟨rfl, _⟩ := p.at3 h3
  obtain ⟨h1, rfl⟩ := opt_two e p.e4
  exact ⟨rfl, by omega⟩
theorem Rp.at5 {r : RE} {q1 q2 q3 q4 q5 q6 N' M : Nat} (p : Rp f n r q1 q2 q3 q4 q5 q6 N' M) (h : H5 f n a b c D q) : q = q5 ∧ r.D = D := by
  obtain ⟨N, p1, h4, _, e⟩ := h
  obtain ⟨rfl, rfl⟩ := p.at4 h4
  obtain ⟨h1, rfl⟩ := opt_two e p.e5
  exact ⟨rfl, h1.symm⟩
theorem Rp.at6 {r : RE} {q1 q2 q3 q4 q5 q6 N' M' : Nat} (p : Rp f n r q1 q2 q3 q4 q5 q6 N' M') (h : H6 f n a b c D M q) : q = q6 ∧ M = M' := by
  obtain ⟨p1, h5, e⟩ := h
  obtain ⟨rfl, _⟩ := p.at5 h5
  obtain ⟨h1, rfl⟩ := opt_two e p.e6
  exact ⟨rfl, by omega⟩
theorem no4 (e : H3 f n a b c q) (h : sN f n q = none) : NoR f n := fun r hr => by
  obtain ⟨p1, p2, p3, p4, p5, p6, N, M, p⟩ := hr.parts
  obtain ⟨rfl, _⟩ := p.at3 e
  rw [sN_of p.e4 (by have := p.b4; omega)] at h
  cases h
theorem no4b (e : H4 f n a b c N q) (h : 24 < N) : NoR f n := fun r hr => by
  obtain ⟨p1, p2, p3, p4, p5, p6, N', M, p⟩ := hr.parts
  obtain ⟨_, rfl⟩ := p.at4 e
  have := p.b4
  omega
theorem no5 {L : List Int} {j qj : Nat} (e : H4 f n a b c N q) (hj : j < N) (hL : pNs f n j q = some (L, qj)) (h : sN f n qj = none) : NoR f n := fun r hr => by
  obtain ⟨p1, p2, p3, p4, p5, p6, N', M, p⟩ := hr.parts
  obtain ⟨rfl, rfl⟩ := p.at4 e
  obtain ⟨L', qj', u, q2, a1, a2, a3⟩ := pNs_split p.e5 hj
  obtain ⟨rfl, rfl⟩ := opt_two hL a1
  rw [sN_of a2 (p.bD u a3)] at h
  cases h
theorem no6 (e : H5 f n a b c D q) (h : sN f n q = none) : NoR f n := fun r hr => by
  obtain ⟨p1, p2, p3, p4, p5, p6, N, M, p⟩ := hr.parts
  obtain ⟨rfl, _⟩ := p.at5 e
  rw [sN_of p.e6 (by have := p.b6; omega)] at h
  cases h
theorem no6b (e : H6 f n a b c D M q) (h : 24 < M) : NoR f n := fun r hr => by
  obtain ⟨p1, p2, p3, p4, p5, p6, N', M', p⟩ := hr.parts
  obtain ⟨_, rfl⟩ := p.at6 e
  have := p.b6
  omega
theorem no7 {L : List Adm} {j qj : Nat} (hn : n ≤ 1048576) (e : H6 f n a b c D M q) (hj : j < M) (hL : pAs f n j q = some (L, qj)) (h : sAdd f n qj = none) : NoR f n := fun r hr => by
  obtain ⟨p1, p2, p3, p4, p5, p6, N', M', p⟩ := hr.parts
  obtain ⟨rfl, rfl⟩ := p.at6 e
  obtain ⟨L', qj', u, q2, m, q3, a1, a2, a3, a4⟩ := pAs_split p.e7 hj
  obtain ⟨rfl, rfl⟩ := opt_two hL a1
  have hb := p.bA _ a4
  rw [sAdd_of hn a2 a3 hb.1 hb.2.1 hb.2.2] at h
  cases h
theorem H7.all (h : H7 f n a b c D A q) : pEd f n = some (⟨a, b, c, D, A⟩, q) := by
  obtain ⟨M, q6, ⟨q5, ⟨N, q4, ⟨q3, ⟨q1, q2, e1, e2, e3⟩, e4⟩, hN, e5⟩, e6⟩, hM, e7⟩ := h
  have d : pDr f n q3 = some (D, q5) := by
    unfold pDr pMn
    rw [e4]
    simp only
    rw [if_pos (by omega)]
    simp only [Int.toNat_natCast]
    exact e5
  have d2 : pAd f n q5 = some (A, q) := by
    unfold pAd pMn
    rw [e6]
    simp only
    rw [if_pos (by omega)]
    simp only [Int.toNat_natCast]
    exact e7
  unfold pEd
  rw [e1]
  simp only
  rw [e2]
  simp only
  rw [e3]
  simp only
  rw [d]
  simp only
  rw [d2]
end
end Go.Proofs.Ytdcmclbbecnihaa
