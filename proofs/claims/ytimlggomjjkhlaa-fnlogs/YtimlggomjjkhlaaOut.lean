/- A list of rows that the call itself makes, one behind the other. -/
import Derived.Test.YtimlggomjjkhlaaSSb
namespace Go.Proofs.Ytimlggomjjkhlaa
open Go.RowKit
set_option linter.unusedSimpArgs false
set_option linter.unusedVariables false

structure OutS (w : World) (base : Nat) (v : Value) (n : Nat) (V : Nat → Value) (Rs : Nat → List Int) : Prop where
  own : w.ownsRow base 22 1 v n ((List.range n).map V)
  row : ∀ i, i < n → OwnL w base (V i) (Rs i)
  dis : ∀ i j, i < n → j < n → i ≠ j → ∀ k, (V i).ownBlock = some k → (V j).ownBlock ≠ some k
  apart : ∀ i, i < n → ∀ k, (V i).ownBlock = some k → v.ownBlock ≠ some k
theorem outS_nil (w : World) (base : Nat) : OutS w base (.slice none 0 0) 0 (fun _ => .slice none 0 0) (fun _ => []) :=
  ⟨World.ownsRow_nil _ _ _ _, fun i hi => absurd hi (Nat.not_lt_zero _), fun i j hi => absurd hi (Nat.not_lt_zero _), fun i hi => absurd hi (Nat.not_lt_zero _)⟩
theorem OutS.form {w : World} {base : Nat} {v : Value} {n : Nat} {V : Nat → Value} {Rs : Nat → List Int} (h : OutS w base v n V Rs) : ∃ ao cap, v = .slice ao n cap := by
  rcases h.own.2 with ⟨rfl, h0⟩ | ⟨g, cap, cur, rfl, _⟩
  · exact ⟨none, 0, by rw [h0]⟩
  · exact ⟨_, _, rfl⟩
theorem ownsRow_keep {w w' : World} {base e size n : Nat} {v : Value} {xs : List Value} (h : w.ownsRow base e size v n xs) (hb : Below w.heap.size w w') : w'.ownsRow base e size v n xs := by
  refine ⟨h.1, ?_⟩
  rcases h.2 with ⟨rfl, h0⟩ | ⟨g, cap, cur, rfl, h1, h2, h3⟩
  · exact .inl ⟨rfl, h0⟩
  · exact .inr ⟨g, cap, cur, rfl, h1, (hb.block g (Array.getElem?_eq_some_iff.1 h2).1).trans h2, h3⟩
theorem OutS.keep {w w' : World} {base : Nat} {v : Value} {n : Nat} {V : Nat → Value} {Rs : Nat → List Int} (h : OutS w base v n V Rs) (hb : Below w.heap.size w w') : OutS w' base v n V Rs :=
  ⟨ownsRow_keep h.own hb, fun i hi => (h.row i hi).keep hb, h.dis, h.apart⟩
theorem OutS.lt {w : World} {base : Nat} {v : Value} {n : Nat} {V : Nat → Value} {Rs : Nat → List Int} (h : OutS w base v n V Rs) : ∀ k, v.ownBlock = some k → base ≤ k ∧ k < w.heap.size := h.own.lt
/-- A block below base has turned, no other. -/
theorem OutS.grown {w w' : World} {base : Nat} {v : Value} {n : Nat} {V : Nat → Value} {Rs : Nat → List Int} {RB : Nat} (h : OutS w base v n V Rs) (hg : w.grownBy w' (some RB)) (hb : RB < base) : OutS w' base v n V Rs := by
  have key : ∀ (u : Value), (∀ k, u.ownBlock = some k → base ≤ k) → u.ownBlock = none ∨ u.ownBlock ≠ some RB := fun u hu => by
    cases hr : u.ownBlock with
    | none => exact .inl rfl
    | some k => exact .inr fun e => by have := hu k hr; injection e with e; omega
  refine ⟨h.own.kept hg (key v fun k hk => (h.lt k hk).1), fun i hi => (h.row i hi).kept hg fun k hk e => ?_, h.dis, h.apart⟩
  have := ((h.row i hi).lt k e).1
  injection hk with hk
  omega

theorem OutS.push {w w' : World} {base : Nat} {v v' x : Value} {n : Nat} {V : Nat → Value} {Rs : Nat → List Int} {R : List Int} (h : OutS w base v n V Rs) (hx : OwnL w base x R)
    (hd : ∀ k, x.ownBlock = some k → v.ownBlock ≠ some k ∧ ∀ i, i < n → (V i).ownBlock ≠ some k)
    (ho : w'.ownsRow base 22 1 v' (n + 1) ((List.range n).map V ++ [x])) (hg : w.grownBy w' v.ownBlock) (ha : v'.ownBlock = v.ownBlock ∨ v'.ownBlock = some w.heap.size) :
    OutS w' base v' (n + 1) (fun i => if i = n then x else V i) (fun i => if i = n then R else Rs i) := by
  have hxb : ∀ k, v.ownBlock = some k → x.ownBlock ≠ some k := fun k hv hxk => (hd k hxk).1 hv
  refine ⟨?_, fun i hi => ?_, fun i j hi hj hij k h1 h2 => ?_, fun i hi k h1 h2 => ?_⟩
  · have e : (List.range (n + 1)).map (fun i => if i = n then x else V i) = (List.range n).map V ++ [x] := by
      rw [List.range_succ, List.map_append]
      congr 1
      · refine List.map_congr_left fun i hi => ?_
        have := List.mem_range.1 hi
        rw [if_neg (by omega)]
      · simp
    rw [e]; exact ho
  · by_cases e : i = n
    · simp only [e, if_true]; exact hx.kept hg (fun k hk => hxb k hk)
    · simp only [e, if_false]; exact (h.row i (by omega)).kept hg (fun k hk hh => h.apart i (by omega) k hh hk)
  · by_cases e : i = n
    · by_cases e' : j = n
      · omega
      · simp only [e, if_true] at h1
        simp only [e', if_false] at h2
        exact (hd k h1).2 j (by omega) h2
    · by_cases e' : j = n
      · simp only [e, if_false] at h1
        simp only [e', if_true] at h2
        exact (hd k h2).2 i (by omega) h1
      · simp only [e, if_false] at h1
        simp only [e', if_false] at h2
        exact h.dis i j (by omega) (by omega) hij k h1 h2
  · have hlt : k < w.heap.size := by
      by_cases e : i = n
      · simp only [e, if_true] at h1; exact (hx.lt k h1).2
      · simp only [e, if_false] at h1; exact ((h.row i (by omega)).lt k h1).2
    rcases ha with ha | ha
    · rw [ha] at h2
      by_cases e : i = n
      · simp only [e, if_true] at h1; exact (hd k h1).1 h2
      · simp only [e, if_false] at h1; exact h.apart i (by omega) k h1 h2
    · rw [ha] at h2; injection h2 with h2; omega

theorem slice_oneCell (ao : Option Addr) (n c : Nat) : (Value.slice ao n c).oneCell' = true := rfl

/-- One row put behind. -/
theorem wpList_push {w : World} {ops : Array Oper} {rest : List Oper} {o : Oper} {a : Act} {Q : Exit → Act → World → Prop} (hgd : o.guard = none) (s y : Operand)
    (ho : o.op = .call { callee := .builtin .append, args := #[s, y], argTypes := #[23, 23] })
    (base : Nat) (v x : Value) (n : Nat) (V : Nat → Value) (Rs : Nat → List Int) (R : List Int) (hs : a.eval s = v) (h : OutS w base v n V Rs) (hx : OwnL w base x R)
    (hd : ∀ k, x.ownBlock = some k → v.ownBlock ≠ some k ∧ ∀ i, i < n → (V i).ownBlock ≠ some k)
    (hy : a.eval y = .slice (some ⟨w.heap.size, 0, none⟩) 1 1) (hn : n ≤ 1048576) (hbase : base ≤ w.heap.size)
    (hk : ∀ v' w', OutS w' base v' (n + 1) (fun i => if i = n then x else V i) (fun i => if i = n then R else Rs i) → (w.alloc (.cells #[x] 22)).grownBy w' v.ownBlock → wpList Try.prog ops Q rest (a.put o.dst v') w') :
    wpList Try.prog ops Q (o :: rest) a (w.alloc (.cells #[x] 22)) := by
  obtain ⟨i0, hi, hz0, hz1, hz2⟩ := info_parts Try.info22
  obtain ⟨xa, xc, rfl⟩ := hx.form
  have hB := below_new w (.cells #[.slice xa R.length xc] 22)
  refine wpList_append_own_at (w := w.alloc (.cells #[.slice xa R.length xc] 22)) hgd s y 23 ho base 22 i0 (.slice none 0 0) 1 24 Try.underlying23 hi hz0 hz1 hz2 rfl (by decide) v n ((List.range n).map V) hs (ownsRow_keep h.own hB) ⟨w.heap.size, 0, none⟩ 1 1 [.slice xa R.length xc] hy rfl (cell_one_new _ _ _) (fun u hu => by rw [List.mem_singleton.1 hu]; rfl) (by unfold maxLen; omega) (by omega) (by simp; omega) ?_
  intro v' w' h1 h2 h3 h4
  exact hk v' w' ((h.keep hB).push (hx.keep hB) hd h1 h2 h4) h2

theorem OutS.ows {w : World} {base : Nat} {ao : Option Addr} {cap : Nat} {n : Nat} {V : Nat → Value} {Rs : Nat → List Int} (h : OutS w base (.slice ao n cap) n V Rs) : OwS w base w.heap.size ao n V Rs := by
  refine ⟨fun i hi => (h.row i hi).bd, fun i hi => ?_, h.dis, ?_, Nat.le_refl _⟩
  · have hr := h.row i hi
    by_cases h0 : (Rs i).length = 0
    · rcases hr.own.2 with ⟨e, _⟩ | ⟨g, c, cur, e, h1, h2, h3, _⟩
      · exact .inl ⟨0, by rw [e, h0], h0⟩
      · have hl := (Array.getElem?_eq_some_iff.1 h2).1
        exact .inr ⟨g, 0, c, e, h1, hl, hr.bd.fl, hl, fun j hj => by omega, fun j hj => by omega⟩
    · obtain ⟨g, c, e, h1, _, ho⟩ := hr.own' (by omega)
      exact .inr ⟨g, 0, c, e, h1, ho.lt, ho⟩
  · by_cases h0 : n = 0
    · exact .inl h0
    · have ho := h.own
      rcases ho.2 with ⟨_, h0'⟩ | ⟨g, c, cur, e, h1, h2, h3, _⟩
      · omega
      · simp only [Value.slice.injEq] at e
        obtain ⟨rfl, _, rfl⟩ := e
        refine .inr ⟨g, 0, rfl, h1, (Array.getElem?_eq_some_iff.1 h2).1, fun i hi => ?_, fun i hi he => h.apart i hi g he rfl⟩
        rw [Nat.zero_add, ho.cellAt i (by omega)]
        simp [hi]
end Go.Proofs.Ytimlggomjjkhlaa
