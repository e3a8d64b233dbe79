/- PutVar's bytes as a list. / Numbers put behind bytes, and the numbers of an agg in a row. -/
import Derived.Test.YtagkhohglpjjlaaPutVar
import Derived.Test.YtagkhohglpjjlaaLists
import Derived.Test.YtagkhohglpjjlaaIL
namespace Go.Proofs.Ytagkhohglpjjlaa
open Go.RowKit
set_option linter.unusedSimpArgs false
set_option linter.unusedVariables false

/-- How many groups come ahead of the last. -/
def pk (u : Int) : Nat :=
  if pv u 0 ≤ 127 then 0 else if pv u 1 ≤ 127 then 1 else if pv u 2 ≤ 127 then 2 else if pv u 3 ≤ 127 then 3 else if pv u 4 ≤ 127 then 4
  else if pv u 5 ≤ 127 then 5 else if pv u 6 ≤ 127 then 6 else if pv u 7 ≤ 127 then 7 else if pv u 8 ≤ 127 then 8 else 9
theorem pk_le (u : Int) : pk u ≤ 9 := by
  unfold pk
  repeat' split
  all_goals omega
def pvL (u : Int) : List Int := (List.range (pk u + 1)).map (pb u (pk u))
theorem pvL_length (u : Int) : (pvL u).length = pk u + 1 := by simp [pvL]

theorem plen_pk {u : Int} {k : Nat} (h : PLen u k) : pk u = k := by
  obtain ⟨hk, hgt, hle⟩ := h
  have g : ∀ j, j < k → ¬ pv u j ≤ 127 := fun j hj => by have := hgt j hj; omega
  have hc : k = 0 ∨ k = 1 ∨ k = 2 ∨ k = 3 ∨ k = 4 ∨ k = 5 ∨ k = 6 ∨ k = 7 ∨ k = 8 ∨ k = 9 := by omega
  clear hk hgt
  unfold pk
  rcases hc with rfl | rfl | rfl | rfl | rfl | rfl | rfl | rfl | rfl | rfl
  · rw [if_pos hle]
  · rw [if_neg (g 0 (by omega)), if_pos hle]
  · rw [if_neg (g 0 (by omega)), if_neg (g 1 (by omega)), if_pos hle]
  · rw [if_neg (g 0 (by omega)), if_neg (g 1 (by omega)), if_neg (g 2 (by omega)), if_pos hle]
  · rw [if_neg (g 0 (by omega)), if_neg (g 1 (by omega)), if_neg (g 2 (by omega)), if_neg (g 3 (by omega)), if_pos hle]
  · rw [if_neg (g 0 (by omega)), if_neg (g 1 (by omega)), if_neg (g 2 (by omega)), if_neg (g 3 (by omega)), if_neg (g 4 (by omega)), if_pos hle]
  · rw [if_neg (g 0 (by omega)), if_neg (g 1 (by omega)), if_neg (g 2 (by omega)), if_neg (g 3 (by omega)), if_neg (g 4 (by omega)), if_neg (g 5 (by omega)), if_pos hle]
  · rw [if_neg (g 0 (by omega)), if_neg (g 1 (by omega)), if_neg (g 2 (by omega)), if_neg (g 3 (by omega)), if_neg (g 4 (by omega)), if_neg (g 5 (by omega)), if_neg (g 6 (by omega)), if_pos hle]
  · rw [if_neg (g 0 (by omega)), if_neg (g 1 (by omega)), if_neg (g 2 (by omega)), if_neg (g 3 (by omega)), if_neg (g 4 (by omega)), if_neg (g 5 (by omega)), if_neg (g 6 (by omega)), if_neg (g 7 (by omega)), if_pos hle]
  · rw [if_neg (g 0 (by omega)), if_neg (g 1 (by omega)), if_neg (g 2 (by omega)), if_neg (g 3 (by omega)), if_neg (g 4 (by omega)), if_neg (g 5 (by omega)), if_neg (g 6 (by omega)), if_neg (g 7 (by omega)), if_neg (g 8 (by omega))]

/-- What a PutVar leaves, by its list. -/
def PVL (u : Int) (w : World) (e : Ending) (w' : World) : Prop :=
  ∃ g cap, e = .returned (.slice (some ⟨g, 0, none⟩) (pvL u).length cap) ∧ w.heap.size ≤ g ∧ At w' g 0 (pvL u) ∧ Below w.heap.size w w'
theorem pvl_of {u : Int} {w w' : World} {e : Ending} (h : PVOut u w e w') : PVL u w e w' := by
  obtain ⟨k, g, cap, hp, rfl, hg, ho, hb⟩ := h
  have ek := plen_pk hp
  subst ek
  refine ⟨g, cap, by rw [pvL_length], hg, ⟨fun x hx => ?_, ho.lt, fun i hi => ?_⟩, hb⟩
  · obtain ⟨i, hi, rfl⟩ := List.mem_map.1 hx
    exact ho.bd i
  · rw [pvL_length] at hi
    rw [ho.cell i hi]
    simp [fl, pvL, hi]

/-- The sign folded in. -/
def foldI (n : Int) : Int := if n < 0 then -2 * n - 1 else 2 * n
theorem foldI_bd {n : Int} (h : -1000000000000000000 ≤ n ∧ n ≤ 1000000000000000000) : 0 ≤ foldI n ∧ foldI n ≤ 18446744073709551615 := by
  unfold foldI
  split <;> omega
end Go.Proofs.Ytagkhohglpjjlaa
namespace Go.Proofs.Ytagkhohglpjjlaa
open Go.RowKit
set_option linter.unusedSimpArgs false
set_option linter.unusedVariables false

/-- What is left where M was put behind the row v. -/
def Putt (base : Nat) (v : Value) (L M : List Int) (w : World) (e : Ending) (w' : World) : Prop :=
  ∃ v', e = .returned v' ∧ OwnL w' base v' (L ++ M) ∧ w.grownBy w' v.ownBlock ∧ NB w v v'

/-- The numbers of an agg, in order. -/
def nm (c s lo hi : Int) (f : Nat → Int) (i : Nat) : Int := if i = 0 then c else if i = 1 then s else if i = 2 then lo else if i = 3 then hi else f (i - 4)
/-- The bytes of an agg up to its number k. -/
def bl (fu : Bool) (N : Nat → Int) : Nat → List Int
  | 0 => [if fu = true then 1 else 0]
  | k + 1 => bl fu N k ++ pvL (foldI (N k))
theorem bl_len (fu : Bool) (N : Nat → Int) (k : Nat) : 1 ≤ (bl fu N k).length ∧ (bl fu N k).length ≤ 1 + 10 * k := by
  induction k with
  | zero => simp [bl]
  | succ k ih =>
    have h1 := pvL_length (foldI (N k))
    have h2 := pk_le (foldI (N k))
    simp only [bl, List.length_append]
    omega
def ib (L : List Int) : List Value := L.map fun x => Value.int .i64 x
theorem ib_length (L : List Int) : (ib L).length = L.length := by simp [ib]
theorem ib_append (L M : List Int) : ib L ++ ib M = ib (L ++ M) := by simp [ib]
theorem ib_one (L : List Int) : ∀ u ∈ ib L, u.oneCell' = true := by
  intro u hu
  obtain ⟨x, _, rfl⟩ := List.mem_map.1 hu
  rfl
def h8 (f : Nat → Int) : List Int := [f 0, f 1, f 2, f 3, f 4, f 5, f 6, f 7]
theorem nums_get (c s lo hi : Int) (f : Nat → Int) (i : Nat) (h : i < 12) : (ib ([c, s, lo, hi] ++ h8 f))[i]? = some (.int .i64 (nm c s lo hi f i)) := by
  have : i = 0 ∨ i = 1 ∨ i = 2 ∨ i = 3 ∨ i = 4 ∨ i = 5 ∨ i = 6 ∨ i = 7 ∨ i = 8 ∨ i = 9 ∨ i = 10 ∨ i = 11 := by omega
  rcases this with rfl | rfl | rfl | rfl | rfl | rfl | rfl | rfl | rfl | rfl | rfl | rfl <;> rfl
theorem h8_news {w : World} {b off : Nat} {f : Nat → Int} (h : ∀ i, i < 8 → w.cell? ⟨b, off + i, none⟩ = some (.int .i64 (f i))) : ∀ j u, (ib (h8 f))[j]? = some u → w.cell? ((⟨b, off, none⟩ : Addr).add j) = some u := by
  intro j u hu
  have hj : j < 8 := by
    rcases Nat.lt_or_ge j 8 with hj | hj
    · exact hj
    · rw [List.getElem?_eq_none (by rw [ib_length]; simpa [h8] using hj)] at hu
      cases hu
  have e : (ib (h8 f))[j]? = some (.int .i64 (f j)) := by
    have : j = 0 ∨ j = 1 ∨ j = 2 ∨ j = 3 ∨ j = 4 ∨ j = 5 ∨ j = 6 ∨ j = 7 := by omega
    rcases this with rfl | rfl | rfl | rfl | rfl | rfl | rfl | rfl <;> rfl
  rw [e] at hu
  have := h j hj
  by_cases h0 : j = 0
  · subst h0
    simpa [Addr.add] using this.trans hu
  · simpa [Addr.add, h0] using this.trans hu

/-- The numbers lie in block g. -/
structure INum (w : World) (g : Nat) (N : Nat → Int) : Prop where
  lt : g < w.heap.size
  cell : ∀ i, i < 12 → w.cell? ⟨g, i, none⟩ = some (.int .i64 (N i))
theorem INum.keep {w w' : World} {g : Nat} {N : Nat → Int} (h : INum w g N) (hb : Below w.heap.size w w') : INum w' g N :=
  ⟨Nat.lt_of_lt_of_le h.lt hb.size, fun i hi => (hb.cell (p := ⟨g, i, none⟩) h.lt).trans (h.cell i hi)⟩
theorem INum.grown {w w' : World} {g : Nat} {N : Nat → Int} {row : Option Nat} (h : INum w g N) (hg : w.grownBy w' row) (hne : row ≠ some g) : INum w' g N :=
  ⟨Nat.lt_of_lt_of_le h.lt hg.size, fun i hi => hg.cell (h.cell i hi) (fun e => hne e.symm)⟩

/-- The row's numbers behind the four others. -/
theorem wpList_nums {w : World} {ops : Array Oper} {rest : List Oper} {o : Oper} {a : Act} {Q : Exit → Act → World → Prop} (hgd : o.guard = none) (s x : Operand)
    (ho : o.op = .call { callee := .builtin .append, args := #[s, x], argTypes := #[26, 26] })
    (c0 s0 lo hi : Int) (f : Nat → Int) (w0 : World) (hw : w = w0.alloc (.cells #[.int .i64 c0, .int .i64 s0, .int .i64 lo, .int .i64 hi] 3)) (g0 : Nat) (hs : a.eval s = .slice (some ⟨g0, 0, none⟩) 4 4) (hg0 : g0 = w0.heap.size)
    (b off c : Nat) (hx : a.eval x = .slice (some ⟨b, off, none⟩) 8 c) (hM : ∀ i, i < 8 → w.cell? ⟨b, off + i, none⟩ = some (.int .i64 (f i)))
    (h : ∀ g cap w', w0.heap.size ≤ g → INum w' g (nm c0 s0 lo hi f) → Below w0.heap.size w0 w' → wpList Try.prog ops Q rest (a.put o.dst (.slice (some ⟨g, 0, none⟩) 12 cap)) w') :
    wpList Try.prog ops Q (o :: rest) a w := by
  subst hw hg0
  obtain ⟨i0, hi0, hz0, hz1, hz2⟩ := info_parts Try.infoInt
  have hown := World.ownsRow_lit (base := w0.heap.size) (e := 3) (size := 1) w0 (ib [c0, s0, lo, hi]).toArray 4 (Nat.le_refl _) (by unfold maxLen; omega) (by simp [ib])
  have hown' : (w0.alloc (.cells #[.int .i64 c0, .int .i64 s0, .int .i64 lo, .int .i64 hi] 3)).ownsRow w0.heap.size 3 1 (.slice (some ⟨w0.heap.size, 0, none⟩) 4 4) 4 (ib [c0, s0, lo, hi]) := by simpa [ib] using hown
  refine wpList_append_own_at (w := _) hgd s x 26 ho w0.heap.size 3 i0 (.int .i64 0) 1 8 Try.underlying26 hi0 hz0 hz1 hz2 rfl (by decide) (.slice (some ⟨w0.heap.size, 0, none⟩) 4 4) 4 (ib [c0, s0, lo, hi]) hs hown' ⟨b, off, none⟩ 8 c (ib (h8 f)) hx (by simp [ib_length, h8]) (h8_news hM) (ib_one _) (by unfold maxLen; omega) (by omega) (by simp) ?_
  intro v' w' h1 h2 h3 h4
  rw [ib_append] at h1
  have hb : Below w0.heap.size w0 w' := (below_new w0 _).grown h2 (by simp) (fun k hk => (hown'.lt k hk).1)
  rcases h1.2 with ⟨_, h0⟩ | ⟨g, cap, cur, rfl, hbg, hg, _⟩
  · omega
  · refine h g cap w' hbg ⟨(Array.getElem?_eq_some_iff.1 hg).1, fun i hi => ?_⟩ hb
    rw [h1.cellAt i (by omega), nums_get _ _ _ _ _ _ hi]
end Go.Proofs.Ytagkhohglpjjlaa
