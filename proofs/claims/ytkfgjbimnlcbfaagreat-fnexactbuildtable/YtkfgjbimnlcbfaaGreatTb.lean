/- A table's bytes, in the document's words; texts put behind bytes. -/
import Derived.Test.YtkfgjbimnlcbfaaGreatPut
import Derived.Test.YtkfgjbimnlcbfaaGreatGe
import Derived.Lib.AppendStr
import Derived.Laws.AppendOwnNone
namespace Go.Proofs.YtkfgjbimnlcbfaaGreat
set_option maxRecDepth 100000
open Go.RowKit
set_option linter.unusedSimpArgs false
set_option linter.unusedVariables false

/-- The bytes of a text. -/
def bytesOf (s : ByteArray) : List Int := s.data.toList.map fun b => (b.toNat : Int)
theorem bytesOf_len (s : ByteArray) : (bytesOf s).length = s.size := by simp [bytesOf]
theorem bytesOf_bd (s : ByteArray) : Byt (bytesOf s) := by
  intro z hz
  simp only [bytesOf, List.mem_map] at hz
  obtain ⟨b, _, rfl⟩ := hz
  have := b.toNat_lt
  omega
theorem vb_bytes (s : ByteArray) : Go.Lib.strCells s = vb (bytesOf s) := by simp [Go.Lib.strCells, vb, bytesOf]

theorem app_text_block (w : World) (base : Nat) (v : Value) (L : List Int) (hown : OwnL w base v L) (s0 : ByteArray) (hsz : L.length + s0.size ≤ 4194304) (hbase : base ≤ w.heap.size) (ty : TypeId) :
    ∃ v' w', (Builtin.append_ #[22, 9] ty #[v, .string s0]).run Tryz.prog w = .ok v' w' ∧ OwnL w' base v' (L ++ bytesOf s0) ∧ w.grownBy w' v.ownBlock ∧ (v'.ownBlock = v.ownBlock ∨ v'.ownBlock = some w.heap.size) := by
  obtain ⟨i0, hi, hz0, hz1, hz2⟩ := info_parts Tryz.info5
  obtain ⟨v', w', hr, h1, h2, h3⟩ := Go.Lib.run_append_own_string (P := Tryz.prog) w base 22 9 ty 5 i0 Tryz.underlying22 Tryz.underlying9 hi hz0 hz1 hz2 v L.length (vb L) hown.own s0 (by unfold maxLen; omega) (by omega) hbase
  refine ⟨v', w', hr, ⟨hown.bd.append (bytesOf_bd _), ?_⟩, h2, ?_⟩
  · rw [List.length_append, ← vb_append, bytesOf_len, ← vb_bytes]
    exact h1
  · rcases hown.own.2 with ⟨rfl, h0⟩ | ⟨g, cap, cur, rfl, hbg, hg, hnc, hcm, hcs, htake⟩
    · by_cases hm : s0.size = 0
      · rw [h3.2 ⟨rfl, hm⟩]
        exact .inl rfl
      · have hr' := run_append_nil_string (P := Tryz.prog) w 22 9 ty 5 i0 (.int .u8 0) Tryz.underlying22 Tryz.underlying9 hi hz0 s0 (by omega) (by omega) (by rw [hz2]; omega)
        have e := hr.symm.trans hr'
        injection e with e1 e2
        rw [e1]
        exact .inr rfl
    · by_cases hroom : L.length + s0.size ≤ cap
      · have hcs' : cur.size = cap := by simpa using hcs
        have hr' := Go.Lib.run_append_room_string (P := Tryz.prog) w 22 9 ty 5 i0 Tryz.underlying22 Tryz.underlying9 hi hz1 g L.length cap cur hg s0 hroom (by omega)
        have e := hr.symm.trans hr'
        injection e with e1 e2
        rw [e1]
        exact .inl rfl
      · have holds : ∀ j u, (vb L)[j]? = some u → w.cell? ((⟨g, 0, none⟩ : Addr).add j) = some u := hown.own.cells (g := g) rfl
        have hr' := Go.Lib.run_append_grow_string (P := Tryz.prog) w 22 9 ty 5 i0 (.int .u8 0) Tryz.underlying22 Tryz.underlying9 hi hz0 ⟨g, 0, none⟩ L.length cap (vb L) (by rw [hz1, vb_length, Nat.mul_one]) holds s0 (by omega) (by omega) (by rw [hz2]; exact growslice_fits (by omega) (by omega))
        have e := hr.symm.trans hr'
        injection e with e1 e2
        rw [e1]
        exact .inr rfl

/-- A text put behind a row of the call's own. -/
theorem wpList_appT {w : World} {ops : Array Oper} {rest : List Oper} {o : Oper} {a : Act} {Q : Exit → Act → World → Prop} (hgd : o.guard = none) (s x : Operand)
    (ho : o.op = .call { callee := .builtin .append, args := #[s, x], argTypes := #[22, 9] })
    (base : Nat) (v : Value) (L : List Int) (hs : a.eval s = v) (hown : OwnL w base v L) (s0 : ByteArray) (hx : a.eval x = .string s0)
    (hsz : L.length + s0.size ≤ 4194304) (hbase : base ≤ w.heap.size)
    (h : ∀ v' w', OwnL w' base v' (L ++ bytesOf s0) → w.grownBy w' v.ownBlock → (v'.ownBlock = v.ownBlock ∨ v'.ownBlock = some w.heap.size) → wpList Tryz.prog ops Q rest (a.put o.dst v') w') :
    wpList Tryz.prog ops Q (o :: rest) a w := by
  refine wpList_plain hgd fun K hK => ?_
  obtain ⟨v', w', hr, h1, h2, h3⟩ := app_text_block w base v L hown s0 hsz hbase o.type
  unfold Oper.wp execOp
  simp only [ho, resolve, invoke, builtin, Sem.run_bind, Sem.run_pure, Result.andThen_ok, List.map_toArray, List.map_cons, List.map_nil, hs, hx, hr]
  exact hK _ _ (h v' w' h1 h2 h3)

/-- Where bytes lie that are put behind: nowhere, or in a block. -/
def Lie (w : World) (ao : Option Addr) (c : Nat) (M : List Int) : Prop := (ao = none ∧ c = 0 ∧ M = []) ∨ ∃ b off, ao = some ⟨b, off, none⟩ ∧ At w b off M
theorem Lie.keep {w w' : World} {ao : Option Addr} {c : Nat} {M : List Int} (h : Lie w ao c M) (hb : Below w.heap.size w w') : Lie w' ao c M :=
  h.elim .inl fun ⟨b, off, e, ha⟩ => .inr ⟨b, off, e, ha.keep hb⟩
theorem Lie.grown {w w' : World} {ao : Option Addr} {c : Nat} {M : List Int} {row : Option Nat} (h : Lie w ao c M) (hg : w.grownBy w' row) (hne : ∀ b off, ao = some ⟨b, off, none⟩ → row ≠ some b) : Lie w' ao c M :=
  h.elim .inl fun ⟨b, off, e, ha⟩ => .inr ⟨b, off, e, ha.grown hg (hne b off e)⟩
theorem OwnL.lie {w : World} {base : Nat} {v : Value} {L : List Int} (h : OwnL w base v L) : ∃ ao c, v = .slice ao L.length c ∧ Lie w ao c L ∧ ∀ b off, ao = some ⟨b, off, none⟩ → base ≤ b := by
  rcases h.own.2 with ⟨rfl, h0⟩ | ⟨g, cap, cur, rfl, hbg, hg, hnc, hcm, hcs, htake⟩
  · exact ⟨none, 0, by rw [h0], .inl ⟨rfl, rfl, List.eq_nil_of_length_eq_zero h0⟩, fun b off e => by cases e⟩
  · have hlt := (Array.getElem?_eq_some_iff.1 hg).1
    refine ⟨_, cap, rfl, .inr ⟨g, 0, rfl, ⟨h.bd, hlt, fun i hi => ?_⟩⟩, fun b off e => by injection e with e; injection e with e1 e2; omega⟩
    have := h.own.cells (g := g) rfl i (.int .u8 (fl L i)) (vb_get hi)
    rw [Addr.add_lit] at this
    exact this
theorem wpList_appL {w : World} {ops : Array Oper} {rest : List Oper} {o : Oper} {a : Act} {Q : Exit → Act → World → Prop} (hgd : o.guard = none) (s x : Operand)
    (ho : o.op = .call { callee := .builtin .append, args := #[s, x], argTypes := #[22, 22] })
    (base : Nat) (v : Value) (L : List Int) (hs : a.eval s = v) (hown : OwnL w base v L)
    (ao : Option Addr) (m c : Nat) (M : List Int) (hx : a.eval x = .slice ao m c) (hm : m = M.length) (hM : Lie w ao c M)
    (hsz : L.length + M.length ≤ 4194304) (hbase : base ≤ w.heap.size)
    (h : ∀ v' w', OwnL w' base v' (L ++ M) → w.grownBy w' v.ownBlock → (v'.ownBlock = v.ownBlock ∨ v'.ownBlock = some w.heap.size) → wpList Tryz.prog ops Q rest (a.put o.dst v') w') :
    wpList Tryz.prog ops Q (o :: rest) a w := by
  rcases hM with ⟨rfl, rfl, rfl⟩ | ⟨b, off, rfl, hA⟩
  · obtain ⟨i0, hi, hz0, hz1, hz2⟩ := info_parts Tryz.info5
    subst hm
    refine wpList_append_own_none hgd s x 22 ho base 5 i0 1 Tryz.underlying22 hi v L.length (vb L) hs hown.own hx ?_
    exact h v w (by rw [List.append_nil]; exact hown) ⟨rfl, rfl, rfl, Nat.le_refl _, fun _ _ _ => rfl⟩ (.inl rfl)
  · exact wpList_app hgd s x ho base v L hs hown b off m c M hx hm hA hsz hbase h

/-- How many are alike at the front. -/
def shr : List Int → List Int → Nat
  | a :: A, b :: B => if a = b then shr A B + 1 else 0
  | _, _ => 0
theorem shr_le (A B : List Int) : shr A B ≤ A.length ∧ shr A B ≤ B.length := by
  induction A generalizing B with
  | nil => simp [shr]
  | cons a A ih =>
    cases B with
    | nil => simp [shr]
    | cons b B =>
      have := ih B
      unfold shr
      split <;> simp <;> omega
theorem shr_take (A B : List Int) : A.take (shr A B) = B.take (shr A B) := by
  induction A generalizing B with
  | nil => simp [shr]
  | cons a A ih =>
    cases B with
    | nil => simp [shr]
    | cons b B =>
      unfold shr
      split
      · next e => simp [e, ih B]
      · simp
theorem shr_step {A B : List Int} {k : Nat} (h : A.take k = B.take k) (ha : k < A.length) (hb : k < B.length) : (fl A k = fl B k → A.take (k + 1) = B.take (k + 1)) ∧ (fl A k ≠ fl B k → shr A B = k) := by
  induction A generalizing B k with
  | nil => simp at ha
  | cons a A ih =>
    cases B with
    | nil => simp at hb
    | cons b B =>
      cases k with
      | zero =>
        constructor
        · intro e; simp [fl] at e; simp [e]
        · intro e; simp [fl] at e; simp [shr, e]
      | succ k =>
        simp only [List.take_succ_cons, List.cons.injEq] at h
        have := ih h.2 (by simpa using ha) (by simpa using hb)
        constructor
        · intro e
          rw [List.take_succ_cons, List.take_succ_cons, h.1]
          congr 1
          exact this.1 (by simpa [fl] using e)
        · intro e
          have := this.2 (by simpa [fl] using e)
          simp [shr, h.1, this]
theorem shr_end {A B : List Int} {k : Nat} (h : A.take k = B.take k) (hk : k ≤ A.length ∧ k ≤ B.length) (he : k = A.length ∨ k = B.length) : shr A B = k := by
  induction A generalizing B k with
  | nil => simp at hk; simp [shr, hk]
  | cons a A ih =>
    cases B with
    | nil => simp at hk; simp [shr, hk]
    | cons b B =>
      cases k with
      | zero => simp at he
      | succ k =>
        simp only [List.take_succ_cons, List.cons.injEq] at h
        have := ih h.2 (by simpa using hk) (by simpa using he)
        simp [shr, h.1, this]

/-- The bytes of an entry's agg. -/
def agL (x : Ent) : List Int := if x.kind = 2 then [] else bl x.fu (nm x.c x.s x.lo x.hi x.f) 12
theorem agL_len (x : Ent) : (agL x).length ≤ 121 := by
  unfold agL
  split
  · simp
  · have := bl_len x.fu (nm x.c x.s x.lo x.hi x.f) 12
    omega
def shK (a : ByteArray) (x : Ent) : Nat := shr (bytesOf a) (bytesOf x.key)
theorem shK_le (a : ByteArray) (x : Ent) : shK a x ≤ a.size ∧ shK a x ≤ x.key.size := by
  have := shr_le (bytesOf a) (bytesOf x.key)
  rw [bytesOf_len, bytesOf_len] at this
  exact this
/-- The bytes of an entry behind the key a. -/
def enE (a : ByteArray) (x : Ent) : List Int :=
  pvL (shK a x) ++ pvL ((x.key.size - shK a x : Nat) : Int) ++ pvL x.seq ++ [x.kind] ++ pvL ((agL x).length : Nat) ++ (bytesOf x.key).drop (shK a x) ++ agL x
theorem pvL_le (u : Int) : 1 ≤ (pvL u).length ∧ (pvL u).length ≤ 10 := by
  have h1 := pvL_length u
  have h2 := pk_le u
  omega
theorem enE_len (a : ByteArray) (x : Ent) (h : x.key.size ≤ 140) : (enE a x).length ≤ 302 := by
  have h1 := pvL_le (shK a x)
  have h2 := pvL_le ((x.key.size - shK a x : Nat) : Int)
  have h3 := pvL_le x.seq
  have h4 := pvL_le ((agL x).length : Nat)
  have h5 := agL_len x
  simp only [enE, List.length_append, List.length_drop, bytesOf_len, List.length_singleton]
  omega
/-- The key ahead of entry k in a block that begins with entry o. -/
def ahd (X : Nat → Ent) (o : Nat) : Nat → ByteArray
  | 0 => ByteArray.empty
  | k + 1 => (X (o + k)).key
/-- The first k entries of a block that begins with entry o. -/
def blk (X : Nat → Ent) (o : Nat) : Nat → List Int
  | 0 => []
  | k + 1 => blk X o k ++ enE (ahd X o k) (X (o + k))
theorem blk_len (X : Nat → Ent) (o k : Nat) (h : ∀ i, i < k → (X (o + i)).key.size ≤ 140) : (blk X o k).length ≤ 302 * k := by
  induction k with
  | zero => simp [blk]
  | succ k ih =>
    have := ih fun i hi => h i (by omega)
    have h2 := enE_len (ahd X o k) (X (o + k)) (h k (by omega))
    simp only [blk, List.length_append]
    omega
/-- How many entries block j has. -/
def bsz (n j : Nat) : Nat := min 4 (n - 4 * j)
/-- The first j blocks. -/
def blks (X : Nat → Ent) (n : Nat) : Nat → List Int
  | 0 => []
  | j + 1 => blks X n j ++ blk X (4 * j) (bsz n j)
def lastK (X : Nat → Ent) (n j : Nat) : ByteArray := (X (4 * j + bsz n j - 1)).key
/-- What the index says of block j. -/
def idR (X : Nat → Ent) (n j : Nat) : List Int :=
  pvL ((lastK X n j).size : Nat) ++ bytesOf (lastK X n j) ++ pvL ((blks X n j).length : Nat) ++ pvL ((blk X (4 * j) (bsz n j)).length : Nat)
def idx (X : Nat → Ent) (n : Nat) : Nat → List Int
  | 0 => []
  | j + 1 => idx X n j ++ idR X n j
def nbl (n : Nat) : Nat := (n + 3) / 4
/-- All that is ahead of the check. -/
def bodyT (X : Nat → Ent) (n : Nat) (y : Int) (F : List Int) : List Int :=
  blks X n (nbl n) ++ ([y] ++ F) ++ idx X n (nbl n) ++ pfL ((blks X n (nbl n)).length : Nat) 4 ++ pfL ((blks X n (nbl n) ++ ([y] ++ F)).length : Nat) 4 ++ pfL (n : Nat) 4
/-- The bytes of a table: entries, and a filter of y ways and the bits F. -/
def tbl (X : Nat → Ent) (n : Nat) (y : Int) (F : List Int) : List Int := bodyT X n y F ++ pfL (crcL (bodyT X n y F)) 4 ++ [84, 66, 76, 49]

theorem bsz_le (n j : Nat) : bsz n j ≤ 4 ∧ (4 * j < n → 1 ≤ bsz n j ∧ 4 * j + bsz n j ≤ n) := by unfold bsz; omega
theorem blks_len (X : Nat → Ent) (n j : Nat) (h : ∀ i, i < n → (X i).key.size ≤ 140) : (blks X n j).length ≤ 1208 * j := by
  induction j with
  | zero => simp [blks]
  | succ j ih =>
    have h1 := blk_len X (4 * j) (bsz n j) fun i hi => by
      refine h _ ?_
      unfold bsz at hi
      omega
    have h2 := bsz_le n j
    simp only [blks, List.length_append]
    omega
theorem idx_len (X : Nat → Ent) (n j : Nat) (h : ∀ i, i < n → (X i).key.size ≤ 140) (hj : j ≤ nbl n) : (idx X n j).length ≤ 170 * j := by
  induction j with
  | zero => simp [idx]
  | succ j ih =>
    have h1 := ih (by omega)
    have h2 := pvL_le ((lastK X n j).size : Nat)
    have h3 := pvL_le ((blks X n j).length : Nat)
    have h4 := pvL_le ((blk X (4 * j) (bsz n j)).length : Nat)
    have h5 : (lastK X n j).size ≤ 140 := by
      refine h _ ?_
      have := bsz_le n j
      unfold nbl at hj
      omega
    simp only [idx, idR, List.length_append, bytesOf_len]
    omega
end Go.Proofs.YtkfgjbimnlcbfaaGreat
