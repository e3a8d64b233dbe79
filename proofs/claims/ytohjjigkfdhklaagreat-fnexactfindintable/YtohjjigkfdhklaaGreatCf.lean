/- Entries one behind the other: what a reading of k entries is; a table's blocks come back. / The bytes of good entries tell the entries. / Entries that the call itself gathers; their lists lie where they lie, apart from the list of entries. / What the loop of readEntries wants: a reading that stops, and an entry put behind whatever it is. / The program's readEntries. -/
import Derived.Test.YtohjjigkfdhklaaGreatCa
import Derived.Test.YtohjjigkfdhklaaGreatOe
namespace Go.Proofs.YtohjjigkfdhklaaGreat
set_option maxRecDepth 100000
open Go.RowKit
set_option linter.unusedSimpArgs false
set_option linter.unusedVariables false

/-- The key ahead of entry k: none at a block's begin. -/
def ahR (X : Nat → Ent) (k : Nat) : ByteArray := if k % 4 = 0 then ByteArray.empty else (X (k - 1)).key
/-- The bytes of the first k entries. -/
def ens (X : Nat → Ent) : Nat → List Int
  | 0 => []
  | k + 1 => ens X k ++ enE (ahR X k) (X k)
theorem ahd_ahR (X : Nat → Ent) (j m : Nat) (h : m < 4) : ahd X (4 * j) m = ahR X (4 * j + m) := by
  unfold ahR
  cases m with
  | zero => rw [if_pos (by omega)]; rfl
  | succ m => rw [if_neg (by omega)]; rfl
theorem ens_blk (X : Nat → Ent) (j m : Nat) (h : m ≤ 4) : ens X (4 * j + m) = ens X (4 * j) ++ blk X (4 * j) m := by
  induction m with
  | zero => simp [blk]
  | succ m ih =>
    rw [← Nat.add_assoc]
    show ens X (4 * j + m) ++ enE (ahR X (4 * j + m)) (X (4 * j + m)) = _
    rw [ih (by omega)]
    show _ = ens X (4 * j) ++ (blk X (4 * j) m ++ enE (ahd X (4 * j) m) (X (4 * j + m)))
    rw [ahd_ahR X j m (by omega), List.append_assoc]
theorem blks_ens (X : Nat → Ent) (n j : Nat) : blks X n j = ens X (min n (4 * j)) := by
  induction j with
  | zero => simp [blks, ens]
  | succ j ih =>
    show blks X n j ++ blk X (4 * j) (bsz n j) = _
    rw [ih]
    rcases Nat.lt_or_ge (4 * j) n with h | h
    · rw [Nat.min_eq_right (by omega), ← ens_blk X j (bsz n j) (bsz_le n j).1]
      congr 1
      unfold bsz
      omega
    · have : bsz n j = 0 := by unfold bsz; omega
      rw [this, Nat.min_eq_left (by omega), Nat.min_eq_left (by omega)]
      simp [blk]
theorem blks_all (X : Nat → Ent) (n : Nat) : blks X n (nbl n) = ens X n := by
  rw [blks_ens]
  congr 1
  unfold nbl
  omega
/-- The first k entries of X are read, and q is the place behind them. -/
def RdK (f : Nat → Int) (n : Nat) (X : Nat → Ent) (k q : Nat) : Prop := ∃ P : Nat → Nat, P 0 = 0 ∧ P k = q ∧ ∀ i, i < k → P i < n ∧ EY f n (P i) (ahR X i) (X i) (P (i + 1))
theorem RdK.zero (f : Nat → Int) (n : Nat) (X : Nat → Ent) : RdK f n X 0 0 := ⟨fun _ => 0, rfl, rfl, fun i h => absurd h (Nat.not_lt_zero _)⟩
theorem ahR_congr {X Y : Nat → Ent} {k : Nat} (h : ∀ i, i < k → X i = Y i) : ahR X k = ahR Y k := by
  unfold ahR
  split
  · rfl
  · rw [h (k - 1) (by omega)]
theorem RdK.step {f : Nat → Int} {n : Nat} {X : Nat → Ent} {k q q' : Nat} {x : Ent} (h : RdK f n X k q) (hq : q < n) (hx : EY f n q (ahR X k) x q') : RdK f n (fun i => if i = k then x else X i) (k + 1) q' := by
  obtain ⟨P, h0, hk, hP⟩ := h
  have hX : ∀ i, i < k → (fun i => if i = k then x else X i) i = X i := fun i hi => if_neg (by omega)
  refine ⟨fun i => if i = k + 1 then q' else P i, by simp only []; rw [if_neg (by omega)]; exact h0, by simp, fun i hi => ?_⟩
  rcases Nat.lt_or_ge i k with h | h
  · simp only []
    rw [if_neg (by omega), if_neg (by omega), if_neg (by omega), ahR_congr (fun j hj => hX j (by omega))]
    exact hP i h
  · obtain rfl : i = k := by omega
    simp only []
    rw [if_neg (by omega), if_pos trivial, if_pos trivial, ahR_congr hX, hk]
    exact ⟨hq, hx⟩
theorem enE_pos (a : ByteArray) (x : Ent) : 0 < (enE a x).length := by
  unfold enE
  simp only [List.length_append, List.length_singleton]
  omega
/-- Good entries come back from their bytes. -/
theorem rdK_ens {f : Nat → Int} {n : Nat} {X : Nat → Ent} (k : Nat) (hg : ∀ i, i < k → GoodE (X i)) (hs : Seg f 0 (ens X k)) (hn : (ens X k).length ≤ n) : RdK f n X k (ens X k).length := by
  refine ⟨fun i => (ens X i).length, rfl, rfl, fun i hi => ?_⟩
  have key : ∀ m, i + 1 ≤ m → m ≤ k → Seg f 0 (ens X m) ∧ (ens X m).length ≤ n → Seg f 0 (ens X (i + 1)) ∧ (ens X (i + 1)).length ≤ n := by
    intro m hm
    induction m with
    | zero => omega
    | succ m ih =>
      intro hmk h
      rcases Nat.lt_or_ge m (i + 1) with h1 | h1
      · obtain rfl : m = i := by omega
        exact h
      · refine ih h1 (by omega) ⟨h.1.left, ?_⟩
        have := h.2
        simp only [ens, List.length_append] at this
        omega
  obtain ⟨h1, h2⟩ := key k (by omega) (Nat.le_refl _) ⟨hs, hn⟩
  have h3 := h1.right
  rw [Nat.zero_add] at h3
  have hl : (ens X (i + 1)).length = (ens X i).length + (enE (ahR X i) (X i)).length := by simp only [ens, List.length_append]
  have hp := enE_pos (ahR X i) (X i)
  refine ⟨by simp only []; omega, ?_⟩
  simp only []
  rw [hl]
  exact ey_enE (hg i hi) h3 (by omega)
theorem strOfNums_bytesOf (s : ByteArray) : strOfNums (bytesOf s) = s := by
  have h : (strOfNums (bytesOf s)).data.toList = s.data.toList := by
    rw [strOfNums_data]
    unfold bytesOf
    rw [List.map_map]
    conv => rhs; rw [← List.map_id s.data.toList]
    refine List.map_congr_left fun z _ => ?_
    simp
  have h' : (strOfNums (bytesOf s)).data = s.data := Array.toList_inj.mp h
  exact ByteArray.ext h'
theorem bytesOf_inj {a b : ByteArray} (h : bytesOf a = bytesOf b) : a = b := by rw [← strOfNums_bytesOf a, h, strOfNums_bytesOf]
/-- Two entries that hold the same. -/
def SameE (x y : Ent) : Prop := x.key = y.key ∧ x.seq = y.seq ∧ x.kind = y.kind ∧ x.c = y.c ∧ x.s = y.s ∧ x.lo = y.lo ∧ x.hi = y.hi ∧ x.n = y.n ∧ (∀ i, i < x.n → x.f i = y.f i) ∧ x.fu = y.fu
/-- An entry is read in one way. -/
theorem ey_det {f : Nat → Int} {n q q' q'' : Nat} {ah : ByteArray} {x y : Ent} (hx : EY f n q ah x q') (hy : EY f n q ah y q'') : q' = q'' ∧ SameE x y := by
  obtain ⟨sh, rs, mn, p1, p2, p3, p5, e1, e2, e3, e4, e5, e6, e7, e8, e9, e10, e11⟩ := hx
  obtain ⟨sh', rs', mn', p1', p2', p3', p5', g1, g2, g3, g4, g5, g6, g7, g8, g9, g10, g11⟩ := hy
  rw [e1] at g1
  simp only [Option.some.injEq, Prod.mk.injEq] at g1
  obtain ⟨rfl, rfl⟩ := g1
  rw [e2] at g2
  simp only [Option.some.injEq, Prod.mk.injEq] at g2
  obtain ⟨rfl, rfl⟩ := g2
  rw [e3] at g3
  simp only [Option.some.injEq, Prod.mk.injEq] at g3
  obtain ⟨hseq, rfl⟩ := g3
  rw [e6] at g6
  simp only [Option.some.injEq, Prod.mk.injEq] at g6
  obtain ⟨rfl, rfl⟩ := g6
  refine ⟨by rw [e11, g11], bytesOf_inj (e9.trans g9.symm), hseq, e5.trans g5.symm, ?_⟩
  rcases e10 with ⟨h0, a1, a2, a3, a4, a5, a6⟩ | ⟨h0, N, hN, a1, a2, a3, a4, a5, a6, a7⟩
  · rcases g10 with ⟨_, b1, b2, b3, b4, b5, b6⟩ | ⟨h1, _⟩
    · exact ⟨a1.trans b1.symm, a2.trans b2.symm, a3.trans b3.symm, a4.trans b4.symm, a5.trans b5.symm, fun i hi => by omega, a6.trans b6.symm⟩
    · omega
  · rcases g10 with ⟨h1, _⟩ | ⟨_, N', hN', b1, b2, b3, b4, b5, b6, b7⟩
    · omega
    · obtain rfl := hN.2.inj hN'.2
      exact ⟨a1.trans b1.symm, a2.trans b2.symm, a3.trans b3.symm, a4.trans b4.symm, a5.trans b5.symm, fun i hi => by rw [a6 i (by omega), b6 i (by omega)], a7.trans b7.symm⟩
/-- Entries are read in one way. -/
theorem rdK_det {f : Nat → Int} {n : Nat} {X Y : Nat → Ent} {k q q' : Nat} (hx : RdK f n X k q) (hy : RdK f n Y k q') : q = q' ∧ ∀ i, i < k → SameE (X i) (Y i) := by
  obtain ⟨P, a0, ak, hP⟩ := hx
  obtain ⟨Q, b0, bk, hQ⟩ := hy
  have key : ∀ i, i ≤ k → P i = Q i ∧ ∀ j, j < i → SameE (X j) (Y j) := by
    intro i
    induction i with
    | zero => intro _; exact ⟨a0.trans b0.symm, fun j hj => absurd hj (Nat.not_lt_zero _)⟩
    | succ i ih =>
      intro hi
      obtain ⟨h1, h2⟩ := ih (by omega)
      have ha : ahR X i = ahR Y i := by
        unfold ahR
        split
        · rfl
        · exact (h2 (i - 1) (by omega)).1
      have e1 := (hP i (by omega)).2
      have e2 := (hQ i (by omega)).2
      rw [h1, ha] at e1
      obtain ⟨h3, h4⟩ := ey_det e1 e2
      refine ⟨h3, fun j hj => ?_⟩
      rcases Nat.lt_or_ge j i with h | h
      · exact h2 j h
      · obtain rfl : j = i := by omega
        exact h4
  obtain ⟨h1, h2⟩ := key k (Nat.le_refl _)
  exact ⟨ak.symm.trans (h1.trans bk), h2⟩
end Go.Proofs.YtohjjigkfdhklaaGreat
namespace Go.Proofs.YtohjjigkfdhklaaGreat
set_option maxRecDepth 100000
open Go.RowKit
set_option linter.unusedSimpArgs false
set_option linter.unusedVariables false

theorem RdK.front {f : Nat → Int} {n : Nat} {X : Nat → Ent} {k m q : Nat} (h : RdK f n X m q) (hk : k < m) : ∃ q', q' < n ∧ RdK f n X k q' := by
  obtain ⟨P, h0, hm, hP⟩ := h
  exact ⟨P k, (hP k hk).1, P, h0, rfl, fun i hi => hP i (by omega)⟩
/-- Two readings of all the bytes are one. -/
theorem rdK_all {f : Nat → Int} {n : Nat} {X Y : Nat → Ent} {k m : Nat} (hx : RdK f n X k n) (hy : RdK f n Y m n) : k = m ∧ ∀ i, i < k → SameE (X i) (Y i) := by
  rcases Nat.lt_trichotomy k m with h | rfl | h
  · obtain ⟨q', hq, h'⟩ := hy.front h
    have := (rdK_det hx h').1
    omega
  · exact ⟨rfl, (rdK_det hx hy).2⟩
  · obtain ⟨q', hq, h'⟩ := hx.front h
    have := (rdK_det h' hy).1
    omega
theorem seg_self (L : List Int) : Seg (fl L) 0 L := fun i hi => by rw [Nat.zero_add]
theorem ens_inj {X Y : Nat → Ent} {k m : Nat} (hx : ∀ i, i < k → GoodE (X i)) (hy : ∀ i, i < m → GoodE (Y i)) (h : ens X k = ens Y m) : k = m ∧ ∀ i, i < k → SameE (X i) (Y i) := by
  have h1 := rdK_ens (f := fl (ens X k)) (n := (ens X k).length) k hx (seg_self _) (Nat.le_refl _)
  have h2 := rdK_ens (f := fl (ens Y m)) (n := (ens Y m).length) m hy (seg_self _) (Nat.le_refl _)
  rw [← h] at h2
  exact rdK_all h1 h2
theorem pf4_inj {a b : Int} (ha : 0 ≤ a) (ha' : a < 4294967296) (hb : 0 ≤ b) (hb' : b < 4294967296) (h : ∀ i, i < 4 → pf a 4 i = pf b 4 i) : a = b := by
  have h0 := h 0 (by omega)
  have h1 := h 1 (by omega)
  have h2 := h 2 (by omega)
  have h3 := h 3 (by omega)
  have e0 : a / 16777216 % 256 = b / 16777216 % 256 := h0
  have e1 : a / 65536 % 256 = b / 65536 % 256 := h1
  have e2 : a / 256 % 256 = b / 256 % 256 := h2
  have e3 : a / 1 % 256 = b / 1 % 256 := h3
  clear h h0 h1 h2 h3
  omega
/-- A table's bytes tell its entries. -/
theorem tbl_inj {X Y : Nat → Ent} {k m : Nat} {y z : Int} {F G : List Int} (hx : ∀ i, i < k → GoodE (X i)) (hy : ∀ i, i < m → GoodE (Y i)) (hkl : (ens X k).length < 4294967296) (hml : (ens Y m).length < 4294967296) (h : tbl X k y F = tbl Y m z G) : k = m ∧ ∀ i, i < k → SameE (X i) (Y i) := by
  unfold tbl at h
  have h1 := List.append_inj_left' h (by simp)
  have h2 := List.append_inj_left' h1 (by simp [pfL_length])
  unfold bodyT at h2
  rw [blks_all, blks_all] at h2
  have h3 := List.append_inj_left' h2 (by simp [pfL_length])
  have h4 := List.append_inj_left' h3 (by simp [pfL_length])
  have h5 := List.append_inj_right' h4 (by simp [pfL_length])
  have h6 := List.append_inj_left' h4 (by simp [pfL_length])
  have hl : (ens X k).length = (ens Y m).length := by
    have g : ∀ i, i < 4 → pf (((ens X k).length : Nat) : Int) 4 i = pf (((ens Y m).length : Nat) : Int) 4 i := fun i hi => by
      have e := congrArg (fun L => L[i]?) h5
      simpa [pfL, hi] using e
    have := pf4_inj (by omega) (by omega) (by omega) (by omega) g
    omega
  rw [List.append_assoc (ens X k), List.append_assoc (ens Y m)] at h6
  exact ens_inj hx hy (List.append_inj_left h6 hl)
end Go.Proofs.YtohjjigkfdhklaaGreat
namespace Go.Proofs.YtohjjigkfdhklaaGreat
set_option maxRecDepth 100000
open Go.RowKit
set_option linter.unusedSimpArgs false
set_option linter.unusedVariables false

/-- hv holds x's Hist, at a block that isn't v's. -/
def HRow (w : World) (base : Nat) (hv : Value) (x : Ent) (v : Value) : Prop :=
  ∃ lo lc, hv = .slice lo x.n lc ∧ ((x.n = 0 ∧ lo = none) ∨ ∃ G, lo = some ⟨G, 0, none⟩ ∧ base ≤ G ∧ IOwn w G 0 x.n x.f ∧ v.ownBlock ≠ some G)
structure OutH (w : World) (base : Nat) (v : Value) (n : Nat) (X : Nat → Ent) (V : Nat → Value) : Prop where
  own : w.ownsRow base 35 9 v n ((List.range n).flatMap fun i => ecells (X i) (V i))
  row : ∀ i, i < n → HRow w base (V i) (X i) v
  dis : ∀ i j, i < n → j < n → i ≠ j → ∀ k, (V i).ownBlock = some k → (V j).ownBlock ≠ some k
section
variable {w w' : World} {base : Nat} {v hv v' : Value} {n : Nat} {X : Nat → Ent} {V : Nat → Value} {x : Ent}
theorem outH_nil (w : World) (base : Nat) (X : Nat → Ent) : OutH w base (.slice none 0 0) 0 X (fun _ => .slice none 0 0) :=
  ⟨World.ownsRow_nil _ _ _ _, fun i hi => absurd hi (Nat.not_lt_zero _), fun i _ hi => absurd hi (Nat.not_lt_zero _)⟩
theorem HRow.at (h : HRow w base hv x v) : ∀ k, hv.ownBlock = some k → base ≤ k ∧ k < w.heap.size := by
  intro k hk
  obtain ⟨lo, lc, rfl, ⟨_, rfl⟩ | ⟨G, rfl, h1, h2, _⟩⟩ := h
  · simp [Value.ownBlock] at hk
  · have e : G = k := by simpa [Value.ownBlock] using hk
    subst e
    exact ⟨h1, h2.lt⟩
theorem HRow.keep (h : HRow w base hv x v) (hb : Below w.heap.size w w') : HRow w' base hv x v := by
  obtain ⟨lo, lc, e, h | ⟨G, e2, h1, h2, h3⟩⟩ := h
  · exact ⟨lo, lc, e, .inl h⟩
  · exact ⟨lo, lc, e, .inr ⟨G, e2, h1, h2.keep hb, h3⟩⟩
theorem OutH.keep (h : OutH w base v n X V) (hb : Below w.heap.size w w') : OutH w' base v n X V :=
  ⟨ownsRow_keep h.own hb, fun i hi => (h.row i hi).keep hb, h.dis⟩
theorem IOwn.grownH {g m : Nat} {f : Nat → Int} {row : Option Nat} (h : IOwn w g 0 m f) (hg : w.grownBy w' row) (hne : row ≠ some g) : IOwn w' g 0 m f :=
  ⟨h.bd, Nat.lt_of_lt_of_le h.lt hg.size, fun i hi => hg.cell (h.cell i hi) (fun e => hne e.symm), fun i hi => (World.frozen?_of_block (w := w) (a := ⟨g, 0 + i, none⟩) (hg.block g h.lt (fun e => hne e.symm))).trans (h.free i hi)⟩
theorem HRow.grown (h : HRow w base hv x v) (hg : w.grownBy w' v.ownBlock) (ha : v'.ownBlock = v.ownBlock ∨ v'.ownBlock = some w.heap.size) : HRow w' base hv x v' := by
  obtain ⟨lo, lc, e, h | ⟨G, e2, h1, h2, h3⟩⟩ := h
  · exact ⟨lo, lc, e, .inl h⟩
  · refine ⟨lo, lc, e, .inr ⟨G, e2, h1, h2.grownH hg h3, ?_⟩⟩
    rcases ha with ha | ha
    · rw [ha]; exact h3
    · rw [ha]
      intro e
      have := h2.lt
      injection e with e
      omega
theorem OutH.push (h : OutH w base v n X V) (hx : HRow w base hv x v) (hnw : ∀ i, i < n → ∀ k, (V i).ownBlock = some k → hv.ownBlock ≠ some k)
    (ho : w'.ownsRow base 35 9 v' (n + 1) (((List.range n).flatMap fun i => ecells (X i) (V i)) ++ ecells x hv)) (hg : w.grownBy w' v.ownBlock) (ha : v'.ownBlock = v.ownBlock ∨ v'.ownBlock = some w.heap.size) :
    OutH w' base v' (n + 1) (fun i => if i = n then x else X i) (fun i => if i = n then hv else V i) := by
  refine ⟨?_, fun i hi => ?_, fun i j hi hj hij k h1 => ?_⟩
  · have e : ((List.range (n + 1)).flatMap fun i => ecells (if i = n then x else X i) (if i = n then hv else V i)) = ((List.range n).flatMap fun i => ecells (X i) (V i)) ++ ecells x hv := by
      rw [List.range_succ, List.flatMap_append]
      congr 1
      · unfold List.flatMap
        congr 1
        refine List.map_congr_left fun i hi => ?_
        have := List.mem_range.1 hi
        rw [if_neg (by omega), if_neg (by omega)]
      · simp
    rw [e]; exact ho
  · by_cases e : i = n
    · simp only [e, if_true]; exact hx.grown hg ha
    · simp only [e, if_false]; exact (h.row i (by omega)).grown hg ha
  · by_cases e : i = n
    · simp only [e, if_true] at h1
      have e2 : j ≠ n := fun e2 => hij (e.trans e2.symm)
      simp only [e2, if_false]
      exact fun h2 => hnw j (by omega) k h2 h1
    · simp only [e, if_false] at h1
      by_cases e2 : j = n
      · simp only [e2, if_true]
        exact hnw i (by omega) k h1
      · simp only [e2, if_false]
        exact h.dis i j (by omega) (by omega) hij k h1
/-- What the reader does to its own box leaves the list alone. -/
theorem OutH.nm {B : Nat} (h : OutH w base v n X V) (hm : Nm w.heap.size B w w') (hB : B < base) : OutH w' base v n X V := by
  refine ⟨⟨h.own.1, ?_⟩, fun i hi => ?_, h.dis⟩
  · rcases h.own.2 with ⟨rfl, h0⟩ | ⟨g, cap, cur, rfl, h1, h2, h3⟩
    · exact .inl ⟨rfl, h0⟩
    · exact .inr ⟨g, cap, cur, rfl, h1, (hm.block g (Array.getElem?_eq_some_iff.1 h2).1 (by omega)).trans h2, h3⟩
  · obtain ⟨lo, lc, e, h | ⟨G, e2, h1, h2, h3⟩⟩ := h.row i hi
    · exact ⟨lo, lc, e, .inl h⟩
    · exact ⟨lo, lc, e, .inr ⟨G, e2, h1, ⟨h2.bd, Nat.lt_of_lt_of_le h2.lt hm.size, fun i hi => (World.cell?_of_block (w := w) (a := ⟨G, 0 + i, none⟩) (hm.block G h2.lt (by omega))).trans (h2.cell i hi), fun i hi => (World.frozen?_of_block (w := w) (a := ⟨G, 0 + i, none⟩) (hm.block G h2.lt (by omega))).trans (h2.free i hi)⟩, h3⟩⟩
end

/-- One entry put behind. -/
theorem wpList_pushH {w : World} {ops : Array Oper} {rest : List Oper} {o : Oper} {a : Act} {Q : Exit → Act → World → Prop} (hgd : o.guard = none) (s y : Operand)
    (ho : o.op = .call { callee := .builtin .append, args := #[s, y], argTypes := #[23, 23] })
    (base : Nat) (v hv : Value) (n : Nat) (X : Nat → Ent) (V : Nat → Value) (x : Ent) (hs : a.eval s = v) (h : OutH w base v n X V) (hx : HRow w base hv x v) (hnw : ∀ i, i < n → ∀ k, (V i).ownBlock = some k → hv.ownBlock ≠ some k)
    (hy : a.eval y = .slice (some ⟨w.heap.size, 0, none⟩) 1 1) (hn : n ≤ 1048576) (hbase : base ≤ w.heap.size) (h1 : hv.oneCell' = true)
    (hk : ∀ v' w', OutH w' base v' (n + 1) (fun i => if i = n then x else X i) (fun i => if i = n then hv else V i) → (w.alloc (.cells #[.string x.key, .int .i64 x.seq, .int .i64 x.kind, .int .i64 x.c, .int .i64 x.s, .int .i64 x.lo, .int .i64 x.hi, hv, .bool x.fu] 35)).grownBy w' v.ownBlock → wpList Tryz.prog ops Q rest (a.put o.dst v') w') :
    wpList Tryz.prog ops Q (o :: rest) a (w.alloc (.cells #[.string x.key, .int .i64 x.seq, .int .i64 x.kind, .int .i64 x.c, .int .i64 x.s, .int .i64 x.lo, .int .i64 x.hi, hv, .bool x.fu] 35)) := by
  obtain ⟨i0, hi, hz0, hz1, hz2⟩ := info_parts Tryz.infoEnt
  have hB := below_new w (.cells #[.string x.key, .int .i64 x.seq, .int .i64 x.kind, .int .i64 x.c, .int .i64 x.s, .int .i64 x.lo, .int .i64 x.hi, hv, .bool x.fu] 35)
  refine wpList_append_own_at (w := w.alloc (.cells #[.string x.key, .int .i64 x.seq, .int .i64 x.kind, .int .i64 x.c, .int .i64 x.s, .int .i64 x.lo, .int .i64 x.hi, hv, .bool x.fu] 35)) hgd s y 23 ho base 35 i0 _ 9 96 Tryz.underlying23 hi hz0 hz1 hz2 rfl (by decide) v n ((List.range n).flatMap fun i => ecells (X i) (V i)) hs (ownsRow_keep h.own hB) ⟨w.heap.size, 0, none⟩ 1 1 (ecells x hv) hy rfl (nine_new _ _ _ _) (fun u hu => by
    simp only [ecells, List.mem_cons, List.not_mem_nil, or_false] at hu
    rcases hu with rfl | rfl | rfl | rfl | rfl | rfl | rfl | rfl | rfl <;> first | rfl | exact h1) (by unfold maxLen; omega) (by omega) (by simp; omega) ?_
  intro v' w' h1 h2 h3 h4
  exact hk v' w' ((h.keep hB).push (hx.keep hB) hnw h1 h2 h4) h2
end Go.Proofs.YtohjjigkfdhklaaGreat
namespace Go.Proofs.YtohjjigkfdhklaaGreat
set_option maxRecDepth 100000
open Go.RowKit
set_option linter.unusedSimpArgs false
set_option linter.unusedVariables false

/-- Where the next entry can't be read, all the bytes can't. -/
theorem rdK_torn {f : Nat → Int} {n : Nat} {X : Nat → Ent} {k q : Nat} (h : RdK f n X k q) (hq : q < n) (hno : ∀ x q'', ¬ EY f n q (ahR X k) x q'') : ∀ Y m, ¬ RdK f n Y m n := by
  intro Y m hy
  rcases Nat.lt_or_ge k m with hk | hk
  · obtain ⟨P, h0, hm, hP⟩ := hy
    obtain ⟨e, hs⟩ := rdK_det h (⟨P, h0, rfl, fun i hi => hP i (by omega)⟩ : RdK f n Y k (P k))
    have ha : ahR X k = ahR Y k := by
      unfold ahR
      split
      · rfl
      · exact (hs (k - 1) (by omega)).1
    have := (hP k hk).2
    rw [← e, ← ha] at this
    exact hno _ _ this
  · rcases Nat.lt_or_ge m k with h1 | h1
    · obtain ⟨q', hq', h'⟩ := h.front h1
      have := (rdK_det h' hy).1
      omega
    · obtain rfl : m = k := by omega
      have := (rdK_det h hy).1
      omega
/-- An entry's key is no longer than the key ahead and what was read. -/
theorem ey_size {f : Nat → Int} {n q q' : Nat} {ah : ByteArray} {x : Ent} (h : EY f n q ah x q') : x.key.size + q ≤ ah.size + q' ∧ q < q' := by
  obtain ⟨sh, rs, mn, p1, p2, p3, p5, e1, e2, e3, e4, e5, e6, e7, e8, e9, e10, e11⟩ := h
  have a1 := rdNum_pos e1
  have a2 := rdNum_pos e2
  have a3 := rdNum_pos e3
  have a6 := rdNum_pos e6
  have e := congrArg List.length e9
  rw [bytesOf_len, List.length_append, List.length_take, bytesOf_len, List.length_map, List.length_range] at e
  omega

/-- One entry put behind a list of the call's own, whatever its cells are. -/
theorem wpList_pushO {w : World} {ops : Array Oper} {rest : List Oper} {o : Oper} {a : Act} {Q : Exit → Act → World → Prop} (hgd : o.guard = none) (s y : Operand)
    (ho : o.op = .call { callee := .builtin .append, args := #[s, y], argTypes := #[23, 23] })
    (base : Nat) (v hv : Value) (n : Nat) (C : List Value) (x : Ent) (hs : a.eval s = v) (h : w.ownsRow base 35 9 v n C)
    (hy : a.eval y = .slice (some ⟨w.heap.size, 0, none⟩) 1 1) (hn : n ≤ 1048576) (hbase : base ≤ w.heap.size) (h1 : hv.oneCell' = true)
    (hk : ∀ v' w', w'.ownsRow base 35 9 v' (n + 1) (C ++ ecells x hv) → (w.alloc (.cells #[.string x.key, .int .i64 x.seq, .int .i64 x.kind, .int .i64 x.c, .int .i64 x.s, .int .i64 x.lo, .int .i64 x.hi, hv, .bool x.fu] 35)).grownBy w' v.ownBlock → wpList Tryz.prog ops Q rest (a.put o.dst v') w') :
    wpList Tryz.prog ops Q (o :: rest) a (w.alloc (.cells #[.string x.key, .int .i64 x.seq, .int .i64 x.kind, .int .i64 x.c, .int .i64 x.s, .int .i64 x.lo, .int .i64 x.hi, hv, .bool x.fu] 35)) := by
  obtain ⟨i0, hi, hz0, hz1, hz2⟩ := info_parts Tryz.infoEnt
  have hB := below_new w (.cells #[.string x.key, .int .i64 x.seq, .int .i64 x.kind, .int .i64 x.c, .int .i64 x.s, .int .i64 x.lo, .int .i64 x.hi, hv, .bool x.fu] 35)
  refine wpList_append_own_at (w := w.alloc (.cells #[.string x.key, .int .i64 x.seq, .int .i64 x.kind, .int .i64 x.c, .int .i64 x.s, .int .i64 x.lo, .int .i64 x.hi, hv, .bool x.fu] 35)) hgd s y 23 ho base 35 i0 _ 9 96 Tryz.underlying23 hi hz0 hz1 hz2 rfl (by decide) v n C hs (ownsRow_keep h hB) ⟨w.heap.size, 0, none⟩ 1 1 (ecells x hv) hy rfl (nine_new _ _ _ _) (fun u hu => by
    simp only [ecells, List.mem_cons, List.not_mem_nil, or_false] at hu
    rcases hu with rfl | rfl | rfl | rfl | rfl | rfl | rfl | rfl | rfl <;> first | rfl | exact h1) (by unfold maxLen; omega) (by omega) (by simp; omega) ?_
  intro v' w' h1 h2 h3 h4
  exact hk v' w' h1 h2
end Go.Proofs.YtohjjigkfdhklaaGreat
namespace Go.Proofs.YtohjjigkfdhklaaGreat
set_option maxRecDepth 100000
open Go.RowKit
set_option linter.unusedSimpArgs false
set_option linter.unusedVariables false

/-- What readEntries leaves. -/
def REsR (f : Nat → Int) (n : Nat) (w : World) (e : Ending) (w' : World) : Prop :=
  ∃ v t, e = .returned (.tuple #[v, .bool (!t)]) ∧ Below w.heap.size w w' ∧ ((t = false ∧ ∃ k X V, RdK f n X k n ∧ k ≤ n ∧ OutH w' (w.heap.size + 1) v k X V) ∨ (t = true ∧ ∀ Y m, ¬ RdK f n Y m n))
/-- How many rounds are left at most. -/
def msr (n B : Nat) (w : World) : Nat := match w.cell? ⟨B, 2, none⟩ with
  | some (.bool true) => 0
  | _ => n + 1 - (match w.cell? ⟨B, 1, none⟩ with | some x => (intOf x).toNat | none => 0)
theorem msr_eq {w : World} {B n cap q : Nat} {ao : Option Addr} {t : Bool} (h : BR w B ao n cap q t) : msr n B w = if t = true then 0 else n + 1 - q := by
  unfold msr
  rw [h.c2, h.c1]
  cases t <;> simp [intOf]
theorem wpList_pushH2 {w : World} {ops : Array Oper} {rest : List Oper} {o : Oper} {a : Act} {Q : Exit → Act → World → Prop} (nb : Nat) (hnb : w.heap.size = nb) (hgd : o.guard = none) (s y : Operand)
    (ho : o.op = .call { callee := .builtin .append, args := #[s, y], argTypes := #[23, 23] })
    (base : Nat) (v hv : Value) (n : Nat) (X : Nat → Ent) (V : Nat → Value) (x : Ent) (hs : a.eval s = v) (h : OutH w base v n X V) (hx : HRow w base hv x v) (hnw : ∀ i, i < n → ∀ k, (V i).ownBlock = some k → hv.ownBlock ≠ some k)
    (hy : a.eval y = .slice (some ⟨nb, 0, none⟩) 1 1) (hn : n ≤ 1048576) (hbase : base ≤ w.heap.size) (h1 : hv.oneCell' = true)
    (hk : ∀ v' w', OutH w' base v' (n + 1) (fun i => if i = n then x else X i) (fun i => if i = n then hv else V i) → (w.alloc (.cells #[.string x.key, .int .i64 x.seq, .int .i64 x.kind, .int .i64 x.c, .int .i64 x.s, .int .i64 x.lo, .int .i64 x.hi, hv, .bool x.fu] 35)).grownBy w' v.ownBlock → wpList Tryz.prog ops Q rest (a.put o.dst v') w') :
    wpList Tryz.prog ops Q (o :: rest) a (w.alloc (.cells #[.string x.key, .int .i64 x.seq, .int .i64 x.kind, .int .i64 x.c, .int .i64 x.s, .int .i64 x.lo, .int .i64 x.hi, hv, .bool x.fu] 35)) := by
  subst hnb
  exact wpList_pushH hgd s y ho base v hv n X V x hs h hx hnw hy hn hbase h1 hk
theorem wpList_pushO2 {w : World} {ops : Array Oper} {rest : List Oper} {o : Oper} {a : Act} {Q : Exit → Act → World → Prop} (nb : Nat) (hnb : w.heap.size = nb) (hgd : o.guard = none) (s y : Operand)
    (ho : o.op = .call { callee := .builtin .append, args := #[s, y], argTypes := #[23, 23] })
    (base : Nat) (v hv : Value) (n : Nat) (C : List Value) (x : Ent) (hs : a.eval s = v) (h : w.ownsRow base 35 9 v n C)
    (hy : a.eval y = .slice (some ⟨nb, 0, none⟩) 1 1) (hn : n ≤ 1048576) (hbase : base ≤ w.heap.size) (h1 : hv.oneCell' = true)
    (hk : ∀ v' w', w'.ownsRow base 35 9 v' (n + 1) (C ++ ecells x hv) → (w.alloc (.cells #[.string x.key, .int .i64 x.seq, .int .i64 x.kind, .int .i64 x.c, .int .i64 x.s, .int .i64 x.lo, .int .i64 x.hi, hv, .bool x.fu] 35)).grownBy w' v.ownBlock → wpList Tryz.prog ops Q rest (a.put o.dst v') w') :
    wpList Tryz.prog ops Q (o :: rest) a (w.alloc (.cells #[.string x.key, .int .i64 x.seq, .int .i64 x.kind, .int .i64 x.c, .int .i64 x.s, .int .i64 x.lo, .int .i64 x.hi, hv, .bool x.fu] 35)) := by
  subst hnb
  exact wpList_pushO hgd s y ho base v hv n C x hs h hy hn hbase h1 hk
theorem Nm.below {w w' : World} {base B : Nat} (h : Nm w.heap.size B w w') (hB : base ≤ B) (hw : base ≤ w.heap.size) : Below base w w' := ⟨h.os, h.tape, h.output, h.size, fun k hk => h.block k (by omega) (by omega)⟩
theorem BR.grown {w w' : World} {B : Nat} {ao : Option Addr} {n cap q : Nat} {t : Bool} {row : Option Nat} (h : BR w B ao n cap q t) (hg : w.grownBy w' row) (hne : some B ≠ row) : BR w' B ao n cap q t :=
  have cl : ∀ j, w'.cell? ⟨B, j, none⟩ = w.cell? ⟨B, j, none⟩ := fun j => World.cell?_of_block (w := w) (a := ⟨B, j, none⟩) (hg.block B h.lt hne)
  ⟨Nat.lt_of_lt_of_le h.lt hg.size, (cl _).trans h.c0, (cl _).trans h.c1, (cl _).trans h.c2, fun j => (World.frozen?_of_block (w := w) (a := ⟨B, j, none⟩) (hg.block B h.lt hne)).trans (h.fz j)⟩
/-- The loop's state. -/
def RLi (f : Nat → Int) (bb bo n cap B : Nat) (w : World) (v a : Value) (wr : World) : Prop :=
  ∃ (k q : Nat) (t : Bool) (s : ByteArray) (ao : Option Addr) (c : Nat), a = .string s ∧ v = .slice ao k c ∧ BR wr B (some ⟨bb, bo, none⟩) n cap q t ∧ q ≤ n ∧ k ≤ n + 1 ∧ Below B w wr ∧
    Hid ((t = false ∧ k ≤ q ∧ s.size ≤ q ∧ ∃ X V, RdK f n X k q ∧ (k = 0 ∨ s = (X (k - 1)).key) ∧ OutH wr (B + 1) v k X V) ∨ (t = true ∧ ∀ Y m, ¬ RdK f n Y m n))
set_option maxHeartbeats 3200000 in
theorem readEntries_any (f : Nat → Int) (bb bo n cap : Nat) (w : World) (hr : Row w (some ⟨bb, bo, none⟩) n f) (hbb : bb < w.heap.size) (hn : n ≤ 1048576) (hcap : n ≤ cap) :
    Calls Tryz.prog 89 #[.slice (some ⟨bb, bo, none⟩) n cap] w fun e w' => REsR f n w e w' := by
  have hB0 := below_new w (.cells #[.slice (some ⟨bb, bo, none⟩) n cap, .int .i64 0, .bool false] 152)
  have B0 : BR (w.alloc (.cells #[.slice (some ⟨bb, bo, none⟩) n cap, .int .i64 0, .bool false] 152)) w.heap.size (some ⟨bb, bo, none⟩) n cap 0 false := by
    refine ⟨by simp, ?_, ?_, ?_, fun j => ?_⟩ <;> simp [go_sem]
  go_enter Tryz.func89, Tryz.ntmps89
  go_wp2
  generalize w.alloc (.cells #[.slice (some ⟨bb, bo, none⟩) n cap, .int .i64 0, .bool false] 152) = w0 at *
  go_loopw [5, 6] (fun v a wr => RLi f bb bo n cap w.heap.size w v a wr) (fun _ _ wr => msr n w.heap.size wr)
  case atStart => exact ⟨0, 0, false, ⟨#[]⟩, none, 0, rfl, rfl, B0, by omega, by omega, hB0, .inl ⟨rfl, by omega, by decide, fun _ => ⟨⟨#[]⟩, 0, 0, 0, 0, 0, 0, 0, fun _ => 0, false⟩, _, RdK.zero _ _ _, .inl rfl, outH_nil _ _ _⟩⟩
  case round =>
    obtain ⟨k, q, t, s, ao, c, rfl, rfl, BR1, hq, hk, bw, HI⟩ := hrel
    have BR1' := BR1
    obtain ⟨_, d0, d1, d2, dz⟩ := BR1'
    by_cases hc : q < n ∧ t = false
    · obtain ⟨hqn, rfl⟩ := hc
      have hqi : (q : Int) < (n : Int) := by omega
      obtain ⟨_, hkq, hsq, X, V, hRd, hah, hO⟩ := (HI.out).resolve_right (by rintro ⟨h, _⟩; cases h)
      by_cases hk4 : k % 4 = 0
      · have hk4i : (k : Int) % 4 = 0 := by omega
        have HA : ahR X k = ⟨#[]⟩ := if_pos hk4
        have hcall := entry_any f w.heap.size bb bo n cap q false ⟨#[]⟩ (by decide) wr BR1 (hr.keep bw) (by have := bw.size; omega) (by omega) hn hcap hq
        go_wp2_with fail
        refine hcall.mono ?_
        rintro e w1 ⟨x, A, c1, q1, t1, rfl, hq1, BRb, Nb, Db⟩
        have hO1 := hO.nm Nb (by omega)
        have hwr := bw.size
        have hs1 := Nb.size
        have bw1 : Below w.heap.size w w1 := bw.trans (Nb.below (Nat.le_refl _) hwr)
        have bE := below_new w1 (.cells #[.string x.key, .int .i64 x.seq, .int .i64 x.kind, .int .i64 x.c, .int .i64 x.s, .int .i64 x.lo, .int .i64 x.hi, .slice A x.n c1, .bool x.fu] 35)
        have bE2 := below_new (w1.alloc (.cells #[.string x.key, .int .i64 x.seq, .int .i64 x.kind, .int .i64 x.c, .int .i64 x.s, .int .i64 x.lo, .int .i64 x.hi, .slice A x.n c1, .bool x.fu] 35)) (.cells #[.string x.key, .int .i64 x.seq, .int .i64 x.kind, .int .i64 x.c, .int .i64 x.s, .int .i64 x.lo, .int .i64 x.hi, .slice A x.n c1, .bool x.fu] 35)
        have hsz1 : (w1.alloc (.cells #[.string x.key, .int .i64 x.seq, .int .i64 x.kind, .int .i64 x.c, .int .i64 x.s, .int .i64 x.lo, .int .i64 x.hi, .slice A x.n c1, .bool x.fu] 35)).heap.size = w1.heap.size + 1 := by simp
        have hlt := hO.own.lt
        have nB : some w.heap.size ≠ (Value.slice ao k c).ownBlock := fun e => by have := (hlt _ e.symm).1; omega
        have nE : some w1.heap.size ≠ (Value.slice ao k c).ownBlock := fun e => by have := (hlt _ e.symm).2; omega
        have BR2 := (BRb.keep bE).keep bE2
        have xc : ((w1.alloc (.cells #[.string x.key, .int .i64 x.seq, .int .i64 x.kind, .int .i64 x.c, .int .i64 x.s, .int .i64 x.lo, .int .i64 x.hi, .slice A x.n c1, .bool x.fu] 35)).alloc (.cells #[.string x.key, .int .i64 x.seq, .int .i64 x.kind, .int .i64 x.c, .int .i64 x.s, .int .i64 x.lo, .int .i64 x.hi, .slice A x.n c1, .bool x.fu] 35)).cell? ⟨w1.heap.size, 0, none⟩ = some (.string x.key) := (bE2.cell (p := ⟨w1.heap.size, 0, none⟩) (show w1.heap.size < _ from by rw [hsz1]; exact Nat.lt_succ_self _)).trans (by simp [go_sem])
        have bw2 : Below w.heap.size w ((w1.alloc (.cells #[.string x.key, .int .i64 x.seq, .int .i64 x.kind, .int .i64 x.c, .int .i64 x.s, .int .i64 x.lo, .int .i64 x.hi, .slice A x.n c1, .bool x.fu] 35)).alloc (.cells #[.string x.key, .int .i64 x.seq, .int .i64 x.kind, .int .i64 x.c, .int .i64 x.s, .int .i64 x.lo, .int .i64 x.hi, .slice A x.n c1, .bool x.fu] 35)) := (bw1.trans (bE.mono (by omega))).trans (bE2.mono (by simp; omega))
        rcases Db with ⟨rfl, _, hEY, hOwn⟩ | ⟨rfl, hno⟩
        · have hRd' := hRd.step hqn (HA ▸ hEY)
          have hsz := ey_size hEY
          have HR : HRow w1 (w.heap.size + 1) (.slice A x.n c1) x (.slice ao k c) := by
            refine ⟨A, c1, rfl, ?_⟩
            rcases hOwn with h | ⟨h8, G, h1, h2, h3⟩
            · exact .inl h
            · refine .inr ⟨G, h1, by have := BR1.lt; omega, by rw [h8]; exact h3, fun e => ?_⟩
              have := (hlt _ e).2
              omega
          have HN : Hid (∀ i, i < k → ∀ z, (V i).ownBlock = some z → (Value.slice A x.n c1).ownBlock ≠ some z) := fun i hi z hz h2 => by
            have hz2 := ((hO.row i hi).at z hz).2
            rcases hOwn with h | ⟨h8, G, h1, h3, _⟩
            · rw [h.2] at h2; simp [Value.ownBlock] at h2
            · rw [h1] at h2
              have e : G = z := by simpa [Value.ownBlock] using h2
              omega
          go_wp2_with (at_builtin; refine wpList_pushH2 (w := w1.alloc (.cells #[.string x.key, .int .i64 x.seq, .int .i64 x.kind, .int .i64 x.c, .int .i64 x.s, .int .i64 x.lo, .int .i64 x.hi, .slice A x.n c1, .bool x.fu] 35)) (w1.heap.size + 1) (by simp) rfl (.tmp 26) (.tmp 28) rfl (w.heap.size + 1) (.slice ao k c) (.slice A x.n c1) k X V x rfl (hO1.keep bE) (HR.keep bE) HN.out rfl (by omega) (by rw [hsz1]; omega) rfl ?_; intro v2 w2 hO2 hg2; obtain ⟨ao2, c2, rfl⟩ := ownsRow_form hO2.own; have xc2 := hg2.cell xc nE)
          have BR3 := BR2.grown hg2 nB
          have bw3 := bw2.grown hg2 bw2.size (fun k hk => by have := (hlt _ hk).1; omega)
          go_wp2
          refine ⟨⟨k + 1, q1, false, x.key, ao2, c2, rfl, rfl, BR3, hq1, by omega, bw3, .inl ⟨rfl, by omega, ?_, _, _, hRd', .inr (by simp), hO2⟩⟩, ?_⟩
          · have e0 : (⟨#[]⟩ : ByteArray).size = 0 := rfl
            omega
          · rw [msr_eq BR3, msr_eq BR1, if_neg (by decide), if_neg (by decide)]
            omega
        · have hno' := hno.resolve_left (by decide)
          go_wp2_with (at_builtin; refine wpList_pushO2 (w := w1.alloc (.cells #[.string x.key, .int .i64 x.seq, .int .i64 x.kind, .int .i64 x.c, .int .i64 x.s, .int .i64 x.lo, .int .i64 x.hi, .slice A x.n c1, .bool x.fu] 35)) (w1.heap.size + 1) (by simp) rfl (.tmp 26) (.tmp 28) rfl (w.heap.size + 1) (.slice ao k c) (.slice A x.n c1) k _ x rfl (hO1.keep bE).own rfl (by omega) (by rw [hsz1]; omega) rfl ?_; intro v2 w2 hO2 hg2; obtain ⟨ao2, c2, rfl⟩ := ownsRow_form hO2; have xc2 := hg2.cell xc nE)
          have BR3 := BR2.grown hg2 nB
          have bw3 := bw2.grown hg2 bw2.size (fun k hk => by have := (hlt _ hk).1; omega)
          go_wp2
          refine ⟨⟨k + 1, q1, true, x.key, ao2, c2, rfl, rfl, BR3, hq1, by omega, bw3, .inr ⟨rfl, rdK_torn hRd hqn (fun y q'' h => hno' y q'' (HA ▸ h))⟩⟩, ?_⟩
          rw [msr_eq BR3, msr_eq BR1, if_pos rfl, if_neg (by decide)]
          omega
      · have hk4i : ¬ (k : Int) % 4 = 0 := by omega
        have HA : ahR X k = s := by
          unfold ahR
          rw [if_neg hk4]
          rcases hah with h | h
          · omega
          · exact h.symm
        have hcall := entry_any f w.heap.size bb bo n cap q false s (by omega) wr BR1 (hr.keep bw) (by have := bw.size; omega) (by omega) hn hcap hq
        go_wp2_with fail
        refine hcall.mono ?_
        rintro e w1 ⟨x, A, c1, q1, t1, rfl, hq1, BRb, Nb, Db⟩
        have hO1 := hO.nm Nb (by omega)
        have hwr := bw.size
        have hs1 := Nb.size
        have bw1 : Below w.heap.size w w1 := bw.trans (Nb.below (Nat.le_refl _) hwr)
        have bE := below_new w1 (.cells #[.string x.key, .int .i64 x.seq, .int .i64 x.kind, .int .i64 x.c, .int .i64 x.s, .int .i64 x.lo, .int .i64 x.hi, .slice A x.n c1, .bool x.fu] 35)
        have bE2 := below_new (w1.alloc (.cells #[.string x.key, .int .i64 x.seq, .int .i64 x.kind, .int .i64 x.c, .int .i64 x.s, .int .i64 x.lo, .int .i64 x.hi, .slice A x.n c1, .bool x.fu] 35)) (.cells #[.string x.key, .int .i64 x.seq, .int .i64 x.kind, .int .i64 x.c, .int .i64 x.s, .int .i64 x.lo, .int .i64 x.hi, .slice A x.n c1, .bool x.fu] 35)
        have hsz1 : (w1.alloc (.cells #[.string x.key, .int .i64 x.seq, .int .i64 x.kind, .int .i64 x.c, .int .i64 x.s, .int .i64 x.lo, .int .i64 x.hi, .slice A x.n c1, .bool x.fu] 35)).heap.size = w1.heap.size + 1 := by simp
        have hlt := hO.own.lt
        have nB : some w.heap.size ≠ (Value.slice ao k c).ownBlock := fun e => by have := (hlt _ e.symm).1; omega
        have nE : some w1.heap.size ≠ (Value.slice ao k c).ownBlock := fun e => by have := (hlt _ e.symm).2; omega
        have BR2 := (BRb.keep bE).keep bE2
        have xc : ((w1.alloc (.cells #[.string x.key, .int .i64 x.seq, .int .i64 x.kind, .int .i64 x.c, .int .i64 x.s, .int .i64 x.lo, .int .i64 x.hi, .slice A x.n c1, .bool x.fu] 35)).alloc (.cells #[.string x.key, .int .i64 x.seq, .int .i64 x.kind, .int .i64 x.c, .int .i64 x.s, .int .i64 x.lo, .int .i64 x.hi, .slice A x.n c1, .bool x.fu] 35)).cell? ⟨w1.heap.size, 0, none⟩ = some (.string x.key) := (bE2.cell (p := ⟨w1.heap.size, 0, none⟩) (show w1.heap.size < _ from by rw [hsz1]; exact Nat.lt_succ_self _)).trans (by simp [go_sem])
        have bw2 : Below w.heap.size w ((w1.alloc (.cells #[.string x.key, .int .i64 x.seq, .int .i64 x.kind, .int .i64 x.c, .int .i64 x.s, .int .i64 x.lo, .int .i64 x.hi, .slice A x.n c1, .bool x.fu] 35)).alloc (.cells #[.string x.key, .int .i64 x.seq, .int .i64 x.kind, .int .i64 x.c, .int .i64 x.s, .int .i64 x.lo, .int .i64 x.hi, .slice A x.n c1, .bool x.fu] 35)) := (bw1.trans (bE.mono (by omega))).trans (bE2.mono (by simp; omega))
        rcases Db with ⟨rfl, _, hEY, hOwn⟩ | ⟨rfl, hno⟩
        · have hRd' := hRd.step hqn (HA ▸ hEY)
          have hsz := ey_size hEY
          have HR : HRow w1 (w.heap.size + 1) (.slice A x.n c1) x (.slice ao k c) := by
            refine ⟨A, c1, rfl, ?_⟩
            rcases hOwn with h | ⟨h8, G, h1, h2, h3⟩
            · exact .inl h
            · refine .inr ⟨G, h1, by have := BR1.lt; omega, by rw [h8]; exact h3, fun e => ?_⟩
              have := (hlt _ e).2
              omega
          have HN : Hid (∀ i, i < k → ∀ z, (V i).ownBlock = some z → (Value.slice A x.n c1).ownBlock ≠ some z) := fun i hi z hz h2 => by
            have hz2 := ((hO.row i hi).at z hz).2
            rcases hOwn with h | ⟨h8, G, h1, h3, _⟩
            · rw [h.2] at h2; simp [Value.ownBlock] at h2
            · rw [h1] at h2
              have e : G = z := by simpa [Value.ownBlock] using h2
              omega
          go_wp2_with (at_builtin; refine wpList_pushH2 (w := w1.alloc (.cells #[.string x.key, .int .i64 x.seq, .int .i64 x.kind, .int .i64 x.c, .int .i64 x.s, .int .i64 x.lo, .int .i64 x.hi, .slice A x.n c1, .bool x.fu] 35)) (w1.heap.size + 1) (by simp) rfl (.tmp 26) (.tmp 28) rfl (w.heap.size + 1) (.slice ao k c) (.slice A x.n c1) k X V x rfl (hO1.keep bE) (HR.keep bE) HN.out rfl (by omega) (by rw [hsz1]; omega) rfl ?_; intro v2 w2 hO2 hg2; obtain ⟨ao2, c2, rfl⟩ := ownsRow_form hO2.own; have xc2 := hg2.cell xc nE)
          have BR3 := BR2.grown hg2 nB
          have bw3 := bw2.grown hg2 bw2.size (fun k hk => by have := (hlt _ hk).1; omega)
          go_wp2
          refine ⟨⟨k + 1, q1, false, x.key, ao2, c2, rfl, rfl, BR3, hq1, by omega, bw3, .inl ⟨rfl, by omega, ?_, _, _, hRd', .inr (by simp), hO2⟩⟩, ?_⟩
          · have e0 : (⟨#[]⟩ : ByteArray).size = 0 := rfl
            omega
          · rw [msr_eq BR3, msr_eq BR1, if_neg (by decide), if_neg (by decide)]
            omega
        · have hno' := hno.resolve_left (by decide)
          go_wp2_with (at_builtin; refine wpList_pushO2 (w := w1.alloc (.cells #[.string x.key, .int .i64 x.seq, .int .i64 x.kind, .int .i64 x.c, .int .i64 x.s, .int .i64 x.lo, .int .i64 x.hi, .slice A x.n c1, .bool x.fu] 35)) (w1.heap.size + 1) (by simp) rfl (.tmp 26) (.tmp 28) rfl (w.heap.size + 1) (.slice ao k c) (.slice A x.n c1) k _ x rfl (hO1.keep bE).own rfl (by omega) (by rw [hsz1]; omega) rfl ?_; intro v2 w2 hO2 hg2; obtain ⟨ao2, c2, rfl⟩ := ownsRow_form hO2; have xc2 := hg2.cell xc nE)
          have BR3 := BR2.grown hg2 nB
          have bw3 := bw2.grown hg2 bw2.size (fun k hk => by have := (hlt _ hk).1; omega)
          go_wp2
          refine ⟨⟨k + 1, q1, true, x.key, ao2, c2, rfl, rfl, BR3, hq1, by omega, bw3, .inr ⟨rfl, rdK_torn hRd hqn (fun y q'' h => hno' y q'' (HA ▸ h))⟩⟩, ?_⟩
          rw [msr_eq BR3, msr_eq BR1, if_pos rfl, if_neg (by decide)]
          omega
    · rcases Nat.lt_or_ge q n with hqn | hqn
      · obtain rfl : t = true := by
          cases t
          · exact absurd ⟨hqn, rfl⟩ hc
          · rfl
        have hqi : (q : Int) < (n : Int) := by omega
        have HT : ∀ Y m, ¬ RdK f n Y m n := by
          rcases HI.out with ⟨h, _⟩ | ⟨_, h⟩
          · cases h
          · exact h
        go_wp2
        go_region
        go_wp2
        exact bodyPost_ret (v := .tuple #[.slice ao k c, .bool false]) (by simp [results, Tryz.results89, go_sem]) rfl ⟨_, true, rfl, bw.drew, .inr ⟨rfl, HT⟩⟩
      · obtain rfl : q = n := by omega
        have hqi : ¬ (q : Int) < (q : Int) := by omega
        go_wp2
        go_region
        go_wp2
        refine bodyPost_ret (v := .tuple #[.slice ao k c, .bool (!t)]) (by simp [results, Tryz.results89, go_sem]) rfl ⟨_, t, rfl, bw.drew, ?_⟩
        rcases HI.out with ⟨h, h1, h2, X, V, h3, h4, h5⟩ | h
        · exact .inl ⟨h, k, X, V, h3, h1, h5.keep (Below.refl _ _).drew⟩
        · exact .inr h
end Go.Proofs.YtohjjigkfdhklaaGreat
