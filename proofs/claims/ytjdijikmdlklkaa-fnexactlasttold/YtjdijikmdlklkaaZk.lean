/- A told one put among others by three appends; what is kept, with one more. -/
import Derived.Test.YtjdijikmdlklkaaZm
import Derived.Laws.OwnMore
namespace Go.Proofs.Ytjdijikmdlklkaa
open Go.RowKit
set_option linter.unusedSimpArgs false
set_option linter.unusedVariables false

theorem cellsC_ext {C D : Nat → Nat → Value} : ∀ {n : Nat}, (∀ p, p < n → ∀ j, j < 10 → C p j = D p j) → cellsC C n = cellsC D n
  | 0, _ => rfl
  | n + 1, h => by
    rw [cellsC_succ, cellsC_succ, cellsC_ext (fun p hp => h p (by omega))]
    congr 1
    exact List.map_congr_left fun j hj => h n (by omega) j (List.mem_range.1 hj)
theorem cellsC_add (C D : Nat → Nat → Value) (N : Nat) : ∀ M, cellsC (fun p => if p < N then C p else D (p - N)) (N + M) = cellsC C N ++ cellsC D M
  | 0 => by
    have e : cellsC D 0 = [] := rfl
    rw [e, List.append_nil]
    exact cellsC_ext fun p hp j _ => by rw [if_pos (show p < N by omega)]
  | M + 1 => by
    rw [← Nat.add_assoc, cellsC_succ, cellsC_add C D N M, cellsC_succ D M, List.append_assoc]
    congr 2
    refine List.map_congr_left fun j _ => ?_
    rw [if_neg (by omega), Nat.add_sub_cancel_left]

/-- Told ones, or nil, put behind a row of the call's own. -/
theorem app10 (w : World) (base : Nat) (p : Option Addr) (c N M : Nat) (C D : Nat → Nat → Value) (ao : Option Addr) (sc : Nat) (hown : w.ownsRow base 45 10 (.slice p N c) N (cellsC C N))
    (hsrc : (ao = none ∧ M = 0 ∧ sc = 0) ∨ ∃ b off, ao = some ⟨b, off, none⟩ ∧ ∀ q, q < M → Lie10 w b (off + q * 10) (D q)) (h1 : ∀ v j, j < 10 → (D v j).oneCell' = true) (hl : N + M ≤ 1000) (hb : base ≤ w.heap.size) :
    ∃ p' c' w', (Builtin.append_ #[24, 24] 24 #[.slice p N c, .slice ao M sc]).run Try.prog w = .ok (.slice p' (N + M) c') w' ∧
      w'.ownsRow base 45 10 (.slice p' (N + M) c') (N + M) (cellsC (fun q => if q < N then C q else D (q - N)) (N + M)) ∧ w.grownBy w' (Value.slice p N c).ownBlock ∧ ((Value.slice p' (N + M) c').ownBlock = (Value.slice p N c).ownBlock ∨ (Value.slice p' (N + M) c').ownBlock = some w.heap.size) := by
  obtain ⟨i0, hi, hz0, hz1, hz2⟩ := info_parts Try.infoTo
  rw [cellsC_add]
  rcases hsrc with ⟨rfl, rfl, rfl⟩ | ⟨b, off, rfl, hr⟩
  · exact ⟨p, c, w, run_append_owned_none (P := Try.prog) (w := w) base 24 _ 45 i0 10 Try.underlying24 hi _ N _ hown, by simpa [cellsC] using hown, ⟨rfl, rfl, rfl, Nat.le_refl _, fun _ _ _ => rfl⟩, .inl rfl⟩
  · obtain ⟨hv, w', hrun, h2, h3, _, h4⟩ := run_append_own_at (P := Try.prog) w base 24 24 45 i0 _ 10 120 Try.underlying24 hi hz0 hz1 hz2 rfl (by decide) (.slice p N c) N _ hown ⟨b, off, none⟩ M sc (cellsC D M) (cellsC_len _ _) (fun j u hj => by
      have hlt : j < M * 10 := by rw [← cellsC_len D M]; exact (List.getElem?_eq_some_iff.1 hj).1
      have e : j = j / 10 * 10 + j % 10 := by omega
      rw [addr_add]
      rw [e, cellsC_get D M (j / 10) (j % 10) (by omega) (by omega)] at hj
      injection hj with hj
      rw [← hj, e, show off + (j / 10 * 10 + j % 10) = off + j / 10 * 10 + j % 10 by omega, show (j / 10 * 10 + j % 10) / 10 = j / 10 by omega, show (j / 10 * 10 + j % 10) % 10 = j % 10 by omega]
      exact hr (j / 10) (by omega) (j % 10) (by omega)) (fun u hu => by
      unfold cellsC at hu
      rw [List.mem_flatMap] at hu
      obtain ⟨p, _, hu⟩ := hu
      rw [List.mem_map] at hu
      obtain ⟨q, hq, rfl⟩ := hu
      exact h1 p q (List.mem_range.1 hq)) (by unfold maxLen; omega) (by omega) hb
    obtain ⟨p', c', rfl⟩ := ownsRow_form h2
    exact ⟨p', c', w', hrun, h2, h3, h4⟩

/-- Ten cells in a block. -/
def arr10 (c : Nat → Value) : Array Value := #[c 0, c 1, c 2, c 3, c 4, c 5, c 6, c 7, c 8, c 9]
theorem arr10_lie (w : World) (c : Nat → Value) (t : TypeId) : Lie10 (w.alloc (.cells (arr10 c) t)) w.heap.size 0 c := by
  intro j hj
  rcases (show j = 0 ∨ j = 1 ∨ j = 2 ∨ j = 3 ∨ j = 4 ∨ j = 5 ∨ j = 6 ∨ j = 7 ∨ j = 8 ∨ j = 9 by omega) with rfl | rfl | rfl | rfl | rfl | rfl | rfl | rfl | rfl | rfl <;> simp [go_sem, arr10]
def put10C (C : Nat → Nat → Value) (c : Nat → Value) (p q : Nat) : Nat → Value := if q < p then C q else if q = p then c else C (q - 1)

/-- The three appends. -/
theorem put10 (w : World) (va : Option Addr) (m cap p : Nat) (C : Nat → Nat → Value) (c : Nat → Value) (hp : p ≤ m) (A3 : Option Addr)
    (hk : (va = none ∧ m = 0 ∧ cap = 0 ∧ A3 = none) ∨ ∃ g, va = some ⟨g, 0, none⟩ ∧ m ≤ cap ∧ g < w.heap.size ∧ (∀ q, q < m → Lie10 w g (q * 10) (C q)) ∧ ((cap = p ∧ A3 = some ⟨g, 0, none⟩) ∨ A3 = some ⟨g, p * 10, none⟩))
    (h1 : ∀ v j, j < 10 → (C v j).oneCell' = true) (h1c : ∀ j, j < 10 → (c j).oneCell' = true) (hm : m ≤ 900) :
    ∃ p1 c1 w1 p2 c2 w2 p3 c3 w3,
      (Builtin.append_ #[24, 24] 24 #[.slice none 0 0, .slice va p cap]).run Try.prog w = .ok (.slice p1 p c1) w1 ∧
      (Builtin.append_ #[24, 24] 24 #[.slice p1 p c1, .slice (some ⟨w1.heap.size, 0, none⟩) 1 1]).run Try.prog (w1.alloc (.cells (arr10 c) 45)) = .ok (.slice p2 (p + 1) c2) w2 ∧
      (Builtin.append_ #[24, 24] 24 #[.slice p2 (p + 1) c2, .slice A3 (m - p) (cap - p)]).run Try.prog w2 = .ok (.slice p3 (m + 1) c3) w3 ∧
      w3.ownsRow w.heap.size 45 10 (.slice p3 (m + 1) c3) (m + 1) (cellsC (put10C C c p) (m + 1)) ∧ Below w.heap.size w w1 ∧ Below w.heap.size w w3 := by
  have src1 : (va = none ∧ p = 0 ∧ cap = 0) ∨ ∃ b off, va = some ⟨b, off, none⟩ ∧ ∀ q, q < p → Lie10 w b (off + q * 10) (C q) := by
    rcases hk with ⟨rfl, rfl, rfl, _⟩ | ⟨g, rfl, _, _, hl, _⟩
    · exact .inl ⟨rfl, by omega, rfl⟩
    · exact .inr ⟨g, 0, rfl, fun q hq => by rw [Nat.zero_add]; exact hl q (by omega)⟩
  obtain ⟨p1, c1, w1, hrun1, own1, gr1, at1⟩ := app10 w w.heap.size none 0 0 p C C va cap (World.ownsRow_nil _ _ _ _) src1 h1 (by omega) (Nat.le_refl _)
  rw [Nat.zero_add] at hrun1 own1 at1
  have b1 : Below w.heap.size w w1 := (Below.refl _ _).grown gr1 (Nat.le_refl _) (fun k hk => by simp [Value.ownBlock] at hk)
  have s1 := b1.size
  have bA : Below w1.heap.size w1 (w1.alloc (.cells (arr10 c) 45)) := below_new w1 _
  have ownA := ownsRow_keep own1 bA
  obtain ⟨p2, c2, w2, hrun2, own2, gr2, at2⟩ := app10 (w1.alloc (.cells (arr10 c) 45)) w.heap.size p1 c1 p 1 _ (fun _ => c) (some ⟨w1.heap.size, 0, none⟩) 1 ownA (.inr ⟨_, _, rfl, fun q hq => by
    obtain rfl : q = 0 := by omega
    exact arr10_lie w1 c _⟩) (fun v j hj => h1c j hj) (by omega) (by simp; omega)
  have b2 : Below w.heap.size w w2 := (b1.trans (bA.mono s1)).grown gr2 (by simp; omega) (fun k hk => (ownA.lt k hk).1)
  have src3 : (A3 = none ∧ m - p = 0 ∧ cap - p = 0) ∨ ∃ b off, A3 = some ⟨b, off, none⟩ ∧ ∀ q, q < m - p → Lie10 w2 b (off + q * 10) (C (q + p)) := by
    rcases hk with ⟨_, rfl, rfl, rfl⟩ | ⟨g, _, hmc, hg, hl, hA⟩
    · exact .inl ⟨rfl, by omega, by omega⟩
    · have hl2 : ∀ q, q < m → Lie10 w2 g (q * 10) (C q) := fun q hq j hj => (b2.cell (p := ⟨g, q * 10 + j, none⟩) hg).trans (hl q hq j hj)
      rcases hA with ⟨e, rfl⟩ | rfl
      · exact .inr ⟨g, 0, rfl, fun q hq => by omega⟩
      · exact .inr ⟨g, p * 10, rfl, fun q hq => by rw [← Nat.add_mul, Nat.add_comm p q]; exact hl2 (q + p) (by omega)⟩
  obtain ⟨p3, c3, w3, hrun3, own3, gr3, at3⟩ := app10 w2 w.heap.size p2 c2 (p + 1) (m - p) _ (fun q => C (q + p)) A3 (cap - p) own2 src3 (fun v j hj => h1 _ j hj) (by omega) b2.size
  have e : p + 1 + (m - p) = m + 1 := by omega
  rw [e] at hrun3 own3 at3
  have b3 : Below w.heap.size w w3 := b2.grown gr3 b2.size (fun k hk => (own2.lt k hk).1)
  refine ⟨p1, c1, w1, p2, c2, w2, p3, c3, w3, hrun1, hrun2, hrun3, ?_, b1, b3⟩
  have ec : cellsC (put10C C c p) (m + 1) = cellsC (fun q => if q < p + 1 then (if q < p then (if q < 0 then C q else C (q - 0)) else c) else C (q - (p + 1) + p)) (m + 1) := by
    refine cellsC_ext fun q hq j _ => ?_
    unfold put10C
    by_cases h2 : q < p
    · rw [if_pos h2, if_pos (by omega), if_pos h2, if_neg (by omega), Nat.sub_zero]
    · rw [if_neg h2]
      by_cases h3 : q = p
      · rw [if_pos h3, if_pos (by omega), if_neg h2]
      · rw [if_neg h3, if_neg (by omega), show q - (p + 1) + p = q - 1 by omega]
  rw [ec]
  exact own3

def upA {α : Type} (A : Nat → α) (k : Nat) (a : α) (i : Nat) : α := if i = k then a else A i
theorem upA_at {α : Type} (A : Nat → α) (k : Nat) (a : α) : upA A k a k = a := by simp [upA]
theorem upA_ne {α : Type} (A : Nat → α) (k : Nat) (a : α) {i : Nat} (h : i ≠ k) : upA A k a i = A i := by unfold upA; rw [if_neg h]
/-- What has been copied lies apart. -/
theorem far_new {w : World} {g B : Nat} {x : Wn} {ha0 ha1 : Option Addr} {hc0 hc1 : Nat} (hg : g < B ∨ w.heap.size ≤ g) (T : TV w B (.slice ha0 x.tn hc0) x) (H : HV w B (.slice ha1 x.n hc1) x) (hbd : ∀ i, -9223372036854775808 ≤ x.f i ∧ x.f i ≤ 9223372036854775807) : Far w g x ha0 ha1 := by
  refine ⟨?_, ?_, hbd⟩
  · by_cases h0 : x.tn = 0
    · exact .inl h0
    · obtain ⟨b, cap, e, hb, ho⟩ := T.own (by omega)
      injection e with e _ _
      exact .inr ⟨b, 0, e, ho.lt, by have := ho.lt; omega, fun i hi => by rw [Nat.zero_add]; exact ho.cell i hi hi⟩
  · by_cases h0 : x.n = 0
    · exact .inl h0
    · obtain ⟨b, cap, e, hb, ho⟩ := H.own hbd (by omega)
      injection e with e _ _
      exact .inr ⟨b, 0, e, ho.lt, by have := ho.lt; omega, ho.cell⟩
theorem Far.at' {w : World} {g g' : Nat} {x : Wn} {a0 a1 : Option Addr} (h : Far w g x a0 a1) (hg : w.heap.size ≤ g') : Far w g' x a0 a1 :=
  ⟨h.tr.elim .inl fun ⟨b, off, e, h1, h2, h3⟩ => .inr ⟨b, off, e, h1, by omega, h3⟩, h.ir.elim .inl fun ⟨b, off, e, h1, h2, h3⟩ => .inr ⟨b, off, e, h1, by omega, h3⟩, h.bd⟩
/-- What is kept, with one more among it. -/
theorem KeptA.put {w w3 : World} {base m k p : Nat} {v : Value} {X : Nat → Wn} {z : Nat → Nat} {A0 A1 : Nat → Option Addr} {K0 K1 : Nat → Nat} {ha0 ha1 p3 : Option Addr} {hc0 hc1 c3 : Nat} (h : KeptA w base v m k X z A0 A1 K0 K1) (hz : ∀ j, j < m → z j < k)
    (hF : Far w w.heap.size (X k) ha0 ha1) (hb : Below w.heap.size w w3) (hbase : base ≤ w.heap.size) (hp : p ≤ m)
    (ho : w3.ownsRow w.heap.size 45 10 (.slice p3 (m + 1) c3) (m + 1) (cellsC (put10C (fun q => tC (X (z q)) (A0 (z q)) (K0 (z q)) (A1 (z q)) (K1 (z q))) (tC (X k) ha0 hc0 ha1 hc1) p) (m + 1))) :
    KeptA w3 base (.slice p3 (m + 1) c3) (m + 1) (k + 1) X (zins z p k) (upA A0 k ha0) (upA A1 k ha1) (upA K0 k hc0) (upA K1 k hc1) := by
  obtain ⟨g, hg⟩ : ∃ g, (Value.slice p3 (m + 1) c3).ownBlock = some g := by
    rcases ho.2 with ⟨e, h0⟩ | ⟨g, cap, cur, e, _⟩
    · omega
    · exact ⟨g, by rw [e]; rfl⟩
  obtain ⟨gc, e, h1, h2, hA⟩ := ar_of_row ho hg
  injection e with e1 _ e3
  subst e1 e3
  have hlt := hA.lt
  refine .inr ⟨g, c3, rfl, by omega, h1, by omega, ⟨hlt, fun q hq => ?_, hA.fz⟩, fun i hi => ?_⟩
  · have := hA.at' q hq
    unfold put10C at this
    unfold zins
    by_cases q1 : q < p
    · rw [if_pos q1] at this ⊢
      have hne : z q ≠ k := by have := hz q (by omega); omega
      rw [upA_ne _ _ _ hne, upA_ne _ _ _ hne, upA_ne _ _ _ hne, upA_ne _ _ _ hne]
      exact this
    · rw [if_neg q1] at this ⊢
      by_cases q2 : q = p
      · rw [if_pos q2] at this ⊢
        rw [upA_at, upA_at, upA_at, upA_at]
        exact this
      · rw [if_neg q2] at this ⊢
        have hne : z (q - 1) ≠ k := by have := hz (q - 1) (by omega); omega
        rw [upA_ne _ _ _ hne, upA_ne _ _ _ hne, upA_ne _ _ _ hne, upA_ne _ _ _ hne]
        exact this
  · by_cases ei : i = k
    · rw [ei, upA_at, upA_at]
      exact (hF.at' h2).kb hb (Nat.le_refl _)
    · rw [upA_ne _ _ _ ei, upA_ne _ _ _ ei]
      rcases h with ⟨h0, _⟩ | ⟨g', cap, _, _, _, _, h5, h6⟩
      · omega
      · exact ((h6 i (by omega)).at' h2).kb hb (Nat.le_refl _)
/-- What is kept, with one in another's place. -/
theorem KeptA.over {w : World} {base m k p g cap : Nat} {X : Nat → Wn} {z : Nat → Nat} {A0 A1 : Nat → Option Addr} {K0 K1 : Nat → Nat} {ha0 ha1 : Option Addr} {hc0 hc1 : Nat} (h1 : 0 < m) (h2 : m ≤ cap) (h3 : base ≤ g) (hA : AR w g m (fun i => tC (X i) (A0 i) (K0 i) (A1 i) (K1 i)) z) (h6 : ∀ i, i < k → Far w g (X i) (A0 i) (A1 i)) (hz : ∀ j, j < m → z j < k) (hF : Far w g (X k) ha0 ha1) (hp : p < m) :
    KeptA (lay10 w g (p * 10) (tC (X k) ha0 hc0 ha1 hc1)) base (.slice (some ⟨g, 0, none⟩) m cap) m (k + 1) X (zput z p k) (upA A0 k ha0) (upA A1 k ha1) (upA K0 k hc0) (upA K1 k hc1) := by
  have hA2 : AR w g m (fun i => tC (X i) (upA A0 k ha0 i) (upA K0 k hc0 i) (upA A1 k ha1 i) (upA K1 k hc1 i)) z := by
    refine ⟨hA.lt, fun q hq => ?_, hA.fz⟩
    have hne : z q ≠ k := by have := hz q hq; omega
    rw [upA_ne _ _ _ hne, upA_ne _ _ _ hne, upA_ne _ _ _ hne, upA_ne _ _ _ hne]
    exact hA.at' q hq
  have hA3 := hA2.put (p := p) (v := k) hp
  rw [upA_at, upA_at, upA_at, upA_at] at hA3
  have hw : WrB g w (lay10 w g (p * 10) (tC (X k) ha0 hc0 ha1 hc1)) := WrB.of_others (lay10_others _ _ _ _)
  refine .inr ⟨g, cap, rfl, h1, h2, h3, hA3, fun i hi => ?_⟩
  by_cases ei : i = k
  · rw [ei, upA_at, upA_at]
    exact hF.wr hw
  · rw [upA_ne _ _ _ ei, upA_ne _ _ _ ei]
    exact (h6 i (by omega)).wr hw
/-- What is kept, with one more passed over. -/
theorem KeptA.stay {w : World} {base m k : Nat} {v : Value} {X : Nat → Wn} {z : Nat → Nat} {A0 A1 : Nat → Option Addr} {K0 K1 : Nat → Nat} {ha0 ha1 : Option Addr} {hc0 hc1 : Nat} (h : KeptA w base v m k X z A0 A1 K0 K1) (hz : ∀ j, j < m → z j < k) (hm : 0 < m) (hF : ∀ g c, v = .slice (some ⟨g, 0, none⟩) m c → Far w g (X k) ha0 ha1) :
    KeptA w base v m (k + 1) X z (upA A0 k ha0) (upA A1 k ha1) (upA K0 k hc0) (upA K1 k hc1) := by
  rcases h with ⟨_, h0, _⟩ | ⟨g, cap, rfl, h1, h2, h3, hA, h6⟩
  · omega
  · refine .inr ⟨g, cap, rfl, h1, h2, h3, ⟨hA.lt, fun q hq => ?_, hA.fz⟩, fun i hi => ?_⟩
    · have hne : z q ≠ k := by have := hz q hq; omega
      rw [upA_ne _ _ _ hne, upA_ne _ _ _ hne, upA_ne _ _ _ hne, upA_ne _ _ _ hne]
      exact hA.at' q hq
    · by_cases ei : i = k
      · rw [ei, upA_at, upA_at]
        exact hF g cap rfl
      · rw [upA_ne _ _ _ ei, upA_ne _ _ _ ei]
        exact h6 i (by omega)
/-- It lies in what is there. -/
theorem KeptA.lt {w : World} {base m k : Nat} {v : Value} {X : Nat → Wn} {z : Nat → Nat} {A0 A1 : Nat → Option Addr} {K0 K1 : Nat → Nat} (h : KeptA w base v m k X z A0 A1 K0 K1) : ∀ g c, v = .slice (some ⟨g, 0, none⟩) m c → g < w.heap.size := by
  intro g c e
  rcases h with ⟨_, _, e2⟩ | ⟨g', cap, e2, _, _, _, hA, _⟩
  · rw [e] at e2; cases e2
  · rw [e] at e2
    injection e2 with e2 _ _
    injection e2 with e2
    injection e2 with e2 _ _
    rw [e2]
    exact hA.lt
end Go.Proofs.Ytjdijikmdlklkaa
