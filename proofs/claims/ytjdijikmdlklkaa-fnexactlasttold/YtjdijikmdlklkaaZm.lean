/- One more told one, in the model: in its place, in numbers. / Both answer the same: put together, over what the model is said to answer. / LastTold in the model: too many. -/
import Derived.Test.YtjdijikmdlklkaaYv
import Derived.Test.YtjdijikmdlklkaaYz
import Derived.Test.YtjdijikmdlklkaaCompareS
namespace Go.Proofs.Ytjdijikmdlklkaa
open Go.RowKit
set_option linter.unusedSimpArgs false
set_option linter.unusedVariables false

/-- v put in between at p. -/
def zins (z : Nat → Nat) (p v j : Nat) : Nat := if j < p then z j else if j = p then v else z (j - 1)
/-- The place of a key: all ahead of it are less, the one there is not. -/
structure PlK (X : Nat → Wn) (k : Nat) (z : Nat → Nat) (m p : Nat) : Prop where
  le : p ≤ m
  lt : ∀ j, j < p → ltL (kx X (z j)) (kx X k)
  ge : p < m → ¬ ltL (kx X (z p)) (kx X k)
theorem Fin'.start (X : Nat → Wn) (z : Nat → Nat) : Fin' X 0 z 0 := ⟨fun j h => by omega, fun j h => by omega, fun j j' h1 h2 => by omega, fun i h => by omega⟩
theorem Fin'.alone {X : Nat → Wn} {n m : Nat} {z : Nat → Nat} (h : Fin' X n z m) {j j' : Nat} (hj : j < m) (hj' : j' < m) (e : kx X (z j) = kx X (z j')) : j = j' := by
  rcases Nat.lt_trichotomy j j' with q | q | q
  · have := h.rise j j' q hj'; rw [e] at this; exact (ltL_irr _ this).elim
  · exact q
  · have := h.rise j' j q hj; rw [e] at this; exact (ltL_irr _ this).elim
theorem Fin'.over {X : Nat → Wn} {k m p : Nat} {z : Nat → Nat} (h : Fin' X k z m) (hp : p < m) (e : kx X (z p) = kx X k) (hv : (X (z p)).ver ≤ (X k).ver) : Fin' X (k + 1) (zput z p k) m := by
  have z0 : zput z p k p = k := by simp [zput]
  have z1 : ∀ j, j ≠ p → zput z p k j = z j := fun j hj => by unfold zput; rw [if_neg hj]
  have zk : ∀ j, kx X (zput z p k j) = kx X (z j) := fun j => by
    by_cases c : j = p
    · rw [c, z0, e]
    · rw [z1 j c]
  refine ⟨fun j hj => ?_, fun j hj i hi hk => ?_, fun j j' h1 h2 => ?_, fun i hi => ?_⟩
  · by_cases c : j = p
    · rw [c, z0]; omega
    · rw [z1 j c]; have := h.lt j hj; omega
  · rw [zk] at hk
    by_cases c : j = p
    · subst c
      rw [z0]
      by_cases ci : i = k
      · exact .inl ci
      · right
        rcases h.last j hj i (by omega) hk with q | q
        · refine .inr ⟨hk.trans e, ?_⟩
          rw [← q] at hv
          omega
        · rcases q with q | ⟨q1, q2⟩
          · have : kx X i = kx X (z j) := hk
            unfold kx at this
            rw [this] at q
            exact (ltL_irr _ q).elim
          · exact .inr ⟨hk.trans e, by omega⟩
    · rw [z1 j c]
      by_cases ci : i = k
      · subst ci
        exact absurd (h.alone hj hp (hk.symm.trans e.symm)) c
      · exact h.last j hj i (by omega) hk
  · rw [zk, zk]; exact h.rise j j' h1 h2
  · by_cases ci : i = k
    · exact ⟨p, hp, by rw [z0, ci]⟩
    · obtain ⟨j, j1, j2⟩ := h.all i (by omega)
      exact ⟨j, j1, by rw [zk]; exact j2⟩
theorem Fin'.stay {X : Nat → Wn} {k m p : Nat} {z : Nat → Nat} (h : Fin' X k z m) (hp : p < m) (e : kx X (z p) = kx X k) (hv : ¬ (X (z p)).ver ≤ (X k).ver) : Fin' X (k + 1) z m := by
  refine ⟨fun j hj => by have := h.lt j hj; omega, fun j hj i hi hk => ?_, h.rise, fun i hi => ?_⟩
  · by_cases ci : i = k
    · subst ci
      have c := h.alone hj hp (hk.symm.trans e.symm)
      subst c
      exact .inr (.inr ⟨hk, .inl (by omega)⟩)
    · exact h.last j hj i (by omega) hk
  · by_cases ci : i = k
    · exact ⟨p, hp, by rw [ci]; exact e⟩
    · exact h.all i (by omega)
theorem Fin'.among {X : Nat → Wn} {k m p : Nat} {z : Nat → Nat} (h : Fin' X k z m) (hP : PlK X k z m p) (hne : p < m → kx X (z p) ≠ kx X k) : Fin' X (k + 1) (zins z p k) (m + 1) := by
  have z0 : zins z p k p = k := by simp [zins]
  have z1 : ∀ j, j < p → zins z p k j = z j := fun j hj => by unfold zins; rw [if_pos hj]
  have z2 : ∀ j, p < j → zins z p k j = z (j - 1) := fun j hj => by unfold zins; rw [if_neg (by omega), if_neg (by omega)]
  have hle := hP.le
  have gt : ∀ j, p ≤ j → j < m → ltL (kx X k) (kx X (z j)) := fun j h1 h2 => by
    have q : ltL (kx X k) (kx X (z p)) := by
      rcases ltL_tot _ _ (hne (by omega)) with c | c
      · exact absurd c (hP.ge (by omega))
      · exact c
    rcases h.le h1 h2 with c | c
    · rw [← c]; exact q
    · exact ltL_trans _ _ _ q c
  have no : ∀ j, j < m → kx X (z j) ≠ kx X k := fun j hj hh => by
    by_cases c : j < p
    · have := hP.lt j c; rw [hh] at this; exact ltL_irr _ this
    · have := gt j (by omega) hj; rw [hh] at this; exact ltL_irr _ this
  refine ⟨fun j hj => ?_, fun j hj i hi hk => ?_, fun j j' h1 h2 => ?_, fun i hi => ?_⟩
  · rcases Nat.lt_trichotomy j p with c | c | c
    · rw [z1 j c]; have := h.lt j (by omega); omega
    · rw [c, z0]; omega
    · rw [z2 j c]; have := h.lt (j - 1) (by omega); omega
  · rcases Nat.lt_trichotomy j p with c | c | c
    · rw [z1 j c] at hk ⊢
      by_cases ci : i = k
      · rw [ci] at hk; exact absurd hk.symm (no j (by omega))
      · exact h.last j (by omega) i (by omega) hk
    · rw [c, z0] at hk ⊢
      by_cases ci : i = k
      · exact .inl ci
      · obtain ⟨j2, q1, q2⟩ := h.all i (by omega)
        exact absurd (q2.trans hk) (no j2 q1)
    · rw [z2 j c] at hk ⊢
      by_cases ci : i = k
      · rw [ci] at hk; exact absurd hk.symm (no (j - 1) (by omega))
      · exact h.last (j - 1) (by omega) i (by omega) hk
  · rcases Nat.lt_trichotomy j p with c | c | c
    · rw [z1 j c]
      rcases Nat.lt_trichotomy j' p with d | d | d
      · rw [z1 j' d]; exact h.rise j j' h1 (by omega)
      · rw [d, z0]; exact hP.lt j c
      · rw [z2 j' d]; exact h.rise j (j' - 1) (by omega) (by omega)
    · rw [c, z0, z2 j' (by omega)]
      exact gt (j' - 1) (by omega) (by omega)
    · rw [z2 j c, z2 j' (by omega)]
      exact h.rise (j - 1) (j' - 1) (by omega) (by omega)
  · by_cases ci : i = k
    · exact ⟨p, by omega, by rw [z0, ci]⟩
    · obtain ⟨j, j1, j2⟩ := h.all i (by omega)
      by_cases c : j < p
      · exact ⟨j, by omega, by rw [z1 j c]; exact j2⟩
      · exact ⟨j + 1, by omega, by rw [z2 (j + 1) (by omega), Nat.add_sub_cancel]; exact j2⟩
end Go.Proofs.Ytjdijikmdlklkaa
namespace Go.Proofs.Ytjdijikmdlklkaa
open Go.RowKit
set_option linter.unusedSimpArgs false
set_option linter.unusedVariables false

theorem plK_ex (X : Nat → Wn) (k : Nat) (z : Nat → Nat) : ∀ m, ∃ p, PlK X k z m p
  | 0 => ⟨0, Nat.le_refl _, fun j hj => by omega, fun h => by omega⟩
  | m + 1 => by
    obtain ⟨p, h⟩ := plK_ex X k z m
    have hle := h.le
    by_cases hp : p < m
    · exact ⟨p, by omega, h.lt, fun _ => h.ge hp⟩
    · obtain rfl : p = m := by omega
      by_cases hk : ltL (kx X (z p)) (kx X k)
      · exact ⟨p + 1, Nat.le_refl _, fun j hj => by
          by_cases e : j = p
          · rw [e]; exact hk
          · exact h.lt j (by omega), fun h => by omega⟩
      · exact ⟨p, by omega, h.lt, fun _ => hk⟩
theorem fin_ex (X : Nat → Wn) : ∀ k, ∃ z m, m ≤ k ∧ Fin' X k z m
  | 0 => ⟨fun j => j, 0, Nat.le_refl _, Fin'.start _ _⟩
  | k + 1 => by
    obtain ⟨z, m, hm, h⟩ := fin_ex X k
    obtain ⟨p, hp⟩ := plK_ex X k z m
    by_cases c : p < m ∧ kx X (z p) = kx X k
    · by_cases v : (X (z p)).ver ≤ (X k).ver
      · exact ⟨_, m, by omega, h.over c.1 c.2 v⟩
      · exact ⟨_, m, by omega, h.stay c.1 c.2 v⟩
    · exact ⟨_, m + 1, by omega, h.among hp (fun h1 h2 => c ⟨h1, h2⟩)⟩
theorem RT_congr {X Y : Nat → Wn} {i j : Nat} (hi : Y i = X i) (hj : Y j = X j) : RT Y i j ↔ RT X i j := by unfold RT; rw [hi, hj]
theorem Fin'.congr {X Y : Nat → Wn} {n m : Nat} {z : Nat → Nat} (h : Fin' Y n z m) (e : ∀ i, i < n → Y i = X i) : Fin' X n z m := by
  have k : ∀ i, i < n → kx Y i = kx X i := fun i hi => by unfold kx; rw [e i hi]
  refine ⟨h.lt, fun j hj i hi hk => ?_, fun j j' h1 h2 => ?_, fun i hi => ?_⟩
  · rw [← k i hi, ← k _ (h.lt j hj)] at hk
    rcases h.last j hj i hi hk with q | q
    · exact .inl q
    · exact .inr ((RT_congr (e i hi) (e _ (h.lt j hj))).1 q)
  · have := h.rise j j' h1 h2
    rw [k _ (h.lt j (by omega)), k _ (h.lt j' h2)] at this
    exact this
  · obtain ⟨j, j1, j2⟩ := h.all i hi
    exact ⟨j, j1, by rw [← k i hi, ← k _ (h.lt j j1)]; exact j2⟩
theorem OutT.congr {w : World} {base : Nat} {v : Value} {n : Nat} {X T : Nat → Wn} {V : Nat → Value} (h : OutT w base v n X V) (e : ∀ i, i < n → X i = T i) : OutT w base v n T V := by
  refine ⟨?_, fun i hi => by rw [← e i hi]; exact h.r0 i hi, fun i hi => by rw [← e i hi]; exact h.r1 i hi, h.dis, h.apart⟩
  have q : ((List.range n).flatMap fun i => tlcells (X i) (V (i * 2 + 0)) (V (i * 2 + 1))) = ((List.range n).flatMap fun i => tlcells (T i) (V (i * 2 + 0)) (V (i * 2 + 1))) := by
    unfold List.flatMap
    congr 1
    refine List.map_congr_left fun i hi => ?_
    rw [e i (List.mem_range.1 hi)]
  rw [← q]
  exact h.own
/-- What the model is said to answer where every key is good. -/
def LmYes (n : Nat) (X : Nat → Wn) (w : World) (e : Ending) (w' : World) : Prop := ∃ m z, Fin' X n z m ∧ LmAns m (fun j => X (z j)) true w e w'
/-- What the model is said to answer. -/
structure LmSaid (n : Nat) (X : Nat → Wn) : Prop where
  no : (200 < n ∨ ∃ i, i < n ∧ gK (X i) = false) → ∀ b G0 G1 w, ToOwn w b n n X G0 G1 → Calls Try.prog 5 #[.slice (some ⟨b, 0, none⟩) n n] w fun e w' => LtNo w e w'
  yes : n ≤ 200 → (∀ i, i < n → gK (X i) = true) → ∀ b G0 G1 w, ToOwn w b n n X G0 G1 → Calls Try.prog 5 #[.slice (some ⟨b, 0, none⟩) n n] w fun e w' => LmYes n X w e w'

theorem ltBoth_of (n : Nat) (X : Nat → Wn) (hn : n ≤ 1048576) (hz : ToSize n X) (hf : FBw n X) (hbd : ∀ i, i < n → TlB (X i)) (hM : LmSaid n X) : LtBoth n X := by
  by_cases hno : 200 < n ∨ ∃ i, i < n ∧ gK (X i) = false
  · refine ⟨0, X, false, ⟨by omega, fun i hi => by omega, fun i hi => by omega, fun i hi => by omega⟩, fun b G0 G1 w ho => ?_, fun b G0 G1 w ho => ?_⟩
    · refine (hM.no hno b G0 G1 w ho).mono ?_
      rintro e w' ⟨rfl, hb⟩
      exact ⟨none, 0, rfl, ⟨fun i hi => by omega, .inl rfl⟩, hb⟩
    · have k : Calls Try.prog 7 #[.slice (some ⟨b, 0, none⟩) n n] w fun e w' => LtNo w e w' := by
        by_cases c : 200 < n
        · exact lastTold_many b n n w c hn
        · exact lastTold_bad b n n X G0 G1 w ho (by omega) hz (hno.resolve_left c)
      refine k.mono ?_
      rintro e w' ⟨rfl, hb⟩
      exact ⟨none, 0, rfl, ⟨Nat.le_refl _, .inl ⟨rfl, none, 0, rfl⟩⟩, hb⟩
  · have h200 : n ≤ 200 := by
      have := fun h => hno (.inl h)
      omega
    have hg : ∀ i, i < n → gK (X i) = true := fun i hi => by
      cases c : gK (X i) with
      | true => rfl
      | false => exact absurd (.inr ⟨i, hi, c⟩) hno
    obtain ⟨z, m, hm, hF⟩ := fin_ex X n
    refine ⟨m, fun j => X (z j), true, ⟨by omega, fun j hj => hz _ (hF.lt j hj), fun j hj => hbd _ (hF.lt j hj), fun j hj => hf _ (hF.lt j hj)⟩, fun b G0 G1 w ho => ?_, fun b G0 G1 w ho => ?_⟩
    · refine (hM.yes h200 hg b G0 G1 w ho).mono ?_
      rintro e w' ⟨m2, z2, hF2, lo, lc, rfl, hR, hb⟩
      obtain ⟨rfl, hzz⟩ := hF2.one hF
      have ez : ∀ j, j < m2 → X (z2 j) = X (z j) := fun j hj => by rw [hzz j hj]
      refine ⟨lo, lc, rfl, ⟨fun j hj => hbd _ (hF.lt j hj), hR.lies.elim .inl fun ⟨b, off, e1, e2, e3⟩ => .inr ⟨b, off, e1, e2, fun j hj => ?_⟩⟩, hb⟩
      obtain ⟨a0, a1, c0, c1, q1, q2, q3⟩ := e3 j hj
      simp only [ez j hj] at q1 q2 q3
      exact ⟨a0, a1, c0, c1, q1, q2, q3⟩
    · obtain ⟨Y, A0, A1, K0, K1, eY, hG⟩ := goods_of ho hz hg
      refine (lastTold_good b n n Y A0 A1 K0 K1 w hG h200).mono ?_
      rintro e w' ⟨va, m2, vc, z2, V, rfl, hF2, hO, hb⟩
      obtain ⟨rfl, hzz⟩ := (hF2.congr eY).one hF
      have hO2 := hO.congr (T := fun j => X (z j)) (fun j hj => by rw [hzz j hj]; exact eY _ (hF.lt j hj))
      exact ⟨va, vc, rfl, ta_of hO2 (fun j hj => hf _ (hF.lt j hj)), hb⟩
end Go.Proofs.Ytjdijikmdlklkaa
namespace Go.Proofs.Ytjdijikmdlklkaa
open Go.RowKit
set_option linter.unusedSimpArgs false
set_option linter.unusedVariables false

set_option maxHeartbeats 4000000 in
theorem lastTold_specMany (b n cap : Nat) (w : World) (hn : 200 < n) (hn2 : n ≤ 1048576) : Calls Try.prog 5 #[.slice (some ⟨b, 0, none⟩) n cap] w fun e w' => LtNo w e w' := by
  have hgt : (200 : Int) < (n : Int) := by omega
  go_enter Try.func5, Try.ntmps5
  go_wp2
  exact bodyPost_ret (v := .tuple #[.slice none 0 0, .bool false]) (by simp [results, Try.results5, go_sem]) rfl ⟨rfl, Below.refl _ _⟩

/-- What the model keeps: nothing at first, then a row of its own of the last of each key. -/
def KeptA (w : World) (base : Nat) (v : Value) (m k : Nat) (X : Nat → Wn) (z : Nat → Nat) (A0 A1 : Nat → Option Addr) (K0 K1 : Nat → Nat) : Prop :=
  (k = 0 ∧ m = 0 ∧ v = .slice none 0 0) ∨ ∃ g cap, v = .slice (some ⟨g, 0, none⟩) m cap ∧ 0 < m ∧ m ≤ cap ∧ base ≤ g ∧ AR w g m (fun i => tC (X i) (A0 i) (K0 i) (A1 i) (K1 i)) z ∧ ∀ i, i < k → Far w g (X i) (A0 i) (A1 i)
theorem KeptA.keep {w w' : World} {base m k : Nat} {v : Value} {X : Nat → Wn} {z : Nat → Nat} {A0 A1 : Nat → Option Addr} {K0 K1 : Nat → Nat} (h : KeptA w base v m k X z A0 A1 K0 K1) (hb : Below w.heap.size w w') : KeptA w' base v m k X z A0 A1 K0 K1 := by
  rcases h with h | ⟨g, cap, h1, h2, h3, h4, h5, h6⟩
  · exact .inl h
  · exact .inr ⟨g, cap, h1, h2, h3, h4, h5.keep hb, fun i hi => (h6 i hi).kb hb (Nat.le_refl _)⟩
theorem KeptA.form {w : World} {base m k : Nat} {v : Value} {X : Nat → Wn} {z : Nat → Nat} {A0 A1 : Nat → Option Addr} {K0 K1 : Nat → Nat} (h : KeptA w base v m k X z A0 A1 K0 K1) : ∃ va vc, v = .slice va m vc := by
  rcases h with ⟨_, rfl, e⟩ | ⟨g, cap, h1, _⟩
  · exact ⟨none, 0, e⟩
  · exact ⟨_, _, h1⟩
/-- Where what is kept was made, the answer is read. -/
theorem KeptA.row {w : World} {base m k : Nat} {va : Option Addr} {vc : Nat} {X : Nat → Wn} {z : Nat → Nat} {A0 A1 : Nat → Option Addr} {K0 K1 : Nat → Nat} (h : KeptA w base (.slice va m vc) m k X z A0 A1 K0 K1) (hz : ∀ j, j < m → z j < k) (hbd : ∀ i, i < k → TlB (X i)) : ToRow w va m (fun j => X (z j)) := by
  refine ⟨fun j hj => hbd _ (hz j hj), ?_⟩
  rcases h with ⟨_, h0, _⟩ | ⟨g, cap, h1, h2, h3, h4, h5, h6⟩
  · exact .inl h0
  · injection h1 with e1 e2 e3
    refine .inr ⟨g, 0, e1, h5.lt, fun j hj => ⟨A0 (z j), A1 (z j), K0 (z j), K1 (z j), ?_, (h6 _ (hz j hj)).trow, (h6 _ (hz j hj)).irow⟩⟩
    rw [Nat.zero_add]
    exact toAt_of (h5.at' j hj) h5.lt
end Go.Proofs.Ytjdijikmdlklkaa
