/- UsedBytes, both texts, and its law, walked. / create: what it leaves. -/
import Derived.Test.YtiojjihonmonkaaDoorDisk
import Derived.Test.YtiojjihonmonkaaDoorReadLaw
import Derived.Test.YtiojjihonmonkaaDoorAppF
namespace Go.Proofs.YtiojjihonmonkaaDoor
open Go.RowKit
set_option linter.unusedSimpArgs false
set_option linter.unusedVariables false

/-- What UsedBytes answers. -/
def ubAns (G : Bool) (u : Nat) : Value := .tuple #[.int .i64 (if G then (u : Int) else 0), .bool G]

set_option maxHeartbeats 1000000 in
theorem usedBytes_impl (Q : Int) (ao : Option Addr) (n cap : Nat) (F : Nat → Fil) (G : Bool) (HG : Hid (goodF Q n F = G)) (w : World) (hr : FRow w ao n F) (hq : -9223372036854775808 ≤ Q ∧ Q ≤ 9223372036854775807) (hn : n ≤ 1048576) (hz : FSize n F 1048576) :
    Calls Tryd.prog 7 #[.agg #[.int .i64 Q, .slice ao n cap]] w fun e w' => e = .returned (ubAns G (used F n)) ∧ Below w.heap.size w w' := by
  have hB : Below w.heap.size w (w.alloc (.cells #[.int .i64 Q, .slice ao n cap] 25)) := (Below.refl _ _).alloc (Nat.le_refl _) _
  cases G
  · go_enter Tryd.func7, Tryd.ntmps7
    go_wp2_with fail
    refine (openDisk_bad Q ao n cap F HG _ (hr.keep hB) hq hn hz).mono ?_
    rintro e w1 ⟨rfl, hb1⟩
    have hA : Below w1.heap.size w1 (w1.alloc (.cells #[.int .i64 0, .map none] 46)) := (Below.refl _ _).alloc (Nat.le_refl _) _
    have c0 : (w1.alloc (.cells #[.int .i64 0, .map none] 46)).cell? ⟨w1.heap.size, 0, none⟩ = some (.int .i64 0) := by simp [go_sem]
    have c1 : (w1.alloc (.cells #[.int .i64 0, .map none] 46)).cell? ⟨w1.heap.size, 1, none⟩ = some (.map none) := by simp [go_sem]
    have bwA : Below w.heap.size w (w1.alloc (.cells #[.int .i64 0, .map none] 46)) := (hB.trans (hb1.mono (by simp))).trans (hA.mono (by have := hb1.size; simp at this; omega))
    have lA : w1.heap.size < (w1.alloc (.cells #[.int .i64 0, .map none] 46)).heap.size := by simp
    clear hb1 hA hB
    go_wp2
    generalize w1.alloc (.cells #[.int .i64 0, .map none] 46) = wA at c0 c1 bwA lA ⊢
    go_region_held3 (fun w' => w'.cell? ⟨w1.heap.size, 0, none⟩ = some (.int .i64 0) ∧ w'.cell? ⟨w1.heap.size, 1, none⟩ = some (.map none)) (go_keep) (first | (go_at_call 18; refine (used_nil _).mono ?_; rintro e w2 ⟨rfl, hb2⟩; have hb2' := (Below.refl _ wA).drew.trans hb2; have e0 := (hb2'.cell (p := ⟨w1.heap.size, 0, none⟩) lA).trans c0; have e1 := (hb2'.cell (p := ⟨w1.heap.size, 1, none⟩) lA).trans c1; have bw2 : Below w.heap.size w w2 := bwA.trans (hb2'.mono bwA.size)))
    all_goals
      go_wp2
      go_ret2
      exact ⟨rfl, bw2⟩
  · obtain ⟨g0, g1, g2, g3, g4⟩ := good_parts HG.out
    have hu : used F n ≤ 4611686018427387904 := by omega
    go_enter Tryd.func7, Tryd.ntmps7
    go_wp2_with fail
    refine (openDisk_good Q ao n cap F HG g3 _ (hr.keep hB) hq hn hz).mono ?_
    rintro e w1 ⟨bm, S, GG, rfl, hbm, hM, hD, hb1⟩
    have hA : Below w1.heap.size w1 (w1.alloc (.cells #[.int .i64 Q, .map (some bm)] 46)) := (Below.refl _ _).alloc (Nat.le_refl _) _
    have c0 : (w1.alloc (.cells #[.int .i64 Q, .map (some bm)] 46)).cell? ⟨w1.heap.size, 0, none⟩ = some (.int .i64 Q) := by simp [go_sem]
    have c1 : (w1.alloc (.cells #[.int .i64 Q, .map (some bm)] 46)).cell? ⟨w1.heap.size, 1, none⟩ = some (.map (some bm)) := by simp [go_sem]
    have bwA : Below w.heap.size w (w1.alloc (.cells #[.int .i64 Q, .map (some bm)] 46)) := (hB.trans (hb1.mono (by simp))).trans (hA.mono (by have := hb1.size; simp at this; omega))
    have lA : w1.heap.size < (w1.alloc (.cells #[.int .i64 Q, .map (some bm)] 46)).heap.size := by simp
    have hMA : (w1.alloc (.cells #[.int .i64 Q, .map (some bm)] 46)).heap[bm]? = some (.map (ents F S n) n) := (hA.block bm (Array.getElem?_eq_some_iff.1 hM).1).trans hM
    have hS := hD.len
    clear hb1 hA hB hM hD g3
    go_wp2
    generalize w1.alloc (.cells #[.int .i64 Q, .map (some bm)] 46) = wA at c0 c1 bwA lA hMA ⊢
    have hMd : wA.drew.heap[bm]? = some (.map (ents F S n) n) := hMA
    go_region_held3 (fun w' => w'.cell? ⟨w1.heap.size, 0, none⟩ = some (.int .i64 Q) ∧ w'.cell? ⟨w1.heap.size, 1, none⟩ = some (.map (some bm))) (go_keep) (first | (go_at_call 18; refine (used_any Q bm n F S _ hMd hS hu).mono ?_; rintro e w2 ⟨rfl, hb2⟩; have hb2' := (Below.refl _ wA).drew.trans hb2; have e0 := (hb2'.cell (p := ⟨w1.heap.size, 0, none⟩) lA).trans c0; have e1 := (hb2'.cell (p := ⟨w1.heap.size, 1, none⟩) lA).trans c1; have bw2 : Below w.heap.size w w2 := bwA.trans (hb2'.mono bwA.size)))
    all_goals
      go_wp2
      go_ret2
      exact ⟨rfl, bw2⟩

end Go.Proofs.YtiojjihonmonkaaDoor
namespace Go.Proofs.YtiojjihonmonkaaDoor
open Go.RowKit
open Go.ChangeMaps (setBlock)
set_option linter.unusedSimpArgs false
set_option linter.unusedVariables false

theorem run_len_map {w : World} {bm clock : Nat} {es : Array MapEntry} (h : w.heap[bm]? = some (.map es clock)) (N : Nat) (hN : es.size = N) (hs : N ≤ 1048576) (ty : TypeId) :
    (Builtin.len_ #[44] ty #[.map (some bm)]).run Tryd.prog w = .ok (.int .i64 (N : Int)) w := by
  subst hN
  have e : IntKind.i64.wrap (es.size : Int) = (es.size : Int) := by rw [IntKind.wrap_i64]; omega
  simp [Builtin.len_, run_underlying Tryd.underlying44, MapKept.run_getObj_map h, goInt, Result.andThen, e]
theorem wpList_len_run {P : Program} (w : World) {ops : Array Oper} {rest : List Oper} {o : Oper} {a : Act} {Q : Exit → Act → World → Prop}
    (hg : o.guard = none) (s : Operand) (t : TypeId) (hop : o.op = .call { callee := .builtin .len, args := #[s], argTypes := #[t] }) (u r : Value) (hs : a.eval s = u) (w' : World)
    (hrun : ∀ ty, (Builtin.len_ #[t] ty #[u]).run P w = .ok r w') (hK : wpList P ops Q rest (a.put o.dst r) w') : wpList P ops Q (o :: rest) a w := by
  refine wpList_plain hg fun K' hK' => ?_
  unfold Oper.wp execOp
  simp only [hop, resolve, invoke, builtin, Sem.run_bind, Sem.run_pure, Result.andThen_ok, List.map_toArray, List.map_cons, List.map_nil, hs, hrun]
  exact hK' _ _ hK
theorem ents_size (F : Nat → Fil) (S : Nat → Value) (n : Nat) : (ents F S n).size = n := by simp [ents]

def insF (F : Nat → Fil) (s : ByteArray) (k i : Nat) : Fil := if i < k then F i else if i = k then ⟨s, 0, fun _ => 0, 0⟩ else F (i - 1)
/-- The place of a name that is not there. -/
structure Rank (F : Nat → Fil) (n : Nat) (s : ByteArray) (k : Nat) : Prop where
  le : k ≤ n
  lo : ∀ i, i < k → Op.bytesLess (F i).nm.toList s.toList = true
  hi : ∀ i, k ≤ i → i < n → Op.bytesLess s.toList (F i).nm.toList = true
theorem toList_inj {a b : ByteArray} (h : a.toList = b.toList) : a = b := by
  rw [ByteArray.toList_eq, ByteArray.toList_eq] at h
  cases a; cases b
  exact congrArg ByteArray.mk (Array.toList_inj.1 h)
theorem rank_ex {F : Nat → Fil} {s : ByteArray} : ∀ {n : Nat}, (∀ i, i < n → fileOk F i = true) → (∀ j, j < n → (F j).nm ≠ s) → ∃ k, Rank F n s k
  | 0, _, _ => ⟨0, Nat.le_refl _, fun i hi => absurd hi (Nat.not_lt_zero _), fun i _ hi => absurd hi (Nat.not_lt_zero _)⟩
  | n + 1, hK, hs => by
    obtain ⟨k, h1, h2, h3⟩ := rank_ex (n := n) (fun i hi => hK i (by omega)) (fun j hj => hs j (by omega))
    cases hb : Op.bytesLess (F n).nm.toList s.toList with
    | true =>
      have hk : k = n := by
        rcases Nat.lt_or_ge k n with hk | hk
        · have g1 := h3 k (Nat.le_refl _) hk
          have g2 := names_rise hK (n - k - 1) k (by omega)
          rw [show k + (n - k - 1 + 1) = n by omega] at g2
          have := bl_trans _ _ _ (bl_trans _ _ _ g1 g2) hb
          rw [bl_self] at this
          exact absurd this (by decide)
        · omega
      exact ⟨n + 1, Nat.le_refl _, fun i hi => by
        by_cases e : i = n
        · subst e; exact hb
        · exact h2 i (by omega), fun i h4 h5 => by omega⟩
    | false =>
      have hb2 : Op.bytesLess s.toList (F n).nm.toList = true := by
        cases h : Op.bytesLess s.toList (F n).nm.toList with
        | true => rfl
        | false => exact absurd (toList_inj (bl_tot _ _ hb h)) (hs n (by omega))
      exact ⟨k, by omega, h2, fun i h4 h5 => by
        by_cases e : i = n
        · subst e; exact hb2
        · exact h3 i h4 (by omega)⟩

theorem names_lt {F : Nat → Fil} {n i j : Nat} (hK : ∀ i, i < n → fileOk F i = true) (hij : i < j) (hj : j < n) : Op.bytesLess (F i).nm.toList (F j).nm.toList = true := by
  have := names_rise hK (j - i - 1) i (by omega)
  rwa [show i + (j - i - 1 + 1) = j by omega] at this
theorem insF_rise {F : Nat → Fil} {n k : Nat} {s : ByteArray} (hK : ∀ i, i < n → fileOk F i = true) (hR : Rank F n s k) {i j : Nat} (hij : i < j) (hj : j < n + 1) : Op.bytesLess (insF F s k i).nm.toList (insF F s k j).nm.toList = true := by
  have hle := hR.le
  unfold insF
  by_cases h1 : i < k
  · by_cases h2 : j < k
    · rw [if_pos h1, if_pos h2]; exact names_lt hK hij (by omega)
    · by_cases h3 : j = k
      · rw [if_pos h1, if_neg h2, if_pos h3]; exact hR.lo i h1
      · rw [if_pos h1, if_neg h2, if_neg h3]; exact names_lt hK (by omega) (by omega)
  · by_cases h3 : i = k
    · rw [if_neg h1, if_pos h3, if_neg (by omega), if_neg (by omega)]; exact hR.hi _ (by omega) (by omega)
    · rw [if_neg h1, if_neg h3, if_neg (by omega), if_neg (by omega)]; exact names_lt hK (by omega) (by omega)

/-- The list with x put in at k. -/
def insL (l : List FT) (x : FT) (k : Nat) : List FT := l.take k ++ x :: l.drop k
theorem insL_perm (l : List FT) (x : FT) (k : Nat) : (insL l x k).Perm (l ++ [x]) := by
  unfold insL
  have h1 : (l.take k ++ x :: l.drop k).Perm (x :: (l.take k ++ l.drop k)) := List.perm_middle
  rw [List.take_append_drop] at h1
  exact h1.trans (List.perm_append_comm (l₁ := [x]) (l₂ := l))
theorem insL_at {l : List FT} {x y : FT} {k i : Nat} (hk : k ≤ l.length) (h : (insL l x k)[i]? = some y) : (i < k ∧ l[i]? = some y) ∨ (i = k ∧ y = x) ∨ (k < i ∧ l[i - 1]? = some y) := by
  unfold insL at h
  have hl : (l.take k).length = k := by rw [List.length_take]; omega
  by_cases h1 : i < k
  · rw [List.getElem?_append_left (by omega), List.getElem?_take_of_lt h1] at h
    exact .inl ⟨h1, h⟩
  · rw [List.getElem?_append_right (by omega), hl] at h
    by_cases h2 : i = k
    · subst h2
      simp at h
      exact .inr (.inl ⟨rfl, h.symm⟩)
    · obtain ⟨d, hd⟩ : ∃ d, i - k = d + 1 := ⟨i - k - 1, by omega⟩
      rw [hd, List.getElem?_cons_succ, List.getElem?_drop] at h
      exact .inr (.inr ⟨by omega, by rw [show i - 1 = k + d by omega]; exact h⟩)
theorem insL_length (l : List FT) (x : FT) (k : Nat) : (insL l x k).length = l.length + 1 := by
  have := (insL_perm l x k).length_eq
  simpa using this

end Go.Proofs.YtiojjihonmonkaaDoor
