/- slices.Equal over metas: the same, and of unlike length. / A row of metas put behind a row of the call's own. -/
import Derived.Test.YtagkhohglpjjlaaAp
import Derived.Maps.AppendAt
namespace Go.Proofs.Ytagkhohglpjjlaa
open Go.RowKit
set_option linter.unusedSimpArgs false
set_option linter.unusedVariables false

set_option maxHeartbeats 1600000 in
theorem equalM_len (ao bo : Option Addr) (n m ca cb : Nat) (w : World) (hn : n ≠ m) (h1 : n ≤ 1048576) (h2 : m ≤ 1048576) :
    Calls Try.prog 38 #[.slice ao n ca, .slice bo m cb] w fun e w' => e = .returned (.bool false) ∧ Below w.heap.size w w' := by
  have hnm : ¬ (n : Int) = (m : Int) := by omega
  go_enter Try.func38, Try.ntmps38
  go_wp2
  go_ret
  exact ⟨rfl, Below.refl _ _⟩

set_option maxHeartbeats 1600000 in
theorem equalM_same (ao bo : Option Addr) (n ca cb : Nat) (X : Nat → Met) (w : World) (hr : MRow w ao n X) (hs : MRow w bo n X) (hn : n ≤ 1048576) :
    Calls Try.prog 38 #[.slice ao n ca, .slice bo n cb] w fun e w' => e = .returned (.bool true) ∧ Below w.heap.size w w' := by
  obtain ⟨_, hl⟩ := hr
  obtain ⟨_, hm⟩ := hs
  go_enter Try.func38, Try.ntmps38
  go_wp2
  go_loopw [13] (fun i wr => ∃ k : Nat, k ≤ n ∧ i = .int .i64 k ∧ Below w.heap.size w wr) (fun i _ => n - (intOf i).toNat)
  case atStart => exact ⟨0, Nat.zero_le _, rfl, Below.refl _ _⟩
  case round =>
    obtain ⟨k, hk, rfl, hbk⟩ := hrel
    by_cases hlt : k < n
    · obtain ⟨b, off, rfl, hblt, hc⟩ := hl.resolve_left (by omega)
      obtain ⟨b', off', rfl, hblt', hc'⟩ := hm.resolve_left (by omega)
      obtain ⟨_, a0, a1, a2, a3⟩ := (hc k hlt).keep hbk
      obtain ⟨_, d0, d1, d2, d3⟩ := (hc' k hlt).keep hbk
      clear hc hc' hl hm
      go_wp2
      go_quiet (fail)
      go_wp2
      go_roundw
      case rel => exact ⟨k + 1, by omega, by go_num, below_drewN hbk _⟩
      case measure => simp [intOf]; omega
    · go_wp2
      go_ret
      exact ⟨rfl, hbk⟩

/-- A file that is in no meta of a level. -/
theorem wo_none {L : List Met} {file : Int} (h : ∀ m ∈ L, m.file ≠ file) : wo L file = L := by
  unfold wo
  rw [List.filter_eq_self]
  intro m hm
  exact bne_iff_ne.2 (h m hm)
theorem wo_some {L : List Met} {file : Int} {m : Met} (hm : m ∈ L) (h : m.file = file) : (wo L file).length < L.length := by
  unfold wo
  have h1 := List.length_filter_le (fun m : Met => m.file != file) L
  rcases Nat.lt_or_eq_of_le h1 with h2 | h2
  · exact h2
  · have := (List.length_filter_eq_length_iff.1 h2) m hm
    simp [h] at this
end Go.Proofs.Ytagkhohglpjjlaa
namespace Go.Proofs.Ytagkhohglpjjlaa
open Go.RowKit
set_option linter.unusedSimpArgs false
set_option linter.unusedVariables false

/-- Nothing put behind, whatever room it is said to have. -/
theorem wpList_app_none {P : Program} {w : World} {ops : Array Oper} {rest : List Oper} {o : Oper} {a : Act} {Q : Exit → Act → World → Prop} (hgd : o.guard = none) (s x : Operand) (t : TypeId)
    (ho : o.op = .call { callee := .builtin .append, args := #[s, x], argTypes := #[t, t] })
    (base : Nat) (e : TypeId) (i : TypeInfo) (size : Nat) (ht : P.underlying t = some (.slice e)) (hi : P.info? e = some i)
    (v : Value) (n : Nat) (xs : List Value) (hs : a.eval s = v) (hown : w.ownsRow base e size v n xs) (c : Nat) (hx : a.eval x = .slice none 0 c)
    (h : wpList P ops Q rest (a.put o.dst v) w) : wpList P ops Q (o :: rest) a w := by
  refine wpList_plain hgd fun K hK => ?_
  have hrun : (Builtin.append_ #[t, t] o.type #[v, .slice none 0 c]).run P w = .ok v w := by
    rcases hown.2 with ⟨rfl, rfl⟩ | ⟨g, cap, cur, rfl, _, _, hnc, _⟩
    · simp [Builtin.append_, run_underlying ht, sizeOf, typeInfo, hi, Builtin.lenOf, Builtin.firstCells]
    · simp [Builtin.append_, run_underlying ht, sizeOf, typeInfo, hi, Builtin.lenOf, Builtin.firstCells, hnc, storeCells]
  unfold Oper.wp
  simp [execOp, ho, resolve, invoke, builtin, hs, hx, hrun, Result.andThen]
  exact hK _ _ h

theorem mc_one (x : Met) : ∀ u ∈ mc x, u.oneCell' = true := by
  intro u hu
  simp only [mc, List.mem_cons, List.not_mem_nil, or_false] at hu
  rcases hu with rfl | rfl | rfl | rfl <;> rfl
theorem mf_one (L : List Met) : ∀ u ∈ L.flatMap mc, u.oneCell' = true := by
  intro u hu
  obtain ⟨x, _, hx⟩ := List.mem_flatMap.1 hu
  exact mc_one x u hx
theorem mf_cell {w : World} {b off : Nat} {M : List Met} (h : ∀ i, i < M.length → MAt w b (off + i * 4) (mL M i)) : ∀ j u, (M.flatMap mc)[j]? = some u → w.cell? ((⟨b, off, none⟩ : Addr).add j) = some u := by
  intro j u hu
  have hj := (List.getElem?_eq_some_iff.1 hu).1
  rw [mf_len] at hj
  have h1 : j / 4 < M.length := by omega
  have h2 : j % 4 < 4 := by omega
  have e : j = j / 4 * 4 + j % 4 := by omega
  have h3 := mf_get M (j / 4) (j % 4) h1 h2
  rw [← e] at h3
  have h4 := (h (j / 4) h1).get (j % 4) h2
  rw [Addr.add_lit, ← hu, h3, ← h4]
  congr 2
  omega

theorem mf_bd {w : World} {ao : Option Addr} {M : List Met} (h : MRow w ao M.length (mL M)) : ∀ x ∈ M, MB x := by
  intro x hx
  obtain ⟨i, hi, rfl⟩ := List.getElem_of_mem hx
  have := h.bd i hi
  simpa [mL, hi] using this

/-- A row put behind. -/
theorem wpList_appM {w : World} {ops : Array Oper} {rest : List Oper} {o : Oper} {a : Act} {Q : Exit → Act → World → Prop} (hgd : o.guard = none) (s x : Operand)
    (ho : o.op = .call { callee := .builtin .append, args := #[s, x], argTypes := #[71, 71] })
    (base : Nat) (v : Value) (L : List Met) (hs : a.eval s = v) (hown : OwnM w base v L)
    (ao : Option Addr) (m c : Nat) (M : List Met) (hx : a.eval x = .slice ao m c) (hm : m = M.length) (hM : MRow w ao M.length (mL M))
    (hsz : L.length + M.length ≤ 4194304) (hbase : base ≤ w.heap.size)
    (h : ∀ v' w', OwnM w' base v' (L ++ M) → w.grownBy w' v.ownBlock → (v'.ownBlock = v.ownBlock ∨ v'.ownBlock = some w.heap.size) → wpList Try.prog ops Q rest (a.put o.dst v') w') :
    wpList Try.prog ops Q (o :: rest) a w := by
  obtain ⟨i0, hi, hz0, hz1, hz2⟩ := info_parts Try.infoM
  have hbd : ∀ z ∈ L ++ M, MB z := fun z hz => by
    rcases List.mem_append.1 hz with hz | hz
    · exact hown.bd z hz
    · exact mf_bd hM z hz
  subst hm
  have fin : ∀ ad : Addr, ao = some ad → (∀ j u, (M.flatMap mc)[j]? = some u → w.cell? (ad.add j) = some u) → wpList Try.prog ops Q (o :: rest) a w := fun ad e hc => by
    subst e
    refine wpList_append_own_at (w := w) hgd s x 71 ho base 52 i0 (.agg #[.int .i64 0, .string ByteArray.empty, .string ByteArray.empty, .int .i64 0]) 4 48 Try.underlying71 hi hz0 hz1 hz2 rfl (by decide) v L.length (L.flatMap mc) hs hown.own ad M.length c (M.flatMap mc) hx (mf_len M) hc (mf_one M) (by unfold maxLen; omega) (by omega) hbase ?_
    intro v' w' h1 h2 _ h4
    refine h v' w' ⟨hbd, ?_⟩ h2 h4
    rw [List.length_append, List.flatMap_append]
    exact h1
  rcases hM.lies with h0 | ⟨b, off, rfl, hblt, hc⟩
  · have hM0 : M = [] := List.length_eq_zero_iff.1 h0
    subst hM0
    cases ao with
    | none =>
      refine wpList_app_none hgd s x 71 ho base 52 i0 4 Try.underlying71 hi v L.length (L.flatMap mc) hs hown.own c hx ?_
      exact h v w (by rw [List.append_nil]; exact hown) ⟨rfl, rfl, rfl, Nat.le_refl _, fun _ _ _ => rfl⟩ (.inl rfl)
    | some ad => exact fin ad rfl (fun j u hu => by simp at hu)
  · exact fin _ rfl (mf_cell hc)

/-- N lists of metas, the call's own, in block g: the i-th is V i and holds LL i. -/
structure Lv (w : World) (base g N : Nat) (V : Nat → Value) (LL : Nat → List Met) : Prop where
  lt : g < w.heap.size
  bs : base ≤ g
  cell : ∀ i, i < N → w.cell? ⟨g, i, none⟩ = some (V i)
  own : ∀ i, i < N → OwnM w base (V i) (LL i)
  apart : ∀ i, i < N → (V i).ownBlock ≠ some g
  dis : ∀ i j, i < N → j < N → i ≠ j → ∀ c, (V i).ownBlock = some c → (V j).ownBlock ≠ some c
  free : ∀ j, j < N → w.frozen? ⟨g, j, none⟩ = false
section
variable {w w' : World} {base g N : Nat} {V : Nat → Value} {LL : Nat → List Met}
theorem Lv.same (h : Lv w base g N V LL) (hs : w.heap.size ≤ w'.heap.size) (hb : ∀ c, base ≤ c → c < w.heap.size → w'.heap[c]? = w.heap[c]?) : Lv w' base g N V LL := by
  have hg := hb g h.bs h.lt
  refine ⟨Nat.lt_of_lt_of_le h.lt hs, h.bs, fun i hi => (World.cell?_of_block (w := w) (w' := w') (a := ⟨g, i, none⟩) hg).trans (h.cell i hi), fun i hi => (h.own i hi).same fun c hc => ?_, h.apart, h.dis, fun j hj => (World.frozen?_of_block (w := w) (a := ⟨g, j, none⟩) hg).trans (h.free j hj)⟩
  have := (h.own i hi).own.lt c hc
  exact hb c this.1 this.2
theorem Lv.keep (h : Lv w base g N V LL) (hb : Below w.heap.size w w') : Lv w' base g N V LL := h.same hb.size fun c _ hc => hb.block c hc
/-- One of them replaced by another of the call's own. -/
theorem Lv.store {k : Nat} {v : Value} {L : List Met} (h : Lv w base g N V LL) (hk : k < N) (ho : OwnM w base v L) (hg : v.ownBlock ≠ some g) (hd : ∀ i, i < N → i ≠ k → ∀ c, (V i).ownBlock = some c → v.ownBlock ≠ some c) :
    Lv (w.setCell ⟨g, k, none⟩ v) base g N (fun i => if i = k then v else V i) (fun i => if i = k then L else LL i) := by
  have hoth : Others g w (w.setCell ⟨g, k, none⟩ v) := Others.setCell _ _ _ _
  have hsame : (w.setCell ⟨g, k, none⟩ v).cell? ⟨g, k, none⟩ = some v := World.cell?_setCell_same _ _ _ (h.cell k hk)
  have hother : ∀ j, j ≠ k → (w.setCell ⟨g, k, none⟩ v).cell? ⟨g, j, none⟩ = w.cell? ⟨g, j, none⟩ := fun j hj => World.cell?_setCell_other _ _ _ _ (by intro hh; injection hh with _ h2 _; omega)
  refine ⟨by rw [hoth.size]; exact h.lt, h.bs, fun i hi => ?_, fun i hi => ?_, fun i hi => ?_, fun i j hi hj hij c hc => ?_, fun j hj => by simpa using h.free j hj⟩
  · by_cases e : i = k
    · subst e; simp only [if_true]; exact hsame
    · simp only [e, if_false]; rw [hother i e]; exact h.cell i hi
  · by_cases e : i = k
    · subst e; simp only [if_true]
      exact ho.same fun c hc => hoth.block c (fun e2 => hg (by rw [hc, e2]))
    · simp only [e, if_false]
      exact (h.own i hi).same fun c hc => hoth.block c (fun e2 => h.apart i hi (by rw [hc, e2]))
  · by_cases e : i = k
    · simp only [e, if_true]; exact hg
    · simp only [e, if_false]; exact h.apart i hi
  · by_cases e : i = k
    · subst e
      simp only [if_true] at hc
      simp only [show ¬ j = i by omega, if_false]
      intro h2
      exact hd j hj (by omega) c h2 hc
    · simp only [e, if_false] at hc
      by_cases e2 : j = k
      · simp only [e2, if_true]
        exact hd i hi e c hc
      · simp only [e2, if_false]
        exact h.dis i j hi hj hij c hc
end
end Go.Proofs.Ytagkhohglpjjlaa
