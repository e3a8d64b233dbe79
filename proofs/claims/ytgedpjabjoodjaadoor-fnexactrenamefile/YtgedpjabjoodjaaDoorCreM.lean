/- create: what it leaves. -/
import Derived.Test.YtgedpjabjoodjaaDoorAppF
namespace Go.Proofs.YtgedpjabjoodjaaDoor
open Go.RowKit
open Go.ChangeMaps (setBlock)
set_option linter.unusedSimpArgs false
set_option linter.unusedVariables false

set_option maxHeartbeats 1000000 in
theorem create_twice (Q : Int) (bm n : Nat) (F : Nat → Fil) (S : Nat → Value) (j : Nat) (hj : j < n) (HK : Hid (∀ i, i < n → fileOk F i = true)) (w : World) (hb : w.heap[bm]? = some (.map (ents F S n) n)) (hS : ∀ i, i < n → ∃ da dc, S i = .slice da (F i).len dc) :
    Calls Tryd.prog 43 #[.agg #[.int .i64 Q, .map (some bm)], .string (F j).nm] w fun e w' => e = .returned (.iface 90 (.agg #[.string (F j).nm, .int .i64 3])) ∧ Below w.heap.size w w' := by
  have hM := mhas_of HK.out hS hb
  obtain ⟨da, dc, hSj⟩ := hS j hj
  have hB : Below w.heap.size w (w.alloc (.cells #[.int .i64 Q, .map (some bm)] 60)) := (Below.refl _ _).alloc (Nat.le_refl _) _
  have hbA : (w.alloc (.cells #[.int .i64 Q, .map (some bm)] 60)).heap[bm]? = some (.map (ents F S n) n) := (hB.block bm hM.lt).trans hb
  go_enter Tryd.func43, Tryd.ntmps43
  go_wp2_with fail
  refine (find_hit Q bm n F S j hj HK _ hbA da dc hSj).mono ?_
  rintro e w1 ⟨rfl, hb1⟩
  have bw1 : Below w.heap.size w w1 := hB.trans (hb1.mono (by simp))
  clear hb1 hB hbA hM
  go_wp2
  go_ret
  exact ⟨rfl, bw1.alloc bw1.size _⟩

theorem run_len_map {w : World} {bm clock : Nat} {es : Array MapEntry} (h : w.heap[bm]? = some (.map es clock)) (N : Nat) (hN : es.size = N) (hs : N ≤ 1048576) (ty : TypeId) :
    (Builtin.len_ #[58] ty #[.map (some bm)]).run Tryd.prog w = .ok (.int .i64 (N : Int)) w := by
  subst hN
  have e : IntKind.i64.wrap (es.size : Int) = (es.size : Int) := by rw [IntKind.wrap_i64]; omega
  simp [Builtin.len_, run_underlying Tryd.underlying58, MapKept.run_getObj_map h, goInt, Result.andThen, e]
theorem wpList_len_run {P : Program} (w : World) {ops : Array Oper} {rest : List Oper} {o : Oper} {a : Act} {Q : Exit → Act → World → Prop}
    (hg : o.guard = none) (s : Operand) (t : TypeId) (hop : o.op = .call { callee := .builtin .len, args := #[s], argTypes := #[t] }) (u r : Value) (hs : a.eval s = u) (w' : World)
    (hrun : ∀ ty, (Builtin.len_ #[t] ty #[u]).run P w = .ok r w') (hK : wpList P ops Q rest (a.put o.dst r) w') : wpList P ops Q (o :: rest) a w := by
  refine wpList_plain hg fun K' hK' => ?_
  unfold Oper.wp execOp
  simp only [hop, resolve, invoke, builtin, Sem.run_bind, Sem.run_pure, Result.andThen_ok, List.map_toArray, List.map_cons, List.map_nil, hs, hrun]
  exact hK' _ _ hK
theorem ents_size (F : Nat → Fil) (S : Nat → Value) (n : Nat) : (ents F S n).size = n := by simp [ents]

set_option maxRecDepth 100000 in
set_option maxHeartbeats 1000000 in
theorem create_full (Q : Int) (bm n : Nat) (F : Nat → Fil) (S : Nat → Value) (s : ByteArray) (hs : ∀ j, j < n → (F j).nm ≠ s) (h40 : 40 ≤ n) (hn : n ≤ 1048576) (w : World) (hb : w.heap[bm]? = some (.map (ents F S n) n)) :
    Calls Tryd.prog 43 #[.agg #[.int .i64 Q, .map (some bm)], .string s] w fun e w' => e = .returned (.iface 90 (.agg #[.string s, .int .i64 4])) ∧ Below w.heap.size w w' := by
  have hlt : bm < w.heap.size := (Array.getElem?_eq_some_iff.1 hb).1
  have hB : Below w.heap.size w (w.alloc (.cells #[.int .i64 Q, .map (some bm)] 60)) := (Below.refl _ _).alloc (Nat.le_refl _) _
  have X0 := QAt.new w Q (.map (some bm)) 60
  have hbA : (w.alloc (.cells #[.int .i64 Q, .map (some bm)] 60)).heap[bm]? = some (.map (ents F S n) n) := (hB.block bm hlt).trans hb
  go_enter Tryd.func43, Tryd.ntmps43
  go_wp2_with fail
  refine (find_miss Q bm n F S s hs _ hbA).mono ?_
  rintro e w1 ⟨rfl, hb1⟩
  have bw1 : Below w.heap.size w w1 := hB.trans (hb1.mono (by simp))
  obtain ⟨lx, x0, x1⟩ := X0.keep hb1
  have bwA := bw1.alloc (B := w.heap.size) bw1.size (.cells #[.string ⟨#[]⟩, .slice none 0 0, .int .i64 0] 73)
  have hlen := run_len_map ((bwA.block bm hlt).trans hb) n (ents_size _ _ _) hn
  have h40' : (40 : Int) ≤ (n : Int) := by omega
  have hlen3 := hlen 3
  clear hb1 hB hbA X0 hlen hb
  go_wp2
  go_ret
  exact ⟨rfl, bwA⟩

def insF (F : Nat → Fil) (s : ByteArray) (k i : Nat) : Fil := if i < k then F i else if i = k then ⟨s, 0, fun _ => 0, 0⟩ else F (i - 1)
/-- The place of a name that is not there. -/
structure Rank (F : Nat → Fil) (n : Nat) (s : ByteArray) (k : Nat) : Prop where
  le : k ≤ n
  lo : ∀ i, i < k → Op.bytesLess (F i).nm.toList s.toList = true
  hi : ∀ i, k ≤ i → i < n → Op.bytesLess s.toList (F i).nm.toList = true
theorem toList_inj {a b : ByteArray} (h : a.toList = b.toList) : a = b := by
  rw [ByteArray.toList_eq, ByteArray.toList_eq] at h
  cases a; cases b
  exact congrArg ByteArray.mk (Array.toList_inj.1 h)
theorem rank_ex {F : Nat → Fil} {s : ByteArray} : ∀ {n : Nat}, (∀ i, i < n → fileOk F i = true) → (∀ j, j < n → (F j).nm ≠ s) → ∃ k, Rank F n s k
  | 0, _, _ => ⟨0, Nat.le_refl _, fun i hi => absurd hi (Nat.not_lt_zero _), fun i _ hi => absurd hi (Nat.not_lt_zero _)⟩
  | n + 1, hK, hs => by
    obtain ⟨k, h1, h2, h3⟩ := rank_ex (n := n) (fun i hi => hK i (by omega)) (fun j hj => hs j (by omega))
    cases hb : Op.bytesLess (F n).nm.toList s.toList with
    | true =>
      have hk : k = n := by
        rcases Nat.lt_or_ge k n with hk | hk
        · have g1 := h3 k (Nat.le_refl _) hk
          have g2 := names_rise hK (n - k - 1) k (by omega)
          rw [show k + (n - k - 1 + 1) = n by omega] at g2
          have := bl_trans _ _ _ (bl_trans _ _ _ g1 g2) hb
          rw [bl_self] at this
          exact absurd this (by decide)
        · omega
      exact ⟨n + 1, Nat.le_refl _, fun i hi => by
        by_cases e : i = n
        · subst e; exact hb
        · exact h2 i (by omega), fun i h4 h5 => by omega⟩
    | false =>
      have hb2 : Op.bytesLess s.toList (F n).nm.toList = true := by
        cases h : Op.bytesLess s.toList (F n).nm.toList with
        | true => rfl
        | false => exact absurd (toList_inj (bl_tot _ _ hb h)) (hs n (by omega))
      exact ⟨k, by omega, h2, fun i h4 h5 => by
        by_cases e : i = n
        · subst e; exact hb2
        · exact h3 i h4 (by omega)⟩

set_option maxRecDepth 100000 in
set_option maxHeartbeats 2000000 in
theorem create_new (Q : Int) (bm n : Nat) (F : Nat → Fil) (S : Nat → Value) (s : ByteArray) (HS : Hid (∀ j, j < n → (F j).nm ≠ s)) (h40 : n < 40) (w : World) (hb : w.heap[bm]? = some (.map (ents F S n) n)) :
    Calls Tryd.prog 43 #[.agg #[.int .i64 Q, .map (some bm)], .string s] w fun e w' => e = .returned .nilIface ∧ ∃ wX, Below w.heap.size w wX ∧ w' = setBlock wX bm (.map ((ents F S n).push { key := .string s, val := .agg #[.string s, .slice none 0 0, .int .i64 0], born := n }) (n + 1)) := by
  have hlt : bm < w.heap.size := (Array.getElem?_eq_some_iff.1 hb).1
  have hB : Below w.heap.size w (w.alloc (.cells #[.int .i64 Q, .map (some bm)] 60)) := (Below.refl _ _).alloc (Nat.le_refl _) _
  have X0 := QAt.new w Q (.map (some bm)) 60
  have hbA : (w.alloc (.cells #[.int .i64 Q, .map (some bm)] 60)).heap[bm]? = some (.map (ents F S n) n) := (hB.block bm hlt).trans hb
  go_enter Tryd.func43, Tryd.ntmps43
  go_wp2_with fail
  refine (find_miss Q bm n F S s HS.out _ hbA).mono ?_
  rintro e w1 ⟨rfl, hb1⟩
  have bw1 : Below w.heap.size w w1 := hB.trans (hb1.mono (by simp))
  obtain ⟨lx, x0, x1⟩ := X0.keep hb1
  have bwA := bw1.alloc (B := w.heap.size) bw1.size (.cells #[.string ⟨#[]⟩, .slice none 0 0, .int .i64 0] 73)
  have hbm := (bwA.block bm hlt).trans hb
  have hlen := run_len_map hbm n (ents_size _ _ _) (by omega)
  have h40' : ¬ (40 : Int) ≤ (n : Int) := by omega
  have hlen3 := hlen 3
  have hup := run_mapUpdate_new (P := Tryd.prog) (mty := 58) (kt := 9) (et := 73) (s := s) (.agg #[.string s, .slice none 0 0, .int .i64 0]) Tryd.underlying58 Tryd.underlying9 hbm ents_keys (fun x hx he => by
    obtain ⟨i, hi, rfl⟩ := mem_ents hx
    simp only [ent, Value.string.injEq] at he
    exact HS.out i hi he)
  clear hb1 hB hbA X0 hlen hb hbm
  generalize hE : (ents F S n).push { key := .string s, val := .agg #[.string s, .slice none 0 0, .int .i64 0], born := n } = E at *
  have HE : Hid ((ents F S n).push { key := .string s, val := .agg #[.string s, .slice none 0 0, .int .i64 0], born := n } = E) := hE
  clear hE
  go_wp2_with (at_mapUpdate; refine wpList_mapUpdate_run _ rfl (.tmp 26) (.tmp 27) (.tmp 29) 58 rfl _ _ _ rfl rfl rfl _ hup ?_)
  go_ret
  rw [HE.out]
  exact ⟨rfl, _, bwA, rfl⟩

theorem names_lt {F : Nat → Fil} {n i j : Nat} (hK : ∀ i, i < n → fileOk F i = true) (hij : i < j) (hj : j < n) : Op.bytesLess (F i).nm.toList (F j).nm.toList = true := by
  have := names_rise hK (j - i - 1) i (by omega)
  rwa [show i + (j - i - 1 + 1) = j by omega] at this
theorem insF_rise {F : Nat → Fil} {n k : Nat} {s : ByteArray} (hK : ∀ i, i < n → fileOk F i = true) (hR : Rank F n s k) {i j : Nat} (hij : i < j) (hj : j < n + 1) : Op.bytesLess (insF F s k i).nm.toList (insF F s k j).nm.toList = true := by
  have hle := hR.le
  unfold insF
  by_cases h1 : i < k
  · by_cases h2 : j < k
    · rw [if_pos h1, if_pos h2]; exact names_lt hK hij (by omega)
    · by_cases h3 : j = k
      · rw [if_pos h1, if_neg h2, if_pos h3]; exact hR.lo i h1
      · rw [if_pos h1, if_neg h2, if_neg h3]; exact names_lt hK (by omega) (by omega)
  · by_cases h3 : i = k
    · rw [if_neg h1, if_pos h3, if_neg (by omega), if_neg (by omega)]; exact hR.hi _ (by omega) (by omega)
    · rw [if_neg h1, if_neg h3, if_neg (by omega), if_neg (by omega)]; exact names_lt hK (by omega) (by omega)

/-- The list with x put in at k. -/
def insL (l : List FT) (x : FT) (k : Nat) : List FT := l.take k ++ x :: l.drop k
theorem insL_perm (l : List FT) (x : FT) (k : Nat) : (insL l x k).Perm (l ++ [x]) := by
  unfold insL
  have h1 : (l.take k ++ x :: l.drop k).Perm (x :: (l.take k ++ l.drop k)) := List.perm_middle
  rw [List.take_append_drop] at h1
  exact h1.trans (List.perm_append_comm (l₁ := [x]) (l₂ := l))
theorem insL_at {l : List FT} {x y : FT} {k i : Nat} (hk : k ≤ l.length) (h : (insL l x k)[i]? = some y) : (i < k ∧ l[i]? = some y) ∨ (i = k ∧ y = x) ∨ (k < i ∧ l[i - 1]? = some y) := by
  unfold insL at h
  have hl : (l.take k).length = k := by rw [List.length_take]; omega
  by_cases h1 : i < k
  · rw [List.getElem?_append_left (by omega), List.getElem?_take_of_lt h1] at h
    exact .inl ⟨h1, h⟩
  · rw [List.getElem?_append_right (by omega), hl] at h
    by_cases h2 : i = k
    · subst h2
      simp at h
      exact .inr (.inl ⟨rfl, h.symm⟩)
    · obtain ⟨d, hd⟩ : ∃ d, i - k = d + 1 := ⟨i - k - 1, by omega⟩
      rw [hd, List.getElem?_cons_succ, List.getElem?_drop] at h
      exact .inr (.inr ⟨by omega, by rw [show i - 1 = k + d by omega]; exact h⟩)
theorem insL_length (l : List FT) (x : FT) (k : Nat) : (insL l x k).length = l.length + 1 := by
  have := (insL_perm l x k).length_eq
  simpa using this

theorem create_out {Q : Int} {n k bm : Nat} {F : Nat → Fil} {S : Nat → Value} {G : Nat → Nat} {s : ByteArray} (hR : Rank F n s k) (hm : ∀ j, j < n → (F j).nm ≠ s) (h40 : n < 40) (hK : ∀ i, i < n → fileOk F i = true) (hbd : ∀ i, i < n → ∀ j, 0 ≤ (F i).f j ∧ (F i).f j ≤ 255) (w : World) (hM : w.heap[bm]? = some (.map (ents F S n) n)) (hD : DOwn w (bm + 2) n F S G) :
    Calls Tryd.prog 43 #[.agg #[.int .i64 Q, .map (some bm)], .string s] w fun e w' => MOut 0 (n + 1) (insF F s k) n F G bm w e w' := by
  have hlt : bm < w.heap.size := (Array.getElem?_eq_some_iff.1 hM).1
  have hS := hD.len
  have hle := hR.le
  refine (create_new Q bm n F S s hm h40 w hM).mono ?_
  rintro e w' ⟨rfl, wX, hb, rfl⟩
  have hMX := mhas_of hK hS ((hb.block bm hlt).trans hM)
  have hltX : bm < wX.heap.size := hMX.lt
  have hes : (ents F S n).push { key := .string s, val := .agg #[.string s, .slice none 0 0, .int .i64 0], born := n } = esOf (lOf F S n ++ [((s, (none, 0, 0), 0), n)]) := by
    rw [ents_lOf hS]
    apply Array.ext'
    simp [esOf, mkE, fval]
  rw [hes]
  have hDX : DOwn (setBlock wX bm (.map (esOf (lOf F S n ++ [((s, (none, 0, 0), 0), n)])) (n + 1))) (bm + 2) n F S G := (hD.keep hb).low' (size_setBlock _ _ _) (fun k hk => heap_setBlock_ne _ _ _ (by omega))
  have hz := zown_of hDX hbd
  have hll : ((lOf F S n).map (·.1)).length = n := by rw [List.length_map, lOf_len]
  have hup : MHas (setBlock wX bm (.map (esOf (lOf F S n ++ [((s, (none, 0, 0), 0), n)])) (n + 1))) bm (lOf F S n ++ [((s, (none, 0, 0), 0), n)]) (n + 1) := by
    refine ⟨heap_setBlock _ _ _ hltX, ?_, fun p hp => ?_, ?_⟩
    · rw [List.map_append, List.nodup_append]
      refine ⟨hMX.born, by simp, fun a ha b hb' e => ?_⟩
      obtain ⟨p, hp, rfl⟩ := List.mem_map.1 ha
      simp at hb'
      have := hMX.old p hp
      omega
    · rcases List.mem_append.1 hp with hp | hp
      · have := hMX.old p hp; omega
      · rw [List.mem_singleton.1 hp]; show n < n + 1; omega
    · rw [List.map_append, List.nodup_append]
      refine ⟨hMX.names, by simp, fun a ha b hb' e => ?_⟩
      obtain ⟨p, hp, rfl⟩ := List.mem_map.1 ha
      simp only [lOf, List.mem_map, List.mem_range] at hp
      obtain ⟨i, hi, rfl⟩ := hp
      simp at hb'
      exact hm i hi (by rw [← hb', ← e]; rfl)
  refine ⟨_, _, n + 1, insL ((lOf F S n).map (·.1)) (s, (none, 0, 0), 0) k, fun i => if i < k then G i else G (i - 1), rfl, errNil, .inl rfl, hup, by rw [List.length_append, lOf_len]; simp; omega, by rw [List.map_append]; exact insL_perm _ _ _, ?_, ⟨by rw [insL_length, hll], fun i x hx => ?_, fun i hi j => ?_, fun i j hij hj h1 h2 => ?_⟩, below_setBlock (hb.mono (Nat.le_of_lt hlt)) (Nat.le_refl _) _, fun k hk hne _ => (heap_setBlock_ne _ _ _ hne).trans (hb.block k hk)⟩
  · rw [List.pairwise_iff_getElem]
    have nm : ∀ i (hi : i < (insL ((lOf F S n).map (·.1)) (s, (none, 0, 0), 0) k).length), (insL ((lOf F S n).map (·.1)) (s, (none, 0, 0), 0) k)[i].1 = (insF F s k i).nm := fun i hi => by
      have hx := List.getElem?_eq_getElem hi
      have hi' : i < n + 1 := by rw [insL_length, hll] at hi; exact hi
      rcases insL_at (by rw [hll]; exact hle) hx with ⟨h1, h2⟩ | ⟨h1, h2⟩ | ⟨h1, h2⟩
      · rw [List.getElem?_map, lOf_at F S (by omega)] at h2
        simp only [Option.map_some, Option.some.injEq] at h2
        rw [← h2]
        unfold insF; rw [if_pos h1]; rfl
      · rw [h2]; unfold insF; rw [if_neg (by omega), if_pos h1]
      · rw [List.getElem?_map, lOf_at F S (by omega)] at h2
        simp only [Option.map_some, Option.some.injEq] at h2
        rw [← h2]
        unfold insF; rw [if_neg (by omega), if_neg (by omega)]; rfl
    intro i j hi hj hij
    rw [nm i hi, nm j hj]
    exact insF_rise hK hR hij (by rw [insL_length, hll] at hj; exact hj)
  · have hi' : i < n + 1 := by
      have := (List.getElem?_eq_some_iff.1 hx).1
      rwa [insL_length, hll] at this
    unfold insF
    rcases insL_at (by rw [hll]; exact hle) hx with ⟨h1, h2⟩ | ⟨h1, h2⟩ | ⟨h1, h2⟩
    · simp only [h1, if_true]; exact hz.data i x h2
    · subst h1
      simp only [Nat.lt_irrefl, if_false, if_true]
      rw [h2]
      exact ⟨rfl, rfl, rfl, .inl trivial⟩
    · have n1 : ¬ i < k := by omega
      have n2 : ¬ i = k := by omega
      simp only [n1, n2, if_false]; exact hz.data (i - 1) x h2
  · unfold insF
    by_cases h1 : i < k
    · simp only [h1, if_true]; exact hbd i (by omega) j
    · by_cases h2 : i = k
      · simp [h2]
      · simp only [h1, h2, if_false]; exact hbd (i - 1) (by omega) j
  · unfold insF at h1 h2
    by_cases a1 : i < k
    · by_cases a2 : j < k
      · simp only [a1, a2, if_true] at h1 h2 ⊢; exact hz.apart i j hij (by omega) h1 h2
      · by_cases a3 : j = k
        · simp [a3] at h2
        · simp only [a1, a2, a3, if_true, if_false] at h1 h2 ⊢; exact hz.apart i (j - 1) (by omega) (by omega) h1 h2
    · by_cases a3 : i = k
      · simp [a3] at h1
      · have a2 : ¬ j < k := by omega
        have a4 : ¬ j = k := by omega
        simp only [a1, a2, a3, a4, if_false] at h1 h2 ⊢; exact hz.apart (i - 1) (j - 1) (by omega) (by omega) h1 h2
end Go.Proofs.YtgedpjabjoodjaaDoor
