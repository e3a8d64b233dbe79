/- ReadAgg in the model. -/
import Derived.Test.YtohjjigkfdhklaaGreatEa
import Derived.Test.YtohjjigkfdhklaaGreatRa
import Derived.Test.YtohjjigkfdhklaaGreatGe
import Derived.Test.YtohjjigkfdhklaaGreatBytI
import Derived.Deep.AppendLies
namespace Go.Proofs.YtohjjigkfdhklaaGreat
set_option maxRecDepth 100000
open Go.RowKit
set_option linter.unusedSimpArgs false
set_option linter.unusedVariables false

/-- What ReadAgg leaves in the model. -/
def RAS (f : Nat → Int) (n : Nat) (w : World) (e : Ending) (w' : World) : Prop :=
  (∃ N G c, RAg f n N ∧ e = .returned (.tuple #[.agg #[.int .i64 (fi N 0), .int .i64 (fi N 1), .int .i64 (fi N 2), .int .i64 (fi N 3), .slice (some ⟨G, 0, none⟩) 8 c, .bool (f 0 == 1)], .bool true]) ∧ w.heap.size ≤ G ∧ IOwn w' G 0 8 (fun i => fi N (i + 4)) ∧ Below w.heap.size w w') ∨
  ((∀ N, ¬ RAg f n N) ∧ e = .returned (.tuple #[.agg #[.int .i64 0, .int .i64 0, .int .i64 0, .int .i64 0, .slice none 0 0, .bool false], .bool false]) ∧ Below w.heap.size w w')
/-- The zero agg in a box. -/
structure ZA (w : World) (D : Nat) : Prop where
  lt : D < w.heap.size
  z0 : w.cell? ⟨D, 0, none⟩ = some (.int .i64 0)
  z1 : w.cell? ⟨D, 1, none⟩ = some (.int .i64 0)
  z2 : w.cell? ⟨D, 2, none⟩ = some (.int .i64 0)
  z3 : w.cell? ⟨D, 3, none⟩ = some (.int .i64 0)
  z4 : w.cell? ⟨D, 4, none⟩ = some (.slice none 0 0)
  z5 : w.cell? ⟨D, 5, none⟩ = some (.bool false)
  fz : ∀ j, w.frozen? ⟨D, j, none⟩ = false
theorem ZA.new (w : World) (T : Nat) : ZA (w.alloc (.cells #[.int .i64 0, .int .i64 0, .int .i64 0, .int .i64 0, .slice none 0 0, .bool false] T)) w.heap.size := by
  refine ⟨by simp, ?_, ?_, ?_, ?_, ?_, ?_, fun j => ?_⟩ <;> simp [go_sem]
theorem ZA.same {w w' : World} {D : Nat} (h : ZA w D) (hs : w.heap.size ≤ w'.heap.size) (hb : w'.heap[D]? = w.heap[D]?) : ZA w' D :=
  have k : ∀ j, w'.cell? ⟨D, j, none⟩ = w.cell? ⟨D, j, none⟩ := fun j => World.cell?_of_block (w := w) (a := ⟨D, j, none⟩) hb
  ⟨Nat.lt_of_lt_of_le h.lt hs, (k 0).trans h.z0, (k 1).trans h.z1, (k 2).trans h.z2, (k 3).trans h.z3, (k 4).trans h.z4, (k 5).trans h.z5, fun j => (World.frozen?_of_block (w := w) (a := ⟨D, j, none⟩) hb).trans (h.fz j)⟩
theorem ZA.keep {w w' : World} {D : Nat} (h : ZA w D) (hb : Below w.heap.size w w') : ZA w' D := h.same hb.size (hb.block D h.lt)
theorem ZA.grown {w w' : World} {D : Nat} {row : Option Nat} (h : ZA w D) (hg : w.grownBy w' row) (hne : row ≠ some D) : ZA w' D := h.same hg.size (hg.block D h.lt (fun e => hne e.symm))
theorem IOwn.oth {w w' : World} {G n D : Nat} {F : Nat → Int} (h : IOwn w G 0 n F) (ho : Others D w w') (hne : G ≠ D) : IOwn w' G 0 n F :=
  ⟨h.bd, by rw [ho.size]; exact h.lt, fun i hi => (World.cell?_of_block (w := w) (a := ⟨G, 0 + i, none⟩) (ho.block G hne)).trans (h.cell i hi), fun i hi => (World.frozen?_of_block (w := w) (a := ⟨G, 0 + i, none⟩) (ho.block G hne)).trans (h.free i hi)⟩
def slen (v : Value) : Nat := match v with | .slice _ m _ => m | _ => 0

theorem rdNs_take {f : Nat → Int} {n : Nat} : ∀ {m : Nat} {N : List Int} {a : Int}, rdNs f n m = some (N, a) → ∀ k, k ≤ m → ∃ q, rdNs f n k = some (N.take k, q) ∧ (k < m → fi N k = unfI (rdVar f n q).1)
  | 0, N, a, h, k, hk => by
    obtain rfl : k = 0 := by omega
    exact ⟨1, by simp [rdNs], fun h => absurd h (by omega)⟩
  | m + 1, N, a, h, k, hk => by
    have h0 := h
    unfold rdNs at h
    split at h
    · cases h
    · next L q hq =>
      split at h
      · next ok =>
        simp only [Option.some.injEq, Prod.mk.injEq] at h
        obtain ⟨rfl, rfl⟩ := h
        have hl := (rdNs_pos hq).2.2
        by_cases e : k = m + 1
        · subst e
          exact ⟨_, by rw [h0, List.take_of_length_le (by simp [hl])], fun h => absurd h (by omega)⟩
        · obtain ⟨q', h1, h2⟩ := rdNs_take hq k (by omega)
          refine ⟨q', by rw [h1, List.take_append_of_le_length (by omega)], fun _ => ?_⟩
          by_cases e2 : k = m
          · subst e2
            rw [hq, List.take_of_length_le (by omega)] at h1
            simp only [Option.some.injEq, Prod.mk.injEq] at h1
            rw [← h1.2]
            simp [fi, List.getD_eq_getElem?_getD, ← hl]
          · rw [← h2 (by omega)]
            simp only [fi, List.getD_eq_getElem?_getD]
            rw [List.getElem?_append_left (by omega)]
      · cases h
/-- A number that is too great is in no agg. -/
theorem big_no {f : Nat → Int} {n : Nat} {L : List Int} {q : Int} (h : rdNs f n L.length = some (L, q)) (hl : L.length < 12) (hu : 4611686018427387904 < (rdVar f n q).1) : ∀ N, ¬ RAg f n N := by
  intro N hN
  obtain ⟨q', h1, h2⟩ := rdNs_take hN.1 L.length (by omega)
  rw [h] at h1
  simp only [Option.some.injEq, Prod.mk.injEq] at h1
  rw [← h1.2] at h2
  have h3 := h2 hl
  have h4 := GoodA.nums hN.2.2 L.length hl
  have h5 : nm (fi N 0) (fi N 1) (fi N 2) (fi N 3) (fun i => fi N (i + 4)) L.length = fi N L.length := by
    unfold nm
    repeat' split
    · next e => rw [e]
    · next e => rw [e]
    · next e => rw [e]
    · next e => rw [e]
    · show fi N (L.length - 4 + 4) = _
      congr 1
      omega
  rw [h5, h3] at h4
  unfold unfI at h4
  split at h4 <;> omega

section
variable {w : World} {ops : Array Oper} {o : Oper} {a : Act} {K : Act → World → Prop} {Q : Exit → Act → World → Prop} {E : Prop}
theorem step_allocA (hgd : o.guard = none) (ho : o.op = .alloc 33)
    (h : K (a.put o.dst (.pointer (some ⟨w.heap.size, 0, none⟩))) (w.alloc (.cells #[.int .i64 0, .int .i64 0, .int .i64 0, .int .i64 0, .slice none 0 0, .bool false] 33))) :
    if Region.wanted o (yielded ops a.tmps) = true then Oper.wp Tryz.prog o a w K Q else E := by
  have hw : Region.wanted o (yielded ops a.tmps) = true := by simp [Region.wanted, hgd]
  rw [if_pos hw]
  unfold Oper.wp execOp
  simp only [ho]
  go_simp
  exact h
/-- The agg of the numbers L, laid. -/
def layA (w : World) (P : Nat) (L : List Int) (G c : Nat) (t : Bool) : World := (((((w.setCell ⟨P, 0, none⟩ (.int .i64 (fi L 0))).setCell ⟨P, 1, none⟩ (.int .i64 (fi L 1))).setCell ⟨P, 2, none⟩ (.int .i64 (fi L 2))).setCell ⟨P, 3, none⟩ (.int .i64 (fi L 3))).setCell ⟨P, 4, none⟩ (.slice (some ⟨G, 0, none⟩) 8 c)).setCell ⟨P, 5, none⟩ (.bool t)
theorem step_storeA (hgd : o.guard = none) (k j : Nat) (ho : o.op = .store 33 (.tmp k) (.tmp j)) (P : Nat) (L : List Int) (G c : Nat) (t : Bool) (hx : a.eval (.tmp k) = .pointer (some ⟨P, 0, none⟩)) (hv : a.eval (.tmp j) = .agg #[.int .i64 (fi L 0), .int .i64 (fi L 1), .int .i64 (fi L 2), .int .i64 (fi L 3), .slice (some ⟨G, 0, none⟩) 8 c, .bool t]) (Z : ZA w P)
    (h : K (a.put o.dst undef) (layA w P L G c t)) :
    if Region.wanted o (yielded ops a.tmps) = true then Oper.wp Tryz.prog o a w K Q else E := by
  have hw : Region.wanted o (yielded ops a.tmps) = true := by simp [Region.wanted, hgd]
  rw [if_pos hw]
  have hx' : a.tmps.getD k undef = .pointer (some ⟨P, 0, none⟩) := hx
  have hv' : a.tmps.getD j undef = .agg #[.int .i64 (fi L 0), .int .i64 (fi L 1), .int .i64 (fi L 2), .int .i64 (fi L 3), .slice (some ⟨G, 0, none⟩) 8 c, .bool t] := hv
  obtain ⟨lt, h0, h1, h2, h3, h4, h5, fz⟩ := Z
  unfold layA at h
  unfold Oper.wp execOp
  simp only [ho, Act.eval, hx', hv']
  go_simp
  exact h
theorem step_buildE (hgd : o.guard = none) (ho : o.op = .buildSlice 31 0 #[])
    (h : K (a.put o.dst (.slice (some ⟨w.heap.size, 0, none⟩) 0 0)) (w.alloc (.cells #[] 3))) :
    if Region.wanted o (yielded ops a.tmps) = true then Oper.wp Tryz.prog o a w K Q else E := by
  have hw : Region.wanted o (yielded ops a.tmps) = true := by simp [Region.wanted, hgd]
  rw [if_pos hw]
  unfold Oper.wp execOp
  simp only [ho, List.map_toArray, List.map_nil]
  go_simp
  exact h
end
/-- The last eight of twelve ints put behind an empty slice in block B0. -/
theorem appE8 (w : World) (B0 : Nat) (hB0 : w.heap[B0]? = some (.cells #[] 3 (0, 0))) (b dc : Nat) (F : Nat → Int) (ho : IOwn w b 0 12 F) :
    ∃ G c w', (Builtin.append_ #[31, 31] 31 #[.slice (some ⟨B0, 0, none⟩) 0 0, .slice (some ⟨b, 4, none⟩) 8 dc]).run Tryz.prog w = .ok (.slice (some ⟨G, 0, none⟩) 8 c) w' ∧ (G = B0 ∨ G = w.heap.size) ∧ IOwn w' G 0 8 (fun i => F (i + 4)) ∧ w.grownBy w' (some B0) := by
  obtain ⟨i0, hi, hz0, hz1, hz2⟩ := info_parts Tryz.infoInt
  have hB0lt : B0 < w.heap.size := (Array.getElem?_eq_some_iff.1 hB0).1
  obtain ⟨g, cap, w', hrun, hown, hgrow, hat, hlt'⟩ := run_append_lies (P := Tryz.prog) w 31 0 B0 3 i0 (.int .i64 0) 1 8 Tryz.underlying31 hi hz0 hz1 hz2 rfl (by decide) (.slice (some ⟨B0, 0, none⟩) 0 0) 0 [] ⟨rfl, .inr ⟨B0, 0, #[], rfl, Nat.le_refl _, hB0, Nat.le_refl _, Nat.zero_le _, rfl, rfl⟩⟩ ⟨b, 4, none⟩ 8 dc ((List.range 8).map fun i => Value.int .i64 (F (i + 4))) (by simp)
    (fun j u hu => by
      have hj : j < 8 := by
        have := (List.getElem?_eq_some_iff.1 hu).1
        simpa using this
      have := ho.cell (4 + j) (by omega)
      rw [Nat.zero_add] at this
      rw [Addr.add_lit, this, ← hu]
      simp [hj, Nat.add_comm])
    (fun u hu => by obtain ⟨i, _, rfl⟩ := List.mem_map.1 hu; rfl) (by omega) (by unfold maxLen; omega) (by omega) (by omega) w.heap.size rfl
  rw [Nat.zero_add] at hrun hown
  rw [List.nil_append] at hown
  refine ⟨g, cap, w', hrun, ?_, ⟨fun i => ho.bd _, hlt', fun i hi => ?_, fun i _ => by simpa using hown.frozenAt i⟩, hgrow⟩
  · rcases hat with h | h
    · simp [Value.ownBlock] at h; exact .inl h.symm
    · exact .inr (by omega)
  · rw [Nat.zero_add, hown.cellAt i (by omega)]
    simp [hi]

/-- What is made of the twelve numbers: an agg in a box, its list. -/
structure AGB (w0 w : World) (P G c : Nat) (L : List Int) (t : Bool) : Prop where
  box : AAt w P (fi L 0) (fi L 1) (fi L 2) (fi L 3) (.slice (some ⟨G, 0, none⟩) 8 c) t
  own : IOwn w G 0 8 (fun i => fi L (i + 4))
  gg : w0.heap.size ≤ G
  bl : Below w0.heap.size w0 w
theorem layA_agb {w0 w : World} {P G c : Nat} {L : List Int} {t : Bool} (Z : ZA w P) (ho : IOwn w G 0 8 (fun i => fi L (i + 4))) (hg : w0.heap.size ≤ G) (hp : w0.heap.size ≤ P) (hne : G ≠ P) (hb : Below w0.heap.size w0 w) : AGB w0 (layA w P L G c t) P G c L t := by
  have hot : Others P w (layA w P L G c t) := by
    unfold layA
    exact (((((Others.setCell _ _ _ _).trans (Others.setCell _ _ _ _)).trans (Others.setCell _ _ _ _)).trans (Others.setCell _ _ _ _)).trans (Others.setCell _ _ _ _)).trans (Others.setCell _ _ _ _)
  refine ⟨?_, ⟨ho.bd, by rw [hot.size]; exact ho.lt, fun i hi => (World.cell?_of_block (w := w) (a := ⟨G, 0 + i, none⟩) (hot.block G hne)).trans (ho.cell i hi), fun i hi => (World.frozen?_of_block (w := w) (a := ⟨G, 0 + i, none⟩) (hot.block G hne)).trans (ho.free i hi)⟩, hg, hb.trans (hot.below hp)⟩
  obtain ⟨lt, h0, h1, h2, h3, h4, h5, fz⟩ := Z
  refine ⟨by rw [hot.size]; exact lt, ?_, ?_, ?_, ?_, ?_, ?_⟩ <;> (unfold layA; simp [go_sem, h0, h1, h2, h3, h4, h5])

set_option maxRecDepth 100000 in
set_option maxHeartbeats 16000000 in
theorem readAgg_spec (b off n cap : Nat) (f : Nat → Int) (w : World) (hr : Row w (some ⟨b, off, none⟩) n f) (hbl0 : b < w.heap.size) (hn : n ≤ 1048576) (hcap : n ≤ cap) :
    Calls Tryz.prog 97 #[.slice (some ⟨b, off, none⟩) n cap] w fun e w' => RAS f n w e w' := by
  have hB0 := below_new w (.cells #[.int .i64 0, .int .i64 0, .int .i64 0, .int .i64 0, .slice none 0 0, .bool false] 33)
  have Z0 := ZA.new w 33
  by_cases hn0 : n = 0
  · subst hn0
    have HN : Hid (∀ N, ¬ RAg f 0 N) := fun N h => by
      have := (rdNs_pos h.1).1
      omega
    go_enter Tryz.func97, Tryz.ntmps97
    obtain ⟨_, z0, z1, z2, z3, z4, z5, zf⟩ := id Z0
    have g0 := zf 0
    have g1 := zf 1
    have g2 := zf 2
    have g3 := zf 3
    have g4 := zf 4
    have g5 := zf 5
    go_wp2
    refine bodyPost_ret (v := .tuple #[.agg #[.int .i64 0, .int .i64 0, .int .i64 0, .int .i64 0, .slice none 0 0, .bool false], .bool false]) (by simp [results, Tryz.results97, go_sem, z0, z1, z2, z3, z4, z5]) rfl (.inr ⟨HN.out, rfl, ?_⟩)
    repeat' refine Below.setCell ?_ (by first | (simp; done) | (simp; omega)) _
    exact hB0
  have hnp : 0 < n := by omega
  have hni : (0 : Int) < (n : Int) := by omega
  have hnb : ((n : Int) == 0) = false := by simp; omega
  obtain ⟨b', o', e, _, hc⟩ := hr.lies.resolve_left hn0
  injection e with e
  injection e with e1 e2 _
  subst e1 e2
  have cw := hc 0 hnp
  rw [Nat.add_zero] at cw
  have cb0 := (hB0.cell (p := ⟨b, off, none⟩) hbl0).trans cw
  have hf0 := hr.bd 0
  by_cases h1 : 1 < f 0
  · have HN : Hid (∀ N, ¬ RAg f n N) := fun N h => by have := h.2.1; omega
    go_enter Tryz.func97, Tryz.ntmps97
    obtain ⟨_, z0, z1, z2, z3, z4, z5, zf⟩ := id Z0
    have g0 := zf 0
    have g1 := zf 1
    have g2 := zf 2
    have g3 := zf 3
    have g4 := zf 4
    have g5 := zf 5
    go_wp2
    refine bodyPost_ret (v := .tuple #[.agg #[.int .i64 0, .int .i64 0, .int .i64 0, .int .i64 0, .slice none 0 0, .bool false], .bool false]) (by simp [results, Tryz.results97, go_sem, z0, z1, z2, z3, z4, z5]) rfl (.inr ⟨HN.out, rfl, ?_⟩)
    repeat' refine Below.setCell ?_ (by first | (simp; done) | (simp; omega)) _
    exact hB0
  have HF1 : Hid (f 0 ≤ 1) := by show f 0 ≤ 1; omega
  go_enter Tryz.func97, Tryz.ntmps97
  go_wp2
  generalize w.alloc (.cells #[.int .i64 0, .int .i64 0, .int .i64 0, .int .i64 0, .slice none 0 0, .bool false] 33) = w0 at *
  go_loopw [4, 5] (fun v a wr => ∃ (lo : Option Addr) (lc : Nat) (L : List Int) (q : Nat), v = .slice lo L.length lc ∧ a = .int .i64 q ∧ L.length ≤ 12 ∧ q ≤ n ∧ Hid (rdNs f n L.length = some (L, (q : Int))) ∧ OwnI wr (w.heap.size + 1) (.slice lo L.length lc) L ∧ ZA wr w.heap.size ∧ Below w.heap.size w wr) (fun v _ _ => 12 - slen v)
  case atStart => exact ⟨none, 0, [], 1, rfl, rfl, by simp, by omega, by simp [Hid, rdNs], ownI_nil _ _, Z0, hB0⟩
  case round =>
    obtain ⟨lo, lc, L, q, rfl, rfl, hL12, hqn, HR, hO, hZ, bw⟩ := hrel
    have hbs := bw.size
    have hZl := hZ.lt
    by_cases hlt : L.length < 12
    · have hli : (L.length : Int) < 12 := by omega
      have hcall := l1Var_any b off n cap f q wr (hr.keep bw) (by omega) hn hqn
      have hrd := rdVar_rv (f := f) hqn
      have hnn := rvAll_nn f n q
      have hle := rvAll_le f n q
      have hub := rvAll_bd f n q
      generalize (rvAll f n q).1 = u at *
      generalize (rvAll f n q).2 = a2 at *
      have HR1 : Hid (rdNs f n (L.length + 1) = if 0 < a2 then some (L ++ [unfI u], a2) else none) := by
        unfold Hid
        rw [rdNs, HR.out]
        simp only [hrd, decide_eq_true_eq]
      have HU : Hid ((rdVar f n (q : Int)).1 = u) := by unfold Hid; rw [hrd]
      clear hrd
      go_wp2_with fail
      refine hcall.mono ?_
      rintro e w1 ⟨rfl, q1⟩
      have O1 := hO.keep q1
      have Z1 := hZ.keep q1
      have bw1 := bw.trans (q1.mono bw.size)
      clear hcall hO hZ q1
      by_cases ha : a2 = 0
      · have hab : (a2 == 0) = true := by simp [ha]
        have HN : Hid (∀ N, ¬ RAg f n N) := fun N h => by
          have e := HR1.out
          rw [if_neg (by omega)] at e
          obtain ⟨q', h1, _⟩ := rdNs_take h.1 (L.length + 1) (by omega)
          rw [e] at h1
          cases h1
        clear ha
        obtain ⟨_, z0, z1, z2, z3, z4, z5, zf⟩ := id Z1
        have g0 := zf 0
        have g1 := zf 1
        have g2 := zf 2
        have g3 := zf 3
        have g4 := zf 4
        have g5 := zf 5
        go_wp2
        refine bodyPost_ret (v := .tuple #[.agg #[.int .i64 0, .int .i64 0, .int .i64 0, .int .i64 0, .slice none 0 0, .bool false], .bool false]) (by simp [results, Tryz.results97, go_sem, z0, z1, z2, z3, z4, z5]) rfl (.inr ⟨HN.out, rfl, ?_⟩)
        repeat' refine Below.setCell ?_ (by first | (simp; done) | (simp; omega)) _
        exact bw1
      · have hab : (a2 == 0) = false := by simp [ha]
        have hap : 0 < a2 := by omega
        have hle2 := hle hap
        by_cases hu : 4611686018427387904 < u
        · have HN : Hid (∀ N, ¬ RAg f n N) := big_no HR.out hlt (by rw [HU.out]; exact hu)
          clear ha
          obtain ⟨_, z0, z1, z2, z3, z4, z5, zf⟩ := id Z1
          have g0 := zf 0
          have g1 := zf 1
          have g2 := zf 2
          have g3 := zf 3
          have g4 := zf 4
          have g5 := zf 5
          go_wp2
          refine bodyPost_ret (v := .tuple #[.agg #[.int .i64 0, .int .i64 0, .int .i64 0, .int .i64 0, .slice none 0 0, .bool false], .bool false]) (by simp [results, Tryz.results97, go_sem, z0, z1, z2, z3, z4, z5]) rfl (.inr ⟨HN.out, rfl, ?_⟩)
          repeat' refine Below.setCell ?_ (by first | (simp; done) | (simp; omega)) _
          exact bw1
        · have HS : Hid (rdNs f n (L.length + 1) = some (L ++ [unfI u], a2)) := by unfold Hid; rw [HR1.out, if_pos hap]
          obtain ⟨q2, hq2⟩ : ∃ q2 : Nat, a2 = (q2 : Int) := ⟨a2.toNat, by omega⟩
          have HQ : Hid (a2 = (q2 : Int)) := hq2
          have hq2n : q2 ≤ n := by omega
          have ht : u.tdiv 2 = u / 2 := Int.tdiv_eq_ediv_of_nonneg hub.1
          have hm : u.tmod 2 = u % 2 := Int.tmod_eq_emod_of_nonneg hub.1
          have hw2 : IntKind.i64.wrap (u / 2) = u / 2 := by rw [IntKind.wrap_i64] <;> omega
          have hwn : IntKind.i64.wrap (-(u / 2)) = -(u / 2) := by rw [IntKind.wrap_i64] <;> omega
          have hwm : IntKind.i64.wrap (-(u / 2) - 1) = -(u / 2) - 1 := by rw [IntKind.wrap_i64] <;> omega
          have hs1 := bw1.size
          have hz1 := Z1.lt
          have nb : some w.heap.size ≠ (Value.slice lo L.length lc).ownBlock := fun e => by have := (O1.own.lt _ e.symm).1; omega
          clear ha hq2 hle
          by_cases hp : u % 2 = 1
          · have HV : Hid (unfI u = -(u / 2) - 1) := by unfold Hid unfI; rw [if_pos hp]
            have hpb : (u % 2 == 1) = true := by simp [hp]
            have hxb : -9223372036854775808 ≤ -(u / 2) - 1 ∧ -(u / 2) - 1 ≤ 9223372036854775807 := by omega
            clear hp
            go_wp2_with (at_builtin; refine wpList_pushI rfl (.tmp 39) (.tmp 45) rfl (w.heap.size + 1) (.slice lo L.length lc) L (-(u / 2) - 1) rfl O1 hxb rfl (by omega) (by omega) ?_; intro v2 w2 hO2 hg2; obtain ⟨lo2, lc2, rfl, _⟩ := hO2.form)
            have bA := below_new w1 (.cells #[.int .i64 (-(u / 2) - 1)] 3)
            have Z2 := (Z1.keep bA).grown hg2 nb.symm
            have B2 := (bw1.trans (bA.mono bw1.size)).grown hg2 (by simp; omega) (fun k hk => by have := (O1.own.lt k hk).1; omega)
            go_wp2
            go_roundw
            case rel => exact ⟨lo2, lc2, L ++ [-(u / 2) - 1], q2, by simp, by rw [HQ.out], by simp; omega, hq2n, by have := HS.out; rw [HV.out, HQ.out] at this; simpa [Hid] using this, hO2, Z2, B2⟩
            case measure => simp [slen]; omega
          · have HV : Hid (unfI u = u / 2) := by unfold Hid unfI; rw [if_neg hp]
            have hpb : (u % 2 == 1) = false := by simp [hp]
            have hxb : -9223372036854775808 ≤ u / 2 ∧ u / 2 ≤ 9223372036854775807 := by omega
            clear hp
            go_wp2_with (at_builtin; refine wpList_pushI rfl (.tmp 47) (.tmp 51) rfl (w.heap.size + 1) (.slice lo L.length lc) L (u / 2) rfl O1 hxb rfl (by omega) (by omega) ?_; intro v2 w2 hO2 hg2; obtain ⟨lo2, lc2, rfl, _⟩ := hO2.form)
            have bA := below_new w1 (.cells #[.int .i64 (u / 2)] 3)
            have Z2 := (Z1.keep bA).grown hg2 nb.symm
            have B2 := (bw1.trans (bA.mono bw1.size)).grown hg2 (by simp; omega) (fun k hk => by have := (O1.own.lt k hk).1; omega)
            go_wp2
            go_roundw
            case rel => exact ⟨lo2, lc2, L ++ [u / 2], q2, by simp, by rw [HQ.out], by simp; omega, hq2n, by have := HS.out; rw [HV.out, HQ.out] at this; simpa [Hid] using this, hO2, Z2, B2⟩
            case measure => simp [slen]; omega
    · have h12 : L.length = 12 := by omega
      obtain ⟨g, gc, e, hgb, hgc, IL0⟩ := hO.own' (by omega)
      rw [h12] at e hgc IL0
      have HR12 : Hid (rdNs f n 12 = some (L, (q : Int))) := by have := HR.out; rw [h12] at this; exact this
      have hLb : Hid (∀ i, -9223372036854775808 ≤ fi L i ∧ fi L i ≤ 9223372036854775807) := hO.bd.fi
      injection e with e1 _ e3
      subst e1 e3
      have hl12 : ¬ (L.length : Int) < 12 := by omega
      clear hO HR hL12
      have H12 : Hid (L.length = 12) := h12
      rw [h12] at *
      clear h12
      have bd := (Below.refl wr.heap.size wr).drew
      have hgl := IL0.lt
      have hbl : b < wr.heap.size := by omega
      have cb := (bw.cell (p := ⟨b, off, none⟩) hbl0).trans cw
      have c0 := IL0.cell 0 (by omega)
      have c1 := IL0.cell 1 (by omega)
      have c2 := IL0.cell 2 (by omega)
      have c3 := IL0.cell 3 (by omega)
      simp only [Nat.zero_add] at c0 c1 c2 c3
      have hg4 : ¬ lc = 4 := by omega
      go_upto_region 13 with fail
      go_cut [8] from 53 (fun s8 wx => ∃ P G c, s8 = .pointer (some ⟨P, 0, none⟩) ∧ AGB wr wx P G c L (f 0 == 1))
      case first =>
        refine wp_region_w (fun w' : World => Below wr.heap.size wr w') (fun _ => true) (by kernel_rfl) ?_
        change wpW _ _ _ _ _ _ 23 _ _ wr.drew
        have hS0 : (fun w' : World => Below wr.heap.size wr w') wr.drew := bd
        refine wpW_take 0 _ (.slice (some ⟨g, 0, none⟩) 12 lc) rfl (by kernel_rfl) (by kernel_rfl) (by kernel_rfl) (fun _ _ _ h => h) (by kernel_rfl) (.inl ⟨rfl, fun w' hS' => by go_simp⟩) hS0 ?_
        simp only [Act.put, List.getElem_toArray, List.getElem_cons_succ, List.getElem_cons_zero, List.setIfInBounds_toArray, List.set_cons_zero, List.set_cons_succ]
        refine wpW_take 1 _ (.pointer (some ⟨g, 0, none⟩)) rfl (by kernel_rfl) (by kernel_rfl) (by kernel_rfl) (fun _ _ _ h => h) (by kernel_rfl) (.inl ⟨rfl, fun w' hS' => by go_simp⟩) hS0 ?_
        simp only [Act.put, List.getElem_toArray, List.getElem_cons_succ, List.getElem_cons_zero, List.setIfInBounds_toArray, List.set_cons_zero, List.set_cons_succ]
        refine wpW_take 2 _ (.int .i64 (fi L 0)) rfl (by kernel_rfl) (by kernel_rfl) (by kernel_rfl) (fun _ _ _ h => h) (by kernel_rfl) (.inl ⟨rfl, fun w' hS' => by have k0 := (hS'.cell (p := ⟨g, 0, none⟩) hgl).trans c0; go_simp⟩) hS0 ?_
        simp only [Act.put, List.getElem_toArray, List.getElem_cons_succ, List.getElem_cons_zero, List.setIfInBounds_toArray, List.set_cons_zero, List.set_cons_succ]
        refine wpW_take 3 _ (.slice (some ⟨g, 0, none⟩) 12 lc) rfl (by kernel_rfl) (by kernel_rfl) (by kernel_rfl) (fun _ _ _ h => h) (by kernel_rfl) (.inl ⟨rfl, fun w' hS' => by go_simp⟩) hS0 ?_
        simp only [Act.put, List.getElem_toArray, List.getElem_cons_succ, List.getElem_cons_zero, List.setIfInBounds_toArray, List.set_cons_zero, List.set_cons_succ]
        refine wpW_take 4 _ (.pointer (some ⟨g, 1, none⟩)) rfl (by kernel_rfl) (by kernel_rfl) (by kernel_rfl) (fun _ _ _ h => h) (by kernel_rfl) (.inl ⟨rfl, fun w' hS' => by go_simp⟩) hS0 ?_
        simp only [Act.put, List.getElem_toArray, List.getElem_cons_succ, List.getElem_cons_zero, List.setIfInBounds_toArray, List.set_cons_zero, List.set_cons_succ]
        refine wpW_take 5 _ (.int .i64 (fi L 1)) rfl (by kernel_rfl) (by kernel_rfl) (by kernel_rfl) (fun _ _ _ h => h) (by kernel_rfl) (.inl ⟨rfl, fun w' hS' => by have k1 := (hS'.cell (p := ⟨g, 1, none⟩) hgl).trans c1; go_simp⟩) hS0 ?_
        simp only [Act.put, List.getElem_toArray, List.getElem_cons_succ, List.getElem_cons_zero, List.setIfInBounds_toArray, List.set_cons_zero, List.set_cons_succ]
        refine wpW_take 6 _ (.slice (some ⟨g, 0, none⟩) 12 lc) rfl (by kernel_rfl) (by kernel_rfl) (by kernel_rfl) (fun _ _ _ h => h) (by kernel_rfl) (.inl ⟨rfl, fun w' hS' => by go_simp⟩) hS0 ?_
        simp only [Act.put, List.getElem_toArray, List.getElem_cons_succ, List.getElem_cons_zero, List.setIfInBounds_toArray, List.set_cons_zero, List.set_cons_succ]
        refine wpW_take 7 _ (.pointer (some ⟨g, 2, none⟩)) rfl (by kernel_rfl) (by kernel_rfl) (by kernel_rfl) (fun _ _ _ h => h) (by kernel_rfl) (.inl ⟨rfl, fun w' hS' => by go_simp⟩) hS0 ?_
        simp only [Act.put, List.getElem_toArray, List.getElem_cons_succ, List.getElem_cons_zero, List.setIfInBounds_toArray, List.set_cons_zero, List.set_cons_succ]
        refine wpW_take 8 _ (.int .i64 (fi L 2)) rfl (by kernel_rfl) (by kernel_rfl) (by kernel_rfl) (fun _ _ _ h => h) (by kernel_rfl) (.inl ⟨rfl, fun w' hS' => by have k2 := (hS'.cell (p := ⟨g, 2, none⟩) hgl).trans c2; go_simp⟩) hS0 ?_
        simp only [Act.put, List.getElem_toArray, List.getElem_cons_succ, List.getElem_cons_zero, List.setIfInBounds_toArray, List.set_cons_zero, List.set_cons_succ]
        refine wpW_take 9 _ (.slice (some ⟨g, 0, none⟩) 12 lc) rfl (by kernel_rfl) (by kernel_rfl) (by kernel_rfl) (fun _ _ _ h => h) (by kernel_rfl) (.inl ⟨rfl, fun w' hS' => by go_simp⟩) hS0 ?_
        simp only [Act.put, List.getElem_toArray, List.getElem_cons_succ, List.getElem_cons_zero, List.setIfInBounds_toArray, List.set_cons_zero, List.set_cons_succ]
        refine wpW_take 10 _ (.pointer (some ⟨g, 3, none⟩)) rfl (by kernel_rfl) (by kernel_rfl) (by kernel_rfl) (fun _ _ _ h => h) (by kernel_rfl) (.inl ⟨rfl, fun w' hS' => by go_simp⟩) hS0 ?_
        simp only [Act.put, List.getElem_toArray, List.getElem_cons_succ, List.getElem_cons_zero, List.setIfInBounds_toArray, List.set_cons_zero, List.set_cons_succ]
        refine wpW_take 11 _ (.int .i64 (fi L 3)) rfl (by kernel_rfl) (by kernel_rfl) (by kernel_rfl) (fun _ _ _ h => h) (by kernel_rfl) (.inl ⟨rfl, fun w' hS' => by have k3 := (hS'.cell (p := ⟨g, 3, none⟩) hgl).trans c3; go_simp⟩) hS0 ?_
        simp only [Act.put, List.getElem_toArray, List.getElem_cons_succ, List.getElem_cons_zero, List.setIfInBounds_toArray, List.set_cons_zero, List.set_cons_succ]
        refine wpW_take 13 _ (.slice (some ⟨g, 0, none⟩) 12 lc) rfl (by kernel_rfl) (by kernel_rfl) (by kernel_rfl) (fun _ _ _ h => h) (by kernel_rfl) (.inl ⟨rfl, fun w' hS' => by go_simp⟩) hS0 ?_
        simp only [Act.put, List.getElem_toArray, List.getElem_cons_succ, List.getElem_cons_zero, List.setIfInBounds_toArray, List.set_cons_zero, List.set_cons_succ]
        refine wpW_take 14 _ (.slice (some ⟨g, 4, none⟩) 8 (lc - 4)) rfl (by kernel_rfl) (by kernel_rfl) (by kernel_rfl) (fun _ _ _ h => h) (by kernel_rfl) (.inl ⟨rfl, fun w' hS' => by go_simp⟩) hS0 ?_
        simp only [Act.put, List.getElem_toArray, List.getElem_cons_succ, List.getElem_cons_zero, List.setIfInBounds_toArray, List.set_cons_zero, List.set_cons_succ]
        refine wpW_take 16 _ (.slice (some ⟨b, off, none⟩) n cap) rfl (by kernel_rfl) (by kernel_rfl) (by kernel_rfl) (fun _ _ _ h => h) (by kernel_rfl) (.inl ⟨rfl, fun w' hS' => by go_simp⟩) hS0 ?_
        simp only [Act.put, List.getElem_toArray, List.getElem_cons_succ, List.getElem_cons_zero, List.setIfInBounds_toArray, List.set_cons_zero, List.set_cons_succ]
        refine wpW_take 17 _ (.pointer (some ⟨b, off, none⟩)) rfl (by kernel_rfl) (by kernel_rfl) (by kernel_rfl) (fun _ _ _ h => h) (by kernel_rfl) (.inl ⟨rfl, fun w' hS' => by go_simp⟩) hS0 ?_
        simp only [Act.put, List.getElem_toArray, List.getElem_cons_succ, List.getElem_cons_zero, List.setIfInBounds_toArray, List.set_cons_zero, List.set_cons_succ]
        refine wpW_take 18 _ (.int .u8 (f 0)) rfl (by kernel_rfl) (by kernel_rfl) (by kernel_rfl) (fun _ _ _ h => h) (by kernel_rfl) (.inl ⟨rfl, fun w' hS' => by have kb := (hS'.cell (p := ⟨b, off, none⟩) hbl).trans cb; go_simp⟩) hS0 ?_
        simp only [Act.put, List.getElem_toArray, List.getElem_cons_succ, List.getElem_cons_zero, List.setIfInBounds_toArray, List.set_cons_zero, List.set_cons_succ]
        refine wpW_take 19 _ (.bool (f 0 == 1)) rfl (by kernel_rfl) (by kernel_rfl) (by kernel_rfl) (fun _ _ _ h => h) (by kernel_rfl) (.inl ⟨rfl, fun w' hS' => by go_simp⟩) hS0 ?_
        simp only [Act.put, List.getElem_toArray, List.getElem_cons_succ, List.getElem_cons_zero, List.setIfInBounds_toArray, List.set_cons_zero, List.set_cons_succ]
        refine wpW_two 12 21 _ _ rfl rfl (by kernel_rfl) ?_ ?_
        · skip
          refine (step_buildE rfl rfl ?_)
          have b1 := bd.trans ((below_new wr.drew (.cells #[] 3)).mono bd.size)
          have I1 := IL0.keep b1
          have e1 := heap_alloc_new wr.drew (.cells #[] 3)
          have s1 : (wr.drew.alloc (.cells #[] 3)).heap.size = wr.heap.size + 1 := by simp
          rw [show wr.drew.heap.size = wr.heap.size from rfl] at e1
          rw [show wr.drew.heap.size = wr.heap.size from rfl]
          refine ⟨fun _ => b1, ?_⟩
          simp only [Act.put, List.getElem_toArray, List.getElem_cons_succ, List.getElem_cons_zero, List.setIfInBounds_toArray, List.set_cons_zero, List.set_cons_succ]
          generalize wr.drew.alloc (.cells #[] 3) = u1 at *
          refine wpW_two 15 21 _ _ rfl rfl (by kernel_rfl) ?_ ?_
          · skip
            obtain ⟨G, c, u3, hrun, hG, hGo, hgr⟩ := appE8 u1 wr.heap.size e1 g (lc - 4) (fi L) I1
            refine (step_append_ty rfl (.tmp 65) (.tmp 67) 31 31 rfl rfl _ _ _ (by simp [Act.eval, Act.put]) (by simp [Act.eval, Act.put]) u3 hrun ?_)
            have hS4 := b1.grown hgr b1.size (fun k hk => by injection hk with hk; omega)
            refine ⟨fun _ => hS4, ?_⟩
            simp only [Act.put, List.getElem_toArray, List.getElem_cons_succ, List.getElem_cons_zero, List.setIfInBounds_toArray, List.set_cons_zero, List.set_cons_succ]
            refine wpW_take 20 _ (.agg #[.int .i64 (fi L 0), .int .i64 (fi L 1), .int .i64 (fi L 2), .int .i64 (fi L 3), .slice (some ⟨G, 0, none⟩) 8 c, .bool (f 0 == 1)]) rfl (by kernel_rfl) (by kernel_rfl) (by kernel_rfl) (fun _ _ _ h => h) (by kernel_rfl) (.inl ⟨rfl, fun w' hS' => by go_simp⟩) hS4 ?_
            simp only [Act.put, List.getElem_toArray, List.getElem_cons_succ, List.getElem_cons_zero, List.setIfInBounds_toArray, List.set_cons_zero, List.set_cons_succ]
            refine wpW_one 21 _ rfl (by kernel_rfl) (step_allocA rfl rfl ?_)
            have b5' := below_new u3 (.cells #[.int .i64 0, .int .i64 0, .int .i64 0, .int .i64 0, .slice none 0 0, .bool false] 33)
            have b5 := hS4.trans (b5'.mono hS4.size)
            have Z5 := ZA.new u3 33
            have G5 := hGo.keep b5'
            have hGl := hGo.lt
            refine ⟨fun _ => b5, ?_⟩
            simp only [Act.put, List.getElem_toArray, List.getElem_cons_succ, List.getElem_cons_zero, List.setIfInBounds_toArray, List.set_cons_zero, List.set_cons_succ]
            generalize u3.alloc (.cells #[.int .i64 0, .int .i64 0, .int .i64 0, .int .i64 0, .slice none 0 0, .bool false] 33) = u5 at *
            refine wpW_one 22 _ rfl (by kernel_rfl) (step_storeA rfl 8 73 rfl u3.heap.size L G c (f 0 == 1) (by simp [Act.eval, Act.put]) (by simp [Act.eval, Act.put]) Z5 ?_)
            have QB := layA_agb (c := c) (t := (f 0 == 1)) Z5 G5 (w0 := wr) (by omega) hS4.size (by omega) b5
            refine ⟨fun _ => QB.bl, ?_⟩
            simp only [Act.put, List.getElem_toArray, List.getElem_cons_succ, List.getElem_cons_zero, List.setIfInBounds_toArray, List.set_cons_zero, List.set_cons_succ]
            clear hrun hG hGo hgr
            try clear s1
            try clear s2
            try clear e1
            try clear e2
            refine wpW_done (by kernel_rfl) ?_
            try simp only [Act.put, List.getElem_toArray, List.getElem_cons_succ, List.getElem_cons_zero, List.setIfInBounds_toArray, List.set_cons_zero, List.set_cons_succ]
            go_wp2_with fail
            go_meet
            case rel => exact ⟨_, G, c, rfl, QB⟩
          · skip
            refine (step_allocA rfl rfl ?_)
            have b2' := below_new u1 (.cells #[.int .i64 0, .int .i64 0, .int .i64 0, .int .i64 0, .slice none 0 0, .bool false] 33)
            have b2 := b1.trans (b2'.mono b1.size)
            have Z2 := ZA.new u1 33
            have I2 := I1.keep b2'
            have e2 := (b2'.block wr.heap.size (by omega)).trans e1
            have s2 : (u1.alloc (.cells #[.int .i64 0, .int .i64 0, .int .i64 0, .int .i64 0, .slice none 0 0, .bool false] 33)).heap.size = u1.heap.size + 1 := by simp
            refine ⟨fun _ => b2, ?_⟩
            simp only [Act.put, List.getElem_toArray, List.getElem_cons_succ, List.getElem_cons_zero, List.setIfInBounds_toArray, List.set_cons_zero, List.set_cons_succ]
            generalize u1.alloc (.cells #[.int .i64 0, .int .i64 0, .int .i64 0, .int .i64 0, .slice none 0 0, .bool false] 33) = u2 at *
            obtain ⟨G, c, u3, hrun, hG, hGo, hgr⟩ := appE8 u2 wr.heap.size e2 g (lc - 4) (fi L) I2
            refine wpW_one 15 _ rfl (by kernel_rfl) (step_append_ty rfl (.tmp 65) (.tmp 67) 31 31 rfl rfl _ _ _ (by simp [Act.eval, Act.put]) (by simp [Act.eval, Act.put]) u3 hrun ?_)
            have Z3 := Z2.grown hgr (by intro e; injection e with e; omega)
            have hS4 := b2.grown hgr b2.size (fun k hk => by injection hk with hk; omega)
            refine ⟨fun _ => hS4, ?_⟩
            simp only [Act.put, List.getElem_toArray, List.getElem_cons_succ, List.getElem_cons_zero, List.setIfInBounds_toArray, List.set_cons_zero, List.set_cons_succ]
            refine wpW_take 20 _ (.agg #[.int .i64 (fi L 0), .int .i64 (fi L 1), .int .i64 (fi L 2), .int .i64 (fi L 3), .slice (some ⟨G, 0, none⟩) 8 c, .bool (f 0 == 1)]) rfl (by kernel_rfl) (by kernel_rfl) (by kernel_rfl) (fun _ _ _ h => h) (by kernel_rfl) (.inl ⟨rfl, fun w' hS' => by go_simp⟩) hS4 ?_
            simp only [Act.put, List.getElem_toArray, List.getElem_cons_succ, List.getElem_cons_zero, List.setIfInBounds_toArray, List.set_cons_zero, List.set_cons_succ]
            refine wpW_one 22 _ rfl (by kernel_rfl) (step_storeA rfl 8 73 rfl u1.heap.size L G c (f 0 == 1) (by simp [Act.eval, Act.put]) (by simp [Act.eval, Act.put]) Z3 ?_)
            have QB := layA_agb (c := c) (t := (f 0 == 1)) Z3 hGo (w0 := wr) (by omega) (by omega) (by omega) hS4
            refine ⟨fun _ => QB.bl, ?_⟩
            simp only [Act.put, List.getElem_toArray, List.getElem_cons_succ, List.getElem_cons_zero, List.setIfInBounds_toArray, List.set_cons_zero, List.set_cons_succ]
            clear hrun hG hGo hgr
            try clear s1
            try clear s2
            try clear e1
            try clear e2
            refine wpW_done (by kernel_rfl) ?_
            try simp only [Act.put, List.getElem_toArray, List.getElem_cons_succ, List.getElem_cons_zero, List.setIfInBounds_toArray, List.set_cons_zero, List.set_cons_succ]
            go_wp2_with fail
            go_meet
            case rel => exact ⟨_, G, c, rfl, QB⟩
        · skip
          refine (step_allocA rfl rfl ?_)
          have b1 := bd.trans ((below_new wr.drew (.cells #[.int .i64 0, .int .i64 0, .int .i64 0, .int .i64 0, .slice none 0 0, .bool false] 33)).mono bd.size)
          have Z1 := ZA.new wr.drew 33
          have I1 := IL0.keep b1
          have s1 : (wr.drew.alloc (.cells #[.int .i64 0, .int .i64 0, .int .i64 0, .int .i64 0, .slice none 0 0, .bool false] 33)).heap.size = wr.heap.size + 1 := by simp
          rw [show wr.drew.heap.size = wr.heap.size from rfl] at Z1
          rw [show wr.drew.heap.size = wr.heap.size from rfl]
          refine ⟨fun _ => b1, ?_⟩
          simp only [Act.put, List.getElem_toArray, List.getElem_cons_succ, List.getElem_cons_zero, List.setIfInBounds_toArray, List.set_cons_zero, List.set_cons_succ]
          generalize wr.drew.alloc (.cells #[.int .i64 0, .int .i64 0, .int .i64 0, .int .i64 0, .slice none 0 0, .bool false] 33) = u1 at *
          refine wpW_one 12 _ rfl (by kernel_rfl) (step_buildE rfl rfl ?_)
          have b2' := below_new u1 (.cells #[] 3)
          have b2 := b1.trans (b2'.mono b1.size)
          have Z2 := Z1.keep b2'
          have I2 := I1.keep b2'
          have e2 := heap_alloc_new u1 (.cells #[] 3)
          have s2 : (u1.alloc (.cells #[] 3)).heap.size = u1.heap.size + 1 := by simp
          refine ⟨fun _ => b2, ?_⟩
          simp only [Act.put, List.getElem_toArray, List.getElem_cons_succ, List.getElem_cons_zero, List.setIfInBounds_toArray, List.set_cons_zero, List.set_cons_succ]
          generalize u1.alloc (.cells #[] 3) = u2 at *
          obtain ⟨G, c, u3, hrun, hG, hGo, hgr⟩ := appE8 u2 u1.heap.size e2 g (lc - 4) (fi L) I2
          refine wpW_one 15 _ rfl (by kernel_rfl) (step_append_ty rfl (.tmp 65) (.tmp 67) 31 31 rfl rfl _ _ _ (by simp [Act.eval, Act.put]) (by simp [Act.eval, Act.put]) u3 hrun ?_)
          have Z3 := Z2.grown hgr (by intro e; injection e with e; omega)
          have hS4 := b2.grown hgr b2.size (fun k hk => by injection hk with hk; omega)
          refine ⟨fun _ => hS4, ?_⟩
          simp only [Act.put, List.getElem_toArray, List.getElem_cons_succ, List.getElem_cons_zero, List.setIfInBounds_toArray, List.set_cons_zero, List.set_cons_succ]
          refine wpW_take 20 _ (.agg #[.int .i64 (fi L 0), .int .i64 (fi L 1), .int .i64 (fi L 2), .int .i64 (fi L 3), .slice (some ⟨G, 0, none⟩) 8 c, .bool (f 0 == 1)]) rfl (by kernel_rfl) (by kernel_rfl) (by kernel_rfl) (fun _ _ _ h => h) (by kernel_rfl) (.inl ⟨rfl, fun w' hS' => by go_simp⟩) hS4 ?_
          simp only [Act.put, List.getElem_toArray, List.getElem_cons_succ, List.getElem_cons_zero, List.setIfInBounds_toArray, List.set_cons_zero, List.set_cons_succ]
          refine wpW_one 22 _ rfl (by kernel_rfl) (step_storeA rfl 8 73 rfl wr.heap.size L G c (f 0 == 1) (by simp [Act.eval, Act.put]) (by simp [Act.eval, Act.put]) Z3 ?_)
          have QB := layA_agb (c := c) (t := (f 0 == 1)) Z3 hGo (w0 := wr) (by omega) (Nat.le_refl _) (by omega) hS4
          refine ⟨fun _ => QB.bl, ?_⟩
          simp only [Act.put, List.getElem_toArray, List.getElem_cons_succ, List.getElem_cons_zero, List.setIfInBounds_toArray, List.set_cons_zero, List.set_cons_succ]
          clear hrun hG hGo hgr
          try clear s1
          try clear s2
          try clear e1
          try clear e2
          refine wpW_done (by kernel_rfl) ?_
          try simp only [Act.put, List.getElem_toArray, List.getElem_cons_succ, List.getElem_cons_zero, List.setIfInBounds_toArray, List.set_cons_zero, List.set_cons_succ]
          go_wp2_with fail
          go_meet
          case rel => exact ⟨_, G, c, rfl, QB⟩
      case rest =>
        obtain ⟨P, G, c, rfl, QB⟩ := hcut
        generalize wc = w2 at *
        have Z2 := hZ.keep QB.bl
        have bw2 := bw.trans (QB.bl.mono bw.size)
        obtain ⟨t, ht⟩ : ∃ t, (f 0 == 1) = t := ⟨_, rfl⟩
        have HT : Hid ((f 0 == 1) = t) := ht
        rw [ht] at QB
        have hga := goodAgg_spec (fi L 0) (fi L 1) (fi L 2) (fi L 3) (some ⟨G, 0, none⟩) 8 c (fun i => fi L (i + 4)) t w2 QB.own.row (by omega) (hLb.out 1)
        obtain ⟨_, a0, a1, a2, a3, a4, a5⟩ := id QB.box
        clear c0 c1 c2 c3 cb cw cb0 IL0 ht
        by_cases hq : q < n
        · have hqi : (q : Int) < (n : Int) := by omega
          have HN : Hid (∀ N, ¬ RAg f n N) := fun N h => by
            have e := h.1.symm.trans HR12.out
            simp only [Option.some.injEq, Prod.mk.injEq] at e
            omega
          clear hq hga
          obtain ⟨_, z0, z1, z2, z3, z4, z5, zf⟩ := id Z2
          have g0 := zf 0
          have g1 := zf 1
          have g2 := zf 2
          have g3 := zf 3
          have g4 := zf 4
          have g5 := zf 5
          go_wp2
          refine bodyPost_ret (v := .tuple #[.agg #[.int .i64 0, .int .i64 0, .int .i64 0, .int .i64 0, .slice none 0 0, .bool false], .bool false]) (by simp [results, Tryz.results97, go_sem, z0, z1, z2, z3, z4, z5]) rfl (.inr ⟨HN.out, rfl, ?_⟩)
          repeat' refine Below.setCell ?_ (by first | (simp; done) | (simp; omega)) _
          exact bw2
        · have hqi : ¬ (q : Int) < (n : Int) := by omega
          have HQ : Hid (q = n) := by show q = n; omega
          clear hq
          go_wp2_with fail
          refine hga.mono ?_
          rintro e w3 ⟨bb, rfl, hbb, q3⟩
          have Z3 := Z2.keep q3
          have bw3 := bw2.trans (q3.mono bw2.size)
          have box3 := QB.box.keep q3
          have own3 := QB.own.keep q3
          clear hga Z2 a0 a1 a2 a3 a4 a5
          obtain ⟨_, a0, a1, a2, a3, a4, a5⟩ := id box3
          cases bb
          · have HN : Hid (∀ N, ¬ RAg f n N) := fun N h => by
              have e := h.1.symm.trans HR12.out
              simp only [Option.some.injEq, Prod.mk.injEq] at e
              have g := h.2.2
              rw [e.1, HT.out] at g
              have := hbb.2 g
              cases this
            clear hbb
            obtain ⟨_, z0, z1, z2, z3, z4, z5, zf⟩ := id Z3
            have g0 := zf 0
            have g1 := zf 1
            have g2 := zf 2
            have g3 := zf 3
            have g4 := zf 4
            have g5 := zf 5
            go_wp2
            refine bodyPost_ret (v := .tuple #[.agg #[.int .i64 0, .int .i64 0, .int .i64 0, .int .i64 0, .slice none 0 0, .bool false], .bool false]) (by simp [results, Tryz.results97, go_sem, z0, z1, z2, z3, z4, z5]) rfl (.inr ⟨HN.out, rfl, ?_⟩)
            repeat' refine Below.setCell ?_ (by first | (simp; done) | (simp; omega)) _
            exact bw3
          · have HG : Hid (RAg f n L) := ⟨by rw [HR12.out, HQ.out], HF1.out, by rw [HT.out]; exact hbb.1 rfl⟩
            have hGg := QB.gg
            clear hbb
            obtain ⟨_, z0, z1, z2, z3, z4, z5, zf⟩ := id Z3
            have g0 := zf 0
            have g1 := zf 1
            have g2 := zf 2
            have g3 := zf 3
            have g4 := zf 4
            have g5 := zf 5
            go_wp2
            refine bodyPost_ret (v := .tuple #[.agg #[.int .i64 (fi L 0), .int .i64 (fi L 1), .int .i64 (fi L 2), .int .i64 (fi L 3), .slice (some ⟨G, 0, none⟩) 8 c, .bool t], .bool true]) (by simp [results, Tryz.results97, go_sem, z0, z1, z2, z3, z4, z5]) rfl (.inl ?_)
            refine ⟨L, G, c, HG.out, by rw [HT.out], by omega, ?_, ?_⟩
            · exact own3.oth ((((((Others.setCell _ _ _ _).trans (Others.setCell _ _ _ _)).trans (Others.setCell _ _ _ _)).trans (Others.setCell _ _ _ _)).trans (Others.setCell _ _ _ _)).trans (Others.setCell _ _ _ _)) (by omega)
            · repeat' refine Below.setCell ?_ (by first | (simp; done) | (simp; omega)) _
              exact bw3
end Go.Proofs.YtohjjigkfdhklaaGreat
