/- JoinRows, in the program. -/
import Derived.Test.YtmeckcaekkangaaGreatJd
import Derived.Test.YtmeckcaekkangaaGreatAm
import Derived.Test.YtmeckcaekkangaaGreatBef
namespace Go.Proofs.YtmeckcaekkangaaGreat
set_option maxRecDepth 100000
open Go.RowKit
set_option linter.unusedSimpArgs false
set_option linter.unusedVariables false

/-- append looks at the second type only for a number. -/
theorem append_two {P : Program} {t u ty e e' : TypeId} (ht : P.underlying t = some (.slice e)) (hu : P.underlying u = some (.slice e')) (a : Option Addr) (n c : Nat) (y : Value) (w : World) :
    (Builtin.append_ #[t, u] ty #[.slice a n c, y]).run P w = (Builtin.append_ #[t, t] ty #[.slice a n c, y]).run P w := by
  simp [Builtin.append_, run_underlying ht, run_underlying hu, Sem.run_bind]
theorem wpList_append_eq2 {P : Program} (w : World) {ops : Array Oper} {rest : List Oper} {o : Oper} {a : Act} {Q : Exit → Act → World → Prop}
    (hg : o.guard = none) (s x : Operand) (t t' ty : TypeId) (hop : o.op = .call { callee := .builtin .append, args := #[s, x], argTypes := #[t, t'] }) (hty : o.type = ty) (u v r : Value) (hs : a.eval s = u) (hx : a.eval x = v) (w' : World)
    (hrun : (Builtin.append_ #[t, t'] ty #[u, v]).run P w = .ok r w') (hK : wpList P ops Q rest (a.put o.dst r) w') : wpList P ops Q (o :: rest) a w := by
  refine wpList_plain hg fun K' hK' => ?_
  subst hty
  unfold Oper.wp execOp
  simp only [hop, resolve, invoke, builtin, Sem.run_bind, Sem.run_pure, Result.andThen_ok, List.map_toArray, List.map_cons, List.map_nil, hs, hx, hrun]
  exact hK' _ _ hK

/-- The rows' heads copied by an append to nil. -/
def LeftO (w0 w : World) (N : Nat) (D : Nat → List Ent) (v : Value) : Prop := (N = 0 ∧ v = .slice none 0 0) ∨ ∃ g c, v = .slice (some ⟨g, 0, none⟩) N c ∧ w0.heap.size ≤ g ∧ LW w0 w g N D
set_option maxHeartbeats 1000000 in
theorem rows_run (w : World) (b off N cap : Nat) (D : Nat → List Ent) (hr : LR w b off N D) (hN : N ≤ 1048576) (ty : TypeId) :
    ∃ v w', (Builtin.append_ #[60, 23] ty #[.slice none 0 0, .slice (some ⟨b, off, none⟩) N cap]).run Tryz.prog w = .ok v w' ∧ LeftO w w' N D v ∧ Below w.heap.size w w' := by
  obtain ⟨i0, hi, hz0, hz1, hz2⟩ := info_parts Tryz.infoES
  have key : ∀ i, ∃ p : Option Addr × Nat, i < N → w.cell? ⟨b, off + i, none⟩ = some (.slice p.1 (D i).length p.2) ∧ (D i).length ≤ p.2 ∧ ERow w p.1 (D i).length (eL (D i)) := fun i => by
    by_cases hi : i < N
    · obtain ⟨p, c, h⟩ := hr.row i hi
      exact ⟨(p, c), fun _ => h⟩
    · exact ⟨(none, 0), fun h => absurd h hi⟩
  obtain ⟨P, hP⟩ := Classical.axiomOfChoice key
  obtain ⟨v', w', hrun, hown, hg, hnil, hat⟩ := run_append_own_at (P := Tryz.prog) w w.heap.size 60 ty 26 i0 (.slice none 0 0) 1 24 Tryz.underlying60 hi hz0 hz1 hz2 rfl (by decide) (.slice none 0 0) 0 [] (World.ownsRow_nil _ _ _ _) ⟨b, off, none⟩ N cap ((List.range N).map fun i => Value.slice (P i).1 (D i).length (P i).2) (by simp)
    (fun j u hu => by
      have hj : j < N := by
        have := (List.getElem?_eq_some_iff.1 hu).1
        simpa using this
      have e : u = .slice (P j).1 (D j).length (P j).2 := by simpa [hj] using hu.symm
      subst e
      rw [Addr.add_lit]
      exact (hP j hj).1)
    (fun u hu => by obtain ⟨i, _, rfl⟩ := List.mem_map.1 hu; rfl) (by unfold maxLen; omega) (by omega) (Nat.le_refl _)
  have hb : Below w.heap.size w w' := (Below.refl _ _).grown hg (Nat.le_refl _) (fun k hk => by simp [Value.ownBlock] at hk)
  refine ⟨v', w', by rw [append_two Tryz.underlying60 Tryz.underlying23]; exact hrun, ?_, hb⟩
  by_cases h0 : N = 0
  · exact .inl ⟨h0, hnil.2 ⟨rfl, h0⟩⟩
  · rcases hown.2 with ⟨rfl, h1⟩ | ⟨g, c, cur, rfl, h1, h2, h3, _⟩
    · omega
    · refine .inr ⟨g, c, by simp, h1, (Array.getElem?_eq_some_iff.1 h2).1, fun i hi => ⟨(P i).1, (P i).2, ?_, (hP i hi).2⟩, fun i _ => by simpa using hown.frozenAt i⟩
      rw [hown.cellAt i (by omega)]
      simp [hi]

set_option maxHeartbeats 1000000 in
theorem least_none (w : World) : Calls Tryz.prog 30 #[.slice none 0 0] w fun e w' => e = .returned (.int .i64 (-1)) ∧ w' = w := by
  go_enter Tryz.func30, Tryz.ntmps30
  go_wp2
  go_loopw [3, 8] (fun q i wr => i = .int .i64 0 ∧ q = .int .i64 (-1) ∧ wr = w) (fun _ _ _ => 0)
  case atStart => exact ⟨rfl, rfl, rfl⟩
  case round =>
    obtain ⟨rfl, rfl, rfl⟩ := hrel
    go_wp2
    go_ret
    exact ⟨rfl, rfl⟩
set_option maxHeartbeats 1000000 in
theorem drain_none (w : World) : Calls Tryz.prog 29 #[.slice none 0 0, .func (.func 30) #[.slice none 0 0] #[]] w fun e w' => e = .returned (.slice none 0 0) ∧ w' = w := by
  go_enter Tryz.func29, Tryz.ntmps29
  go_wp2_with fail
  refine (least_none _).mono ?_
  rintro e w1 ⟨rfl, rfl⟩
  go_wp2
  go_loopw [5, 6] (fun u i wr => i = .int .i64 (-1) ∧ u = .slice none 0 0 ∧ wr = w1) (fun _ _ _ => 0)
  case atStart => exact ⟨rfl, rfl, rfl⟩
  case round =>
    obtain ⟨rfl, rfl, rfl⟩ := hrel
    go_wp2
    go_ret
    exact ⟨rfl, rfl⟩
theorem drain_left (w0 w : World) (N : Nat) (D : Nat → List Ent) (v : Value) (h : LeftO w0 w N D v) (hw0 : Below w0.heap.size w0 w) (hN : N ≤ 1048576) (hs : sm D N ≤ 1048576) :
    Calls Tryz.prog 29 #[v, .func (.func 30) #[v] #[]] w fun e w' => DrO w0 (mg N D) w e w' := by
  rcases h with ⟨rfl, rfl⟩ | ⟨g, c, rfl, h1, h2⟩
  · refine (drain_none w).mono ?_
    rintro e w' ⟨rfl, rfl⟩
    exact ⟨_, rfl, gatE_nil _ _ _, hw0⟩
  · exact drainRows_any w0 g N c c D w hw0 h2 h1 hN hs

/-- What JoinRows leaves. -/
def JoO (N : Nat) (D : Nat → List Ent) (w : World) (e : Ending) (w' : World) : Prop :=
  (RowsOk N D → AnE (mg N D) true w e w') ∧ (¬ RowsOk N D → AnE [] false w e w')
theorem ane_no {w w' : World} (hb : Below w.heap.size w w') : AnE [] false w (.returned (.tuple #[.slice none 0 0, .bool false])) w' := ⟨_, rfl, ca_nil _ _ _ _, hb⟩
/-- What holds of all rows' entries holds of them joined. -/
theorem mg_all {N : Nat} {D : Nat → List Ent} {P : Ent → Prop} (h : ∀ i, i < N → ∀ j, j < (D i).length → P (eL (D i) j)) : ∀ j, j < (mg N D).length → P (eL (mg N D) j) := fun j hj => by
  rw [eL_get hj]
  have hm := (mg_perm N _ D rfl).mem_iff.1 (List.getElem_mem hj)
  obtain ⟨i, hi, hx⟩ := mem_fl.1 hm
  obtain ⟨k, hk, e⟩ := List.getElem_of_mem hx
  rw [← e, ← eL_get hk]
  exact h i hi k hk

set_option maxRecDepth 100000 in
set_option maxHeartbeats 4000000 in
theorem joinRows_impl (b off N cap : Nat) (D : Nat → List Ent) (w : World) (hr : LR w b off N D) (hN : N ≤ 1048576) (hs : sm D N ≤ 1048576) (hz : ∀ i, i < N → ESize (D i).length (eL (D i))) :
    Calls Tryz.prog 13 #[.slice (some ⟨b, off, none⟩) N cap] w fun e w' => JoO N D w e w' := by
  have hfew := fewRows_any b off N cap D w hr hN hs
  by_cases hf : N ≤ 12 ∧ sm D N ≤ 300
  rotate_left
  · have H : Hid (JoO N D w (.returned (.tuple #[.slice none 0 0, .bool false])) w) := ⟨fun h => absurd ⟨h.1, h.2.1⟩ hf, fun _ => ane_no (Below.refl _ _)⟩
    rw [decide_eq_false hf] at hfew
    clear hf
    go_enter Tryz.func13, Tryz.ntmps13
    go_wp2_with fail
    refine hfew.mono ?_
    rintro e w1 ⟨rfl, rfl⟩
    go_wp2
    exact bodyPost_ret (v := .tuple #[.slice none 0 0, .bool false]) (by simp [results, Tryz.results13, go_sem]) rfl H.out
  rw [decide_eq_true hf] at hfew
  have hEB : ∀ j, j < (mg N D).length → EB (eL (mg N D) j) := mg_all (fun i hi j hj => by obtain ⟨p, c, _, _, h⟩ := hr.row i hi; exact h.bd j hj)
  have hES : ESize (mg N D).length (eL (mg N D)) := mg_all (P := fun x => x.key.size ≤ 1048576 ∧ x.n ≤ 1048576) (fun i hi j hj => hz i hi j hj)
  have hlen := mg_len N D
  have HN : Hid (¬ GoodL (eL (mg N D)) (mg N D).length → ∀ W, Below w.heap.size w W → JoO N D w (.returned (.tuple #[.slice none 0 0, .bool false])) W) := fun h W hb => ⟨fun h2 => absurd (good_iff.2 (rows_iff.1 h2).2) h, fun _ => ane_no hb⟩
  have HY : Hid (GoodL (eL (mg N D)) (mg N D).length → ∀ e W, AnE (mg N D) true w e W → JoO N D w e W) := fun h e W he => ⟨fun _ => he, fun h2 => absurd (rows_iff.2 ⟨hf, good_iff.1 h⟩) h2⟩
  obtain ⟨v1, w1, hrun, hleft, hb1⟩ := rows_run w b off N cap D hr hN 60
  have hdr := drain_left w w1 N D v1 hleft hb1 hN hs
  have hm3 : (mg N D).length ≤ 300 := by omega
  generalize mg N D = E at *
  clear hlen hf hz hleft
  go_enter Tryz.func13, Tryz.ntmps13
  go_wp2_with fail
  refine hfew.mono ?_
  rintro e w0 ⟨rfl, hw⟩
  have hw2 := hw.symm
  clear hw
  subst hw2
  go_wp2_with (at_builtin; refine wpList_append_eq2 _ rfl (.const (.slice none 0 0)) (.tmp 9) 60 23 60 rfl rfl (.slice none 0 0) (.slice (some ⟨b, off, none⟩) N cap) v1 rfl rfl w1 hrun ?_)
  refine hdr.mono ?_
  rintro e w2 ⟨v2, rfl, hG2, hb2⟩
  obtain ⟨lo, lc, rfl, hE2⟩ := hG2.erow hb2 hEB
  go_wp2_with fail
  refine (goodEntries_impl lo E.length lc (eL E) w2 hE2 (by omega) hES).mono ?_
  rintro e w3 ⟨b3, rfl, h3, hb3⟩
  have bw3 := hb2.trans (hb3.mono hb2.size)
  cases b3
  · have H : Hid (¬ GoodL (eL E) E.length) := fun h => by
      have := h3.2 h
      cases this
    clear h3
    go_wp2
    exact bodyPost_ret (v := .tuple #[.slice none 0 0, .bool false]) (by simp [results, Tryz.results13, go_sem]) rfl (HN.out H.out _ bw3)
  · have H : Hid (GoodL (eL E) E.length) := h3.1 rfl
    clear h3
    have hE3 := hE2.keep hb3
    go_wp2_with fail
    refine (addMany_any none 0 w3.heap.size 0 (eL E) (fun _ => .slice none 0 0) lo E.length lc (eL E) w3 w3 (outE_nil _ _ _) hE3 (Below.refl _ _) (Nat.le_refl _) (fun i hi => (hES i hi).2) (by omega) (Nat.le_refl _)).mono ?_
    rintro e w4 ⟨v4, V4, rfl, hO4, hb4⟩
    have bw4 := bw3.trans (hb4.mono bw3.size)
    obtain ⟨lo4, lc4, rfl⟩ := ownsRow_form hO4.own
    have hC : CA w4 w.heap.size w4.heap.size (.slice lo4 (0 + E.length) lc4) E := by
      have h5 : OutE w4 w3.heap.size (.slice lo4 (0 + E.length) lc4) E.length (eL E) V4 := by
        have h6 := hO4.congr (X' := eL E) (fun i _ => by simp [catE])
        rw [Nat.zero_add] at h6 ⊢
        exact h6
      exact (ca_of_outE h5).mono bw3.size (Nat.le_refl _) (Nat.le_refl _)
    go_wp2
    exact bodyPost_ret (v := .tuple #[.slice lo4 (0 + E.length) lc4, .bool true]) (by simp [results, Tryz.results13, go_sem]) rfl (HY.out H.out _ _ ⟨_, rfl, hC, bw4⟩)
end Go.Proofs.YtmeckcaekkangaaGreat
