/- Rows joined, in the model. -/
import Derived.Test.YtmeckcaekkangaaGreatJs
import Derived.Test.YtmeckcaekkangaaGreatJi
import Derived.Test.YtmeckcaekkangaaGreatBef
import Derived.Deep.RegionLaw
namespace Go.Proofs.YtmeckcaekkangaaGreat
set_option maxRecDepth 100000
open Go.RowKit
set_option linter.unusedSimpArgs false
set_option linter.unusedVariables false

theorem step_append_ty {P : Program} {w : World} {ops : Array Oper} {o : Oper} {a : Act} {K : Act → World → Prop} {Q : Exit → Act → World → Prop} {E : Prop} (hgd : o.guard = none) (s x : Operand) (t ty : TypeId)
    (ho : o.op = .call { callee := .builtin .append, args := #[s, x], argTypes := #[t, t] }) (hty : o.type = ty) (u v r : Value) (hs : a.eval s = u) (hx : a.eval x = v) (w' : World) (hrun : (Builtin.append_ #[t, t] ty #[u, v]).run P w = .ok r w') (h : K (a.put o.dst r) w') :
    if Region.wanted o (yielded ops a.tmps) = true then Oper.wp P o a w K Q else E := by
  have hw : Region.wanted o (yielded ops a.tmps) = true := by simp [Region.wanted, hgd]
  rw [if_pos hw]
  unfold Oper.wp execOp
  simp only [ho, hty, resolve, invoke, builtin, Sem.run_bind, Sem.run_pure, Result.andThen_ok, List.map_toArray, List.map_cons, List.map_nil, hs, hx, hrun]
  exact h
set_option maxRecDepth 100000 in
/-- One put behind, as an equation. -/
theorem gat_run (w0 w : World) (base : Nat) (lo : Option Addr) (lc : Nat) (E : List Ent) (x : Ent) (xo : Option Addr) (xc : Nat) (ty : TypeId) (h : GatE w0 w base (.slice lo E.length lc) E) (hx : IRow w0 xo x.n x.f) (hn : E.length ≤ 1048576) (hbase : base ≤ w.heap.size) :
    ∃ lo' lc' w', (Builtin.append_ #[26, 26] ty #[.slice lo E.length lc, .slice (some ⟨w.heap.size, 0, none⟩) 1 1]).run Tryz.prog (w.alloc (.cells #[.string x.key, .int .i64 x.seq, .int .i64 x.kind, .int .i64 x.c, .int .i64 x.s, .int .i64 x.lo, .int .i64 x.hi, .slice xo x.n xc, .bool x.fu] 48)) = .ok (.slice lo' (E.length + 1) lc') w' ∧ GatE w0 w' base (.slice lo' (E.length + 1) lc') (E ++ [x]) ∧ Below base w w' := by
  obtain ⟨i0, hi, hz0, hz1, hz2⟩ := info_parts Tryz.infoEnt
  obtain ⟨V, hO, hV⟩ := h
  have hB := below_new w (.cells #[.string x.key, .int .i64 x.seq, .int .i64 x.kind, .int .i64 x.c, .int .i64 x.s, .int .i64 x.lo, .int .i64 x.hi, .slice xo x.n xc, .bool x.fu] 48)
  obtain ⟨v', w', hrun, h1, h2, _, _⟩ := run_append_own_at (P := Tryz.prog) (w.alloc (.cells #[.string x.key, .int .i64 x.seq, .int .i64 x.kind, .int .i64 x.c, .int .i64 x.s, .int .i64 x.lo, .int .i64 x.hi, .slice xo x.n xc, .bool x.fu] 48)) base 26 ty 48 i0 _ 9 96 Tryz.underlying26 hi hz0 hz1 hz2 rfl (by decide) (.slice lo E.length lc) E.length ((List.range E.length).flatMap fun i => ecells (eL E i) (V i)) (ownsRow_keep hO hB) ⟨w.heap.size, 0, none⟩ 1 1 (ecells x (.slice xo x.n xc)) rfl (nine_new _ _ _ _) (fun u hu => by
    simp only [ecells, List.mem_cons, List.not_mem_nil, or_false] at hu
    rcases hu with rfl | rfl | rfl | rfl | rfl | rfl | rfl | rfl | rfl <;> rfl) (by unfold maxLen; omega) (by omega) (by simp; omega)
  obtain ⟨lo', lc', rfl⟩ := ownsRow_form h1
  refine ⟨lo', lc', w', hrun, ⟨fun i => if i = E.length then .slice xo x.n xc else V i, ?_, fun i hi => ?_⟩, ((Below.refl base w).trans (hB.mono hbase)).grown h2 (by simp; omega) (fun q hq => (hO.lt q hq).1)⟩
  · rw [List.length_append, List.length_singleton, List.range_succ, List.flatMap_append]
    have e1 : ((List.range E.length).flatMap fun i => ecells (eL (E ++ [x]) i) (if i = E.length then .slice xo x.n xc else V i)) = ((List.range E.length).flatMap fun i => ecells (eL E i) (V i)) := by
      unfold List.flatMap
      congr 1
      refine List.map_congr_left fun i hi => ?_
      have := List.mem_range.1 hi
      rw [← eL_push _ _ i (by omega), if_neg (by omega), if_neg (by omega)]
    rw [e1]
    have e2 : (List.flatMap (fun i => ecells (eL (E ++ [x]) i) (if i = E.length then Value.slice xo x.n xc else V i)) [E.length]) = ecells x (.slice xo x.n xc) := by
      simp only [List.flatMap_cons, List.flatMap_nil, List.append_nil, if_true]
      rw [← eL_push _ _ _ (by omega), if_pos rfl]
    rw [e2]
    exact h1
  · rw [List.length_append, List.length_singleton] at hi
    rw [← eL_push _ _ i hi]
    show ∃ lo lc, (if i = E.length then Value.slice xo x.n xc else V i) = _ ∧ _
    split
    · exact ⟨xo, xc, rfl, hx⟩
    · exact hV i (by omega)
theorem GatE.mono {w0 w : World} {base base' : Nat} {v : Value} {E : List Ent} (h : GatE w0 w base v E) (hb : base' ≤ base) : GatE w0 w base' v E := by obtain ⟨V, h, h2⟩ := h; exact ⟨V, ownsRow_mono h hb, h2⟩

theorem IOwn.keepB {w w' : World} {B g n : Nat} {f : Nat → Int} (h : IOwn w g 0 n f) (hb : Below B w w') (hg : g < B) : IOwn w' g 0 n f :=
  ⟨h.bd, Nat.lt_of_lt_of_le h.lt hb.size, fun i hi => (hb.cell (p := ⟨g, 0 + i, none⟩) hg).trans (h.cell i hi), fun i hi => (hb.frozen (p := ⟨g, 0 + i, none⟩) hg).trans (h.free i hi)⟩
/-- What is left of rows of which p were taken. -/
def dp (D : Nat → List Ent) (p : Nat → Nat) : Nat → List Ent := fun i => (D i).drop (p i)
theorem dp_len (D : Nat → List Ent) (p : Nat → Nat) (i : Nat) : (dp D p i).length = (D i).length - p i := by simp [dp]
theorem dp_at (D : Nat → List Ent) (p : Nat → Nat) (i : Nat) : eL (dp D p i) 0 = eL (D i) (p i) := by simp [eL, dp, List.getD, List.getElem?_drop]
theorem dp_up (D : Nat → List Ent) (p : Nat → Nat) (j : Nat) : up (dp D p) j = dp D (fun i => if i = j then p j + 1 else p i) := by
  funext i
  unfold up dp
  by_cases h : i = j
  · subst h; simp
  · simp [h]
theorem dp_zero (D : Nat → List Ent) : dp D (fun _ => 0) = D := by funext i; simp [dp]

set_option maxRecDepth 100000 in
set_option maxHeartbeats 8000000 in
theorem l8Join_any (b off N cap : Nat) (D : Nat → List Ent) (w : World) (hr : LR w b off N D) (hN : N ≤ 1048576) (hs : sm D N ≤ 1048576) :
    Calls Tryz.prog 36 #[.slice (some ⟨b, off, none⟩) N cap] w fun e w' => DrO w (mg N D) w e w' := by
  obtain ⟨i0, hi, hz0, hz1, hz2⟩ := info_parts Tryz.infoInt
  go_enter Tryz.func36, Tryz.ntmps36
  go_wp2_with (at_make; refine wpList_make_full _ rfl (.tmp 9) (.tmp 9) 44 rfl w.heap.size 3 i0 (.int .i64 0) 1 Tryz.underlying44 hi hz0 hz1 .i64 .i64 _ _ N rfl rfl rfl rfl (by rw [hz2]; omega) (by unfold maxLen; omega) (Nat.le_refl _) ?_; intro w1 hown hgrow)
  have hb1 : Below w.heap.size w w1 := (Below.refl _ _).grown hgrow (Nat.le_refl _) (fun k h => by simp at h)
  have hlt1 : w.heap.size < w1.heap.size := by
    rcases hown.2 with ⟨h, _⟩ | ⟨g', cap', cur, h, _, hg, _⟩
    · simp at h
    · simp at h; obtain ⟨rfl, _⟩ := h
      exact (Array.getElem?_eq_some_iff.1 hg).1
  have ho := iown_of_made hown hlt1
  clear hown hgrow
  obtain ⟨ba, hba⟩ : ∃ ba, w.heap.size = ba := ⟨_, rfl⟩
  have hba1 : ba < w1.heap.size := by omega
  have HBA : Hid (w.heap.size = ba) := hba
  rw [hba] at ho ⊢
  clear hba
  go_loopw [3] (fun u wr => ∃ (p : Nat → Nat) (E : List Ent), IOwn wr ba 0 N (fun i => (p i : Nat)) ∧ (∀ i, i < N → p i ≤ (D i).length) ∧ Hid (mg N D = E ++ mg N (dp D p)) ∧ GatE w wr w1.heap.size u E ∧ Below w.heap.size w wr ∧ w1.heap.size ≤ wr.heap.size ∧ E.length + sm (dp D p) N = sm D N) (fun u _ => sm D N - lenS u)
  case atStart => exact ⟨fun _ => 0, [], by simpa using ho, fun i hi => Nat.zero_le _, by rw [dp_zero]; rfl, gatE_nil _ _ _, hb1, Nat.le_refl _, by rw [dp_zero]; simp⟩
  case round =>
    obtain ⟨p, E, hP, hpl, HM, hG, hbk, hsz, hs2⟩ := hrel
    obtain ⟨lo, lc, rfl⟩ := hG.form
    obtain ⟨wo, hwo⟩ : ∃ wo, wo = wr := ⟨_, rfl⟩
    subst hwo
    clear ho hb1
    have hcell := hP.cell
    have hbao := hP.lt
    simp only [Nat.zero_add] at hcell
    go_wp2
    go_loopw [5, 13] (fun q i W => ∃ k : Nat, k ≤ N ∧ i = .int .i64 k ∧ q = .int .i64 (lst (dp D p) k) ∧ Below wo.heap.size wo W) (fun _ i _ => N - (intOf i).toNat)
    case atStart => exact ⟨0, Nat.zero_le _, rfl, rfl, Below.refl _ _⟩
    case round =>
      obtain ⟨k, hk, rfl, rfl, hbw⟩ := hrel
      have bw := hbk.trans (hbw.mono hbk.size)
      by_cases hlt : k < N
      · obtain ⟨pk, c, h1, h2, h3⟩ := hr.row k hlt
        have a0 := (bw.cell (p := ⟨b, off + k, none⟩) hr.lt).trans h1
        have i0c := (hbw.cell (p := ⟨ba, k, none⟩) hbao).trans (hcell k hlt)
        have hpk := hpl k hlt
        have hki := sm_le (D := D) hlt
        have ek : lst (dp D p) (k + 1) = if 0 < (dp D p k).length ∧ (lst (dp D p) k = -1 ∨ cE (eL (dp D p k) 0) (eL (dp D p (lst (dp D p) k).toNat) 0) < 0) then (k : Int) else lst (dp D p) k := rfl
        have hud : undef = Value.tuple #[] := rfl
        by_cases h0 : (D k).length ≤ p k
        · have HE : Hid (lst (dp D p) k = lst (dp D p) (k + 1)) := by rw [ek, if_neg (by rw [dp_len]; omega)]; rfl
          have hd0 : decide (((p k : Nat) : Int) < ((D k).length : Int)) = false := decide_eq_false (by omega)
          have hd1 : decide (p k < (D k).length) = false := decide_eq_false (by omega)
          clear ek h3 h1 hcell
          generalize lst (dp D p) k = z at *
          go_wp2
          go_quiet (fail)
          go_wp2
          go_roundw
          case rel => exact ⟨k + 1, by omega, by go_num, by rw [HE.out], below_drewN hbw _⟩
          case measure => simp [intOf]; omega
        have hd0 : decide (((p k : Nat) : Int) < ((D k).length : Int)) = true := decide_eq_true (by omega)
        have hp1 : ((p k : Nat) : Int) < ((D k).length : Int) := by omega
        have hp2 : 0 < (dp D p k).length := by rw [dp_len]; omega
        rcases lst_form (dp D p) k with hm | ⟨j, hj, hjk, hjl⟩
        · have HE : Hid ((k : Int) = lst (dp D p) (k + 1)) := by rw [ek, if_pos ⟨hp2, .inl hm⟩]; rfl
          rw [hm]
          clear ek h3 h1 hm hcell
          go_wp2
          go_quiet (fail)
          go_wp2
          go_roundw
          case rel => exact ⟨k + 1, by omega, by go_num, by rw [← HE.out], below_drewN hbw _⟩
          case measure => simp [intOf]; omega
        · obtain ⟨pj, d, g1, g2, g3⟩ := hr.row j (by omega)
          have b0 := (bw.cell (p := ⟨b, off + j, none⟩) hr.lt).trans g1
          have j0c := (hbw.cell (p := ⟨ba, j, none⟩) hbao).trans (hcell j (by omega))
          rw [dp_len] at hjl
          obtain ⟨bx, ox, rfl, hbx, hx⟩ := h3.lies.resolve_left (by omega)
          obtain ⟨bz, oz, rfl, hbz, hy⟩ := g3.lies.resolve_left (by omega)
          obtain ⟨da, dc, ea, _⟩ := hx (p k) (by omega)
          obtain ⟨db, ec, eb, _⟩ := hy (p j) (by omega)
          have ea1 := ea.keep bw
          obtain ⟨_, a0', a1, a2, a3, a4, a5, a6, a7, a8⟩ := id ea1
          have eb1 := eb.keep bw
          obtain ⟨_, b0', b1, b2, b3, b4, b5, b6, b7, b8⟩ := id eb1
          have gl : b < wr.heap.size := Nat.lt_of_lt_of_le hr.lt bw.size
          have gb : ba < wr.heap.size := Nat.lt_of_lt_of_le hbao hbw.size
          have hj1 : ((p j : Nat) : Int) < ((D j).length : Int) := by omega
          have hjN : j < N := by omega
          have hji : (j : Int) < (N : Int) := by omega
          have hj0 : (0 : Int) ≤ (j : Int) := by omega
          have hjm : decide ((j : Int) < 0) = false := decide_eq_false (by omega)
          have hpk0 : (0 : Int) ≤ ((p k : Nat) : Int) := by omega
          have hpj0 : (0 : Int) ≤ ((p j : Nat) : Int) := by omega
          have hcc := fun W => l5Before_any (eL (D k) (p k)) (eL (D j) (p j)) da db dc ec W
          rw [hj, Int.toNat_natCast, dp_at, dp_at] at ek
          rw [hj]
          have HE1 : Hid (Bef (eL (D k) (p k)) (eL (D j) (p j)) → (k : Int) = lst (dp D p) (k + 1)) := fun h => by rw [ek, if_pos ⟨hp2, .inr ((cE_lt _ _).2 h)⟩]
          have HE2 : Hid (¬ Bef (eL (D k) (p k)) (eL (D j) (p j)) → (j : Int) = lst (dp D p) (k + 1)) := fun h => by rw [ek, if_neg (fun hh => hh.2.elim (fun h4 => absurd h4 (by omega)) (fun h4 => h ((cE_lt _ _).1 h4)))]
          clear ek hx hy ea eb h3 g3 h1 g1 hj hud hcell hP hG hp2 HM
          generalize eL (D k) (p k) = x at *
          generalize eL (D j) (p j) = y at *
          go_wp2
          go_region_held3 (fun w' => w'.cell? ⟨ba, k, none⟩ = some (.int .i64 (p k : Nat)) ∧ w'.cell? ⟨ba, j, none⟩ = some (.int .i64 (p j : Nat)) ∧ w'.cell? ⟨b, off + k, none⟩ = some (.slice (some ⟨bx, ox, none⟩) (D k).length c) ∧ w'.cell? ⟨b, off + j, none⟩ = some (.slice (some ⟨bz, oz, none⟩) (D j).length d) ∧ w'.cell? ⟨bx, ox + p k * 9, none⟩ = some (.string x.key) ∧ w'.cell? ⟨bx, ox + p k * 9 + 1, none⟩ = some (.int .i64 x.seq) ∧ w'.cell? ⟨bx, ox + p k * 9 + 2, none⟩ = some (.int .i64 x.kind) ∧ w'.cell? ⟨bx, ox + p k * 9 + 3, none⟩ = some (.int .i64 x.c) ∧ w'.cell? ⟨bx, ox + p k * 9 + 4, none⟩ = some (.int .i64 x.s) ∧ w'.cell? ⟨bx, ox + p k * 9 + 5, none⟩ = some (.int .i64 x.lo) ∧ w'.cell? ⟨bx, ox + p k * 9 + 6, none⟩ = some (.int .i64 x.hi) ∧ w'.cell? ⟨bx, ox + p k * 9 + 7, none⟩ = some (.slice da x.n dc) ∧ w'.cell? ⟨bx, ox + p k * 9 + 8, none⟩ = some (.bool x.fu) ∧ w'.cell? ⟨bz, oz + p j * 9, none⟩ = some (.string y.key) ∧ w'.cell? ⟨bz, oz + p j * 9 + 1, none⟩ = some (.int .i64 y.seq) ∧ w'.cell? ⟨bz, oz + p j * 9 + 2, none⟩ = some (.int .i64 y.kind) ∧ w'.cell? ⟨bz, oz + p j * 9 + 3, none⟩ = some (.int .i64 y.c) ∧ w'.cell? ⟨bz, oz + p j * 9 + 4, none⟩ = some (.int .i64 y.s) ∧ w'.cell? ⟨bz, oz + p j * 9 + 5, none⟩ = some (.int .i64 y.lo) ∧ w'.cell? ⟨bz, oz + p j * 9 + 6, none⟩ = some (.int .i64 y.hi) ∧ w'.cell? ⟨bz, oz + p j * 9 + 7, none⟩ = some (.slice db y.n ec) ∧ w'.cell? ⟨bz, oz + p j * 9 + 8, none⟩ = some (.bool y.fu)) (go_keep) (first | (go_at_call 52; refine (hcc _).mono ?_; rintro e w6 ⟨bb, rfl, hbb, hb6⟩; have hb6' := (Below.refl _ wr).drew.trans hb6; obtain ⟨_, p0, p1, p2, p3, p4, p5, p6, p7, p8⟩ := ea1.keep hb6'; obtain ⟨_, q0, q1, q2, q3, q4, q5, q6, q7, q8⟩ := eb1.keep hb6'; have y06 := (hb6'.cell (p := ⟨b, off + k, none⟩) gl).trans a0; have y26 := (hb6'.cell (p := ⟨b, off + j, none⟩) gl).trans b0; have z06 := (hb6'.cell (p := ⟨ba, k, none⟩) gb).trans i0c; have z26 := (hb6'.cell (p := ⟨ba, j, none⟩) gb).trans j0c; have bw6 := hbw.trans (hb6'.mono hbw.size); have HB : Hid (bb = true ↔ Bef x y) := hbb; clear hb6 hb6' hbb))
          clear hcc
          cases bb
          · have HF : Hid ((j : Int) = lst (dp D p) (k + 1)) := HE2.out (fun h => by have := HB.out.2 h; cases this)
            clear HE1 HE2 HB
            go_wp2
            go_roundw
            case rel => exact ⟨k + 1, by omega, by go_num, by rw [← HF.out], bw6⟩
            case measure => simp [intOf]; omega
          · have HF : Hid ((k : Int) = lst (dp D p) (k + 1)) := HE1.out (HB.out.1 rfl)
            clear HE1 HE2 HB
            go_wp2
            go_roundw
            case rel => exact ⟨k + 1, by omega, by go_num, by rw [← HF.out], bw6⟩
            case measure => simp [intOf]; omega
      · obtain rfl : k = N := by omega
        have hG2 := hG.keep hbw
        have hP2 := hP.keep hbw
        rcases lst_form (dp D p) k with hm | ⟨j, hj, hjN, hjl⟩
        · have HM2 : Hid (mg k D = E) := by have := HM.out; rw [mg_none hm, List.append_nil] at this; exact this
          rw [hm]
          clear hm HM hcell hP hG hP2
          go_wp2
          go_ret
          exact ⟨_, rfl, by rw [HM2.out]; exact hG2.mono (by omega), bw⟩
        · obtain ⟨pj, d, g1, g2, g3⟩ := hr.row j hjN
          have b0 := (bw.cell (p := ⟨b, off + j, none⟩) hr.lt).trans g1
          have j0c := (hbw.cell (p := ⟨ba, j, none⟩) hbao).trans (hcell j hjN)
          have jfz := hP2.free j hjN
          have hup := sm_up hjl hjN
          rw [dp_len] at hjl
          obtain ⟨bz, oz, rfl, hbz, hy⟩ := g3.lies.resolve_left (by omega)
          obtain ⟨db, ec, eb, ir⟩ := hy (p j) (by omega)
          obtain ⟨_, b0', b1, b2, b3, b4, b5, b6, b7, b8⟩ := eb.keep bw
          have hj1 : ((p j : Nat) : Int) < ((D j).length : Int) := by omega
          have hji : (j : Int) < (k : Int) := by omega
          have hj0 : (0 : Int) ≤ (j : Int) := by omega
          have hjm : decide ((j : Int) < 0) = false := decide_eq_false (by omega)
          have hpj0 : (0 : Int) ≤ ((p j : Nat) : Int) := by omega
          have HM2 : Hid (mg k D = (E ++ [eL (D j) (p j)]) ++ mg k (dp D (fun i => if i = j then p j + 1 else p i))) := by rw [Hid, HM.out, mg_some hj, dp_up, dp_at, List.append_assoc]; rfl
          rw [dp_up] at hup
          obtain ⟨lo2, lc2, w2, hrun, hG3, hb3⟩ := gat_run w wr.drew w1.heap.size lo lc E (eL (D j) (p j)) db ec 26 (hG2.keep (Below.refl _ _).drew) ir (by omega) (by have := hbw.size; simp; omega)
          have hP3 := (hP2.keepB (Below.refl _ wr).drew hP2.lt).keepB hb3 hba1
          have hfz := hP3.free j hjN
          have hc3 := hP3.cell j hjN
          rw [Nat.zero_add] at hfz hc3
          have hst := hP3.store j hjN ((p j : Nat) + 1) (by have := sm_le (D := D) hjN; omega)
          rw [Nat.zero_add] at hst
          have hst2 : IOwn (w2.setCell ⟨ba, j, none⟩ (.int .i64 ((p j : Nat) + 1))) ba 0 k (fun i => ((if i = j then p j + 1 else p i : Nat) : Int)) := hst.congr (fun i => by have := hst.bd i; by_cases e : i = j <;> simp only [e, if_true, if_false] at this ⊢ <;> omega) (fun i _ => by by_cases e : i = j <;> simp only [e, if_true, if_false] <;> omega)
          have ot := Others.setCell w2 ba j (.int .i64 ((p j : Nat) + 1))
          have hwp : IntKind.i64.wrap (((p j : Nat) : Int) + 1) = ((p j : Nat) : Int) + 1 := by rw [IntKind.wrap_i64]; have := sm_le (D := D) hjN; omega
          have bw2 : Below w.heap.size w w2 := (bw.trans (Below.refl _ wr).drew).trans (hb3.mono (by omega))
          have bw3 := bw2.trans (ot.below (by have := HBA.out; omega))
          have hG4 := hG3.others ot hba1
          have HZ : Hid (w1.heap.size ≤ (w2.setCell ⟨ba, j, none⟩ (.int .i64 ((p j : Nat) + 1))).heap.size) := by
            unfold Hid
            rw [ot.size]
            have h6 := hb3.size
            simp at h6
            have h7 := hbw.size
            omega
          rw [hj]
          clear HM hcell hP hG hP2 hG2 g1 g3 hy eb hb3 hst hP3 hG3 ot bw2 jfz hr
          go_wp2
          go_region_law (refine step_append_ty (by rfl) (.tmp 54) (.tmp 65) 26 26 (by rfl) (by rfl) (.slice lo E.length lc) (.slice (some ⟨wr.heap.size, 0, none⟩) 1 1) (.slice lo2 (E.length + 1) lc2) (by simp [Act.eval, Act.put]) (by simp [Act.eval, Act.put]) w2 hrun ?_)
          all_goals
            go_wp2
            refine ⟨⟨fun i => if i = j then p j + 1 else p i, E ++ [eL (D j) (p j)], hst2, fun i hi => ?_, HM2, hG4, bw3, HZ.out, by rw [List.length_append, List.length_singleton]; omega⟩, ?_⟩
            · by_cases e : i = j
              · subst e; simp only [if_true]; omega
              · simp only [e, if_false]; exact hpl i hi
            · simp only [lenS]; omega

end Go.Proofs.YtmeckcaekkangaaGreat
