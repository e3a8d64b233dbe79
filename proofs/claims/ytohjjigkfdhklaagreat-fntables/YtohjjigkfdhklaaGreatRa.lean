/- A region that draws its order, walked in one order: what is held of the world is shown anew behind each operation but those that wait for the one that is taken first (so a region may write, at its end, what it read at its beginning). / Numbers of varying length: what ReadVar reads. / ReadVar, the program. / The numbers of an agg, read. -/
import Derived.Test.YtohjjigkfdhklaaGreatBase
import Derived.OrdersHeld
import Derived.StillTail
import Derived.OpenShut
import Derived.Test.YtohjjigkfdhklaaGreatIL
namespace Go.Proofs.YtohjjigkfdhklaaGreat
set_option maxRecDepth 100000
open Go.RowKit
set_option linter.unusedSimpArgs false
set_option linter.unusedVariables false

section
variable {P : Program} {ops : Array Oper} {Q : Exit → Act → World → Prop} {md : Region.Mode} {S : World → Prop} {W : Nat → Bool}

/-- Whatever order comes up; S is shown behind the operations that W names. -/
def wpW (P : Program) (md : Region.Mode) (ops : Array Oper) (Q : Exit → Act → World → Prop) (S : World → Prop) (W : Nat → Bool) : Nat → Array Bool → Act → World → Prop
  | 0, L, a, w => Region.ready md ops L = [] ∧ Q .normal a w
  | f + 1, L, a, w => (Region.ready md ops L = [] → Q .normal a w) ∧ ∀ j ∈ Region.ready md ops L, wpOp P ops Q j (fun a' w' => (W j = true → S w') ∧ wpW P md ops Q S W f (L.setIfInBounds j true) a' w') a w

theorem wpW_any : ∀ (f : Nat) (L : Array Bool) (a : Act) (w : World), wpW P md ops Q S W f L a w → wpAny P md ops Q f L a w
  | 0, _, _, _, h => h
  | f + 1, L, a, w, h => ⟨h.1, fun j hj => wpOp_mono (fun a' w' h' => wpW_any f _ a' w' h'.2) (h.2 j hj)⟩

/-- One that may come up is taken first: it yields its value in every world that meets S, and each other one waits for it, or lies apart from it and leaves S. -/
theorem wpW_first {i : Nat} {oi : Oper} {v : Value} (hi : ops[i]? = some oi) (hsel : ∀ (j : Nat) (o : Oper) cs b, ops[j]? = some o → o.op ≠ .select cs b)
    (hQ : ∀ c a w, Q (.panic c) (a.put oi.dst v) w → Q (.panic c) a w) (hW : ∀ j, j < ops.size → W j = false → Region.waitsFor md ops j i = true) :
    ∀ (f : Nat) (L : Array Bool) (a : Act) (w : World),
      (∀ j oj, ops[j]? = some oj → j ≠ i → L.getD j true = false → (∀ e ∈ oj.after, Region.binds md e = true → e.on ≠ i) → oi.apart ops oj = true) →
      i ∈ Region.ready md ops L → YieldsIf P ops S oi v a → S w → wpW P md ops Q S W f (L.setIfInBounds i true) (a.put oi.dst v) w → wpW P md ops Q S W (f + 1) L a w
  | 0, L, a, w, _, hr, hy, hS, H => by
    refine ⟨fun h0 => (by rw [h0] at hr; cases hr), fun j hj => ?_⟩
    by_cases e : j = i
    · subst e
      exact hy.wpOp hi hS ⟨fun _ => hS, H⟩
    · have h1 := ready_mono hj e
      rw [H.1] at h1
      cases h1
  | f + 1, L, a, w, hfree, hr, hy, hS, H => by
    refine ⟨fun h0 => (by rw [h0] at hr; cases hr), fun j hj => ?_⟩
    by_cases e : j = i
    · subst e
      exact hy.wpOp hi hS ⟨fun _ => hS, H⟩
    obtain ⟨hjun, oj, hoj, hall⟩ := mem_ready.1 hj
    have hjl : j < ops.size := (Array.getElem?_eq_some_iff.1 hoj).1
    have hun := (mem_ready.1 hr).1
    have hnw : ∀ ed ∈ oj.after, Region.binds md ed = true → ed.on ≠ i := by
      intro ed he hb heq
      have h1 := hall ed he hb
      rw [heq] at h1
      have h2 := getD_both hun
      rw [h2] at h1
      cases h1
    have hWj : W j = true := by
      cases hc : W j with
      | true => rfl
      | false =>
        obtain ⟨o', ho', ed, he, hb, hon⟩ := Region.waitsFor_spec (hW j hjl hc)
        rw [hoj] at ho'
        injection ho' with ho'
        subst ho'
        exact absurd hon (hnw ed he hb)
    have h2 := wpOp_putIf hoj (hfree j oj hoj e hjun hnw) (fun cs b => hsel i oi cs b hi) (fun cs b => hsel j oj cs b hoj) hQ hy (H.2 j (ready_mono hj e))
    refine wpOp_mono (fun a' w' h3 => ?_) h2
    have hS' := h3.2.1 hWj
    refine ⟨fun _ => hS', wpW_first hi hsel hQ hW f (L.setIfInBounds j true) a' w' (fun k ok hk hki hku hno => ?_) (ready_mono hr (Ne.symm e)) h3.1 hS' ?_⟩
    · refine hfree k ok hk hki ?_ hno
      by_cases ejk : j = k
      · subst ejk; exact hjun
      · rw [getD_set_ne true ejk] at hku; exact hku
    · rw [Array.setIfInBounds_comm _ _ e]
      exact h3.2.2

/-- Number i taken first. -/
theorem wpW_take (i : Nat) (oi : Oper) (v : Value) {f : Nat} {L : Array Bool} {a : Act} {w : World} (hi : ops[i]? = some oi) (hs : Region.noSelect ops = true) (hf : Region.free md ops L i = true) (hr : (Region.ready md ops L).contains i = true)
    (hQ : ∀ c a w, Q (.panic c) (a.put oi.dst v) w → Q (.panic c) a w) (hW : ((List.range ops.size).all fun j => W j || Region.waitsFor md ops j i) = true) (hy : YieldsIf P ops S oi v a) (hS : S w)
    (h : wpW P md ops Q S W f (L.setIfInBounds i true) (a.put oi.dst v) w) : wpW P md ops Q S W (f + 1) L a w :=
  wpW_first hi (Region.noSelect_spec hs) hQ (fun j hj hw => by
    have := List.all_eq_true.1 hW j (List.mem_range.2 hj)
    rw [hw] at this
    simpa using this) f L a w (Region.free_spec hi hf) (by simpa using hr) hy hS h
/-- The only one that may come up. -/
theorem wpW_one (i : Nat) (oi : Oper) {f : Nat} {L : Array Bool} {a : Act} {w : World} (hi : ops[i]? = some oi) (hr : Region.ready md ops L = [i])
    (h : if Region.wanted oi (yielded ops a.tmps) = true then Oper.wp P oi a w (fun a' w' => (W i = true → S w') ∧ wpW P md ops Q S W f (L.setIfInBounds i true) a' w') Q else False) : wpW P md ops Q S W (f + 1) L a w := by
  refine ⟨fun h0 => (by rw [hr] at h0; cases h0), fun j hj => ?_⟩
  rw [hr] at hj
  obtain rfl := List.mem_singleton.1 hj
  unfold wpOp
  rw [hi]
  dsimp only
  by_cases hw : Region.wanted oi (yielded ops a.tmps) = true
  · rw [if_pos hw] at h ⊢
    exact .inl h
  · rw [if_neg hw] at h
    exact h.elim
/-- The only two that may come up. -/
theorem wpW_two (i j : Nat) (oi oj : Oper) {f : Nat} {L : Array Bool} {a : Act} {w : World} (hi : ops[i]? = some oi) (hj : ops[j]? = some oj) (hr : Region.ready md ops L = [i, j])
    (h : if Region.wanted oi (yielded ops a.tmps) = true then Oper.wp P oi a w (fun a' w' => (W i = true → S w') ∧ wpW P md ops Q S W f (L.setIfInBounds i true) a' w') Q else False)
    (h' : if Region.wanted oj (yielded ops a.tmps) = true then Oper.wp P oj a w (fun a' w' => (W j = true → S w') ∧ wpW P md ops Q S W f (L.setIfInBounds j true) a' w') Q else False) : wpW P md ops Q S W (f + 1) L a w := by
  refine ⟨fun h0 => (by rw [hr] at h0; cases h0), fun k hk => ?_⟩
  rw [hr] at hk
  simp only [List.mem_cons, List.not_mem_nil, or_false] at hk
  unfold wpOp
  rcases hk with rfl | rfl
  · rw [hi]
    dsimp only
    by_cases hw : Region.wanted oi (yielded ops a.tmps) = true
    · rw [if_pos hw] at h ⊢
      exact .inl h
    · rw [if_neg hw] at h
      exact h.elim
  · rw [hj]
    dsimp only
    by_cases hw : Region.wanted oj (yielded ops a.tmps) = true
    · rw [if_pos hw] at h' ⊢
      exact .inl h'
    · rw [if_neg hw] at h'
      exact h'.elim
theorem wpW_done {f : Nat} {L : Array Bool} {a : Act} {w : World} (hr : Region.ready md ops L = []) (h : Q .normal a w) : wpW P md ops Q S W f L a w := by
  cases f with
  | zero => exact ⟨hr, h⟩
  | succ f => exact ⟨fun _ => h, fun j hj => by rw [hr] at hj; cases hj⟩
theorem wp_region_w (S : World → Prop) (W : Nat → Bool) {id : Nat} {a : Act} {w : World} (hm : P.follows .mixedOrders = true)
    (h : wpW P .any ops Q S W ops.size (Array.replicate ops.size false) a { w with drawn := w.drawn + 1 }) : (Code.region id ops true).wp P Q a w :=
  wp_region_any hm (wpW_any _ _ _ _ h)
/-- A step that yields a value. -/
theorem step_val {w w' : World} {o : Oper} {a : Act} {K : Act → World → Prop} {E : Prop} (hgd : o.guard = none) (v : Value) (hr : (execOp a.eval o).run P w = .ok (.value v) w') (h : K (a.put o.dst v) w') :
    if Region.wanted o (yielded ops a.tmps) = true then Oper.wp P o a w K Q else E := by
  have hw : Region.wanted o (yielded ops a.tmps) = true := by simp [Region.wanted, hgd]
  rw [if_pos hw]
  unfold Oper.wp
  rw [hr]
  exact h
/-- A call. -/
theorem step_enter {w : World} {o : Oper} {a : Act} {K : Act → World → Prop} {E : Prop} (hgd : o.guard = none) (f : FuncId) (args : Array Value) (v : Value) (R : World → Prop) (hr : (execOp a.eval o).run P w = .ok (.enter f args) w) (hc : Calls P f args w fun e w' => e = .returned v ∧ R w')
    (h : ∀ w', R w' → K (a.put o.dst v) w') : if Region.wanted o (yielded ops a.tmps) = true then Oper.wp P o a w K Q else E := by
  have hw : Region.wanted o (yielded ops a.tmps) = true := by simp [Region.wanted, hgd]
  rw [if_pos hw]
  unfold Oper.wp
  rw [hr]
  refine hc.mono ?_
  rintro e w' ⟨rfl, h2⟩
  exact h w' h2
/-- A call, by what it leaves. -/
theorem step_call {w : World} {o : Oper} {a : Act} {K : Act → World → Prop} {E : Prop} (hgd : o.guard = none) (f : FuncId) (args : Array Value) (R : Ending → World → Prop) (hr : (execOp a.eval o).run P w = .ok (.enter f args) w) (hc : Calls P f args w R)
    (h : ∀ e w', R e w' → ∃ v, e = .returned v ∧ K (a.put o.dst v) w') : if Region.wanted o (yielded ops a.tmps) = true then Oper.wp P o a w K Q else E := by
  have hw : Region.wanted o (yielded ops a.tmps) = true := by simp [Region.wanted, hgd]
  rw [if_pos hw]
  unfold Oper.wp
  rw [hr]
  refine hc.mono ?_
  intro e w' h2
  obtain ⟨v, rfl, h3⟩ := h e w' h2
  exact h3
/-- A guarded step that is wanted. -/
theorem step_wanted {w : World} {o : Oper} {a : Act} {K : Act → World → Prop} {E : Prop} (hw : Region.wanted o (yielded ops a.tmps) = true) (h : Oper.wp P o a w K Q) : if Region.wanted o (yielded ops a.tmps) = true then Oper.wp P o a w K Q else E := by
  rw [if_pos hw]
  exact h
theorem op_call {w : World} {o : Oper} {a : Act} {K : Act → World → Prop} (f : FuncId) (args : Array Value) (R : Ending → World → Prop) (hr : (execOp a.eval o).run P w = .ok (.enter f args) w) (hc : Calls P f args w R)
    (h : ∀ e w', R e w' → ∃ v, e = .returned v ∧ K (a.put o.dst v) w') : Oper.wp P o a w K Q := by
  unfold Oper.wp
  rw [hr]
  refine hc.mono ?_
  intro e w' h2
  obtain ⟨v, rfl, h3⟩ := h e w' h2
  exact h3
theorem op_val {w w' : World} {o : Oper} {a : Act} {K : Act → World → Prop} (v : Value) (hr : (execOp a.eval o).run P w = .ok (.value v) w') (h : K (a.put o.dst v) w') : Oper.wp P o a w K Q := by
  unfold Oper.wp
  rw [hr]
  exact h
end
end Go.Proofs.YtohjjigkfdhklaaGreat
namespace Go.Proofs.YtohjjigkfdhklaaGreat
set_option maxRecDepth 100000
open Go.RowKit
set_option linter.unusedSimpArgs false
set_option linter.unusedVariables false

def rvStep (acc x : Int) (k : Nat) : Int := bits .or .u64 acc (IntKind.u64.wrap (IntKind.u64.wrap (bits .and .u8 x 127) * 2 ^ (7 * k)))
/-- What is read from round k on; (0, 0) where there is no number. -/
def rv (f : Nat → Int) (n q : Nat) : Nat → Nat → Int → Int × Int
  | 0, _, _ => (0, 0)
  | t + 1, k, acc =>
    if q + k < n then
      (if k = 9 ∧ 1 < f (q + k) then (0, 0)
       else if f (q + k) < 128 then (if 0 < k ∧ f (q + k) = 0 then (0, 0) else (rvStep acc (f (q + k)) k, (q : Int) + k + 1))
       else rv f n q t (k + 1) (rvStep acc (f (q + k)) k))
    else (0, 0)
def rvAll (f : Nat → Int) (n q : Nat) : Int × Int := rv f n q 10 0 0

theorem rv_end (f : Nat → Int) (n q : Nat) (k : Nat) (acc : Int) (h : ¬ k < 10) : rv f n q (10 - k) k acc = (0, 0) := by
  rw [show 10 - k = 0 from by omega]; rfl
theorem rv_out (f : Nat → Int) (n q : Nat) (k : Nat) (acc : Int) (h : k < 10) (h1 : ¬ q + k < n) : rv f n q (10 - k) k acc = (0, 0) := by
  rw [show 10 - k = (9 - k) + 1 from by omega]; simp [rv, h1]
theorem rv_high (f : Nat → Int) (n q : Nat) (k : Nat) (acc : Int) (h : k < 10) (h2 : k = 9 ∧ 1 < f (q + k)) : rv f n q (10 - k) k acc = (0, 0) := by
  rw [show 10 - k = (9 - k) + 1 from by omega]; unfold rv; split
  · simp [h2]
  · rfl
theorem rv_nought (f : Nat → Int) (n q : Nat) (k : Nat) (acc : Int) (h : k < 10) (h3 : 0 < k ∧ f (q + k) = 0) : rv f n q (10 - k) k acc = (0, 0) := by
  rw [show 10 - k = (9 - k) + 1 from by omega]; unfold rv; split
  · simp [h3]
  · rfl
theorem rv_last (f : Nat → Int) (n q : Nat) (k : Nat) (acc : Int) (h : k < 10) (h1 : q + k < n) (h2 : ¬ (k = 9 ∧ 1 < f (q + k))) (h3 : f (q + k) < 128) (h4 : ¬ (0 < k ∧ f (q + k) = 0)) :
    rv f n q (10 - k) k acc = (rvStep acc (f (q + k)) k, (q : Int) + k + 1) := by
  rw [show 10 - k = (9 - k) + 1 from by omega]; unfold rv; rw [if_pos h1, if_neg h2, if_pos h3, if_neg h4]
theorem rv_more (f : Nat → Int) (n q : Nat) (k : Nat) (acc : Int) (h : k < 10) (h1 : q + k < n) (h2 : ¬ (k = 9 ∧ 1 < f (q + k))) (h3 : ¬ f (q + k) < 128) :
    rv f n q (10 - k) k acc = rv f n q (10 - (k + 1)) (k + 1) (rvStep acc (f (q + k)) k) := by
  rw [show 10 - k = (10 - (k + 1)) + 1 from by omega]; conv => lhs; unfold rv
  rw [if_pos h1, if_neg h2, if_neg h3]

end Go.Proofs.YtohjjigkfdhklaaGreat
namespace Go.Proofs.YtohjjigkfdhklaaGreat
set_option maxRecDepth 100000
open Go.RowKit
set_option linter.unusedSimpArgs false
set_option linter.unusedVariables false

/-- What ReadVar answers. -/
def rdVar (f : Nat → Int) (n : Nat) (a : Int) : Int × Int × Bool :=
  if 0 ≤ a ∧ a < n then ((rvAll f n a.toNat).1, (rvAll f n a.toNat).2, decide (0 < (rvAll f n a.toNat).2)) else (0, 0, false)

set_option maxHeartbeats 400000 in
theorem readVar_impl (ao : Option Addr) (n cap : Nat) (f : Nat → Int) (a : Int) (w : World) (hr : Row w ao n f) (hn : n ≤ 1048576) (hcap : n ≤ cap) :
    Calls Tryz.prog 143 #[.slice ao n cap, .int .i64 a] w fun e w' => e = .returned (.tuple #[.int .u64 (rdVar f n a).1, .int .i64 (rdVar f n a).2.1, .bool (rdVar f n a).2.2]) ∧ Below w.heap.size w w' := by
  by_cases h : 0 ≤ a ∧ a < n
  · obtain ⟨h0, h1⟩ := h
    obtain ⟨q, rfl⟩ := Int.eq_ofNat_of_zero_le h0
    have hq : q < n := by omega
    have E : Hid (rdVar f n (q : Int) = ((rvAll f n q).1, (rvAll f n q).2, decide (0 < (rvAll f n q).2))) := by
      unfold Hid rdVar; rw [if_pos ⟨h0, h1⟩]; simp
    generalize rdVar f n (q : Int) = T at *
    generalize hR : rvAll f n q = R at *
    have HR : Hid (rv f n q 10 0 0 = R) := hR
    clear hR
    obtain ⟨hbd, hl⟩ := hr
    obtain ⟨b, off, rfl, hblt, hc⟩ := hl.resolve_left (by omega)
    have hd : decide ((q : Int) < 0) = false := by simp
    by_cases hmin : n ≤ q + 10
    · go_enter Tryz.func143, Tryz.ntmps143
      go_wp2
      go_loopw [8, 30] (fun a i wr => ∃ k : Nat, ∃ acc : Int, k ≤ (n - q) ∧ i = .int .i64 k ∧ a = .int .u64 acc ∧ Hid (rv f n q (10 - k) k acc = R) ∧ Below w.heap.size w wr) (fun _ i _ => (n - q) - (intOf i).toNat)
      case atStart => exact ⟨0, 0, by omega, rfl, rfl, HR, Below.refl _ _⟩
      case round =>
        obtain ⟨k, acc, hk, rfl, rfl, HK, hbk⟩ := hrel
        by_cases hlt : k < (n - q)
        · have hin : q + k < n := by omega
          have hk10 : k < 10 := by omega
          have h1 : wr.cell? ⟨b, off + q + k, none⟩ = some (.int .u8 (f (q + k))) := by rw [Nat.add_assoc]; exact (hbk.cell (p := ⟨b, off + (q + k), none⟩) hblt).trans (hc _ hin)
          have hb := hbd (q + k)
          clear hc hl hbd
          by_cases h2 : k = 9 ∧ 1 < f (q + k)
          · have e := rv_high f n q k acc hk10 h2
            have HE : Hid (R = (0, 0)) := HK.out.symm.trans e
            clear e
            have e9 : ((k : Int) == 9) = true := by simp; omega
            have e1 := h2.2
            clear h2
            go_wp2
            go_ret3
            rw [E.out, HE.out]
            exact ⟨rfl, hbk⟩
          · have h9 : ((k : Int) == 9) = false ∨ (((k : Int) == 9) = true ∧ ¬ 1 < f (q + k)) := by
              by_cases h : k = 9
              · exact .inr ⟨by simp; omega, fun h5 => h2 ⟨h, h5⟩⟩
              · exact .inl (by simp; omega)
            by_cases h3 : f (q + k) < 128
            · by_cases h4 : 0 < k ∧ f (q + k) = 0
              · have e := rv_nought f n q k acc hk10 h4
                have HE : Hid (R = (0, 0)) := HK.out.symm.trans e
                clear e
                have e0 : (f (q + k) == 0) = true := by simp; omega
                have ek := h4.1
                clear h2 h4
                rcases h9 with h9 | ⟨h9, h10⟩
                all_goals
                  go_wp2
                  go_ret3
                  rw [E.out, HE.out]
                  exact ⟨rfl, hbk⟩
              · have e := rv_last f n q k acc hk10 hin h2 h3 h4
                have HE : Hid (R = (rvStep acc (f (q + k)) k, (q : Int) + k + 1)) := HK.out.symm.trans e
                clear e
                have hpos : Hid (decide (0 < (q : Int) + k + 1) = true) := by unfold Hid; simp; omega
                have h0' : (f (q + k) == 0) = false ∨ ((f (q + k) == 0) = true ∧ ¬ 0 < k) := by
                  by_cases h : f (q + k) = 0
                  · exact .inr ⟨by simp [h], fun h5 => h4 ⟨h5, h⟩⟩
                  · exact .inl (by simp [h])
                clear h2 h4
                rcases h9 with h9 | ⟨h9, h10⟩ <;> rcases h0' with h00 | ⟨h00, h01⟩
                all_goals
                  go_wp2
                  go_ret3
                  rw [E.out, HE.out]
                  simp only [hpos.out]
                  exact ⟨rfl, hbk⟩
            · have e := rv_more f n q k acc hk10 hin h2 h3
              have HE : Hid (rv f n q (10 - (k + 1)) (k + 1) (rvStep acc (f (q + k)) k) = R) := e.symm.trans HK.out
              clear e
              have hgt : 127 < f (q + k) := by omega
              clear h2
              rcases h9 with h9 | ⟨h9, h10⟩
              · go_wp2
                go_roundw
                case rel => exact ⟨k + 1, _, by omega, by go_num, rfl, HE, hbk⟩
                case measure => simp [intOf]; omega
              · omega
        · have HE : Hid (R = (0, 0)) := by
            refine HK.out.symm.trans ?_
            by_cases h10 : k < 10
            · exact rv_out f n q k acc h10 (by omega)
            · exact rv_end f n q k acc h10
          go_wp2
          go_ret3
          rw [E.out, HE.out]
          exact ⟨rfl, hbk⟩
    · go_enter Tryz.func143, Tryz.ntmps143
      go_wp2
      go_loopw [8, 30] (fun a i wr => ∃ k : Nat, ∃ acc : Int, k ≤ 10 ∧ i = .int .i64 k ∧ a = .int .u64 acc ∧ Hid (rv f n q (10 - k) k acc = R) ∧ Below w.heap.size w wr) (fun _ i _ => 10 - (intOf i).toNat)
      case atStart => exact ⟨0, 0, by omega, rfl, rfl, HR, Below.refl _ _⟩
      case round =>
        obtain ⟨k, acc, hk, rfl, rfl, HK, hbk⟩ := hrel
        by_cases hlt : k < 10
        · have hin : q + k < n := by omega
          have hk10 : k < 10 := by omega
          have h1 : wr.cell? ⟨b, off + q + k, none⟩ = some (.int .u8 (f (q + k))) := by rw [Nat.add_assoc]; exact (hbk.cell (p := ⟨b, off + (q + k), none⟩) hblt).trans (hc _ hin)
          have hb := hbd (q + k)
          clear hc hl hbd
          by_cases h2 : k = 9 ∧ 1 < f (q + k)
          · have e := rv_high f n q k acc hk10 h2
            have HE : Hid (R = (0, 0)) := HK.out.symm.trans e
            clear e
            have e9 : ((k : Int) == 9) = true := by simp; omega
            have e1 := h2.2
            clear h2
            go_wp2
            go_ret3
            rw [E.out, HE.out]
            exact ⟨rfl, hbk⟩
          · have h9 : ((k : Int) == 9) = false ∨ (((k : Int) == 9) = true ∧ ¬ 1 < f (q + k)) := by
              by_cases h : k = 9
              · exact .inr ⟨by simp; omega, fun h5 => h2 ⟨h, h5⟩⟩
              · exact .inl (by simp; omega)
            by_cases h3 : f (q + k) < 128
            · by_cases h4 : 0 < k ∧ f (q + k) = 0
              · have e := rv_nought f n q k acc hk10 h4
                have HE : Hid (R = (0, 0)) := HK.out.symm.trans e
                clear e
                have e0 : (f (q + k) == 0) = true := by simp; omega
                have ek := h4.1
                clear h2 h4
                rcases h9 with h9 | ⟨h9, h10⟩
                all_goals
                  go_wp2
                  go_ret3
                  rw [E.out, HE.out]
                  exact ⟨rfl, hbk⟩
              · have e := rv_last f n q k acc hk10 hin h2 h3 h4
                have HE : Hid (R = (rvStep acc (f (q + k)) k, (q : Int) + k + 1)) := HK.out.symm.trans e
                clear e
                have hpos : Hid (decide (0 < (q : Int) + k + 1) = true) := by unfold Hid; simp; omega
                have h0' : (f (q + k) == 0) = false ∨ ((f (q + k) == 0) = true ∧ ¬ 0 < k) := by
                  by_cases h : f (q + k) = 0
                  · exact .inr ⟨by simp [h], fun h5 => h4 ⟨h5, h⟩⟩
                  · exact .inl (by simp [h])
                clear h2 h4
                rcases h9 with h9 | ⟨h9, h10⟩ <;> rcases h0' with h00 | ⟨h00, h01⟩
                all_goals
                  go_wp2
                  go_ret3
                  rw [E.out, HE.out]
                  simp only [hpos.out]
                  exact ⟨rfl, hbk⟩
            · have e := rv_more f n q k acc hk10 hin h2 h3
              have HE : Hid (rv f n q (10 - (k + 1)) (k + 1) (rvStep acc (f (q + k)) k) = R) := e.symm.trans HK.out
              clear e
              have hgt : 127 < f (q + k) := by omega
              clear h2
              rcases h9 with h9 | ⟨h9, h10⟩
              · go_wp2
                go_roundw
                case rel => exact ⟨k + 1, _, by omega, by go_num, rfl, HE, hbk⟩
                case measure => simp [intOf]; omega
              · omega
        · have HE : Hid (R = (0, 0)) := by
            refine HK.out.symm.trans ?_
            by_cases h10 : k < 10
            · exact rv_out f n q k acc h10 (by omega)
            · exact rv_end f n q k acc h10
          go_wp2
          go_ret3
          rw [E.out, HE.out]
          exact ⟨rfl, hbk⟩
  · have e : Hid (rdVar f n a = (0, 0, false)) := by unfold Hid rdVar; rw [if_neg h]
    generalize rdVar f n a = T at *
    by_cases h0 : a < 0
    · go_enter Tryz.func143, Tryz.ntmps143
      go_wp2
      go_ret3
      rw [e.out]
      exact ⟨rfl, Below.refl _ _⟩
    · have hd : decide (a < 0) = false := by simpa using h0
      have h1 : (n : Int) ≤ a := by omega
      go_enter Tryz.func143, Tryz.ntmps143
      go_wp2
      go_ret3
      rw [e.out]
      exact ⟨rfl, Below.refl _ _⟩
end Go.Proofs.YtohjjigkfdhklaaGreat
namespace Go.Proofs.YtohjjigkfdhklaaGreat
set_option maxRecDepth 100000
open Go.RowKit
set_option linter.unusedSimpArgs false
set_option linter.unusedVariables false

/-- The sign taken out again. -/
def unfI (u : Int) : Int := if u % 2 = 1 then -(u / 2) - 1 else u / 2
theorem unfI_bd {u : Int} (h : 0 ≤ u ∧ u ≤ 18446744073709551615) : -9223372036854775808 ≤ unfI u ∧ unfI u ≤ 9223372036854775807 := by unfold unfI; split <;> omega
set_option maxHeartbeats 400000 in
theorem unfoldSign_any (u : Int) (h : 0 ≤ u ∧ u ≤ 18446744073709551615) (w : World) :
    Calls Tryz.prog 163 #[.int .u64 u] w fun e w' => e = .returned (.int .i64 (unfI u)) ∧ w' = w := by
  have ht : u.tdiv 2 = u / 2 := Int.tdiv_eq_ediv_of_nonneg h.1
  have hm : u.tmod 2 = u % 2 := Int.tmod_eq_emod_of_nonneg h.1
  have hw : IntKind.i64.wrap (u / 2) = u / 2 := by rw [IntKind.wrap_i64] <;> omega
  have hwn : IntKind.i64.wrap (-(u / 2)) = -(u / 2) := by rw [IntKind.wrap_i64] <;> omega
  have hwm : IntKind.i64.wrap (-(u / 2) - 1) = -(u / 2) - 1 := by rw [IntKind.wrap_i64] <;> omega
  by_cases h1 : u % 2 = 1
  · have HU : Hid (unfI u = -(u / 2) - 1) := by unfold Hid unfI; rw [if_pos h1]
    have hq : (u % 2 == 1) = true := by simp [h1]
    clear h1
    go_enter Tryz.func163, Tryz.ntmps163
    go_wp2
    go_ret
    exact ⟨by rw [HU.out]; rfl, rfl⟩
  · have HU : Hid (unfI u = u / 2) := by unfold Hid unfI; rw [if_neg h1]
    have hq : (u % 2 == 1) = false := by simp [h1]
    clear h1
    go_enter Tryz.func163, Tryz.ntmps163
    go_wp2
    go_ret
    exact ⟨by rw [HU.out]; rfl, rfl⟩

/-- k numbers read from place 1 on, and the place behind them. -/
def rdNs (f : Nat → Int) (n : Nat) : Nat → Option (List Int × Int)
  | 0 => some ([], 1)
  | k + 1 => match rdNs f n k with
    | none => none
    | some (L, a) => if (rdVar f n a).2.2 = true then some (L ++ [unfI (rdVar f n a).1], (rdVar f n a).2.1) else none

theorem rvStep_bd (a x : Int) (k : Nat) : 0 ≤ rvStep a x k ∧ rvStep a x k ≤ 18446744073709551615 := bounds_u64 (wf_bits _ _ _ _)
theorem rv_bd (f : Nat → Int) (n q : Nat) : ∀ t k acc, 0 ≤ (rv f n q t k acc).1 ∧ (rv f n q t k acc).1 ≤ 18446744073709551615
  | 0, _, _ => by simp [rv]
  | t + 1, k, acc => by
    unfold rv
    repeat' split
    · simp
    · simp
    · exact rvStep_bd _ _ _
    · exact rv_bd f n q t _ _
    · simp
theorem rdVar_bd (f : Nat → Int) (n : Nat) (a : Int) : 0 ≤ (rdVar f n a).1 ∧ (rdVar f n a).1 ≤ 18446744073709551615 := by
  unfold rdVar
  split
  · exact rv_bd _ _ _ _ _ _
  · simp

/-- Twelve ints as an array's value. -/
def arr12 (g : Nat → Int) : Value := .agg #[.int .i64 (g 0), .int .i64 (g 1), .int .i64 (g 2), .int .i64 (g 3), .int .i64 (g 4), .int .i64 (g 5), .int .i64 (g 6), .int .i64 (g 7), .int .i64 (g 8), .int .i64 (g 9), .int .i64 (g 10), .int .i64 (g 11)]
/-- What reading the numbers leaves. -/
def NumO (f : Nat → Int) (n : Nat) (w : World) (e : Ending) (w' : World) : Prop :=
  ∃ (g : Nat → Int) (ok : Bool), e = .returned (.tuple #[arr12 g, .bool ok]) ∧ (∀ N a, rdNs f n 12 = some (N, a) → ok = decide (a = (n : Int)) ∧ ∀ i, g i = fi N i) ∧ (rdNs f n 12 = none → ok = false) ∧
    (∀ i, -9223372036854775808 ≤ g i ∧ g i ≤ 9223372036854775807) ∧ Below w.heap.size w w'
theorem IOwn.twelve {w : World} {b : Nat} {g : Nat → Int} (h : IOwn w b 0 12 g) : w.cell? ⟨b, 0, none⟩ = some (.int .i64 (g 0)) ∧ w.cell? ⟨b, 1, none⟩ = some (.int .i64 (g 1)) ∧ w.cell? ⟨b, 2, none⟩ = some (.int .i64 (g 2)) ∧ w.cell? ⟨b, 3, none⟩ = some (.int .i64 (g 3)) ∧ w.cell? ⟨b, 4, none⟩ = some (.int .i64 (g 4)) ∧ w.cell? ⟨b, 5, none⟩ = some (.int .i64 (g 5)) ∧ w.cell? ⟨b, 6, none⟩ = some (.int .i64 (g 6)) ∧ w.cell? ⟨b, 7, none⟩ = some (.int .i64 (g 7)) ∧ w.cell? ⟨b, 8, none⟩ = some (.int .i64 (g 8)) ∧ w.cell? ⟨b, 9, none⟩ = some (.int .i64 (g 9)) ∧ w.cell? ⟨b, 10, none⟩ = some (.int .i64 (g 10)) ∧ w.cell? ⟨b, 11, none⟩ = some (.int .i64 (g 11)) :=
  ⟨h.cell 0 (by omega), h.cell 1 (by omega), h.cell 2 (by omega), h.cell 3 (by omega), h.cell 4 (by omega), h.cell 5 (by omega), h.cell 6 (by omega), h.cell 7 (by omega), h.cell 8 (by omega), h.cell 9 (by omega), h.cell 10 (by omega), h.cell 11 (by omega)⟩
theorem IOwn.twelveF {w : World} {b : Nat} {g : Nat → Int} (h : IOwn w b 0 12 g) : w.frozen? ⟨b, 0, none⟩ = false ∧ w.frozen? ⟨b, 1, none⟩ = false ∧ w.frozen? ⟨b, 2, none⟩ = false ∧ w.frozen? ⟨b, 3, none⟩ = false ∧ w.frozen? ⟨b, 4, none⟩ = false ∧ w.frozen? ⟨b, 5, none⟩ = false ∧ w.frozen? ⟨b, 6, none⟩ = false ∧ w.frozen? ⟨b, 7, none⟩ = false ∧ w.frozen? ⟨b, 8, none⟩ = false ∧ w.frozen? ⟨b, 9, none⟩ = false ∧ w.frozen? ⟨b, 10, none⟩ = false ∧ w.frozen? ⟨b, 11, none⟩ = false :=
  ⟨h.free 0 (by omega), h.free 1 (by omega), h.free 2 (by omega), h.free 3 (by omega), h.free 4 (by omega), h.free 5 (by omega), h.free 6 (by omega), h.free 7 (by omega), h.free 8 (by omega), h.free 9 (by omega), h.free 10 (by omega), h.free 11 (by omega)⟩

def set12 (w : World) (b : Nat) (g : Nat → Int) : World := ((((((((((((w.setCell ⟨b, 0, none⟩ (.int .i64 (g 0))).setCell ⟨b, 1, none⟩ (.int .i64 (g 1))).setCell ⟨b, 2, none⟩ (.int .i64 (g 2))).setCell ⟨b, 3, none⟩ (.int .i64 (g 3))).setCell ⟨b, 4, none⟩ (.int .i64 (g 4))).setCell ⟨b, 5, none⟩ (.int .i64 (g 5))).setCell ⟨b, 6, none⟩ (.int .i64 (g 6))).setCell ⟨b, 7, none⟩ (.int .i64 (g 7))).setCell ⟨b, 8, none⟩ (.int .i64 (g 8))).setCell ⟨b, 9, none⟩ (.int .i64 (g 9))).setCell ⟨b, 10, none⟩ (.int .i64 (g 10))).setCell ⟨b, 11, none⟩ (.int .i64 (g 11)))
theorem set12_facts {w : World} {b : Nat} {z g : Nat → Int} (h : IOwn w b 0 12 z) (hg : ∀ i, -9223372036854775808 ≤ g i ∧ g i ≤ 9223372036854775807) : IOwn (set12 w b g) b 0 12 g ∧ Others b w (set12 w b g) := by
  have st : ∀ {W : World} {y : Nat → Int} (k : Nat), k < 12 → IOwn W b 0 12 y → IOwn (W.setCell ⟨b, k, none⟩ (.int .i64 (g k))) b 0 12 (fun i => if i = k then g k else y i) := fun {W y} k hk hW => by
    have := hW.store k hk (g k) (hg k)
    rwa [Nat.zero_add] at this
  constructor
  · refine ((st 11 (by omega) (st 10 (by omega) (st 9 (by omega) (st 8 (by omega) (st 7 (by omega) (st 6 (by omega) (st 5 (by omega) (st 4 (by omega) (st 3 (by omega) (st 2 (by omega) (st 1 (by omega) (st 0 (by omega) h))))))))))))).congr hg fun i hi => ?_
    match i, hi with
    | 0, _ => rfl
    | 1, _ => rfl
    | 2, _ => rfl
    | 3, _ => rfl
    | 4, _ => rfl
    | 5, _ => rfl
    | 6, _ => rfl
    | 7, _ => rfl
    | 8, _ => rfl
    | 9, _ => rfl
    | 10, _ => rfl
    | 11, _ => rfl
  · exact (((((((((((Others.setCell _ _ _ _).trans (Others.setCell _ _ _ _)).trans (Others.setCell _ _ _ _)).trans (Others.setCell _ _ _ _)).trans (Others.setCell _ _ _ _)).trans (Others.setCell _ _ _ _)).trans (Others.setCell _ _ _ _)).trans (Others.setCell _ _ _ _)).trans (Others.setCell _ _ _ _)).trans (Others.setCell _ _ _ _)).trans (Others.setCell _ _ _ _)).trans (Others.setCell _ _ _ _)

set_option maxHeartbeats 3200000 in
theorem readAggNumbers_any (ao : Option Addr) (n cap : Nat) (f : Nat → Int) (w : World) (hr : Row w ao n f) (hn : n ≤ 1048576) (hcap : n ≤ cap) :
    Calls Tryz.prog 150 #[.slice ao n cap] w fun e w' => NumO f n w e w' := by
  have hB2 := below_new w (.cells #[.int .i64 0, .int .i64 0, .int .i64 0, .int .i64 0, .int .i64 0, .int .i64 0, .int .i64 0, .int .i64 0, .int .i64 0, .int .i64 0, .int .i64 0, .int .i64 0] 175)
  have hB4 := below_new (w.alloc (.cells #[.int .i64 0, .int .i64 0, .int .i64 0, .int .i64 0, .int .i64 0, .int .i64 0, .int .i64 0, .int .i64 0, .int .i64 0, .int .i64 0, .int .i64 0, .int .i64 0] 175)) (.cells #[.int .i64 0, .int .i64 0, .int .i64 0, .int .i64 0, .int .i64 0, .int .i64 0, .int .i64 0, .int .i64 0, .int .i64 0, .int .i64 0, .int .i64 0, .int .i64 0] 175)
  have bw4 := hB2.trans (hB4.mono hB2.size)
  have Z : ∀ W : World, IOwn (W.alloc (.cells #[.int .i64 0, .int .i64 0, .int .i64 0, .int .i64 0, .int .i64 0, .int .i64 0, .int .i64 0, .int .i64 0, .int .i64 0, .int .i64 0, .int .i64 0, .int .i64 0] 175)) W.heap.size 0 12 (fun _ => 0) := fun W => by
    refine ⟨fun _ => by omega, by simp, fun i hi => ?_, fun i hi => by simp [go_sem]⟩
    match i, hi with
    | 0, _ => simp [go_sem]
    | 1, _ => simp [go_sem]
    | 2, _ => simp [go_sem]
    | 3, _ => simp [go_sem]
    | 4, _ => simp [go_sem]
    | 5, _ => simp [go_sem]
    | 6, _ => simp [go_sem]
    | 7, _ => simp [go_sem]
    | 8, _ => simp [go_sem]
    | 9, _ => simp [go_sem]
    | 10, _ => simp [go_sem]
    | 11, _ => simp [go_sem]
  have I2 := (Z w).keep hB4
  have I4 := Z (w.alloc (.cells #[.int .i64 0, .int .i64 0, .int .i64 0, .int .i64 0, .int .i64 0, .int .i64 0, .int .i64 0, .int .i64 0, .int .i64 0, .int .i64 0, .int .i64 0, .int .i64 0] 175))
  simp only [World.size_alloc] at I4
  go_enter Tryz.func150, Tryz.ntmps150
  go_wp2
  generalize (w.alloc (.cells #[.int .i64 0, .int .i64 0, .int .i64 0, .int .i64 0, .int .i64 0, .int .i64 0, .int .i64 0, .int .i64 0, .int .i64 0, .int .i64 0, .int .i64 0, .int .i64 0] 175)).alloc (.cells #[.int .i64 0, .int .i64 0, .int .i64 0, .int .i64 0, .int .i64 0, .int .i64 0, .int .i64 0, .int .i64 0, .int .i64 0, .int .i64 0, .int .i64 0, .int .i64 0] 175) = w4 at *
  clear Z hB2 hB4
  go_loopw [5, 10] (fun a i wr => ∃ (k : Nat) (N : List Int) (q : Int), k ≤ 12 ∧ i = .int .i64 k ∧ a = .int .i64 q ∧ Hid (rdNs f n k = some (N, q) ∧ N.length = k ∧ ∀ x ∈ N, -9223372036854775808 ≤ x ∧ x ≤ 9223372036854775807) ∧ IOwn wr (w.heap.size + 1) 0 12 (fun j => if j < k then fi N j else 0) ∧ IOwn wr w.heap.size 0 12 (fun _ => 0) ∧ Below w.heap.size w wr) (fun _ i _ => 12 - (intOf i).toNat)
  case atStart => exact ⟨0, [], 1, by omega, rfl, rfl, ⟨rfl, rfl, fun x hx => by cases hx⟩, by simpa using I4, I2, bw4⟩
  case round =>
    obtain ⟨k, N, q, hk, rfl, rfl, HN, J4, J2, hbk⟩ := hrel
    by_cases hlt : k < 12
    · have hv := rdVar_bd f n q
      have hcall := readVar_impl ao n cap f q wr (hr.keep hbk) hn hcap
      have HR : Hid (rdNs f n (k + 1) = if (rdVar f n q).2.2 = true then some (N ++ [unfI (rdVar f n q).1], (rdVar f n q).2.1) else none) := by
        unfold Hid
        rw [rdNs, HN.out.1]
      generalize rdVar f n q = R at *
      obtain ⟨u, q2, ok⟩ := R
      simp only at hcall hv HR
      go_wp2_with fail
      refine hcall.mono ?_
      rintro e w5 ⟨rfl, q5⟩
      have K4 := J4.keep q5
      have K2 := J2.keep q5
      have bk := hbk.trans (q5.mono hbk.size)
      clear J4 J2 hcall hbk q5
      obtain ⟨g, hg⟩ : ∃ g : Nat → Int, (fun j => if j < k then fi N j else 0) = g := ⟨_, rfl⟩
      have HG : Hid (∀ j, g j = if j < k then fi N j else 0) := fun j => by rw [← hg]
      rw [hg] at K4
      clear hg
      cases ok
      · have HX : Hid (∀ m, k < m → m ≤ 12 → rdNs f n m = none) := by
          intro m
          induction m with
          | zero => omega
          | succ m ih =>
            intro h1 h2
            by_cases e : m = k
            · subst e; rw [HR.out]; simp
            · rw [rdNs, ih (by omega) (by omega)]
        obtain ⟨c0, c1, c2, c3, c4, c5, c6, c7, c8, c9, c10, c11⟩ := K4.twelve
        obtain ⟨d0, d1, d2, d3, d4, d5, d6, d7, d8, d9, d10, d11⟩ := K2.twelve
        obtain ⟨z0, z1, z2, z3, z4, z5, z6, z7, z8, z9, z10, z11⟩ := K2.twelveF
        have K2s := K2
        have K4b := K4.bd
        clear K4 K2
        go_wp2
        obtain ⟨F1, F2⟩ := set12_facts K2s K4b
        have bF := bk.trans (F2.below (Nat.le_refl _))
        show bodyPost Tryz.prog Tryz.f150 (fun e w' => NumO f n w e w') Exit.ret _ (set12 w5 w.heap.size g)
        generalize set12 w5 w.heap.size g = wF at *
        obtain ⟨t0, t1, t2, t3, t4, t5, t6, t7, t8, t9, t10, t11⟩ := F1.twelve
        refine bodyPost_ret (v := .tuple #[arr12 g, .bool false]) (by simp [results, Tryz.results150, arr12, go_sem, t0, t1, t2, t3, t4, t5, t6, t7, t8, t9, t10, t11]) rfl ?_
        exact ⟨g, false, rfl, (fun N' a' e => by rw [HX.out 12 hlt (Nat.le_refl _)] at e; cases e), (fun _ => rfl), K4b, bF⟩
      · have HS : Hid (rdNs f n (k + 1) = some (N ++ [unfI u], q2)) := by unfold Hid; rw [HR.out]; simp
        have hub := unfI_bd hv
        have c0 := K4.cell k hlt
        have z0 := K4.free k hlt
        have st := K4.store k hlt (unfI u) hub
        rw [Nat.zero_add] at c0 z0 st
        have K2o := (Others.setCell w5 (w.heap.size + 1) k (.int .i64 (unfI u)))
        have K2' : IOwn (w5.setCell ⟨w.heap.size + 1, k, none⟩ (.int .i64 (unfI u))) w.heap.size 0 12 (fun _ => 0) :=
          ⟨K2.bd, by rw [K2o.size]; exact K2.lt, fun i hi => (World.cell?_of_block (w := w5) (a := ⟨w.heap.size, 0 + i, none⟩) (K2o.block w.heap.size (by omega))).trans (K2.cell i hi), fun i hi => (World.frozen?_of_block (w := w5) (a := ⟨w.heap.size, 0 + i, none⟩) (K2o.block w.heap.size (by omega))).trans (K2.free i hi)⟩
        have bk' := bk.trans (K2o.below (B := w.heap.size) (by omega))
        clear K4 K2 HR K2o
        go_wp2_with fail
        refine (unfoldSign_any u hv _).mono ?_
        rintro e w6 ⟨rfl, hw6⟩
        subst w6
        generalize hui : unfI u = ui at *
        go_wp2
        go_roundw
        case rel =>
          refine ⟨k + 1, N ++ [ui], q2, by omega, by go_num, rfl, ⟨HS.out, by rw [List.length_append, HN.out.2.1]; rfl, fun x hx => ?_⟩, st.congr (fun i => ?_) (fun i hi => ?_), K2', bk'⟩
          · rcases List.mem_append.1 hx with hx | hx
            · exact HN.out.2.2 x hx
            · rw [List.mem_singleton.1 hx]; exact hub
          · have hib : Ib (N ++ [ui]) := fun x hx => by
              rcases List.mem_append.1 hx with hx | hx
              · exact HN.out.2.2 x hx
              · rw [List.mem_singleton.1 hx]; exact hub
            have := hib.fi i
            show _ ≤ (if i < k + 1 then fi (N ++ [ui]) i else 0) ∧ (if i < k + 1 then fi (N ++ [ui]) i else 0) ≤ _
            split <;> omega
          · have hl := HN.out.2.1
            show (if i = k then ui else g i) = if i < k + 1 then fi (N ++ [ui]) i else 0
            by_cases e : i = k
            · subst e
              rw [if_pos rfl, if_pos (by omega)]
              simp [fi, List.getD_eq_getElem?_getD, ← hl]
            · rw [if_neg e, HG.out i]
              by_cases h2 : i < k
              · rw [if_pos h2, if_pos (by omega)]
                simp only [fi, List.getD_eq_getElem?_getD]
                rw [List.getElem?_append_left (by omega)]
              · rw [if_neg h2, if_neg (by omega)]
        case measure => simp [intOf]; omega
    · obtain rfl : k = 12 := by omega
      obtain ⟨g, hg⟩ : ∃ g : Nat → Int, (fun j => if j < 12 then fi N j else 0) = g := ⟨_, rfl⟩
      have HG : Hid (∀ j, g j = if j < 12 then fi N j else 0) := fun j => by rw [← hg]
      rw [hg] at J4
      clear hg
      have K2s := J2
      have K4b := J4.bd
      have HQ : Hid (rdNs f n 12 = some (N, q)) := HN.out.1
      obtain ⟨c0, c1, c2, c3, c4, c5, c6, c7, c8, c9, c10, c11⟩ := J4.twelve
      obtain ⟨d0, d1, d2, d3, d4, d5, d6, d7, d8, d9, d10, d11⟩ := J2.twelve
      obtain ⟨z0, z1, z2, z3, z4, z5, z6, z7, z8, z9, z10, z11⟩ := J2.twelveF
      clear J4 J2
      obtain ⟨ok, hok⟩ : ∃ ok : Bool, (q == (n : Int)) = ok := ⟨_, rfl⟩
      go_wp2
      obtain ⟨F1, F2⟩ := set12_facts K2s K4b
      have bF := hbk.trans (F2.below (Nat.le_refl _))
      show bodyPost Tryz.prog Tryz.f150 (fun e w' => NumO f n w e w') _ _ (set12 wr w.heap.size g)
      generalize set12 wr w.heap.size g = wF at *
      obtain ⟨t0, t1, t2, t3, t4, t5, t6, t7, t8, t9, t10, t11⟩ := F1.twelve
      refine bodyPost_ret (v := .tuple #[arr12 g, .bool ok]) (by simp [results, Tryz.results150, arr12, go_sem, hok, t0, t1, t2, t3, t4, t5, t6, t7, t8, t9, t10, t11]) rfl ?_
      refine ⟨g, ok, rfl, fun N' a' e => ?_, (fun e => by rw [HQ.out] at e; cases e), K4b, bF⟩
      rw [HQ.out] at e
      injection e with e
      injection e with e1 e2
      subst e1 e2
      refine ⟨?_, fun i => ?_⟩
      rotate_left
      · rw [HG.out i]
        split
        · rfl
        · have hl := HN.out.2.1
          simp [fi, List.getD_eq_getElem?_getD, List.getElem?_eq_none (show N.length ≤ i by omega)]
      rw [← hok]
      by_cases h : q = (n : Int) <;> simp [h]
end Go.Proofs.YtohjjigkfdhklaaGreat
