/- A table's bytes, in the document's words; texts put behind bytes. -/
import Derived.Test.YtagkhohglpjjlaaPut
import Derived.Test.YtagkhohglpjjlaaIL
import Derived.Lib.AppendStr
import Derived.Laws.AppendOwnNone
namespace Go.Proofs.Ytagkhohglpjjlaa
open Go.RowKit
set_option linter.unusedSimpArgs false
set_option linter.unusedVariables false

/-- The bytes of a text. -/
def bytesOf (s : ByteArray) : List Int := s.data.toList.map fun b => (b.toNat : Int)
theorem bytesOf_len (s : ByteArray) : (bytesOf s).length = s.size := by simp [bytesOf]
theorem bytesOf_bd (s : ByteArray) : Byt (bytesOf s) := by
  intro z hz
  simp only [bytesOf, List.mem_map] at hz
  obtain ⟨b, _, rfl⟩ := hz
  have := b.toNat_lt
  omega
theorem vb_bytes (s : ByteArray) : Go.Lib.strCells s = vb (bytesOf s) := by simp [Go.Lib.strCells, vb, bytesOf]

theorem app_text_block (w : World) (base : Nat) (v : Value) (L : List Int) (hown : OwnL w base v L) (s0 : ByteArray) (hsz : L.length + s0.size ≤ 4194304) (hbase : base ≤ w.heap.size) (ty : TypeId) :
    ∃ v' w', (Builtin.append_ #[22, 9] ty #[v, .string s0]).run Try.prog w = .ok v' w' ∧ OwnL w' base v' (L ++ bytesOf s0) ∧ w.grownBy w' v.ownBlock ∧ (v'.ownBlock = v.ownBlock ∨ v'.ownBlock = some w.heap.size) := by
  obtain ⟨i0, hi, hz0, hz1, hz2⟩ := info_parts Try.info5
  obtain ⟨v', w', hr, h1, h2, h3⟩ := Go.Lib.run_append_own_string (P := Try.prog) w base 22 9 ty 5 i0 Try.underlying22 Try.underlying9 hi hz0 hz1 hz2 v L.length (vb L) hown.own s0 (by unfold maxLen; omega) (by omega) hbase
  refine ⟨v', w', hr, ⟨hown.bd.append (bytesOf_bd _), ?_⟩, h2, ?_⟩
  · rw [List.length_append, ← vb_append, bytesOf_len, ← vb_bytes]
    exact h1
  · rcases hown.own.2 with ⟨rfl, h0⟩ | ⟨g, cap, cur, rfl, hbg, hg, hnc, hcm, hcs, htake⟩
    · by_cases hm : s0.size = 0
      · rw [h3.2 ⟨rfl, hm⟩]
        exact .inl rfl
      · have hr' := run_append_nil_string (P := Try.prog) w 22 9 ty 5 i0 (.int .u8 0) Try.underlying22 Try.underlying9 hi hz0 s0 (by omega) (by omega) (by rw [hz2]; omega)
        have e := hr.symm.trans hr'
        injection e with e1 e2
        rw [e1]
        exact .inr rfl
    · by_cases hroom : L.length + s0.size ≤ cap
      · have hcs' : cur.size = cap := by simpa using hcs
        have hr' := Go.Lib.run_append_room_string (P := Try.prog) w 22 9 ty 5 i0 Try.underlying22 Try.underlying9 hi hz1 g L.length cap cur hg s0 hroom (by omega)
        have e := hr.symm.trans hr'
        injection e with e1 e2
        rw [e1]
        exact .inl rfl
      · have holds : ∀ j u, (vb L)[j]? = some u → w.cell? ((⟨g, 0, none⟩ : Addr).add j) = some u := hown.own.cells (g := g) rfl
        have hr' := Go.Lib.run_append_grow_string (P := Try.prog) w 22 9 ty 5 i0 (.int .u8 0) Try.underlying22 Try.underlying9 hi hz0 ⟨g, 0, none⟩ L.length cap (vb L) (by rw [hz1, vb_length, Nat.mul_one]) holds s0 (by omega) (by omega) (by rw [hz2]; exact growslice_fits (by omega) (by omega))
        have e := hr.symm.trans hr'
        injection e with e1 e2
        rw [e1]
        exact .inr rfl

/-- A text put behind a row of the call's own. -/
theorem wpList_appT {w : World} {ops : Array Oper} {rest : List Oper} {o : Oper} {a : Act} {Q : Exit → Act → World → Prop} (hgd : o.guard = none) (s x : Operand)
    (ho : o.op = .call { callee := .builtin .append, args := #[s, x], argTypes := #[22, 9] })
    (base : Nat) (v : Value) (L : List Int) (hs : a.eval s = v) (hown : OwnL w base v L) (s0 : ByteArray) (hx : a.eval x = .string s0)
    (hsz : L.length + s0.size ≤ 4194304) (hbase : base ≤ w.heap.size)
    (h : ∀ v' w', OwnL w' base v' (L ++ bytesOf s0) → w.grownBy w' v.ownBlock → (v'.ownBlock = v.ownBlock ∨ v'.ownBlock = some w.heap.size) → wpList Try.prog ops Q rest (a.put o.dst v') w') :
    wpList Try.prog ops Q (o :: rest) a w := by
  refine wpList_plain hgd fun K hK => ?_
  obtain ⟨v', w', hr, h1, h2, h3⟩ := app_text_block w base v L hown s0 hsz hbase o.type
  unfold Oper.wp execOp
  simp only [ho, resolve, invoke, builtin, Sem.run_bind, Sem.run_pure, Result.andThen_ok, List.map_toArray, List.map_cons, List.map_nil, hs, hx, hr]
  exact hK _ _ (h v' w' h1 h2 h3)

/-- Where bytes lie that are put behind: nowhere, or in a block. -/
def Lie (w : World) (ao : Option Addr) (c : Nat) (M : List Int) : Prop := (ao = none ∧ c = 0 ∧ M = []) ∨ ∃ b off, ao = some ⟨b, off, none⟩ ∧ At w b off M
theorem Lie.keep {w w' : World} {ao : Option Addr} {c : Nat} {M : List Int} (h : Lie w ao c M) (hb : Below w.heap.size w w') : Lie w' ao c M :=
  h.elim .inl fun ⟨b, off, e, ha⟩ => .inr ⟨b, off, e, ha.keep hb⟩
theorem Lie.grown {w w' : World} {ao : Option Addr} {c : Nat} {M : List Int} {row : Option Nat} (h : Lie w ao c M) (hg : w.grownBy w' row) (hne : ∀ b off, ao = some ⟨b, off, none⟩ → row ≠ some b) : Lie w' ao c M :=
  h.elim .inl fun ⟨b, off, e, ha⟩ => .inr ⟨b, off, e, ha.grown hg (hne b off e)⟩
theorem OwnL.lie {w : World} {base : Nat} {v : Value} {L : List Int} (h : OwnL w base v L) : ∃ ao c, v = .slice ao L.length c ∧ Lie w ao c L ∧ ∀ b off, ao = some ⟨b, off, none⟩ → base ≤ b := by
  rcases h.own.2 with ⟨rfl, h0⟩ | ⟨g, cap, cur, rfl, hbg, hg, hnc, hcm, hcs, htake⟩
  · exact ⟨none, 0, by rw [h0], .inl ⟨rfl, rfl, List.eq_nil_of_length_eq_zero h0⟩, fun b off e => by cases e⟩
  · have hlt := (Array.getElem?_eq_some_iff.1 hg).1
    refine ⟨_, cap, rfl, .inr ⟨g, 0, rfl, ⟨h.bd, hlt, fun i hi => ?_⟩⟩, fun b off e => by injection e with e; injection e with e1 e2; omega⟩
    have := h.own.cells (g := g) rfl i (.int .u8 (fl L i)) (vb_get hi)
    rw [Addr.add_lit] at this
    exact this
theorem wpList_appL {w : World} {ops : Array Oper} {rest : List Oper} {o : Oper} {a : Act} {Q : Exit → Act → World → Prop} (hgd : o.guard = none) (s x : Operand)
    (ho : o.op = .call { callee := .builtin .append, args := #[s, x], argTypes := #[22, 22] })
    (base : Nat) (v : Value) (L : List Int) (hs : a.eval s = v) (hown : OwnL w base v L)
    (ao : Option Addr) (m c : Nat) (M : List Int) (hx : a.eval x = .slice ao m c) (hm : m = M.length) (hM : Lie w ao c M)
    (hsz : L.length + M.length ≤ 4194304) (hbase : base ≤ w.heap.size)
    (h : ∀ v' w', OwnL w' base v' (L ++ M) → w.grownBy w' v.ownBlock → (v'.ownBlock = v.ownBlock ∨ v'.ownBlock = some w.heap.size) → wpList Try.prog ops Q rest (a.put o.dst v') w') :
    wpList Try.prog ops Q (o :: rest) a w := by
  rcases hM with ⟨rfl, rfl, rfl⟩ | ⟨b, off, rfl, hA⟩
  · obtain ⟨i0, hi, hz0, hz1, hz2⟩ := info_parts Try.info5
    subst hm
    refine wpList_append_own_none hgd s x 22 ho base 5 i0 1 Try.underlying22 hi v L.length (vb L) hs hown.own hx ?_
    exact h v w (by rw [List.append_nil]; exact hown) ⟨rfl, rfl, rfl, Nat.le_refl _, fun _ _ _ => rfl⟩ (.inl rfl)
  · exact wpList_app hgd s x ho base v L hs hown b off m c M hx hm hA hsz hbase h

theorem pvL_le (u : Int) : 1 ≤ (pvL u).length ∧ (pvL u).length ≤ 10 := by
  have h1 := pvL_length u
  have h2 := pk_le u
  omega
/-- Numbers, one behind the other. -/
def nsL (N : List Int) : List Int := N.flatMap pvL
theorem nsL_len (N : List Int) : (nsL N).length ≤ 10 * N.length := by
  induction N with
  | nil => simp [nsL]
  | cons x N ih =>
    have := pvL_le x
    simp only [nsL, List.flatMap_cons, List.length_append, List.length_cons] at *
    omega
theorem nsL_take {N : List Int} {k : Nat} (h : k < N.length) : nsL (N.take (k + 1)) = nsL (N.take k) ++ pvL (fi N k) := by
  have e : N.take (k + 1) = N.take k ++ [fi N k] := by rw [List.take_succ_eq_append_getElem h]; simp [fi, h]
  rw [e]
  simp [nsL]

set_option maxHeartbeats 1600000 in
theorem appendNumbers_any (base : Nat) (a : Option Addr) (cp : Nat) (L : List Int) (g nc : Nat) (N : List Int) (w : World) (hown : OwnL w base (.slice a L.length cp) L) (hg : g < w.heap.size)
    (hc : ∀ i, i < N.length → w.cell? ⟨g, i, none⟩ = some (.int .i64 (fi N i))) (hne : (Value.slice a L.length cp).ownBlock ≠ some g) (hN : ∀ i, i < N.length → 0 ≤ fi N i ∧ fi N i ≤ 9223372036854775807)
    (hL : L.length + 10 * N.length ≤ 1000000) (hbs : base ≤ w.heap.size) :
    Calls Try.prog 24 #[.slice a L.length cp, .slice (some ⟨g, 0, none⟩) N.length nc] w fun e w' => Putt base (.slice a L.length cp) L (nsL N) w e w' := by
  go_enter Try.func24, Try.ntmps24
  go_wp2
  go_loopw [0, 9] (fun v i wr => ∃ (k m cp' : Nat) (a' : Option Addr), k ≤ N.length ∧ i = .int .i64 k ∧ v = .slice a' m cp' ∧ m = (L ++ nsL (N.take k)).length ∧ OwnL wr base (.slice a' (L ++ nsL (N.take k)).length cp') (L ++ nsL (N.take k)) ∧ Hid (w.grownBy wr (Value.slice a L.length cp).ownBlock ∧ NB w (.slice a L.length cp) (.slice a' (L ++ nsL (N.take k)).length cp'))) (fun _ i _ => N.length - (intOf i).toNat)
  case atStart => exact ⟨0, _, cp, a, Nat.zero_le _, rfl, rfl, by simp [nsL], by simpa [nsL] using hown, ⟨⟨rfl, rfl, rfl, Nat.le_refl _, fun _ _ _ => rfl⟩, by simpa [nsL] using nb_self _ _⟩⟩
  case round =>
    obtain ⟨k, m, cp', a', hk, rfl, rfl, rfl, hok, HG⟩ := hrel
    by_cases hlt : k < N.length
    · obtain ⟨hgr, hnb⟩ := HG.out
      have h1 := hgr.cell (hc k hlt) (fun e => hne e.symm)
      have h1' : wr.cell? ⟨g, k, none⟩ = some (.int .i64 (fi N k)) := h1
      have hx := hN k hlt
      have hlen : (L ++ nsL (N.take k)).length ≤ L.length + 10 * k := by
        have := nsL_len (N.take k)
        rw [List.length_take] at this
        rw [List.length_append]; omega
      have hp := pvL_le (fi N k)
      have hsz := hgr.size
      have HL : Hid (L ++ nsL (N.take (k + 1)) = L ++ nsL (N.take k) ++ pvL (fi N k)) := by unfold Hid; rw [nsL_take hlt, List.append_assoc]
      have hne' := hnb.ne hne hg
      clear hc hN h1
      generalize L ++ nsL (N.take k) = M at *
      generalize fi N k = x at *
      go_wp2_with fail
      refine (putVar_impl x _ (by omega)).mono ?_
      intro e w1 hp1
      obtain ⟨g1, c1, rfl, hg1, A1, b1⟩ := pvl_of hp1
      clear hp1
      have o1 := hok.keep b1
      have s1 := b1.size
      go_wp2_with (at_builtin; refine wpList_app rfl (.tmp 13) (.tmp 16) rfl base (.slice a' M.length cp') M rfl o1 g1 0 (pvL x).length c1 (pvL x) rfl rfl A1 (by omega) (by omega) ?_; intro v2 w2 ho2 hg2 ha2; obtain ⟨a2, cp2, rfl⟩ := ho2.form)
      go_roundw
      case rel => exact ⟨k + 1, _, cp2, a2, by omega, by go_num, rfl, by rw [HL.out, List.length_append], by rw [HL.out]; exact ho2, ⟨grown_next hgr hnb (grown_next (grown_of_below b1 _) (nb_self _ _) hg2), by rw [HL.out]; exact hnb.trans ((nb_self _ _).trans (nb_of ha2) s1) hsz⟩⟩
      case measure => simp [intOf]; omega
    · obtain rfl : k = N.length := by omega
      simp only [List.take_length] at hok HG ⊢
      go_wp2
      go_ret
      exact ⟨_, rfl, hok, HG.out.1, HG.out.2⟩
set_option maxHeartbeats 1600000 in
theorem l9Put_any (base : Nat) (a : Option Addr) (cp : Nat) (L : List Int) (g nc : Nat) (N : List Int) (w : World) (hown : OwnL w base (.slice a L.length cp) L) (hg : g < w.heap.size)
    (hc : ∀ i, i < N.length → w.cell? ⟨g, i, none⟩ = some (.int .i64 (fi N i))) (hne : (Value.slice a L.length cp).ownBlock ≠ some g) (hN : ∀ i, i < N.length → 0 ≤ fi N i ∧ fi N i ≤ 9223372036854775807)
    (hL : L.length + 10 * N.length ≤ 1000000) (hbs : base ≤ w.heap.size) :
    Calls Try.prog 49 #[.slice a L.length cp, .slice (some ⟨g, 0, none⟩) N.length nc] w fun e w' => Putt base (.slice a L.length cp) L (nsL N) w e w' := by
  go_enter Try.func49, Try.ntmps49
  go_wp2
  go_loopw [0, 9] (fun v i wr => ∃ (k m cp' : Nat) (a' : Option Addr), k ≤ N.length ∧ i = .int .i64 k ∧ v = .slice a' m cp' ∧ m = (L ++ nsL (N.take k)).length ∧ OwnL wr base (.slice a' (L ++ nsL (N.take k)).length cp') (L ++ nsL (N.take k)) ∧ Hid (w.grownBy wr (Value.slice a L.length cp).ownBlock ∧ NB w (.slice a L.length cp) (.slice a' (L ++ nsL (N.take k)).length cp'))) (fun _ i _ => N.length - (intOf i).toNat)
  case atStart => exact ⟨0, _, cp, a, Nat.zero_le _, rfl, rfl, by simp [nsL], by simpa [nsL] using hown, ⟨⟨rfl, rfl, rfl, Nat.le_refl _, fun _ _ _ => rfl⟩, by simpa [nsL] using nb_self _ _⟩⟩
  case round =>
    obtain ⟨k, m, cp', a', hk, rfl, rfl, rfl, hok, HG⟩ := hrel
    by_cases hlt : k < N.length
    · obtain ⟨hgr, hnb⟩ := HG.out
      have h1 := hgr.cell (hc k hlt) (fun e => hne e.symm)
      have h1' : wr.cell? ⟨g, k, none⟩ = some (.int .i64 (fi N k)) := h1
      have hx := hN k hlt
      have hlen : (L ++ nsL (N.take k)).length ≤ L.length + 10 * k := by
        have := nsL_len (N.take k)
        rw [List.length_take] at this
        rw [List.length_append]; omega
      have hp := pvL_le (fi N k)
      have hsz := hgr.size
      have HL : Hid (L ++ nsL (N.take (k + 1)) = L ++ nsL (N.take k) ++ pvL (fi N k)) := by unfold Hid; rw [nsL_take hlt, List.append_assoc]
      have hne' := hnb.ne hne hg
      clear hc hN h1
      generalize L ++ nsL (N.take k) = M at *
      generalize fi N k = x at *
      go_wp2_with fail
      refine (putVar_spec x _ (by omega)).mono ?_
      intro e w1 hp1
      obtain ⟨g1, c1, rfl, hg1, A1, b1⟩ := pvl_of hp1
      clear hp1
      have o1 := hok.keep b1
      have s1 := b1.size
      go_wp2_with (at_builtin; refine wpList_app rfl (.tmp 13) (.tmp 16) rfl base (.slice a' M.length cp') M rfl o1 g1 0 (pvL x).length c1 (pvL x) rfl rfl A1 (by omega) (by omega) ?_; intro v2 w2 ho2 hg2 ha2; obtain ⟨a2, cp2, rfl⟩ := ho2.form)
      go_roundw
      case rel => exact ⟨k + 1, _, cp2, a2, by omega, by go_num, rfl, by rw [HL.out, List.length_append], by rw [HL.out]; exact ho2, ⟨grown_next hgr hnb (grown_next (grown_of_below b1 _) (nb_self _ _) hg2), by rw [HL.out]; exact hnb.trans ((nb_self _ _).trans (nb_of ha2) s1) hsz⟩⟩
      case measure => simp [intOf]; omega
    · obtain rfl : k = N.length := by omega
      simp only [List.take_length] at hok HG ⊢
      go_wp2
      go_ret
      exact ⟨_, rfl, hok, HG.out.1, HG.out.2⟩
end Go.Proofs.Ytagkhohglpjjlaa
