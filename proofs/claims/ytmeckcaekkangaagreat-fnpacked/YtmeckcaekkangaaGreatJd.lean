/- Rows drained at their fronts, in the program. -/
import Derived.Test.YtmeckcaekkangaaGreatJl
import Derived.Test.YtmeckcaekkangaaGreatLo
namespace Go.Proofs.YtmeckcaekkangaaGreat
set_option maxRecDepth 100000
open Go.RowKit
set_option linter.unusedSimpArgs false
set_option linter.unusedVariables false

/-- Rows in block b whose entries lie in an older world. -/
structure LW (w0 w : World) (b N : Nat) (D : Nat → List Ent) : Prop where
  lt : b < w.heap.size
  row : ∀ i, i < N → ∃ p c, w.cell? ⟨b, i, none⟩ = some (.slice p (D i).length c) ∧ (D i).length ≤ c ∧ ERow w0 p (D i).length (eL (D i))
  free : ∀ i, i < N → w.frozen? ⟨b, i, none⟩ = false
theorem LW.keep {w0 w w' : World} {b N : Nat} {D : Nat → List Ent} (h : LW w0 w b N D) (hb : Below (b + 1) w w') : LW w0 w' b N D :=
  ⟨Nat.lt_of_lt_of_le h.lt hb.size, fun i hi => by obtain ⟨p, c, h1, h2, h3⟩ := h.row i hi; exact ⟨p, c, (hb.cell (p := ⟨b, i, none⟩) (Nat.lt_succ_self _)).trans h1, h2, h3⟩, fun i hi => (hb.frozen (p := ⟨b, i, none⟩) (Nat.lt_succ_self _)).trans (h.free i hi)⟩
theorem LW.lr {w0 w : World} {b N : Nat} {D : Nat → List Ent} (h : LW w0 w b N D) (hb : Below w0.heap.size w0 w) : LR w b 0 N D :=
  ⟨h.lt, fun i hi => by obtain ⟨p, c, h1, h2, h3⟩ := h.row i hi; exact ⟨p, c, by rw [Nat.zero_add]; exact h1, h2, h3.keep hb⟩⟩
theorem ERow.tail {w : World} {b off n : Nat} {E : List Ent} (h : ERow w (some ⟨b, off, none⟩) E.length (eL E)) (q : Option Addr) (hq : E.length = 1 ∨ q = some ⟨b, off + 9, none⟩) : ERow w q E.tail.length (eL E.tail) := by
  have hl : E.tail.length = E.length - 1 := by simp
  have he : ∀ i, eL E.tail i = eL E (i + 1) := fun i => by cases E <;> simp [eL, List.getD]
  refine ⟨fun i hi => by rw [he]; exact h.bd (i + 1) (by omega), ?_⟩
  by_cases h0 : E.tail.length = 0
  · exact .inl h0
  · rcases hq with hq | rfl
    · omega
    · obtain ⟨b', off', e, hlt, hc⟩ := h.lies.resolve_left (by omega)
      injection e with e
      injection e with e1 e2 _
      subst e1 e2
      refine .inr ⟨b, off + 9, rfl, hlt, fun i hi => ?_⟩
      obtain ⟨da, dc, h1, h2⟩ := hc (i + 1) (by omega)
      rw [he]
      exact ⟨da, dc, by rw [show off + 9 + i * 9 = off + (i + 1) * 9 by omega]; exact h1, h2⟩
theorem LW.took {w0 w : World} {b N i : Nat} {D : Nat → List Ent} (h : LW w0 w b N D) (hi : i < N) {q : Option Addr} {c : Nat} (hc : (D i).length ≤ c + 1) (hr : ERow w0 q (D i).tail.length (eL (D i).tail)) :
    LW w0 (w.setCell ⟨b, i, none⟩ (.slice q ((D i).length - 1) c)) b N (up D i) := by
  have hl : (D i).tail.length = (D i).length - 1 := by simp
  have hoth : Others b w (w.setCell ⟨b, i, none⟩ (.slice q ((D i).length - 1) c)) := Others.setCell _ _ _ _
  obtain ⟨p0, c0, h0, _, _⟩ := h.row i hi
  have hsame : (w.setCell ⟨b, i, none⟩ (.slice q ((D i).length - 1) c)).cell? ⟨b, i, none⟩ = some (.slice q ((D i).length - 1) c) := World.cell?_setCell_same _ _ _ h0
  have hother : ∀ j, j ≠ i → (w.setCell ⟨b, i, none⟩ (.slice q ((D i).length - 1) c)).cell? ⟨b, j, none⟩ = w.cell? ⟨b, j, none⟩ := fun j hj => World.cell?_setCell_other _ _ _ _ (by intro hh; injection hh with _ h2 _; omega)
  refine ⟨by rw [hoth.size]; exact h.lt, fun j hj => ?_, fun j hj => by simpa using h.free j hj⟩
  by_cases e : j = i
  · subst e
    have e2 : up D j j = (D j).tail := by simp [up]
    rw [e2]
    exact ⟨q, c, by rw [hl]; exact hsame, by omega, hr⟩
  · have e2 : up D i j = D j := by simp [up, e]
    rw [e2]
    obtain ⟨p, c', g1, g2, g3⟩ := h.row j hj
    exact ⟨p, c', by rw [hother j e]; exact g1, g2, g3⟩

/-- Entries that the call gathers, their lists where they lay in an older world. -/
def GatE (w0 w : World) (base : Nat) (v : Value) (E : List Ent) : Prop :=
  ∃ V : Nat → Value, w.ownsRow base 48 9 v E.length ((List.range E.length).flatMap fun i => ecells (eL E i) (V i)) ∧ ∀ i, i < E.length → ∃ lo lc, V i = .slice lo (eL E i).n lc ∧ IRow w0 lo (eL E i).n (eL E i).f
theorem gatE_nil (w0 w : World) (base : Nat) : GatE w0 w base (.slice none 0 0) [] := ⟨fun _ => .slice none 0 0, World.ownsRow_nil _ _ _ _, fun i hi => absurd hi (Nat.not_lt_zero _)⟩
theorem GatE.form {w0 w : World} {base : Nat} {v : Value} {E : List Ent} (h : GatE w0 w base v E) : ∃ lo lc, v = .slice lo E.length lc := by obtain ⟨V, h, _⟩ := h; exact ownsRow_form h
theorem GatE.keep {w0 w w' : World} {base : Nat} {v : Value} {E : List Ent} (h : GatE w0 w base v E) (hb : Below w.heap.size w w') : GatE w0 w' base v E := by obtain ⟨V, h, h2⟩ := h; exact ⟨V, ownsRow_keep h hb, h2⟩
theorem GatE.others {w0 w w' : World} {base c : Nat} {v : Value} {E : List Ent} (h : GatE w0 w base v E) (hb : Others c w w') (hc : c < base) : GatE w0 w' base v E := by
  obtain ⟨V, h, h2⟩ := h
  exact ⟨V, ownsRow_same h (fun q hq => hb.block q (by have := (h.lt q hq).1; omega)), h2⟩
theorem GatE.erow {w0 w : World} {base : Nat} {v : Value} {E : List Ent} (h : GatE w0 w base v E) (hw : Below w0.heap.size w0 w) (hb : ∀ i, i < E.length → EB (eL E i)) : ∃ lo lc, v = .slice lo E.length lc ∧ ERow w lo E.length (eL E) := by
  obtain ⟨V, h, h2⟩ := h
  exact erow_of h (fun i hi => by obtain ⟨p, q, e, hr⟩ := h2 i hi; exact ⟨p, q, e, hr.keep hw⟩) hb
set_option maxRecDepth 100000 in
/-- One put behind. -/
theorem wpList_pushG {w0 w : World} {ops : Array Oper} {rest : List Oper} {o : Oper} {a : Act} {Q : Exit → Act → World → Prop} (nb : Nat) (hnb : w.heap.size = nb) (hgd : o.guard = none) (s y : Operand)
    (ho : o.op = .call { callee := .builtin .append, args := #[s, y], argTypes := #[26, 26] })
    (base : Nat) (v : Value) (E : List Ent) (x : Ent) (xo : Option Addr) (xc : Nat) (hs : a.eval s = v) (h : GatE w0 w base v E) (hx : IRow w0 xo x.n x.f)
    (hy : a.eval y = .slice (some ⟨nb, 0, none⟩) 1 1) (hn : E.length ≤ 1048576) (hbase : base ≤ w.heap.size)
    (hk : ∀ v' w', GatE w0 w' base v' (E ++ [x]) → (∃ lo lc, v' = .slice lo (E.length + 1) lc) → Below base w w' → wpList Tryz.prog ops Q rest (a.put o.dst v') w') :
    wpList Tryz.prog ops Q (o :: rest) a (w.alloc (.cells #[.string x.key, .int .i64 x.seq, .int .i64 x.kind, .int .i64 x.c, .int .i64 x.s, .int .i64 x.lo, .int .i64 x.hi, .slice xo x.n xc, .bool x.fu] 48)) := by
  subst hnb
  obtain ⟨i0, hi, hz0, hz1, hz2⟩ := info_parts Tryz.infoEnt
  obtain ⟨V, hO, hV⟩ := h
  have hB := below_new w (.cells #[.string x.key, .int .i64 x.seq, .int .i64 x.kind, .int .i64 x.c, .int .i64 x.s, .int .i64 x.lo, .int .i64 x.hi, .slice xo x.n xc, .bool x.fu] 48)
  refine wpList_append_own_at (w := w.alloc (.cells #[.string x.key, .int .i64 x.seq, .int .i64 x.kind, .int .i64 x.c, .int .i64 x.s, .int .i64 x.lo, .int .i64 x.hi, .slice xo x.n xc, .bool x.fu] 48)) hgd s y 26 ho base 48 i0 _ 9 96 Tryz.underlying26 hi hz0 hz1 hz2 rfl (by decide) v E.length ((List.range E.length).flatMap fun i => ecells (eL E i) (V i)) hs (ownsRow_keep hO hB) ⟨w.heap.size, 0, none⟩ 1 1 (ecells x (.slice xo x.n xc)) hy rfl (nine_new _ _ _ _) (fun u hu => by
    simp only [ecells, List.mem_cons, List.not_mem_nil, or_false] at hu
    rcases hu with rfl | rfl | rfl | rfl | rfl | rfl | rfl | rfl | rfl <;> rfl) (by unfold maxLen; omega) (by omega) (by simp; omega) ?_
  intro v' w' h1 h2 h3 h4
  refine hk v' w' ⟨fun i => if i = E.length then .slice xo x.n xc else V i, ?_, fun i hi => ?_⟩ ?_ (((Below.refl base w).trans (hB.mono hbase)).grown h2 (by simp; omega) (fun q hq => (hO.lt q hq).1))
  · rw [List.length_append, List.length_singleton, List.range_succ, List.flatMap_append]
    have e1 : ((List.range E.length).flatMap fun i => ecells (eL (E ++ [x]) i) (if i = E.length then .slice xo x.n xc else V i)) = ((List.range E.length).flatMap fun i => ecells (eL E i) (V i)) := by
      unfold List.flatMap
      congr 1
      refine List.map_congr_left fun i hi => ?_
      have := List.mem_range.1 hi
      rw [← eL_push _ _ i (by omega), if_neg (by omega), if_neg (by omega)]
    rw [e1]
    have e2 : (List.flatMap (fun i => ecells (eL (E ++ [x]) i) (if i = E.length then Value.slice xo x.n xc else V i)) [E.length]) = ecells x (.slice xo x.n xc) := by
      simp only [List.flatMap_cons, List.flatMap_nil, List.append_nil, if_true]
      rw [← eL_push _ _ _ (by omega), if_pos rfl]
    rw [e2]
    exact h1
  · rw [List.length_append, List.length_singleton] at hi
    rw [← eL_push _ _ i hi]
    show ∃ lo lc, (if i = E.length then Value.slice xo x.n xc else V i) = _ ∧ _
    split
    · exact ⟨xo, xc, rfl, hx⟩
    · exact hV i (by omega)
  · exact ownsRow_form h1

/-- A slice's length. -/
def lenS : Value → Nat
  | .slice _ n _ => n
  | _ => 0
/-- What draining leaves. -/
def DrO (w0 : World) (E : List Ent) (w : World) (e : Ending) (w' : World) : Prop := ∃ v, e = .returned v ∧ GatE w0 w' w.heap.size v E ∧ Below w0.heap.size w0 w'
set_option maxRecDepth 100000 in
set_option maxHeartbeats 4000000 in
theorem drainRows_any (w0 : World) (b N cap cap2 : Nat) (D : Nat → List Ent) (w : World) (hw0 : Below w0.heap.size w0 w) (hr : LW w0 w b N D) (hb : w0.heap.size ≤ b) (hN : N ≤ 1048576) (hs : sm D N ≤ 1048576) :
    Calls Tryz.prog 29 #[.slice (some ⟨b, 0, none⟩) N cap, .func (.func 30) #[.slice (some ⟨b, 0, none⟩) N cap2] #[]] w fun e w' => DrO w0 (mg N D) w e w' := by
  have hls : ∀ W D', LW w0 W b N D' → Below w0.heap.size w0 W → Calls Tryz.prog 30 #[.slice (some ⟨b, 0, none⟩) N cap2] W fun e w' => LsO (lst D' N) W e w' := fun W D' h h2 => least_any b 0 N cap2 D' W (h.lr h2) hN
  have hblt := hr.lt
  go_enter Tryz.func29, Tryz.ntmps29
  go_wp2_with fail
  refine (hls _ D hr hw0).mono ?_
  rintro e w1 ⟨rfl, hb1⟩
  go_wp2
  go_loopw [5, 6] (fun u i wr => ∃ (D' : Nat → List Ent) (E : List Ent), i = .int .i64 (lst D' N) ∧ LW w0 wr b N D' ∧ Hid (mg N D = E ++ mg N D') ∧ GatE w0 wr w.heap.size u E ∧ Below w0.heap.size w0 wr ∧ w.heap.size ≤ wr.heap.size ∧ sm D' N ≤ sm D N ∧ E.length + sm D' N = sm D N) (fun u _ _ => sm D N - lenS u)
  case atStart => exact ⟨D, [], rfl, hr.keep (hb1.mono (by omega)), rfl, gatE_nil _ _ _, hw0.trans (hb1.mono hw0.size), hb1.size, Nat.le_refl _, by simp⟩
  case round =>
    obtain ⟨D', E, rfl, hl, HM, hG, hbk, hsz, hs1, hs2⟩ := hrel
    obtain ⟨lo, lc, rfl⟩ := hG.form
    clear hb1 hr
    rcases lst_form D' N with hm | ⟨j, hj, hjN, hjl⟩
    · have HM2 : Hid (mg N D = E) := by have := HM.out; rw [mg_none hm, List.append_nil] at this; exact this
      rw [hm]
      clear hm HM
      go_wp2
      go_ret
      exact ⟨_, rfl, by rw [HM2.out]; exact hG, hbk⟩
    · obtain ⟨p, c, h1, h2, h3⟩ := hl.row j hjN
      have hf1 := hl.free j hjN
      obtain ⟨bx, ox, rfl, hbx, hx⟩ := h3.lies.resolve_left (by omega)
      obtain ⟨da, dc, ea, ir⟩ := hx 0 hjl
      rw [Nat.zero_mul, Nat.add_zero] at ea
      obtain ⟨_, a0, a1, a2, a3, a4, a5, a6, a7, a8⟩ := ea.keep hbk
      have hup := sm_up hjl hjN
      have HM2 : Hid (mg N D = (E ++ [eL (D' j) 0]) ++ mg N (up D' j)) := by rw [Hid, HM.out, mg_some hj, List.append_assoc]; rfl
      have hji : (j : Int) < (N : Int) := by omega
      have hj0 : (0 : Int) ≤ (j : Int) := by omega
      have hjm : ((j : Int) == -1) = false := by simp
      have hl1 : (0 : Int) < ((D' j).length : Int) := by omega
      have hl2 : 1 ≤ (D' j).length := by omega
      have hl3 : (1 : Int) ≤ ((D' j).length : Int) := by omega
      have hlc : ((D' j).length : Int) ≤ (c : Int) := by omega
      rw [hj]
      clear hx ea HM
      generalize hX : eL (D' j) 0 = x at *
      by_cases hc1 : c = 1
      · subst hc1
        have hlen : (D' j).length = 1 := by omega
        have HL : Hid ((D' j).length = 1) := hlen
        clear hlen
        go_wp2_with (at_builtin; refine wpList_pushG _ rfl rfl (.tmp 13) (.tmp 20) rfl w.heap.size (.slice lo E.length lc) E x da dc rfl hG ir rfl (by omega) hsz ?_; intro v8 w8 hG8 hv8 hb8; obtain ⟨lo8, lc8, rfl⟩ := hv8; have h8 := (hb8.cell (p := ⟨b, j, none⟩) hblt).trans h1; have f8 := (hb8.frozen (p := ⟨b, j, none⟩) hblt).trans hf1)
        have lw8 := (hl.keep (hb8.mono (by omega))).took hjN (q := some ⟨bx, ox, none⟩) (c := 0) (by omega) (ERow.tail (n := 0) h3 _ (.inl HL.out))
        rw [show (D' j).length - 1 = 0 from by have := HL.out; omega] at lw8
        have ot8 := Others.setCell w8 b j (.slice (some ⟨bx, ox, none⟩) 0 0)
        have b8 : Below w0.heap.size w0 w8 := hbk.trans (hb8.mono hw0.size)
        have b9 := b8.trans (ot8.below hb)
        have g9 := hG8.others ot8 hblt
        have z8 := hb8.size
        have z9 := ot8.size
        clear hG8 ot8 b8 h3 hl hG hb8
        refine (hls _ (up D' j) lw8 b9).mono ?_
        rintro e w10 ⟨rfl, hb10⟩
        have lw10 := lw8.keep (hb10.mono lw8.lt)
        have g10 := g9.keep hb10
        have b10 := b9.trans (hb10.mono b9.size)
        have z10 := hb10.size
        clear lw8 b9 g9 hb10
        go_wp2
        go_roundw
        case rel => exact ⟨up D' j, E ++ [x], rfl, lw10, HM2, by simpa using g10, b10, by omega, by omega, by simp; omega⟩
        case measure => simp [lenS]; omega
      · go_wp2_with (at_builtin; refine wpList_pushG _ rfl rfl (.tmp 13) (.tmp 20) rfl w.heap.size (.slice lo E.length lc) E x da dc rfl hG ir rfl (by omega) hsz ?_; intro v8 w8 hG8 hv8 hb8; obtain ⟨lo8, lc8, rfl⟩ := hv8; have h8 := (hb8.cell (p := ⟨b, j, none⟩) hblt).trans h1; have f8 := (hb8.frozen (p := ⟨b, j, none⟩) hblt).trans hf1)
        have lw8 := (hl.keep (hb8.mono (by omega))).took hjN (q := some ⟨bx, ox + 9, none⟩) (c := c - 1) (by omega) (ERow.tail (n := 0) h3 _ (.inr rfl))
        have ot8 := Others.setCell w8 b j (.slice (some ⟨bx, ox + 9, none⟩) ((D' j).length - 1) (c - 1))
        have b8 : Below w0.heap.size w0 w8 := hbk.trans (hb8.mono hw0.size)
        have b9 := b8.trans (ot8.below hb)
        have g9 := hG8.others ot8 hblt
        have z8 := hb8.size
        have z9 := ot8.size
        clear hG8 ot8 b8 h3 hl hG hb8
        refine (hls _ (up D' j) lw8 b9).mono ?_
        rintro e w10 ⟨rfl, hb10⟩
        have lw10 := lw8.keep (hb10.mono lw8.lt)
        have g10 := g9.keep hb10
        have b10 := b9.trans (hb10.mono b9.size)
        have z10 := hb10.size
        clear lw8 b9 g9 hb10
        go_wp2
        go_roundw
        case rel => exact ⟨up D' j, E ++ [x], rfl, lw10, HM2, by simpa using g10, b10, by omega, by omega, by simp; omega⟩
        case measure => simp [lenS]; omega
end Go.Proofs.YtmeckcaekkangaaGreat
