/- Entries by their keys: runs, in lists, and in the program. -/
import Derived.Test.YtmeckcaekkangaaGreatJd
import Derived.BigQuiet
namespace Go.Proofs.YtmeckcaekkangaaGreat
set_option maxRecDepth 100000
open Go.RowKit
set_option linter.unusedSimpArgs false
set_option linter.unusedVariables false

/-- Entries by runs of one key, the first k. -/
def rn (X : Nat → Ent) : Nat → List (List Ent)
  | 0 => []
  | k + 1 => if k = 0 ∨ (X (k - 1)).key.toList ≠ (X k).key.toList then rn X k ++ [[X k]] else (rn X k).dropLast ++ [(rn X k).getLastD [] ++ [X k]]
/-- From a on, up to b. -/
def sl (X : Nat → Ent) (a b : Nat) : List Ent := (List.range (b - a)).map fun i => X (a + i)
theorem sl_len (X : Nat → Ent) (a b : Nat) : (sl X a b).length = b - a := by simp [sl]
theorem sl_at {X : Nat → Ent} {a b i : Nat} (h : i < b - a) : eL (sl X a b) i = X (a + i) := by simp [eL, sl, h]
theorem sl_succ {X : Nat → Ent} {a b : Nat} (h : a ≤ b) : sl X a (b + 1) = sl X a b ++ [X b] := by
  unfold sl
  rw [show b + 1 - a = (b - a) + 1 by omega, List.range_succ, List.map_append]
  simp [show a + (b - a) = b by omega]
theorem sl_one (X : Nat → Ent) (a : Nat) : sl X a (a + 1) = [X a] := by simp [sl]
theorem rn_new {X : Nat → Ent} {k : Nat} (h : k = 0 ∨ (X (k - 1)).key.toList ≠ (X k).key.toList) : rn X (k + 1) = rn X k ++ [[X k]] := by
  show (if _ then _ else _) = _
  rw [if_pos h]
theorem rn_more {X : Nat → Ent} {k : Nat} {Rs : List (List Ent)} {L : List Ent} (h0 : k ≠ 0) (h : (X (k - 1)).key.toList = (X k).key.toList) (e : rn X k = Rs ++ [L]) : rn X (k + 1) = Rs ++ [L ++ [X k]] := by
  show (if _ then _ else _) = _
  rw [if_neg (fun hh => hh.elim h0 (fun h1 => h1 h)), e]
  simp [List.getLastD_concat]
/-- The i-th of rows. -/
def gR (Rs : List (List Ent)) (i : Nat) : List Ent := Rs.getD i []
theorem gR_push (Rs : List (List Ent)) (L : List Ent) : ∀ i, i < Rs.length + 1 → (if i = Rs.length then L else gR Rs i) = gR (Rs ++ [L]) i := by
  intro i hi
  unfold gR
  by_cases h : i = Rs.length
  · subst h; simp
  · rw [if_neg h]
    simp [List.getD, List.getElem?_append_left (show i < Rs.length from by omega)]
/-- Of runs: all entries are there, each run has one key and is not empty. -/
theorem rn_prop (X : Nat → Ent) : ∀ k, (rn X k).flatten = sl X 0 k ∧ (∀ L ∈ rn X k, L ≠ []) ∧ (0 < k → ∃ Rs a, a < k ∧ rn X k = Rs ++ [sl X a k] ∧ (∀ i, a ≤ i → i < k → (X i).key.toList = (X a).key.toList))
  | 0 => ⟨rfl, (fun L h => nomatch h), fun h => by omega⟩
  | k + 1 => by
    obtain ⟨h1, h2, h3⟩ := rn_prop X k
    by_cases hc : k = 0 ∨ (X (k - 1)).key.toList ≠ (X k).key.toList
    · rw [rn_new hc]
      refine ⟨?_, fun L hL => ?_, fun _ => ⟨rn X k, k, by omega, by rw [sl_one], fun i h4 h5 => by rw [show i = k by omega]⟩⟩
      · rw [List.flatten_append, h1, sl_succ (Nat.zero_le _)]; simp
      · rcases List.mem_append.1 hL with h | h
        · exact h2 L h
        · rw [List.mem_singleton.1 h]; simp
    · have h0 : k ≠ 0 := fun h => hc (.inl h)
      have he : (X (k - 1)).key.toList = (X k).key.toList := Classical.not_not.1 (fun h => hc (.inr h))
      obtain ⟨Rs, a, ha, e, hk⟩ := h3 (by omega)
      have e2 := rn_more h0 he e
      refine ⟨?_, fun L hL => ?_, fun _ => ⟨Rs, a, by omega, by rw [e2, sl_succ (by omega)], fun i h4 h5 => ?_⟩⟩
      · rw [e2, sl_succ (Nat.zero_le _), ← h1, e]; simp
      · rw [e2] at hL
        rcases List.mem_append.1 hL with h | h
        · exact h2 L (by rw [e]; exact List.mem_append_left _ h)
        · rw [List.mem_singleton.1 h]; simp
      · by_cases h6 : i = k
        · subst h6; rw [← he]; exact hk (i - 1) (by omega) (by omega)
        · exact hk i h4 (by omega)

/-- Rows that the call gathers, each of them lying in an older world. -/
def GatR (w0 w : World) (base : Nat) (v : Value) (Rs : List (List Ent)) : Prop :=
  ∃ V : Nat → Value, w.ownsRow base 26 1 v Rs.length ((List.range Rs.length).map V) ∧ ∀ i, i < Rs.length → ∃ p c, V i = .slice p (gR Rs i).length c ∧ (gR Rs i).length ≤ c ∧ ERow w0 p (gR Rs i).length (eL (gR Rs i))
theorem gatR_nil (w0 w : World) (base : Nat) : GatR w0 w base (.slice none 0 0) [] := ⟨fun _ => .slice none 0 0, World.ownsRow_nil _ _ _ _, fun i hi => absurd hi (Nat.not_lt_zero _)⟩
theorem GatR.form {w0 w : World} {base : Nat} {v : Value} {Rs : List (List Ent)} (h : GatR w0 w base v Rs) : ∃ lo lc, v = .slice lo Rs.length lc := by obtain ⟨V, h, _⟩ := h; exact ownsRow_form h
theorem GatR.keep {w0 w w' : World} {base : Nat} {v : Value} {Rs : List (List Ent)} (h : GatR w0 w base v Rs) (hb : Below w.heap.size w w') : GatR w0 w' base v Rs := by obtain ⟨V, h, h2⟩ := h; exact ⟨V, ownsRow_keep h hb, h2⟩
/-- Rows at hand: none, or in a block of their own. -/
def RunsO (w0 w : World) (base : Nat) (Rs : List (List Ent)) (v : Value) : Prop := (Rs = [] ∧ v = .slice none 0 0) ∨ ∃ g c, v = .slice (some ⟨g, 0, none⟩) Rs.length c ∧ base ≤ g ∧ LW w0 w g Rs.length (gR Rs)
theorem GatR.runs {w0 w : World} {base : Nat} {v : Value} {Rs : List (List Ent)} (h : GatR w0 w base v Rs) : RunsO w0 w base Rs v := by
  obtain ⟨V, h, h2⟩ := h
  rcases h.2 with ⟨rfl, h1⟩ | ⟨g, c, cur, rfl, h3, h4, h5, _⟩
  · exact .inl ⟨List.eq_nil_of_length_eq_zero h1, rfl⟩
  · refine .inr ⟨g, c, rfl, h3, (Array.getElem?_eq_some_iff.1 h4).1, fun i hi => ?_, fun i _ => by simpa using h.frozenAt i⟩
    obtain ⟨p, q, e, h6, h7⟩ := h2 i hi
    exact ⟨p, q, by rw [h.cellAt i (by omega)]; simp [hi, e], h6, h7⟩
theorem cell_one_v (w : World) (x : Value) (T : Nat) : ∀ j u, [x][j]? = some u → (w.alloc (.cells #[x] T)).cell? ((⟨w.heap.size, 0, none⟩ : Addr).add j) = some u := by
  intro j u hj
  have hlt : j < 1 := by
    have := (List.getElem?_eq_some_iff.1 hj).1
    simpa using this
  obtain rfl : j = 0 := by omega
  rw [Addr.add_lit, ← hj]
  simp [go_sem]
set_option maxRecDepth 100000 in
/-- One row put behind. -/
theorem wpList_pushR {w0 w : World} {ops : Array Oper} {rest : List Oper} {o : Oper} {a : Act} {Q : Exit → Act → World → Prop} (nb : Nat) (hnb : w.heap.size = nb) (hgd : o.guard = none) (s y : Operand)
    (ho : o.op = .call { callee := .builtin .append, args := #[s, y], argTypes := #[23, 23] })
    (base : Nat) (v : Value) (Rs : List (List Ent)) (L : List Ent) (xo : Option Addr) (n xc : Nat) (hLn : L.length = n) (hs : a.eval s = v) (h : GatR w0 w base v Rs) (hx : ERow w0 xo L.length (eL L)) (hxc : n ≤ xc)
    (hy : a.eval y = .slice (some ⟨nb, 0, none⟩) 1 1) (hn : Rs.length ≤ 1048576) (hbase : base ≤ w.heap.size)
    (hk : ∀ v' w', GatR w0 w' base v' (Rs ++ [L]) → (∃ lo lc, v' = .slice lo (Rs.length + 1) lc) → Below base w w' → wpList Tryz.prog ops Q rest (a.put o.dst v') w') :
    wpList Tryz.prog ops Q (o :: rest) a (w.alloc (.cells #[.slice xo n xc] 26)) := by
  subst hnb
  subst hLn
  obtain ⟨i0, hi, hz0, hz1, hz2⟩ := info_parts Tryz.infoES
  obtain ⟨V, hO, hV⟩ := h
  have hB := below_new w (.cells #[.slice xo L.length xc] 26)
  refine wpList_append_own_at (w := w.alloc (.cells #[.slice xo L.length xc] 26)) hgd s y 23 ho base 26 i0 _ 1 24 Tryz.underlying23 hi hz0 hz1 hz2 rfl (by decide) v Rs.length ((List.range Rs.length).map V) hs (ownsRow_keep hO hB) ⟨w.heap.size, 0, none⟩ 1 1 [.slice xo L.length xc] hy rfl (cell_one_v _ _ _) (fun u hu => by rw [List.mem_singleton.1 hu]; rfl) (by unfold maxLen; omega) (by omega) (by simp; omega) ?_
  intro v' w' h1 h2 h3 h4
  refine hk v' w' ⟨fun i => if i = Rs.length then .slice xo L.length xc else V i, ?_, fun i hi => ?_⟩ (ownsRow_form h1) (((Below.refl base w).trans (hB.mono hbase)).grown h2 (by simp; omega) (fun q hq => (hO.lt q hq).1))
  · rw [List.length_append, List.length_singleton, List.range_succ, List.map_append]
    have e1 : ((List.range Rs.length).map fun i => if i = Rs.length then Value.slice xo L.length xc else V i) = (List.range Rs.length).map V := List.map_congr_left fun i hi => by
      have := List.mem_range.1 hi
      rw [if_neg (by omega)]
    rw [e1]
    simpa using h1
  · rw [List.length_append, List.length_singleton] at hi
    rw [← gR_push _ _ i hi]
    show ∃ p c, (if i = Rs.length then Value.slice xo L.length xc else V i) = _ ∧ _
    split
    · exact ⟨xo, xc, rfl, hxc, hx⟩
    · exact hV i (by omega)

theorem ERow.sub {w : World} {b off n : Nat} {X : Nat → Ent} (h : ERow w (some ⟨b, off, none⟩) n X) {f t : Nat} (hft : f ≤ t) (ht : t ≤ n) : ERow w (some ⟨b, off + f * 9, none⟩) (sl X f t).length (eL (sl X f t)) := by
  rw [sl_len]
  refine ⟨fun i hi => by rw [sl_at hi]; exact h.bd _ (by omega), ?_⟩
  by_cases h0 : t - f = 0
  · exact .inl h0
  · obtain ⟨b', off', e, hlt, hc⟩ := h.lies.resolve_left (by omega)
    injection e with e
    injection e with e1 e2 _
    subst e1 e2
    refine .inr ⟨b, off + f * 9, rfl, hlt, fun i hi => ?_⟩
    obtain ⟨da, dc, h1, h2⟩ := hc (f + i) (by omega)
    rw [sl_at hi]
    exact ⟨da, dc, by rw [show off + f * 9 + i * 9 = off + (f + i) * 9 by omega]; exact h1, h2⟩

set_option maxRecDepth 100000 in
set_option maxHeartbeats 4000000 in
theorem keyRuns_any (b off n cap : Nat) (X : Nat → Ent) (w : World) (hr : ERow w (some ⟨b, off, none⟩) n X) (hn : n ≤ 1048576) (hcap : n ≤ cap) :
    Calls Tryz.prog 14 #[.slice (some ⟨b, off, none⟩) n cap] w fun e w' => ∃ v, e = .returned v ∧ RunsO w w' w.heap.size (rn X n) v ∧ Below w.heap.size w w' := by
  by_cases h0 : n = 0
  · subst h0
    go_enter Tryz.func14, Tryz.ntmps14
    go_wp2
    go_loopw [3, 5] (fun u i wr => i = .int .i64 1 ∧ u = .slice none 0 0 ∧ wr = w) (fun _ _ _ => 0)
    case atStart => exact ⟨rfl, rfl, rfl⟩
    case round =>
      obtain ⟨rfl, rfl, rfl⟩ := hrel
      go_wp2
      go_ret
      exact ⟨_, rfl, .inl ⟨rfl, rfl⟩, Below.refl _ _⟩
  obtain ⟨b', off', e, hblt, hc⟩ := hr.lies.resolve_left h0
  injection e with e
  injection e with e1 e2 _
  subst e1 e2
  go_enter Tryz.func14, Tryz.ntmps14
  go_wp2
  go_loopw [3, 4, 5] (fun u f t wr => ∃ (fr to : Nat) (Rs : List (List Ent)), f = .int .i64 fr ∧ t = .int .i64 to ∧ GatR w wr w.heap.size u Rs ∧ 1 ≤ to ∧ to ≤ n + 1 ∧ fr ≤ n ∧ fr ≤ to ∧ Rs.length ≤ fr ∧ (to ≤ n → fr < to) ∧ Hid ((to ≤ n → rn X to = Rs ++ [sl X fr to] ∧ ∀ i, fr ≤ i → i < to → (X i).key.toList = (X fr).key.toList) ∧ (to = n + 1 → rn X n = Rs)) ∧ Below w.heap.size w wr) (fun _ _ t _ => n + 1 - (intOf t).toNat)
  case atStart => exact ⟨0, 1, [], rfl, rfl, gatR_nil _ _ _, by omega, by omega, by omega, by omega, by simp, by omega, ⟨fun _ => ⟨by simp [rn, sl], fun i h1 h2 => by rw [show i = 0 by omega]⟩, fun h => by omega⟩, Below.refl _ _⟩
  case round =>
    obtain ⟨fr, to, Rs, rfl, rfl, hG, h1, h2, h3, h3', h4, h5, HR, hbk⟩ := hrel
    obtain ⟨lo, lc, rfl⟩ := hG.form
    by_cases hle : to ≤ n
    · have h5' := h5 hle
      obtain ⟨HR1, HR2⟩ := HR.out.1 hle
      have hfi : (0 : Int) ≤ (fr : Int) := by omega
      have hti : (to : Int) ≤ (n : Int) := by omega
      have hci : (to : Int) ≤ (cap : Int) := by omega
      have hft : (fr : Int) ≤ (to : Int) := by omega
      have hfc : fr < cap := by omega
      have hfc2 : ¬ cap = fr := by omega
      have hfc3 : ¬ cap - fr = 0 := by omega
      have hsub : ERow w (some ⟨b, off + fr * 9, none⟩) (sl X fr to).length (eL (sl X fr to)) := hr.sub (by omega) hle
      have hlen := sl_len X fr to
      by_cases hlt : to < n
      · obtain ⟨d1, c1, ea, _⟩ := hc to hlt
        obtain ⟨d2, c2, eb, _⟩ := hc fr (by omega)
        have a0 := (ea.keep hbk).c0
        have b0 := (eb.keep hbk).c0
        have htn : ((to : Int) == (n : Int)) = false := by simp; omega
        have hti2 : (to : Int) < (n : Int) := by omega
        have hfi2 : (fr : Int) < (n : Int) := by omega
        have hfn : fr < n := by omega
        by_cases hq : (X to).key.toList = (X fr).key.toList
        · have hqd : ((X to).key.toList == (X fr).key.toList) = true := by simp [hq]
          have HR3 : Hid ((to + 1 ≤ n → rn X (to + 1) = Rs ++ [sl X fr (to + 1)] ∧ ∀ i, fr ≤ i → i < to + 1 → (X i).key.toList = (X fr).key.toList) ∧ (to + 1 = n + 1 → rn X n = Rs)) := by
            refine ⟨fun _ => ⟨?_, fun i g1 g2 => ?_⟩, fun h => by omega⟩
            · rw [sl_succ (by omega)]
              exact rn_more (by omega) ((HR2 (to - 1) (by omega) (by omega)).trans hq.symm) HR1
            · by_cases g3 : i = to
              · rw [g3]; exact hq
              · exact HR2 i g1 (by omega)
          clear HR HR1 HR2 hq hc ea eb hsub hlen hr
          go_wp2
          go_quiet (fail)
          go_wp2
          go_roundw
          case rel => exact ⟨fr, to + 1, Rs, rfl, by go_num, hG.keep (below_drewN (Below.refl _ _) _), by omega, by omega, by omega, by omega, by omega, by omega, HR3, below_drewN hbk _⟩
          case measure => simp [intOf]; omega
        · have hqd : ((X to).key.toList == (X fr).key.toList) = false := by simpa using hq
          have HR3 : Hid ((to + 1 ≤ n → rn X (to + 1) = (Rs ++ [sl X fr to]) ++ [sl X to (to + 1)] ∧ ∀ i, to ≤ i → i < to + 1 → (X i).key.toList = (X to).key.toList) ∧ (to + 1 = n + 1 → rn X n = Rs ++ [sl X fr to])) := by
            refine ⟨fun _ => ⟨?_, fun i g1 g2 => by rw [show i = to by omega]⟩, fun h => by omega⟩
            rw [sl_one, ← HR1]
            exact rn_new (.inr (fun h => hq (h.symm.trans (HR2 (to - 1) (by omega) (by omega)))))
          clear HR HR1 HR2 hq hc ea eb hr
          go_wp2
          go_quiet (fail)
          have hbd1 := below_drewN hbk nq
          have hG1 := hG.keep (below_drewN (Below.refl _ wr) nq)
          generalize wr.drewN nq = w1 at *
          go_wp2_with (at_builtin; refine wpList_pushR (w := w1) _ rfl rfl (.tmp 29) (.tmp 34) rfl w.heap.size (.slice lo Rs.length lc) Rs (sl X fr to) (some ⟨b, off + fr * 9, none⟩) (to - fr) (cap - fr) hlen rfl hG1 hsub (by omega) rfl (by omega) hbd1.size ?_; intro v8 w8 hG8 hv8 hb8; obtain ⟨lo8, lc8, rfl⟩ := hv8)
          have b8 := hbd1.trans (hb8)
          go_roundw
          case rel => exact ⟨to, to + 1, Rs ++ [sl X fr to], rfl, by go_num, by simpa using hG8, by omega, by omega, by omega, by omega, by simp; omega, by omega, HR3, b8⟩
          case measure => simp [intOf]; omega
      · obtain rfl : to = n := by omega
        have htn : ((to : Int) == (to : Int)) = true := by simp
        have HR4 : Hid (rn X to = Rs ++ [sl X fr to]) := HR1
        clear HR HR1 HR2 hc hr
        go_wp2
        go_quiet (fail)
        have hbd1 := below_drewN hbk nq
        have hG1 := hG.keep (below_drewN (Below.refl _ wr) nq)
        generalize wr.drewN nq = w1 at *
        go_wp2_with (at_builtin; refine wpList_pushR (w := w1) _ rfl rfl (.tmp 29) (.tmp 34) rfl w.heap.size (.slice lo Rs.length lc) Rs (sl X fr to) (some ⟨b, off + fr * 9, none⟩) (to - fr) (cap - fr) hlen rfl hG1 hsub (by omega) rfl (by omega) hbd1.size ?_; intro v8 w8 hG8 hv8 hb8; obtain ⟨lo8, lc8, rfl⟩ := hv8)
        have b8 := hbd1.trans (hb8)
        go_roundw
        case rel => exact ⟨to, to + 1, Rs ++ [sl X fr to], rfl, by go_num, by simpa using hG8, by omega, by omega, by omega, by omega, by simp; omega, by omega, ⟨fun h => by omega, fun _ => HR4.out⟩, b8⟩
        case measure => simp [intOf]
    · obtain rfl : to = n + 1 := by omega
      have HR3 : Hid (rn X n = Rs) := HR.out.2 rfl
      have hd : decide (((n : Int) + 1) ≤ (n : Int)) = false := decide_eq_false (by omega)
      clear HR hc hr
      go_wp2
      go_ret
      exact ⟨_, rfl, by rw [HR3.out]; exact hG.runs, hbk⟩
end Go.Proofs.YtmeckcaekkangaaGreat
