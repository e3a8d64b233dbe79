/- addEntries, and what it leaves alone. / Answers of rows of entries: marked and looked for. / SplitRows, in the program. / SplitRows, in the program: the walk. / SplitRows, in the model. / SplitRows, in the model; what it answers can be held by a law. -/
import Derived.Test.YtmeckcaekkangaaGreatAm
import Derived.Test.YtmeckcaekkangaaGreatRr
import Derived.Test.YtmeckcaekkangaaGreatRn
import Derived.Test.YtmeckcaekkangaaGreatBef
import Derived.Test.YtmeckcaekkangaaGreatRe
import Derived.Test.YtmeckcaekkangaaGreatPp
import Derived.Test.YtmeckcaekkangaaGreatGoS
import Derived.Test.YtmeckcaekkangaaGreatLo
namespace Go.Proofs.YtmeckcaekkangaaGreat
set_option maxRecDepth 100000
open Go.RowKit
set_option linter.unusedSimpArgs false
set_option linter.unusedVariables false

/-- What was there but for one block is as it was. -/
structure Fr (blk : Option Nat) (w w' : World) : Prop where
  os : w'.os = w.os
  tape : w'.tape = w.tape
  output : w'.output = w.output
  size : w.heap.size ≤ w'.heap.size
  block : ∀ c, c < w.heap.size → blk ≠ some c → w'.heap[c]? = w.heap[c]?
theorem Fr.refl (blk : Option Nat) (w : World) : Fr blk w w := ⟨rfl, rfl, rfl, Nat.le_refl _, fun _ _ _ => rfl⟩
/-- One entry put behind; where the list lies then. -/
theorem wpList_pushE3 {w : World} {ops : Array Oper} {rest : List Oper} {o : Oper} {a : Act} {Q : Exit → Act → World → Prop} (nb : Nat) (hnb : w.heap.size = nb) (hgd : o.guard = none) (s y : Operand)
    (ho : o.op = .call { callee := .builtin .append, args := #[s, y], argTypes := #[26, 26] })
    (base : Nat) (v hv : Value) (n : Nat) (X : Nat → Ent) (V : Nat → Value) (x : Ent) (hs : a.eval s = v) (h : OutE w base v n X V) (hx : HOwn w base hv x)
    (hd : ∀ k, hv.ownBlock = some k → v.ownBlock ≠ some k ∧ ∀ i, i < n → (V i).ownBlock ≠ some k)
    (hy : a.eval y = .slice (some ⟨nb, 0, none⟩) 1 1) (hn : n ≤ 1048576) (hbase : base ≤ w.heap.size) (h1 : hv.oneCell' = true)
    (hk : ∀ v' w', OutE w' base v' (n + 1) (fun i => if i = n then x else X i) (fun i => if i = n then hv else V i) → (w.alloc (.cells #[.string x.key, .int .i64 x.seq, .int .i64 x.kind, .int .i64 x.c, .int .i64 x.s, .int .i64 x.lo, .int .i64 x.hi, hv, .bool x.fu] 48)).grownBy w' v.ownBlock → (v'.ownBlock = v.ownBlock ∨ v'.ownBlock = some (nb + 1)) → wpList Tryz.prog ops Q rest (a.put o.dst v') w') :
    wpList Tryz.prog ops Q (o :: rest) a (w.alloc (.cells #[.string x.key, .int .i64 x.seq, .int .i64 x.kind, .int .i64 x.c, .int .i64 x.s, .int .i64 x.lo, .int .i64 x.hi, hv, .bool x.fu] 48)) := by
  subst hnb
  obtain ⟨i0, hi, hz0, hz1, hz2⟩ := info_parts Tryz.infoEnt
  have hB := below_new w (.cells #[.string x.key, .int .i64 x.seq, .int .i64 x.kind, .int .i64 x.c, .int .i64 x.s, .int .i64 x.lo, .int .i64 x.hi, hv, .bool x.fu] 48)
  refine wpList_append_own_at (w := w.alloc (.cells #[.string x.key, .int .i64 x.seq, .int .i64 x.kind, .int .i64 x.c, .int .i64 x.s, .int .i64 x.lo, .int .i64 x.hi, hv, .bool x.fu] 48)) hgd s y 26 ho base 48 i0 _ 9 96 Tryz.underlying26 hi hz0 hz1 hz2 rfl (by decide) v n ((List.range n).flatMap fun i => ecells (X i) (V i)) hs (ownsRow_keep h.own hB) ⟨w.heap.size, 0, none⟩ 1 1 (ecells x hv) hy rfl (nine_new _ _ _ _) (fun u hu => by
    simp only [ecells, List.mem_cons, List.not_mem_nil, or_false] at hu
    rcases hu with rfl | rfl | rfl | rfl | rfl | rfl | rfl | rfl | rfl <;> first | rfl | exact h1) (by unfold maxLen; omega) (by omega) (by simp; omega) ?_
  intro v' w' h1 h2 h3 h4
  exact hk v' w' ((h.keep hB).push (hx.keep hB) hd h1 h2 h4) h2 (by simpa using h4)

set_option maxRecDepth 100000 in
set_option maxHeartbeats 4000000 in
theorem addMany_fr (lo : Option Addr) (lc base n : Nat) (X : Nat → Ent) (V : Nat → Value) (so : Option Addr) (m sc : Nat) (Y : Nat → Ent) (w0 w : World) (hO : OutE w base (.slice lo n lc) n X V) (hr : ERow w0 so m Y) (hw0 : Below w0.heap.size w0 w) (hbs : w0.heap.size ≤ base) (hz : ∀ i, i < m → (Y i).n ≤ 1048576) (hnm : n + m ≤ 1048576) (hb : base ≤ w.heap.size) :
    Calls Tryz.prog 23 #[.slice lo n lc, .slice so m sc] w fun e w' => ∃ v' V', e = .returned v' ∧ OutE w' base v' (n + m) (catE X n Y) V' ∧ Below base w w' ∧ Fr (Value.slice lo n lc).ownBlock w w' ∧ (v'.ownBlock = (Value.slice lo n lc).ownBlock ∨ ∀ c, v'.ownBlock = some c → w.heap.size ≤ c) ∧ (∀ i, n ≤ i → i < n + m → ∀ c, (V' i).ownBlock = some c → w.heap.size ≤ c) ∧ ∀ i, i < n → V' i = V i := by
  obtain ⟨hbd, hlies⟩ := hr
  obtain ⟨B0, hB0⟩ : ∃ B0, (Value.slice lo n lc).ownBlock = B0 := ⟨_, rfl⟩
  rw [hB0]
  have HB0 : Hid ((Value.slice lo n lc).ownBlock = B0) := hB0
  clear hB0
  go_enter Tryz.func23, Tryz.ntmps23
  go_wp2
  go_loopw [0, 9] (fun u i wr => ∃ (k : Nat) (V' : Nat → Value), k ≤ m ∧ i = .int .i64 k ∧ OutE wr base u (n + k) (catE X n Y) V' ∧ Below base w wr ∧ Fr B0 w wr ∧ Hid (u.ownBlock = B0 ∨ ∀ c, u.ownBlock = some c → w.heap.size ≤ c) ∧ Hid ((∀ i, n ≤ i → i < n + k → ∀ c, (V' i).ownBlock = some c → w.heap.size ≤ c) ∧ ∀ i, i < n → V' i = V i)) (fun _ i _ => m - (intOf i).toNat)
  case atStart => exact ⟨0, V, Nat.zero_le _, rfl, hO.congr (fun i hi => by unfold catE; rw [if_pos (by omega)]), Below.refl _ _, Fr.refl _ _, .inl HB0.out, ⟨fun i h1 h2 => by omega, fun i hi => rfl⟩⟩
  case round =>
    obtain ⟨k, V', hk, rfl, hOk, hBk, hFk, HUk, HVk⟩ := hrel
    obtain ⟨lo', lc', rfl⟩ := ownsRow_form hOk.own
    clear hO
    by_cases hlt : k < m
    · obtain ⟨b, off, rfl, hblt, hc⟩ := hlies.resolve_left (by omega)
      obtain ⟨da, dc, ea0, ir0⟩ := hc k hlt
      have hwk : Below w0.heap.size w0 wr := hw0.trans (hBk.mono hbs)
      have ea := ea0.keep hwk
      have ir := ir0.keep hwk
      have hbr : base ≤ wr.heap.size := Nat.le_trans hb hBk.size
      have hzk := hz k hlt
      have HC : Hid (catE X n Y (n + k) = Y k) := by unfold Hid catE; rw [if_neg (by omega)]; congr 1; omega
      generalize hx : Y k = x at *
      clear hx hc hlies ea0 ir0
      have hB1 := below_new wr (.cells #[.string x.key, .int .i64 x.seq, .int .i64 x.kind, .int .i64 x.c, .int .i64 x.s, .int .i64 x.lo, .int .i64 x.hi, .slice da x.n dc, .bool x.fu] 48)
      obtain ⟨hv, w2, hrun, hH, hb2⟩ := hist_run (wr.alloc (.cells #[.string x.key, .int .i64 x.seq, .int .i64 x.kind, .int .i64 x.c, .int .i64 x.s, .int .i64 x.lo, .int .i64 x.hi, .slice da x.n dc, .bool x.fu] 48)) da dc x (ir.keep hB1) hzk 44
      obtain ⟨ho, hoc, rfl, _⟩ := hH.row
      have N2 := (EAt.new wr x da dc 48).keep hb2
      have F2 : ∀ j, w2.frozen? ⟨wr.heap.size, j, none⟩ = false := fun j => (hb2.frozen (p := ⟨wr.heap.size, j, none⟩) (by simp)).trans (by simp [go_sem])
      have O2 := (hOk.keep hB1).keep hb2
      have ltv := hOk.own.lt
      have lth := hH.own.lt
      have ltV := fun i hi => (hOk.row i hi).own.lt
      have s2 := hb2.size
      simp at s2
      have B2 : Below base wr w2 := (hB1.mono hbr).trans (hb2.mono (by simp; omega))
      have ot3 : Others wr.heap.size w2 (w2.setCell ⟨wr.heap.size, 7, none⟩ (.slice ho x.n hoc)) := Others.setCell _ _ _ _
      have O3 : OutE (w2.setCell ⟨wr.heap.size, 7, none⟩ (.slice ho x.n hoc)) base (.slice lo' (n + k) lc') (n + k) (catE X n Y) V' := O2.kept (others_grown ot3) (fun e => by have := (ltv _ e).2; omega) (fun i hi e => by have := (ltV i hi _ e).2; omega)
      have H3 : HOwn (w2.setCell ⟨wr.heap.size, 7, none⟩ (.slice ho x.n hoc)) base (.slice ho x.n hoc) x := (hH.kept (others_grown ot3) (fun k hk e => by injection hk with hk; have := (lth k e).1; simp at this; omega)).mono (by simp; omega)
      have B3 : Below base wr (w2.setCell ⟨wr.heap.size, 7, none⟩ (.slice ho x.n hoc)) := B2.trans (ot3.below hbr)
      have s3 := ot3.size
      have hdis : ∀ q, (Value.slice ho x.n hoc).ownBlock = some q → (Value.slice lo' (n + k) lc').ownBlock ≠ some q ∧ ∀ i, i < n + k → (V' i).ownBlock ≠ some q := fun q hq => by
        have h1 := (lth q hq).1
        simp at h1
        exact ⟨fun e => by have := (ltv q e).2; omega, fun i hi e => by have := (ltV i hi q e).2; omega⟩
      obtain ⟨n0, n1, n2, n3, n4, n5, n6, n7, n8, n9⟩ := N2.z
      obtain ⟨_, a0, a1, a2, a3, a4, a5, a6, a7, a8⟩ := ea
      have b3 : base ≤ (w2.setCell ⟨wr.heap.size, 7, none⟩ (.slice ho x.n hoc)).heap.size := by rw [s3]; omega
      have hgv : ∀ q, (Value.slice lo' (n + k) lc').ownBlock = some q → base ≤ q := fun q hq => (ltv q hq).1
      have hnk : n + k ≤ 1048576 := by omega
      have hF3 : Fr B0 w (w2.setCell ⟨wr.heap.size, 7, none⟩ (.slice ho x.n hoc)) := by
        have hsw := hFk.size
        refine ⟨(ot3.os.trans ((hb2.os.trans hB1.os))).trans hFk.os, (ot3.tape.trans ((hb2.tape.trans hB1.tape))).trans hFk.tape, (ot3.output.trans ((hb2.output.trans hB1.output))).trans hFk.output, by rw [s3]; omega, fun c hc hne => ?_⟩
        rw [ot3.block c (by omega), hb2.block c (by simp; omega), hB1.block c (by omega)]
        exact hFk.block c hc hne
      have HH : Hid (∀ c, (Value.slice ho x.n hoc).ownBlock = some c → w.heap.size ≤ c) := fun c hc => by have := (lth c hc).1; simp at this; have := hFk.size; omega
      clear hOk hB1 hH hb2 O2 B2 ltv lth ltV ot3 N2
      have t1 : True := trivial
      have t2 : True := trivial
      go_wp2_with (first | (at_builtin; clear t1; refine wpList_append_eq _ rfl (.const (.slice none 0 0)) (.tmp 15) 44 44 rfl rfl (.slice none 0 0) (.slice da x.n dc) (.slice ho x.n hoc) rfl rfl w2 hrun ?_) | (at_builtin; clear t2; refine wpList_pushE3 (w := (w2.setCell ⟨wr.heap.size, 7, none⟩ (.slice ho x.n hoc))) w2.heap.size s3 rfl (.tmp 19) (.tmp 21) rfl base (.slice lo' (n + k) lc') (.slice ho x.n hoc) (n + k) (catE X n Y) V' x rfl O3 H3 hdis rfl hnk b3 rfl ?_; intro v8 w8 O8 g8 ha8))
      have B8 : Below base wr w8 := (B3.alloc b3 _).grown g8 (by simp; omega) (fun q hq => hgv q hq)
      have E8 := O8.congr (X' := catE X n Y) (fun i hi => by by_cases h : i = n + k <;> simp [h, HC.out])
      have HF8 : Hid (Fr B0 w w8) := by
        have hs3 := hF3.size
        have hg8 := g8.size
        simp at hg8
        refine ⟨g8.os.trans hF3.os, g8.tape.trans hF3.tape, g8.output.trans hF3.output, by omega, fun c hc hne => ?_⟩
        have hb8 := g8.block c (by simp; omega) (fun e => by
          rcases HUk.out with h | h
          · exact hne (h.symm.trans e.symm)
          · have := h c e.symm; omega)
        rw [hb8, (below_new _ _).block c (by omega)]
        exact hF3.block c hc hne
      have HU8 : Hid (v8.ownBlock = B0 ∨ ∀ c, v8.ownBlock = some c → w.heap.size ≤ c) := by
        have hs3 := hF3.size
        rcases ha8 with h | h
        · rw [h]; exact HUk.out
        · exact .inr (fun c hc => by rw [h] at hc; injection hc with hc; omega)
      have HV8 : Hid ((∀ i, n ≤ i → i < n + (k + 1) → ∀ c, ((fun i => if i = n + k then Value.slice ho x.n hoc else V' i) i).ownBlock = some c → w.heap.size ≤ c) ∧ ∀ i, i < n → (fun i => if i = n + k then Value.slice ho x.n hoc else V' i) i = V i) := by
        refine ⟨fun i h1 h2 c hc => ?_, fun i hi => ?_⟩
        · by_cases e : i = n + k
          · simp only [e, if_true] at hc; exact HH.out c hc
          · simp only [e, if_false] at hc; exact HVk.out.1 i h1 (by omega) c hc
        · simp only [show ¬ i = n + k by omega, if_false]; exact HVk.out.2 i hi
      clear O8 g8 ha8 hF3 hFk HUk HVk HH
      go_roundw
      case rel => exact ⟨k + 1, _, by omega, by go_num, E8, hBk.trans B8, HF8.out, HU8, HV8⟩
      case measure => simp [intOf]; omega
    · obtain rfl : k = m := by omega
      clear hlies
      go_wp2
      refine bodyPost_ret (v := .slice lo' (n + k) lc') (by simp [results, Tryz.results23, go_sem]) rfl ⟨_, V', rfl, hOk, hBk, hFk, HUk.out, HVk.out⟩
end Go.Proofs.YtmeckcaekkangaaGreat

namespace Go.Proofs.YtmeckcaekkangaaGreat
set_option maxRecDepth 100000
open Go.RowKit
set_option linter.unusedSimpArgs false
set_option linter.unusedVariables false

/-- The blocks of the i-th row. -/
def Blk (Ps : List (List Ent)) (G : Nat → Nat) (L : Nat → Nat → Option Addr) (i c : Nat) : Prop := c = G i ∨ ∃ j, j < (gR Ps i).length ∧ 0 < (eL (gR Ps i) j).n ∧ L i j = some ⟨c, 0, none⟩
/-- Rows of entries in blocks from base on, all apart and free to be written. -/
structure SA (w : World) (base g : Nat) (Ps : List (List Ent)) (G Cp : Nat → Nat) (L : Nat → Nat → Option Addr) (C : Nat → Nat → Nat) : Prop where
  lt : g < w.heap.size
  from' : base ≤ g
  cell : ∀ i, i < Ps.length → w.cell? ⟨g, i, none⟩ = some (.slice (some ⟨G i, 0, none⟩) (gR Ps i).length (Cp i))
  ce : ∀ i, i < Ps.length → CE w (G i) (gR Ps i).length (eL (gR Ps i)) (L i) (C i)
  apart : ∀ i, i < Ps.length → ∀ c, Blk Ps G L i c → c ≠ g ∧ base ≤ c
  dis : ∀ i j, i < Ps.length → j < Ps.length → i ≠ j → ∀ c, Blk Ps G L i c → ¬ Blk Ps G L j c
/-- An answer of rows. -/
def SAn (w : World) (base : Nat) (v : Value) (Ps : List (List Ent)) : Prop := (Ps = [] ∧ ∃ lo lc, v = .slice lo 0 lc) ∨ ∃ g cap G Cp L C, v = .slice (some ⟨g, 0, none⟩) Ps.length cap ∧ SA w base g Ps G Cp L C
section
variable {w w' : World} {base g : Nat} {Ps : List (List Ent)} {G Cp : Nat → Nat} {L : Nat → Nat → Option Addr} {C : Nat → Nat → Nat} {v : Value}
theorem SA.same (h : SA w base g Ps G Cp L C) (hs : w.heap.size ≤ w'.heap.size) (hb : ∀ c, c < w.heap.size → base ≤ c → w'.heap[c]? = w.heap[c]?) : SA w' base g Ps G Cp L C := by
  refine ⟨Nat.lt_of_lt_of_le h.lt hs, h.from', fun i hi => (World.cell?_of_block (w := w) (a := ⟨g, i, none⟩) (hb g h.lt h.from')).trans (h.cell i hi), fun i hi => ?_, h.apart, h.dis⟩
  have hce := h.ce i hi
  refine ce_same hce hs (hb _ hce.lt (h.apart i hi _ (.inl rfl)).2) (fun j hj hp c hc => ?_)
  have h1 := (h.apart i hi c (.inr ⟨j, hj, hp, hc⟩)).2
  refine hb c ?_ h1
  rcases hce.hist j hj with h0 | ⟨q, g1, _, g3⟩
  · omega
  · rw [hc] at g1
    injection g1 with g1
    injection g1 with g1 _ _
    rw [g1]; exact g3.lt
theorem SAn.same (h : SAn w base v Ps) (hs : w.heap.size ≤ w'.heap.size) (hb : ∀ c, c < w.heap.size → base ≤ c → w'.heap[c]? = w.heap[c]?) : SAn w' base v Ps := by
  rcases h with h | ⟨g, cap, G, Cp, L, C, e, h⟩
  · exact .inl h
  · exact .inr ⟨g, cap, G, Cp, L, C, e, h.same hs hb⟩
theorem SAn.keep (h : SAn w base v Ps) (hb : Below w.heap.size w w') : SAn w' base v Ps := h.same hb.size (fun c hc _ => hb.block c hc)
theorem SAn.form (h : SAn w base v Ps) : ∃ lo lc, v = .slice lo Ps.length lc := by
  rcases h with ⟨rfl, lo, lc, e⟩ | ⟨g, cap, G, Cp, L, C, e, _⟩
  · exact ⟨lo, lc, e⟩
  · exact ⟨_, _, e⟩
theorem SAn.rrow {lo : Option Addr} {n lc : Nat} (h : SAn w base (.slice lo n lc) Ps) (hS : ∀ P ∈ Ps, SmL P) (hl : ∀ P ∈ Ps, P.length ≤ 300) : RRow w lo Ps.length (fun i => eL (gR Ps i)) (fun i => (gR Ps i).length) := by
  have hm : ∀ i, i < Ps.length → gR Ps i ∈ Ps := fun i hi => by simp [gR, hi]
  rcases h with ⟨rfl, lo', lc', e⟩ | ⟨g, cap, G, Cp, L, C, e, h⟩
  · exact ⟨fun i hi => absurd hi (Nat.not_lt_zero _), fun i hi => absurd hi (Nat.not_lt_zero _), .inl rfl⟩
  · injection e with e1 _ _
    subst e1
    refine ⟨fun i hi j hj => (hS _ (hm i hi)).eb j hj, fun i hi => by have := hl _ (hm i hi); show (gR Ps i).length ≤ _; omega, .inr ⟨g, 0, rfl, h.lt, fun i hi => ⟨_, _, by rw [Nat.zero_add]; exact h.cell i hi, ?_⟩⟩⟩
    have hce := h.ce i hi
    refine ⟨(hS _ (hm i hi)).eb, .inr ⟨G i, 0, rfl, hce.lt, fun j hj => ⟨L i j, C i j, by rw [Nat.zero_add]; exact hce.ent j hj, ?_⟩⟩⟩
    rcases hce.hist j hj with h0 | ⟨q, h5, _, h6⟩
    · exact ⟨(hS _ (hm i hi)).fb j hj, .inl h0⟩
    · rw [h5]; exact h6.row
end
def XR (Ps : List (List Ent)) : Nat → Nat → Ent := fun i => eL (gR Ps i)
def MR (Ps : List (List Ent)) : Nat → Nat := fun i => (gR Ps i).length

/-- A row as it is marked. -/
def mkR (Ps : List (List Ent)) (i : Nat) : Nat → Ent := fun j => if j < (gR Ps i).length then mkE (kOf (eL (gR Ps i)) (kOfR (XR Ps) (MR Ps) 1 i) j) (eL (gR Ps i) j) else eL (gR Ps i) j
theorem mkR_n (Ps : List (List Ent)) (i j : Nat) : (mkR Ps i j).n = (eL (gR Ps i) j).n := by unfold mkR; split <;> rfl

end Go.Proofs.YtmeckcaekkangaaGreat

namespace Go.Proofs.YtmeckcaekkangaaGreat
set_option maxRecDepth 100000
open Go.RowKit
set_option linter.unusedSimpArgs false
set_option linter.unusedVariables false

/-- Pieces, with one run more. -/
def sp1 (most : Int) (P : List (List Ent)) (L : List Ent) : List (List Ent) := if P ≠ [] ∧ ((P.getLastD []).length : Int) + L.length ≤ most then P.dropLast ++ [P.getLastD [] ++ L] else P ++ [L]
def spP (Rs : List (List Ent)) (most : Int) : Nat → List (List Ent)
  | 0 => []
  | k + 1 => sp1 most (spP Rs most k) (gR Rs k)
theorem sp_new {most : Int} {P : List (List Ent)} {L : List Ent} (h : P = [] ∨ ¬ ((P.getLastD []).length : Int) + L.length ≤ most) : sp1 most P L = P ++ [L] := if_neg (fun hh => h.elim hh.1 (fun h1 => h1 hh.2))
theorem sp_more {most : Int} {P : List (List Ent)} {Q L : List Ent} (h : (Q.length : Int) + L.length ≤ most) : sp1 most (P ++ [Q]) L = P ++ [Q ++ L] := by
  unfold sp1
  rw [if_pos ⟨by simp, by simpa [List.getLastD_concat] using h⟩]
  simp [List.getLastD_concat]
theorem spP_len (Rs : List (List Ent)) (most : Int) : ∀ k, (spP Rs most k).length ≤ k
  | 0 => by simp [spP]
  | k + 1 => by
    have h := spP_len Rs most k
    show (sp1 most (spP Rs most k) (gR Rs k)).length ≤ _
    unfold sp1
    split
    · rw [List.length_append, List.length_dropLast, List.length_singleton]; omega
    · simp; omega

/-- The blocks of a piece. -/
def Bo (Ps : List (List Ent)) (V : Nat → Value) (W : Nat → Nat → Value) (i c : Nat) : Prop := (V i).ownBlock = some c ∨ ∃ j, j < (gR Ps i).length ∧ (W i j).ownBlock = some c
/-- Pieces of the call's own, all apart. -/
structure PI (w : World) (base : Nat) (u : Value) (Ps : List (List Ent)) (V : Nat → Value) (W : Nat → Nat → Value) : Prop where
  own : w.ownsRow base 26 1 u Ps.length ((List.range Ps.length).map V)
  row : ∀ i, i < Ps.length → OutE w base (V i) (gR Ps i).length (eL (gR Ps i)) (W i)
  pos : ∀ i, i < Ps.length → 0 < (gR Ps i).length
  apart : ∀ i, i < Ps.length → ∀ c, Bo Ps V W i c → u.ownBlock ≠ some c
  dis : ∀ i j, i < Ps.length → j < Ps.length → i ≠ j → ∀ c, Bo Ps V W i c → ¬ Bo Ps V W j c
theorem pi_nil (w : World) (base : Nat) : PI w base (.slice none 0 0) [] (fun _ => .slice none 0 0) (fun _ _ => .slice none 0 0) := ⟨World.ownsRow_nil _ _ _ _, fun i hi => absurd hi (Nat.not_lt_zero _), fun i hi => absurd hi (Nat.not_lt_zero _), fun i hi => absurd hi (Nat.not_lt_zero _), fun i j hi => absurd hi (Nat.not_lt_zero _)⟩
section
variable {w w' w1 w2 : World} {base : Nat} {u : Value} {Ps : List (List Ent)} {V : Nat → Value} {W : Nat → Nat → Value}
theorem PI.keep (h : PI w base u Ps V W) (hb : Below w.heap.size w w') : PI w' base u Ps V W := ⟨ownsRow_keep h.own hb, fun i hi => (h.row i hi).keep hb, h.pos, h.apart, h.dis⟩
theorem PI.bolt (h : PI w base u Ps V W) {i c : Nat} (hi : i < Ps.length) (hc : Bo Ps V W i c) : base ≤ c ∧ c < w.heap.size := by
  rcases hc with hc | ⟨j, hj, hc⟩
  · exact (h.row i hi).own.lt c hc
  · exact ((h.row i hi).row j hj).own.lt c hc
theorem gR_new {Ps : List (List Ent)} {L : List Ent} {i : Nat} (h : i < Ps.length) : gR (Ps ++ [L]) i = gR Ps i := by rw [← gR_push _ _ i (by omega), if_neg (by omega)]
theorem gR_end (Ps : List (List Ent)) (L : List Ent) : gR (Ps ++ [L]) Ps.length = L := by simp [gR]
/-- A new piece put behind. -/
theorem PI.pushNew {u' v1 : Value} {L : List Ent} {W1 : Nat → Value} (h : PI w base u Ps V W) (hF : Fr none w w1) (hO : OutE w1 base v1 L.length (eL L) W1) (hv1 : ∀ c, v1.ownBlock = some c → w.heap.size ≤ c) (hW1 : ∀ i, i < L.length → ∀ c, (W1 i).ownBlock = some c → w.heap.size ≤ c) (hL : 0 < L.length)
    (ho : w2.ownsRow base 26 1 u' (Ps.length + 1) ((List.range Ps.length).map V ++ [v1])) (hb : ∀ c, c < w1.heap.size → u.ownBlock ≠ some c → w2.heap[c]? = w1.heap[c]?) (ha : u'.ownBlock = u.ownBlock ∨ ∀ c, u'.ownBlock = some c → w1.heap.size ≤ c) :
    PI w2 base u' (Ps ++ [L]) (fun i => if i = Ps.length then v1 else V i) (fun i => if i = Ps.length then W1 else W i) := by
  have hl : (Ps ++ [L]).length = Ps.length + 1 := by simp
  have hbo : ∀ i c, i < Ps.length → Bo (Ps ++ [L]) (fun i => if i = Ps.length then v1 else V i) (fun i => if i = Ps.length then W1 else W i) i c → Bo Ps V W i c := fun i c hi hB => by
    unfold Bo at hB ⊢
    rw [gR_new hi] at hB
    simpa only [show ¬ i = Ps.length by omega, if_false] using hB
  have hbn : ∀ c, Bo (Ps ++ [L]) (fun i => if i = Ps.length then v1 else V i) (fun i => if i = Ps.length then W1 else W i) Ps.length c → w.heap.size ≤ c ∧ c < w1.heap.size := fun c hB => by
    unfold Bo at hB
    rw [gR_end] at hB
    simp only [if_true] at hB
    rcases hB with hB | ⟨j, hj, hB⟩
    · exact ⟨hv1 c hB, (hO.own.lt c hB).2⟩
    · exact ⟨hW1 j hj c hB, ((hO.row j hj).own.lt c hB).2⟩
  have hu := h.own.lt
  have hs1 := hF.size
  refine ⟨?_, fun i hi => ?_, fun i hi => ?_, fun i hi c hc => ?_, fun i j hi hj hij c h1 h2 => ?_⟩
  · rw [hl, List.range_succ, List.map_append]
    have e1 : ((List.range Ps.length).map fun i => if i = Ps.length then v1 else V i) = (List.range Ps.length).map V := List.map_congr_left fun i hi => by
      have := List.mem_range.1 hi
      rw [if_neg (by omega)]
    rw [e1]
    simpa using ho
  · rw [hl] at hi
    by_cases e : i = Ps.length
    · subst e
      simp only [if_true]
      rw [gR_end]
      refine hO.same (fun c h1 h2 h3 => hb c h2 (fun e => ?_))
      have hlt := (hu c e).2
      rcases h3 with h3 | ⟨j, hj, h3⟩
      · have := hv1 c h3; omega
      · have := hW1 j hj c h3; omega
    · simp only [e, if_false]
      rw [gR_new (by omega)]
      refine (h.row i (by omega)).same (fun c h1 h2 h3 => ?_)
      rw [hb c (by omega) (fun e2 => h.apart i (by omega) c h3 e2)]
      exact hF.block c h2 (by simp)
  · rw [hl] at hi
    by_cases e : i = Ps.length
    · subst e; rw [gR_end]; exact hL
    · rw [gR_new (by omega)]; exact h.pos i (by omega)
  · rw [hl] at hi
    by_cases e : i = Ps.length
    · subst e
      obtain ⟨h1, h2⟩ := hbn c hc
      rcases ha with ha | ha
      · rw [ha]; intro e2; have := (hu c e2).2; omega
      · intro e2; have := ha c e2; omega
    · have hB := hbo i c (by omega) hc
      have h1 := (h.bolt (by omega) hB).2
      rcases ha with ha | ha
      · rw [ha]; exact h.apart i (by omega) c hB
      · intro e2; have := ha c e2; omega
  · rw [hl] at hi hj
    by_cases e : i = Ps.length
    · subst e
      have h3 := (hbn c h1).1
      have h4 := (h.bolt (by omega) (hbo j c (by omega) h2)).2
      omega
    · by_cases e' : j = Ps.length
      · subst e'
        have h3 := (hbn c h2).1
        have h4 := (h.bolt (by omega) (hbo i c (by omega) h1)).2
        omega
      · exact h.dis i j (by omega) (by omega) hij c (hbo i c (by omega) h1) (hbo j c (by omega) h2)
theorem PI.block (h : PI w base u Ps V W) (h0 : 0 < Ps.length) : ∃ g c, u = .slice (some ⟨g, 0, none⟩) Ps.length c := by
  rcases h.own.2 with ⟨_, h1⟩ | ⟨g, c, cur, e, _⟩
  · omega
  · exact ⟨g, c, e⟩
theorem PI.cellAt {g c i : Nat} (h : PI w base (.slice (some ⟨g, 0, none⟩) Ps.length c) Ps V W) (hi : i < Ps.length) : w.cell? ⟨g, i, none⟩ = some (V i) := by
  rw [h.own.cellAt i (by omega)]
  simp [hi]
/-- The last piece grown. -/
theorem PI.grow {Ps0 : List (List Ent)} {Q R : List Ent} {g cO : Nat} {v1 : Value} {W1 : Nat → Value} (h : PI w base (.slice (some ⟨g, 0, none⟩) (Ps0 ++ [Q]).length cO) (Ps0 ++ [Q]) V W) (hF : Fr (V Ps0.length).ownBlock w w1) (hO : OutE w1 base v1 (Q ++ R).length (eL (Q ++ R)) W1)
    (hv1 : v1.ownBlock = (V Ps0.length).ownBlock ∨ ∀ c, v1.ownBlock = some c → w.heap.size ≤ c) (hW1 : ∀ i, Q.length ≤ i → i < (Q ++ R).length → ∀ c, (W1 i).ownBlock = some c → w.heap.size ≤ c) (hW2 : ∀ i, i < Q.length → W1 i = W Ps0.length i) :
    PI (w1.setCell ⟨g, Ps0.length, none⟩ v1) base (.slice (some ⟨g, 0, none⟩) (Ps0 ++ [Q]).length cO) (Ps0 ++ [Q ++ R]) (fun i => if i = Ps0.length then v1 else V i) (fun i => if i = Ps0.length then W1 else W i) ∧ w1.cell? ⟨g, Ps0.length, none⟩ = w.cell? ⟨g, Ps0.length, none⟩ ∧ w1.frozen? ⟨g, Ps0.length, none⟩ = w.frozen? ⟨g, Ps0.length, none⟩ := by
  have hlen : (Ps0 ++ [Q]).length = Ps0.length + 1 := by simp
  have hlen2 : (Ps0 ++ [Q ++ R]).length = Ps0.length + 1 := by simp
  have hl : Ps0.length < (Ps0 ++ [Q]).length := by omega
  have hglt : g < w.heap.size := (h.own.lt g rfl).2
  have hs1 := hF.size
  have hneg : (V Ps0.length).ownBlock ≠ some g := fun e => h.apart Ps0.length hl g (.inl e) rfl
  have hgb := hF.block g hglt hneg
  have hold : ∀ i c, i < Ps0.length → Bo (Ps0 ++ [Q ++ R]) (fun i => if i = Ps0.length then v1 else V i) (fun i => if i = Ps0.length then W1 else W i) i c → Bo (Ps0 ++ [Q]) V W i c := fun i c hi hB => by
    unfold Bo at hB ⊢
    rw [gR_new (by omega)] at hB ⊢
    simpa only [show ¬ i = Ps0.length by omega, if_false] using hB
  have hnew : ∀ c, Bo (Ps0 ++ [Q ++ R]) (fun i => if i = Ps0.length then v1 else V i) (fun i => if i = Ps0.length then W1 else W i) Ps0.length c → Bo (Ps0 ++ [Q]) V W Ps0.length c ∨ w.heap.size ≤ c := fun c hB => by
    unfold Bo at hB
    rw [gR_end] at hB
    simp only [if_true] at hB
    rcases hB with hB | ⟨j, hj, hB⟩
    · rcases hv1 with h1 | h1
      · rw [h1] at hB; exact .inl (.inl hB)
      · exact .inr (h1 c hB)
    · by_cases hjq : j < Q.length
      · rw [hW2 j hjq] at hB
        exact .inl (.inr ⟨j, by rw [gR_end]; exact hjq, hB⟩)
      · exact .inr (hW1 j (by omega) hj c hB)
  have hoth : Others g w1 (w1.setCell ⟨g, Ps0.length, none⟩ v1) := Others.setCell _ _ _ _
  have hown1 : w1.ownsRow base 26 1 (.slice (some ⟨g, 0, none⟩) (Ps0 ++ [Q]).length cO) (Ps0 ++ [Q]).length ((List.range (Ps0 ++ [Q]).length).map V) := ownsRow_same h.own (fun c hc => by injection hc with hc; subst hc; exact hgb)
  have hst := hown1.stored Ps0.length v1
  refine ⟨⟨?_, fun i hi => ?_, fun i hi => ?_, fun i hi c hc => ?_, fun i j hi hj hij c h1 h2 => ?_⟩, World.cell?_of_block (w := w) (a := ⟨g, Ps0.length, none⟩) hgb, World.frozen?_of_block (w := w) (a := ⟨g, Ps0.length, none⟩) hgb⟩
  · have e : ((List.range (Ps0 ++ [Q ++ R]).length).map fun i => if i = Ps0.length then v1 else V i) = ((List.range (Ps0 ++ [Q]).length).map V).set Ps0.length v1 := by
      rw [hlen, hlen2]
      apply List.ext_getElem
      · simp
      · intro i h1 h2
        simp at h1
        rw [List.getElem_set]
        by_cases e : i = Ps0.length
        · simp [e]
        · simp [e]
          intro h
          exact absurd h.symm e
    rw [e, hlen2, ← hlen]
    exact hst.1
  · rw [hlen2] at hi
    by_cases e : i = Ps0.length
    · subst e
      rw [gR_end]
      simp only [if_true]
      refine hO.same (fun c h1 h2 h3 => hoth.block c (fun e => ?_))
      have hB : Bo (Ps0 ++ [Q ++ R]) (fun i => if i = Ps0.length then v1 else V i) (fun i => if i = Ps0.length then W1 else W i) Ps0.length c := by
        unfold Bo
        rw [gR_end]
        simpa only [if_true] using h3
      rcases hnew c hB with h4 | h4
      · exact h.apart Ps0.length hl c h4 (by rw [e]; rfl)
      · omega
    · simp only [e, if_false]
      rw [gR_new (by omega)]
      have hr := h.row i (by omega)
      rw [gR_new (by omega)] at hr
      refine hr.same (fun c h1 h2 h3 => ?_)
      have hB : Bo (Ps0 ++ [Q]) V W i c := by unfold Bo; rw [gR_new (by omega)]; exact h3
      rw [hoth.block c (fun e2 => h.apart i (by omega) c hB (by rw [e2]; rfl))]
      exact hF.block c h2 (fun e2 => h.dis i Ps0.length (by omega) hl e c hB (.inl e2))
  · rw [hlen2] at hi
    by_cases e : i = Ps0.length
    · subst e
      rw [gR_end]
      have := h.pos Ps0.length hl
      rw [gR_end] at this
      rw [List.length_append]; omega
    · have := h.pos i (by omega)
      rw [gR_new (by omega)] at this ⊢
      exact this
  · rw [hlen2] at hi
    by_cases e : i = Ps0.length
    · subst e
      rcases hnew c hc with h4 | h4
      · exact h.apart Ps0.length hl c h4
      · intro e2
        have e3 : some g = some c := e2
        injection e3 with e3
        omega
    · exact h.apart i (by omega) c (hold i c (by omega) hc)
  · rw [hlen2] at hi hj
    by_cases e : i = Ps0.length
    · subst e
      have hB2 := hold j c (by omega) h2
      rcases hnew c h1 with h4 | h4
      · exact h.dis Ps0.length j hl (by omega) hij c h4 hB2
      · have := (h.bolt (by omega) hB2).2; omega
    · have hB1 := hold i c (by omega) h1
      by_cases e' : j = Ps0.length
      · subst e'
        rcases hnew c h2 with h4 | h4
        · exact h.dis i Ps0.length (by omega) hl hij c hB1 h4
        · have := (h.bolt (by omega) hB1).2; omega
      · exact h.dis i j (by omega) (by omega) hij c hB1 (hold j c (by omega) h2)
theorem PI.san (h : PI w base u Ps V W) : SAn w base u Ps := by
  rcases h.own.2 with ⟨rfl, h0⟩ | ⟨g, cap, cur, rfl, hbg, hg, hnc, _⟩
  · exact .inl ⟨List.eq_nil_of_length_eq_zero h0, none, 0, rfl⟩
  · have key : ∀ i, ∃ q : (Nat × Nat) × ((Nat → Option Addr) × (Nat → Nat)), i < Ps.length → V i = .slice (some ⟨q.1.1, 0, none⟩) (gR Ps i).length q.1.2 ∧ base ≤ q.1.1 ∧ CE w q.1.1 (gR Ps i).length (eL (gR Ps i)) q.2.1 q.2.2 ∧ ∀ j, j < (gR Ps i).length → 0 < (eL (gR Ps i) j).n → ∀ c, q.2.1 j = some ⟨c, 0, none⟩ → base ≤ c ∧ (W i j).ownBlock = some c := fun i => by
      by_cases hi : i < Ps.length
      · have hr := h.row i hi
        obtain ⟨G, c, L, C, e, h1, h2, h3⟩ := hr.ce (h.pos i hi)
        refine ⟨((G, c), (L, C)), fun _ => ⟨e, h1, h2, fun j hj hp q hq => ⟨h3 j hj hp q hq, ?_⟩⟩⟩
        have hq' : L j = some ⟨q, 0, none⟩ := hq
        have c7 := (h2.ent j hj).c7
        have hown := hr.own
        rw [e] at hown
        have c7' := hown.cellAt (j * 9 + 7) (show j * 9 + 7 < (gR Ps i).length * 9 by omega)
        rw [fm9_get _ _ _ hj (by omega)] at c7'
        rw [c7'] at c7
        simp [ecells] at c7
        rw [c7, hq']; rfl
      · exact ⟨((0, 0), (fun _ => none, fun _ => 0)), fun hh => absurd hh hi⟩
    obtain ⟨F, hF⟩ := Classical.axiomOfChoice key
    have hB : ∀ i c, i < Ps.length → Blk Ps (fun i => (F i).1.1) (fun i => (F i).2.1) i c → Bo Ps V W i c ∧ base ≤ c := fun i c hi hb => by
      obtain ⟨e, h1, h2, h3⟩ := hF i hi
      rcases hb with rfl | ⟨j, hj, hp, hL⟩
      · exact ⟨.inl (by rw [e]; rfl), h1⟩
      · have h4 := h3 j hj hp c hL
        exact ⟨.inr ⟨j, hj, h4.2⟩, h4.1⟩
    refine .inr ⟨g, cap, fun i => (F i).1.1, fun i => (F i).1.2, fun i => (F i).2.1, fun i => (F i).2.2, rfl, (Array.getElem?_eq_some_iff.1 hg).1, hbg, fun i hi => ?_, fun i hi => (hF i hi).2.2.1, fun i hi c hc => ?_, fun i j hi hj hij c h1 h2 => h.dis i j hi hj hij c (hB i c hi h1).1 (hB j c hj h2).1⟩
    · rw [h.cellAt hi]; rw [(hF i hi).1]
    · have h1 := hB i c hi hc
      exact ⟨fun e => h.apart i hi c h1.1 (by rw [e]; rfl), h1.2⟩
end
end Go.Proofs.YtmeckcaekkangaaGreat

namespace Go.Proofs.YtmeckcaekkangaaGreat
set_option maxRecDepth 100000
open Go.RowKit
set_option linter.unusedSimpArgs false
set_option linter.unusedVariables false

/-- What SplitRows leaves. -/
def SpOk (X : Nat → Ent) (n : Nat) (most : Int) : Prop := n ≤ 300 ∧ (1 ≤ most ∧ most ≤ 100) ∧ GoodL X n
def SpI (X : Nat → Ent) (n : Nat) (most : Int) (w : World) (e : Ending) (w' : World) : Prop :=
  (SpOk X n most → ∃ v, e = .returned (.tuple #[v, .bool true]) ∧ SAn w' w.heap.size v (spP (rn X n) most (rn X n).length) ∧ Below w.heap.size w w') ∧ (¬ SpOk X n most → e = .returned (.tuple #[.slice none 0 0, .bool false]) ∧ Below w.heap.size w w')
theorem SAn.mono {w : World} {base base' : Nat} {v : Value} {Ps : List (List Ent)} (h : SAn w base v Ps) (hb : base' ≤ base) : SAn w base' v Ps := by
  rcases h with h | ⟨g, cap, G, Cp, L, C, e, h⟩
  · exact .inl h
  · exact .inr ⟨g, cap, G, Cp, L, C, e, h.lt, Nat.le_trans hb h.from', h.cell, h.ce, fun i hi c hc => ⟨(h.apart i hi c hc).1, Nat.le_trans hb (h.apart i hi c hc).2⟩, h.dis⟩
set_option maxRecDepth 100000 in
/-- A piece put behind, in the walk. -/
theorem wpList_pushP {w w1 : World} {ops : Array Oper} {rest : List Oper} {o : Oper} {a : Act} {Q : Exit → Act → World → Prop} (nb : Nat) (hnb : w1.heap.size = nb) (hgd : o.guard = none) (s y : Operand)
    (ho : o.op = .call { callee := .builtin .append, args := #[s, y], argTypes := #[23, 23] })
    (base : Nat) (v : Value) (Ps : List (List Ent)) (V : Nat → Value) (W : Nat → Nat → Value) (hs : a.eval s = v) (h : PI w base v Ps V W) {v1 : Value} {vo : Option Addr} {vn vc : Nat} (hvf : v1 = .slice vo vn vc) {L : List Ent} {W1 : Nat → Value} (hF : Fr none w w1) (hO : OutE w1 base v1 L.length (eL L) W1) (hv1 : ∀ c, v1.ownBlock = some c → w.heap.size ≤ c) (hW1 : ∀ i, i < L.length → ∀ c, (W1 i).ownBlock = some c → w.heap.size ≤ c) (hL : 0 < L.length)
    (hy : a.eval y = .slice (some ⟨nb, 0, none⟩) 1 1) (hn : Ps.length ≤ 1048576) (hbase : base ≤ w.heap.size)
    (hk : ∀ lo' lc' w2 V' W', PI w2 base (.slice lo' (Ps.length + 1) lc') (Ps ++ [L]) V' W' → Below base w1 w2 → wpList Tryz.prog ops Q rest (a.put o.dst (.slice lo' (Ps.length + 1) lc')) w2) :
    wpList Tryz.prog ops Q (o :: rest) a (w1.alloc (.cells #[v1] 26)) := by
  subst hnb
  obtain ⟨i0, hi, hz0, hz1, hz2⟩ := info_parts Tryz.infoES
  have hB := below_new w1 (.cells #[v1] 26)
  have hs1 := hF.size
  have hown1 : w1.ownsRow base 26 1 v Ps.length ((List.range Ps.length).map V) := ownsRow_same h.own (fun c hc => hF.block c (h.own.lt c hc).2 (by simp))
  refine wpList_append_own_at (w := w1.alloc (.cells #[v1] 26)) hgd s y 23 ho base 26 i0 _ 1 24 Tryz.underlying23 hi hz0 hz1 hz2 rfl (by decide) v Ps.length ((List.range Ps.length).map V) hs (ownsRow_keep hown1 hB) ⟨w1.heap.size, 0, none⟩ 1 1 [v1] hy rfl (cell_one_v _ _ _) (fun u hu => by rw [List.mem_singleton.1 hu, hvf]; rfl) (by unfold maxLen; omega) (by omega) (by simp; omega) ?_
  intro v' w2 h1 h2 h3 h4
  obtain ⟨lo', lc', rfl⟩ := ownsRow_form h1
  refine hk lo' lc' w2 _ _ (h.pushNew hF hO hv1 hW1 hL h1 (fun c hc hne => (h2.block c (by simp; omega) (fun e => hne e.symm)).trans (hB.block c hc)) ?_) (((Below.refl base w1).trans (hB.mono (by omega))).grown h2 (by simp; omega) (fun q hq => (h.own.lt q hq).1))
  rcases h4 with h4 | h4
  · exact .inl h4
  · refine .inr (fun c hc => ?_)
    rw [h4] at hc
    injection hc with hc
    simp at hc
    omega
theorem Fr.below {blk : Option Nat} {w w' : World} {B : Nat} (h : Fr blk w w') (hb : ∀ c, blk = some c → B ≤ c) (hB : B ≤ w.heap.size) : Below B w w' := ⟨h.os, h.tape, h.output, h.size, fun c hc => h.block c (by omega) (fun e => by have := hb c e; omega)⟩
theorem cat_app (Q R : List Ent) : ∀ i, i < Q.length + R.length → catE (eL Q) Q.length (eL R) i = eL (Q ++ R) i := fun i hi => by
  unfold catE eL
  by_cases h : i < Q.length
  · rw [if_pos h]; simp [List.getD, List.getElem?_append_left h]
  · rw [if_neg h]; simp [List.getD, List.getElem?_append_right (show Q.length ≤ i by omega)]

theorem rn_sub (X : Nat → Ent) (n : Nat) {L : List Ent} (h : L ∈ rn X n) : L.Sublist (sl X 0 n) ∧ L ≠ [] := by
  refine ⟨?_, (rn_prop X n).2.1 L h⟩
  rw [← (rn_prop X n).1]
  exact List.sublist_flatten_of_mem h
theorem rn_le (X : Nat → Ent) : ∀ k, (rn X k).length ≤ k
  | 0 => by simp [rn]
  | k + 1 => by
    have h := rn_le X k
    show (if _ then _ else _ : List (List Ent)).length ≤ _
    split
    · simp; omega
    · rw [List.length_append, List.length_dropLast, List.length_singleton]; omega
theorem gR_in {Rs : List (List Ent)} {i : Nat} (h : i < Rs.length) : gR Rs i ∈ Rs := by simp [gR, h]
theorem sl_mem {X : Nat → Ent} {n : Nat} {x : Ent} (h : x ∈ sl X 0 n) : ∃ i, i < n ∧ X i = x := by
  obtain ⟨i, hi, e⟩ := List.mem_map.1 h
  have := List.mem_range.1 hi
  exact ⟨i, by omega, by rw [← e, Nat.zero_add]⟩
theorem run_in {X : Nat → Ent} {n : Nat} (hz : ESize n X) {i : Nat} (hi : i < (rn X n).length) : (gR (rn X n) i).length ≤ n ∧ 0 < (gR (rn X n) i).length ∧ ∀ j, j < (gR (rn X n) i).length → (eL (gR (rn X n) i) j).n ≤ 1048576 := by
  obtain ⟨h1, h2⟩ := rn_sub X n (gR_in hi)
  refine ⟨by have := h1.length_le; rw [sl_len] at this; omega, List.length_pos_iff.2 h2, fun j hj => ?_⟩
  have hm : eL (gR (rn X n) i) j ∈ sl X 0 n := h1.subset (by rw [eL_get hj]; exact List.getElem_mem hj)
  obtain ⟨q, hq, e⟩ := sl_mem hm
  rw [← e]
  exact (hz q hq).2
theorem sp1_flat (most : Int) (P : List (List Ent)) (L : List Ent) : (sp1 most P L).flatten = P.flatten ++ L := by
  unfold sp1
  split
  · rename_i h
    rcases List.eq_nil_or_concat P with h0 | ⟨P0, q, h0⟩
    · exact absurd h0 h.1
    · rw [List.concat_eq_append] at h0
      subst h0
      simp [List.getLastD_concat]
  · simp
theorem spP_flat (Rs : List (List Ent)) (most : Int) : ∀ k, k ≤ Rs.length → (spP Rs most k).flatten = (Rs.take k).flatten
  | 0, _ => by simp [spP]
  | k + 1, h => by
    show (sp1 most (spP Rs most k) (gR Rs k)).flatten = _
    rw [sp1_flat, spP_flat Rs most k (by omega), List.take_add_one]
    have e : Rs[k]? = some (gR Rs k) := by simp [gR, show k < Rs.length by omega]
    rw [e]
    simp
theorem sp_sub {X : Nat → Ent} {n : Nat} {most : Int} {k : Nat} (hk : k ≤ (rn X n).length) {P : List Ent} (h : P ∈ spP (rn X n) most k) : P.Sublist (sl X 0 n) := by
  have h1 : P.Sublist (spP (rn X n) most k).flatten := List.sublist_flatten_of_mem h
  rw [spP_flat _ _ _ hk] at h1
  rw [← (rn_prop X n).1]
  refine h1.trans ?_
  conv => rhs; rw [← List.take_append_drop k (rn X n), List.flatten_append]
  exact List.sublist_append_left _ _
theorem sp_in {X : Nat → Ent} {n : Nat} {most : Int} {k i : Nat} (hk : k ≤ (rn X n).length) (hi : i < (spP (rn X n) most k).length) : (gR (spP (rn X n) most k) i).length ≤ n := by
  have := (sp_sub hk (gR_in hi)).length_le
  rw [sl_len] at this
  omega

set_option maxRecDepth 100000 in
set_option maxHeartbeats 8000000 in
theorem splitRows_impl (b off n cap : Nat) (X : Nat → Ent) (most : Int) (w : World) (hr : ERow w (some ⟨b, off, none⟩) n X) (hn : n ≤ 1048576) (hz : ESize n X) (hcap : n ≤ cap) :
    Calls Tryz.prog 10 #[.slice (some ⟨b, off, none⟩) n cap, .int .i64 most] w fun e w' => SpI X n most w e w' := by
  have HN : Hid (¬ SpOk X n most → ∀ W, Below w.heap.size w W → SpI X n most w (.returned (.tuple #[.slice none 0 0, .bool false])) W) := fun h W hb => ⟨fun h2 => absurd h2 h, fun _ => ⟨rfl, hb⟩⟩
  by_cases h3 : 300 < n
  · have H : Hid (¬ SpOk X n most) := fun h => by have := h.1; omega
    have hd : decide ((300 : Int) < (n : Int)) = true := decide_eq_true (by omega)
    go_enter Tryz.func10, Tryz.ntmps10
    go_wp2
    exact bodyPost_ret (v := .tuple #[.slice none 0 0, .bool false]) (by simp [results, Tryz.results10, go_sem]) rfl (HN.out H.out _ (Below.refl _ _))
  have hd : decide ((300 : Int) < (n : Int)) = false := decide_eq_false (by omega)
  by_cases h1 : most < 1
  · have H : Hid (¬ SpOk X n most) := fun h => by have := h.2.1.1; omega
    go_enter Tryz.func10, Tryz.ntmps10
    go_wp2
    exact bodyPost_ret (v := .tuple #[.slice none 0 0, .bool false]) (by simp [results, Tryz.results10, go_sem]) rfl (HN.out H.out _ (Below.refl _ _))
  have hd1 : decide (most < 1) = false := decide_eq_false h1
  by_cases h100 : 100 < most
  · have H : Hid (¬ SpOk X n most) := fun h => by have := h.2.1.2; omega
    go_enter Tryz.func10, Tryz.ntmps10
    go_wp2
    exact bodyPost_ret (v := .tuple #[.slice none 0 0, .bool false]) (by simp [results, Tryz.results10, go_sem]) rfl (HN.out H.out _ (Below.refl _ _))
  have hd2 : decide ((100 : Int) < most) = false := decide_eq_false h100
  have hgs := goodEntries_impl (some ⟨b, off, none⟩) n cap X w hr hn hz
  by_cases hG : GoodL X n
  rotate_left
  · have H : Hid (¬ SpOk X n most) := fun h => hG h.2.2
    go_enter Tryz.func10, Tryz.ntmps10
    go_wp2_with fail
    refine hgs.mono ?_
    rintro e w1 ⟨b1, rfl, g1, q1⟩
    obtain rfl : b1 = false := by
      cases b1
      · rfl
      · exact absurd (g1.1 rfl) hG
    clear g1
    go_wp2
    exact bodyPost_ret (v := .tuple #[.slice none 0 0, .bool false]) (by simp [results, Tryz.results10, go_sem]) rfl (HN.out H.out _ q1)
  have HY : Hid (∀ e W, (∃ v, e = .returned (.tuple #[v, .bool true]) ∧ SAn W w.heap.size v (spP (rn X n) most (rn X n).length) ∧ Below w.heap.size w W) → SpI X n most w e W) := fun e W he => ⟨fun _ => he, fun h => absurd ⟨by omega, ⟨by omega, by omega⟩, hG⟩ h⟩
  have hkr := fun W (hW : Below w.heap.size w W) => keyRuns_any b off n cap X W (hr.keep hW) hn hcap
  have HRL : Hid (∀ i, i < (rn X n).length → (gR (rn X n) i).length ≤ n ∧ 0 < (gR (rn X n) i).length ∧ ∀ j, j < (gR (rn X n) i).length → (eL (gR (rn X n) i) j).n ≤ 1048576) := fun i hi => run_in hz hi
  have hrl := rn_le X n
  have HST : Hid (∀ k, spP (rn X n) most (k + 1) = sp1 most (spP (rn X n) most k) (gR (rn X n) k)) := fun _ => rfl
  have HP0 : Hid (spP (rn X n) most 0 = []) := rfl
  have HPL : Hid _ := spP_len (rn X n) most
  have HSL : Hid (∀ k i, k ≤ (rn X n).length → i < (spP (rn X n) most k).length → (gR (spP (rn X n) most k) i).length ≤ n) := fun k i hk hi => sp_in hk hi
  have HGG : Hid (GoodL X n) := hG
  clear hG HN hr hz
  generalize hPK : spP (rn X n) most = PK at *
  generalize rn X n = Rs at *
  clear hPK
  go_enter Tryz.func10, Tryz.ntmps10
  go_wp2_with fail
  refine hgs.mono ?_
  rintro e w1 ⟨b1, rfl, g1, q1⟩
  obtain rfl : b1 = true := g1.2 HGG.out
  clear g1 hgs
  go_wp2_with fail
  refine (hkr _ q1).mono ?_
  rintro e w2 ⟨v2, rfl, hR2, hb2⟩
  have bw2 := q1.trans (hb2.mono q1.size)
  have hvf : ∃ lo lc, v2 = .slice lo Rs.length lc := by
    rcases hR2 with ⟨h0, e⟩ | ⟨g, c, e, _⟩
    · exact ⟨none, 0, by rw [e, h0]; rfl⟩
    · exact ⟨_, _, e⟩
  obtain ⟨ro, rc, rfl⟩ := hvf
  go_wp2
  go_loopw [6, 29] (fun u i wr => ∃ (k : Nat) (V : Nat → Value) (W : Nat → Nat → Value), k ≤ Rs.length ∧ i = .int .i64 k ∧ PI wr w2.heap.size u (PK k) V W ∧ Below w2.heap.size w2 wr) (fun _ i _ => Rs.length - (intOf i).toNat)
  case atStart => exact ⟨0, _, _, Nat.zero_le _, rfl, by rw [HP0.out]; exact pi_nil _ _, Below.refl _ _⟩
  case round =>
    obtain ⟨k, V, W, hk, rfl, hI, hbk⟩ := hrel
    obtain ⟨lo, lc, rfl⟩ := ownsRow_form hI.own
    have bwk := bw2.trans (hbk.mono bw2.size)
    have hpl := HPL.out k
    by_cases hlt : k < Rs.length
    rotate_left
    · obtain rfl : k = Rs.length := by omega
      have hC := (hI.san).mono bw2.size
      have HC : Hid (SAn wr w.heap.size (.slice lo (PK Rs.length).length lc) (PK Rs.length)) := hC
      clear hI hC HST HPL HP0 hR2 HRL HSL
      generalize hnn : (PK Rs.length).length = nn at *
      go_wp2
      exact bodyPost_ret (v := .tuple #[.slice lo nn lc, .bool true]) (by simp [results, Tryz.results10, go_sem]) rfl (HY.out _ _ ⟨_, rfl, HC.out, bwk⟩)
    rcases hR2 with ⟨h0, _⟩ | ⟨g, c, e, hg, hL⟩
    · rw [h0] at hlt; simp at hlt
    injection e with e1 _ e3
    subst e1
    subst e3
    obtain ⟨p, pc, hc1, hpc, hER⟩ := hL.row k hlt
    have a0 := (hbk.cell (p := ⟨g, k, none⟩) hL.lt).trans hc1
    obtain ⟨hl1, hl2, hl3⟩ := HRL.out k hlt
    have hst := HST.out k
    have hw1k : Below w1.heap.size w1 wr := hb2.trans (hbk.mono hb2.size)
    have hsl := HSL.out k
    have hsz := hbk.size
    have hb12 := hb2.size
    clear HST HPL HP0 HRL hL hc1 HSL
    generalize gR Rs k = L at *
    rcases List.eq_nil_or_concat (PK k) with h0 | ⟨Ps0, Q, h0⟩
    · have HS : Hid (PK (k + 1) = [] ++ [L]) := by rw [Hid, hst, h0]; exact sp_new (.inl rfl)
      rw [h0] at hI ⊢
      simp only [List.length_nil] at hI ⊢
      have hwm : IntKind.i64.wrap ((0 : Int) - 1) = -1 := by rw [IntKind.wrap_i64] <;> omega
      clear hst hsl h0 hpl
      have had := addMany_fr none 0 w2.heap.size 0 (eL L) (fun _ => .slice none 0 0) p L.length pc (eL L) w1 wr (outE_nil _ _ _) hER hw1k hb12 (fun i hi => hl3 i hi) (by omega) hsz
      go_wp2_with fail
      refine had.mono ?_
      rintro e w4 ⟨v4, V4, rfl, hO4, hb4, hF4, hu4, hV4, _⟩
      have hF4' : Fr none wr w4 := hF4
      have hO4' : OutE w4 w2.heap.size v4 L.length (eL L) V4 := by
        have h6 := hO4.congr (X' := eL L) (fun i _ => by simp [catE])
        rw [Nat.zero_add] at h6
        exact h6
      have hu4' : ∀ c, v4.ownBlock = some c → wr.heap.size ≤ c := fun c hc => hu4.elim (fun h => by rw [h] at hc; cases hc) (fun h => h c hc)
      obtain ⟨vo, vc, hvf⟩ := ownsRow_form hO4'.own
      have hz4 := hb4.size
      have hu5 : ∀ i, i < L.length → ∀ c, (V4 i).ownBlock = some c → wr.heap.size ≤ c := fun i hi c hc => hV4 i (Nat.zero_le _) (by omega) c hc
      clear hO4 hF4 hu4 hV4 had hER
      subst hvf
      go_wp2_with (at_builtin; refine wpList_pushP (w := wr) (w1 := w4) _ rfl rfl (.tmp 50) (.tmp 53) rfl w2.heap.size (.slice lo 0 lc) [] V W rfl hI rfl hF4' hO4' hu4' hu5 hl2 rfl (by simp) hsz ?_; intro lo6 lc6 w6 V6 W6 hI6 hb6)
      have b6 := hbk.trans (hb4.trans hb6)
      go_roundw
      case rel => exact ⟨k + 1, V6, W6, by omega, by go_num, by rw [HS.out]; first | exact hI6 | (simpa using hI6), b6⟩
      case measure => simp [intOf]; omega

    · rw [List.concat_eq_append] at h0
      have hlenQ : (Ps0 ++ [Q]).length = Ps0.length + 1 := by simp
      have hQl : Q.length ≤ n := by
        have h7 := hsl Ps0.length (by omega) (by rw [h0]; omega)
        rw [h0, gR_end] at h7
        exact h7
      rw [h0, hlenQ] at hpl
      rw [h0] at hI hst ⊢
      have hI' := hI
      rw [hlenQ] at hI ⊢
      obtain ⟨g', cO, hgc⟩ := hI'.block (by omega)
      rw [hgc] at hI'
      rw [hlenQ] at hgc
      injection hgc with hg1 _ hg3
      subst hg1
      have hg4 := hg3.symm
      clear hg3
      subst hg4
      have hOQ := hI'.row Ps0.length (by omega)
      rw [gR_end] at hOQ
      have hcQ := hI'.cellAt (i := Ps0.length) (by omega)
      have hfQ : wr.frozen? ⟨g', Ps0.length, none⟩ = false := hI'.own.frozenAt _
      obtain ⟨qo, qc, hVQ⟩ := ownsRow_form hOQ.own
      rw [hVQ] at hcQ hOQ
      have hw1 : IntKind.i64.wrap (((Ps0.length + 1 : Nat) : Int) - 1) = (Ps0.length : Int) := by rw [IntKind.wrap_i64] <;> omega
      have hw2 : IntKind.i64.wrap ((Ps0.length : Int) + 1 - 1) = (Ps0.length : Int) := by rw [IntKind.wrap_i64] <;> omega
      have hw3 : IntKind.i64.wrap (Ps0.length : Int) = (Ps0.length : Int) := by rw [IntKind.wrap_i64] <;> omega
      have hi1 : (Ps0.length : Int) < ((Ps0.length + 1 : Nat) : Int) := by omega
      have hi2 : (Ps0.length : Int) < (Ps0.length : Int) + 1 := by omega
      have hi3 : Ps0.length < Ps0.length + 1 := by omega
      have hneg : decide ((Ps0.length : Int) < 0) = false := decide_eq_false (by omega)
      have hwq : IntKind.i64.wrap ((Q.length : Int) + (L.length : Int)) = (Q.length : Int) + (L.length : Int) := by rw [IntKind.wrap_i64] <;> omega
      clear hsl h0
      by_cases hm : (Q.length : Int) + L.length ≤ most
      · have hmd : decide (most < (Q.length : Int) + (L.length : Int)) = false := decide_eq_false (by omega)
        have HS : Hid (PK (k + 1) = Ps0 ++ [Q ++ L]) := by rw [Hid, hst]; exact sp_more hm
        have had := addMany_fr qo qc w2.heap.size Q.length (eL Q) (W Ps0.length) p L.length pc (eL L) w1 wr hOQ hER hw1k hb12 (fun i hi => hl3 i hi) (by omega) hsz
        have hgb := (hI'.own.lt g' rfl).1
        clear hst hOQ hER hm
        go_wp2_with fail
        refine had.mono ?_
        rintro e w4 ⟨v4, V4, rfl, hO4, hb4, hF4, hu4, hV4, hW4⟩
        have hO4' : OutE w4 w2.heap.size v4 (Q ++ L).length (eL (Q ++ L)) V4 := by
          have h6 := hO4.congr (X' := eL (Q ++ L)) (cat_app Q L)
          rw [List.length_append]
          exact h6
        rw [← hVQ] at hF4 hu4
        obtain ⟨hI6, hc4, hf4⟩ := hI'.grow hF4 hO4' hu4 (fun i h1 h2 c hc => hV4 i h1 (by rw [List.length_append] at h2; exact h2) c hc) hW4
        rw [hcQ] at hc4
        rw [hfQ] at hf4
        rw [hlenQ, ← HS.out] at hI6
        obtain ⟨vo, vc, hvf⟩ := ownsRow_form hO4.own
        subst hvf
        have b6 : Below w2.heap.size w2 (w4.setCell ⟨g', Ps0.length, none⟩ (.slice vo (Q.length + L.length) vc)) := Below.setCell (p := ⟨g', Ps0.length, none⟩) (hbk.trans hb4) hgb _
        have HI6 : Hid (∃ V6 W6, PI (w4.setCell ⟨g', Ps0.length, none⟩ (.slice vo (Q.length + L.length) vc)) w2.heap.size (.slice (some ⟨g', 0, none⟩) (Ps0.length + 1) cO) (PK (k + 1)) V6 W6) := ⟨_, _, hI6⟩
        clear hI6 hI hI' hO4 hO4' hF4 hu4 hV4 hW4 had hVQ hb4
        generalize Ps0.length = m at *
        go_wp2
        go_roundw
        case rel =>
          obtain ⟨V6, W6, h6⟩ := HI6.out
          exact ⟨k + 1, V6, W6, by omega, by go_num, h6, b6⟩
        case measure => simp [intOf]; omega
      · have hmd : decide (most < (Q.length : Int) + (L.length : Int)) = true := decide_eq_true (by omega)
        have HS : Hid (PK (k + 1) = (Ps0 ++ [Q]) ++ [L]) := by rw [Hid, hst]; exact sp_new (.inr (by simpa [List.getLastD_concat] using hm))
        clear hst hOQ hm
        rw [← hlenQ] at hI
        have HIW : Hid (PI wr w2.heap.size (.slice (some ⟨g', 0, none⟩) (Ps0.length + 1) cO) (Ps0 ++ [Q]) V W) := by rw [hlenQ] at hI; exact hI
        clear hI hI' hVQ hlenQ
        have had := addMany_fr none 0 w2.heap.size 0 (eL L) (fun _ => .slice none 0 0) p L.length pc (eL L) w1 wr (outE_nil _ _ _) hER hw1k hb12 (fun i hi => hl3 i hi) (by omega) hsz
        go_wp2_with fail
        refine had.mono ?_
        rintro e w4 ⟨v4, V4, rfl, hO4, hb4, hF4, hu4, hV4, _⟩
        have hF4' : Fr none wr w4 := hF4
        have hO4' : OutE w4 w2.heap.size v4 L.length (eL L) V4 := by
          have h6 := hO4.congr (X' := eL L) (fun i _ => by simp [catE])
          rw [Nat.zero_add] at h6
          exact h6
        have hu4' : ∀ c, v4.ownBlock = some c → wr.heap.size ≤ c := fun c hc => hu4.elim (fun h => by rw [h] at hc; cases hc) (fun h => h c hc)
        obtain ⟨vo, vc, hvf⟩ := ownsRow_form hO4'.own
        have hz4 := hb4.size
        have hu5 : ∀ i, i < L.length → ∀ c, (V4 i).ownBlock = some c → wr.heap.size ≤ c := fun i hi c hc => hV4 i (Nat.zero_le _) (by omega) c hc
        clear hO4 hF4 hu4 hV4 had hER
        subst hvf
        go_wp2_with (at_builtin; refine wpList_pushP (w := wr) (w1 := w4) _ rfl rfl (.tmp 50) (.tmp 53) rfl w2.heap.size (.slice (some ⟨g', 0, none⟩) (Ps0.length + 1) cO) (Ps0 ++ [Q]) V W rfl HIW.out rfl hF4' hO4' hu4' hu5 hl2 rfl (by simp; omega) hsz ?_; intro lo6 lc6 w6 V6 W6 hI6 hb6)
        have b6 := hbk.trans (hb4.trans hb6)
        go_roundw
        case rel => exact ⟨k + 1, V6, W6, by omega, by go_num, by rw [HS.out]; first | exact hI6 | (simpa using hI6), b6⟩
        case measure => simp [intOf]; omega

end Go.Proofs.YtmeckcaekkangaaGreat

namespace Go.Proofs.YtmeckcaekkangaaGreat
set_option maxRecDepth 100000
open Go.RowKit
set_option linter.unusedSimpArgs false
set_option linter.unusedVariables false

set_option maxRecDepth 100000 in
/-- A run put behind, as an equation. -/
theorem gat_many {w0 w : World} {base : Nat} {lo p : Option Addr} {lc pc : Nat} {E L : List Ent} (ty : TypeId) (h : GatE w0 w base (.slice lo E.length lc) E) (hr : ERow w0 p L.length (eL L)) (hb : Below w0.heap.size w0 w) (hL : 0 < L.length) (hn : E.length + L.length ≤ 1048576) (hbase : base ≤ w.heap.size) :
    ∃ lo' lc' w', (Builtin.append_ #[26, 26] ty #[.slice lo E.length lc, .slice p L.length pc]).run Tryz.prog w = .ok (.slice lo' (E.length + L.length) lc') w' ∧ GatE w0 w' base (.slice lo' (E.length + L.length) lc') (E ++ L) ∧
      w.grownBy w' (Value.slice lo E.length lc).ownBlock ∧ ((Value.slice lo' (E.length + L.length) lc').ownBlock = (Value.slice lo E.length lc).ownBlock ∨ (Value.slice lo' (E.length + L.length) lc').ownBlock = some w.heap.size) := by
  obtain ⟨i0, hi, hz0, hz1, hz2⟩ := info_parts Tryz.infoEnt
  obtain ⟨V, hO, hV⟩ := h
  obtain ⟨b, off, rfl, _⟩ := hr.lies.resolve_left (by omega)
  obtain ⟨VL, hVL⟩ := ev_of hr
  have hsrc := hVL.src (p := 0) (m := L.length) hb (by omega)
  rw [Nat.zero_mul, Nat.add_zero] at hsrc
  obtain ⟨v', w', hrun, h1, h2, _, h4⟩ := run_append_own_at (P := Tryz.prog) w base 26 ty 48 i0 _ 9 96 Tryz.underlying26 hi hz0 hz1 hz2 rfl (by decide) (.slice lo E.length lc) E.length ((List.range E.length).flatMap fun i => ecells (eL E i) (V i)) hO ⟨b, off, none⟩ L.length pc (fm (eL L) VL 0 L.length) (fm_len _ _ _ _) hsrc (hVL.one (by omega)) (by unfold maxLen; omega) (by omega) hbase
  obtain ⟨lo', lc', rfl⟩ := ownsRow_form h1
  have hl : (E ++ L).length = E.length + L.length := by simp
  have hfr : ∀ i, i < E.length → eL (E ++ L) i = eL E i := fun i hi => by rw [← cat_app E L i (by omega)]; simp [catE, hi]
  have hbk : ∀ i, i < L.length → eL (E ++ L) (E.length + i) = eL L i := fun i hi => by rw [← cat_app E L _ (by omega)]; unfold catE; rw [if_neg (by omega), Nat.add_sub_cancel_left]
  refine ⟨lo', lc', w', hrun, ⟨fun i => if i < E.length then V i else VL (i - E.length), ?_, fun i hi => ?_⟩, h2, h4⟩
  · rw [hl, List.range_add, List.flatMap_append]
    have e1 : ((List.range E.length).flatMap fun i => ecells (eL (E ++ L) i) (if i < E.length then V i else VL (i - E.length))) = ((List.range E.length).flatMap fun i => ecells (eL E i) (V i)) := by
      unfold List.flatMap
      congr 1
      refine List.map_congr_left fun i hi => ?_
      have := List.mem_range.1 hi
      rw [hfr i this, if_pos this]
    have e2 : ((List.map (fun x => E.length + x) (List.range L.length)).flatMap fun i => ecells (eL (E ++ L) i) (if i < E.length then V i else VL (i - E.length))) = fm (eL L) VL 0 L.length := by
      rw [fm_zero]
      unfold List.flatMap
      rw [List.map_map]
      congr 1
      refine List.map_congr_left fun i hi => ?_
      have := List.mem_range.1 hi
      show ecells (eL (E ++ L) (E.length + i)) (if E.length + i < E.length then V (E.length + i) else VL (E.length + i - E.length)) = _
      rw [hbk i this, if_neg (by omega), Nat.add_sub_cancel_left]
    rw [e1, e2]
    exact h1
  · rw [hl] at hi
    by_cases e : i < E.length
    · obtain ⟨a, c, h5, h6⟩ := hV i e
      exact ⟨a, c, by simp only [e, if_true]; rw [hfr i e]; exact h5, by rw [hfr i e]; exact h6⟩
    · obtain ⟨a, c, h5, h6⟩ := hVL.row (i - E.length) (by omega)
      have e3 : eL (E ++ L) i = eL L (i - E.length) := by rw [← hbk (i - E.length) (by omega), show E.length + (i - E.length) = i by omega]
      exact ⟨a, c, by simp only [e, if_false]; rw [e3]; exact h5, by rw [e3]; exact h6⟩
/-- The last row grown. -/
theorem EaI.growLast {w wr : World} {base : Nat} {V : Nat → Value} {Rs0 : List (List Ent)} {L R : List Ent} {g cO lcL lc2 n2 : Nat} {loL lo2 : Option Addr} {w2 : World} (h : EaI w wr base (.slice (some ⟨g, 0, none⟩) (Rs0 ++ [L]).length cO) (Rs0 ++ [L]) V) (hVL : V Rs0.length = .slice loL L.length lcL)
    (hG : GatE w w2 base (.slice lo2 n2 lc2) (L ++ R)) (hg : wr.grownBy w2 (Value.slice loL L.length lcL).ownBlock) (ha : (Value.slice lo2 n2 lc2).ownBlock = (Value.slice loL L.length lcL).ownBlock ∨ (Value.slice lo2 n2 lc2).ownBlock = some wr.heap.size) :
    EaI w (w2.setCell ⟨g, Rs0.length, none⟩ (.slice lo2 n2 lc2)) base (.slice (some ⟨g, 0, none⟩) (Rs0 ++ [L]).length cO) (Rs0 ++ [L ++ R]) (fun i => if i = Rs0.length then .slice lo2 n2 lc2 else V i) ∧ w2.cell? ⟨g, Rs0.length, none⟩ = wr.cell? ⟨g, Rs0.length, none⟩ ∧ w2.frozen? ⟨g, Rs0.length, none⟩ = wr.frozen? ⟨g, Rs0.length, none⟩ := by
  have hlen : (Rs0 ++ [L]).length = Rs0.length + 1 := by simp
  have hlen2 : (Rs0 ++ [L ++ R]).length = Rs0.length + 1 := by simp
  have hl : Rs0.length < (Rs0 ++ [L]).length := by omega
  have hlt := h.lt
  have hneg : (Value.slice loL L.length lcL).ownBlock ≠ some g := by
    rw [← hVL]
    intro e
    exact h.apart Rs0.length hl g e rfl
  have hg' : ∀ c, c < wr.heap.size → (Value.slice loL L.length lcL).ownBlock ≠ some c → w2.heap[c]? = wr.heap[c]? := fun c hc hne => hg.block c hc (fun e => hne e.symm)
  have hgb := hg' g hlt hneg
  have hown2 : w2.ownsRow base 26 1 (.slice (some ⟨g, 0, none⟩) (Rs0 ++ [L]).length cO) (Rs0 ++ [L]).length ((List.range (Rs0 ++ [L]).length).map V) := ownsRow_same h.own (fun c hc => by injection hc with hc; subst hc; exact hgb)
  have hst := hown2.stored Rs0.length (.slice lo2 n2 lc2)
  have hoth : Others g w2 (w2.setCell ⟨g, Rs0.length, none⟩ (.slice lo2 n2 lc2)) := Others.setCell _ _ _ _
  have hbn : ∀ c, (Value.slice lo2 n2 lc2).ownBlock = some c → c ≠ g ∧ ∀ i, i < Rs0.length → (V i).ownBlock ≠ some c := fun c hc => by
    rcases ha with ha | ha
    · rw [ha] at hc
      refine ⟨fun e => hneg (by rw [hc, e]), fun i hi e => ?_⟩
      rw [← hVL] at hc
      exact h.dis i Rs0.length (by omega) hl (by omega) c e hc
    · rw [ha] at hc
      injection hc with hc
      refine ⟨by omega, fun i hi e => ?_⟩
      have := (h.rowlt i (by omega) c e).2
      omega
  refine ⟨⟨?_, fun i hi => ?_, fun i hi c hc => ?_, fun i j hi hj hij c h1 h2 => ?_⟩, World.cell?_of_block (w := wr) (a := ⟨g, Rs0.length, none⟩) hgb, World.frozen?_of_block (w := wr) (a := ⟨g, Rs0.length, none⟩) hgb⟩
  · have e : ((List.range (Rs0 ++ [L ++ R]).length).map fun i => if i = Rs0.length then Value.slice lo2 n2 lc2 else V i) = ((List.range (Rs0 ++ [L]).length).map V).set Rs0.length (.slice lo2 n2 lc2) := by
      rw [hlen, hlen2]
      apply List.ext_getElem
      · simp
      · intro i h1 h2
        simp at h1
        rw [List.getElem_set]
        by_cases e : i = Rs0.length
        · simp [e]
        · simp [e]
          intro h
          exact absurd h.symm e
    rw [e, hlen2, ← hlen]
    exact hst.1
  · rw [hlen2] at hi
    by_cases e : i = Rs0.length
    · subst e
      rw [gR_last]
      simp only [if_true]
      exact hG.kept (others_grown hoth) (fun k hk hh => by injection hk with hk; exact (hbn k hh).1 hk.symm)
    · simp only [e, if_false]
      rw [gR_front (L' := L) (by omega)]
      have h5 := h.row i (by omega)
      obtain ⟨VV, h6, h7⟩ := h5
      refine ⟨VV, ownsRow_same h6 (fun c hc => ?_), h7⟩
      have hc2 := (h6.lt c hc).2
      rw [hoth.block c (fun e2 => h.apart i (by omega) c hc (by rw [e2]; rfl))]
      refine hg' c hc2 (fun e2 => ?_)
      rw [← hVL] at e2
      exact h.dis i Rs0.length (by omega) hl e c hc e2
  · rw [hlen2] at hi
    by_cases e : i = Rs0.length
    · simp only [e, if_true] at hc
      intro e2
      injection e2 with e2
      exact (hbn c hc).1 e2.symm
    · simp only [e, if_false] at hc
      exact h.apart i (by omega) c hc
  · rw [hlen2] at hi hj
    by_cases e : i = Rs0.length
    · by_cases e' : j = Rs0.length
      · omega
      · simp only [e, if_true] at h1
        simp only [e', if_false] at h2
        exact (hbn c h1).2 j (by omega) h2
    · by_cases e' : j = Rs0.length
      · simp only [e, if_false] at h1
        simp only [e', if_true] at h2
        exact (hbn c h2).2 i (by omega) h1
      · simp only [e, if_false] at h1
        simp only [e', if_false] at h2
        exact h.dis i j (by omega) (by omega) hij c h1 h2
/-- A row put behind. -/
theorem EaI.pushRow {w wr w4 w5 : World} {base : Nat} {u u' v4 : Value} {Rs : List (List Ent)} {V : Nat → Value} {L : List Ent} (h : EaI w wr base u Rs V) (hb : Below wr.heap.size wr w4) (hG : GatE w w4 base v4 L) (hv4 : ∀ c, v4.ownBlock = some c → wr.heap.size ≤ c)
    (ho : w5.ownsRow base 26 1 u' (Rs.length + 1) ((List.range Rs.length).map V ++ [v4])) (hblk : ∀ c, c < w4.heap.size → u.ownBlock ≠ some c → w5.heap[c]? = w4.heap[c]?) (ha : u'.ownBlock = u.ownBlock ∨ ∀ c, u'.ownBlock = some c → w4.heap.size ≤ c) :
    EaI w w5 base u' (Rs ++ [L]) (fun i => if i = Rs.length then v4 else V i) := by
  have hu := h.own.lt
  have hs := hb.size
  have hsame : ∀ {v : Value} {E : List Ent}, GatE w w4 base v E → (∀ c, v.ownBlock = some c → u.ownBlock ≠ some c) → GatE w w5 base v E := fun {v E} hg hne => by
    obtain ⟨VV, h6, h7⟩ := hg
    exact ⟨VV, ownsRow_same h6 (fun c hc => hblk c (h6.lt c hc).2 (hne c hc)), h7⟩
  refine ⟨?_, fun i hi => ?_, fun i hi c hc => ?_, fun i j hi hj hij c h1 h2 => ?_⟩
  · rw [List.length_append, List.length_singleton, List.range_succ, List.map_append]
    have e1 : ((List.range Rs.length).map fun i => if i = Rs.length then v4 else V i) = (List.range Rs.length).map V := List.map_congr_left fun i hi => by
      have := List.mem_range.1 hi
      rw [if_neg (by omega)]
    rw [e1]
    simpa using ho
  · rw [List.length_append, List.length_singleton] at hi
    rw [← gR_push _ _ i hi]
    by_cases e : i = Rs.length
    · simp only [e, if_true]
      exact hsame hG (fun c hc e2 => by have := hv4 c hc; have := (hu c e2).2; omega)
    · simp only [e, if_false]
      exact hsame ((h.row i (by omega)).keep hb) (fun c hc => h.apart i (by omega) c hc)
  · rw [List.length_append, List.length_singleton] at hi
    by_cases e : i = Rs.length
    · simp only [e, if_true] at hc
      have h1 := hv4 c hc
      have h2 := (hG.lt c hc).2
      rcases ha with ha | ha
      · rw [ha]; intro e2; have := (hu c e2).2; omega
      · intro e2; have := ha c e2; omega
    · simp only [e, if_false] at hc
      rcases ha with ha | ha
      · rw [ha]; exact h.apart i (by omega) c hc
      · intro e2; have := ha c e2; have := (h.rowlt i (by omega) c hc).2; omega
  · rw [List.length_append, List.length_singleton] at hi hj
    by_cases e : i = Rs.length
    · by_cases e' : j = Rs.length
      · omega
      · simp only [e, if_true] at h1
        simp only [e', if_false] at h2
        have := hv4 c h1
        have := (h.rowlt j (by omega) c h2).2
        omega
    · by_cases e' : j = Rs.length
      · simp only [e, if_false] at h1
        simp only [e', if_true] at h2
        have := hv4 c h2
        have := (h.rowlt i (by omega) c h1).2
        omega
      · simp only [e, if_false] at h1
        simp only [e', if_false] at h2
        exact h.dis i j (by omega) (by omega) hij c h1 h2
theorem EaI.rrow {w wr : World} {base : Nat} {lo : Option Addr} {n lc : Nat} {Rs : List (List Ent)} {V : Nat → Value} (h : EaI w wr base (.slice lo n lc) Rs V) (hw : Below w.heap.size w wr) (hS : ∀ L ∈ Rs, ∀ x ∈ L, EB x) (hl : ∀ L ∈ Rs, L.length ≤ 1048576) : RRow wr lo Rs.length (XR Rs) (MR Rs) := by
  have hmem : ∀ i, i < Rs.length → gR Rs i ∈ Rs := fun i hi => by simp [gR, hi]
  refine ⟨fun i hi j hj => hS _ (hmem i hi) _ (by show eL (gR Rs i) j ∈ _; rw [eL_get hj]; exact List.getElem_mem hj), fun i hi => by have := hl _ (hmem i hi); show (gR Rs i).length ≤ _; omega, ?_⟩
  rcases h.own.2 with ⟨_, h1⟩ | ⟨g, c, cur, e, h3, h4, h5, _⟩
  · exact .inl h1
  · injection e with e1 e2 e3
    subst e1
    refine .inr ⟨g, 0, rfl, (Array.getElem?_eq_some_iff.1 h4).1, fun i hi => ?_⟩
    obtain ⟨a, d, e6, hE⟩ := (h.row i hi).erow hw (fun j hj => hS _ (hmem i hi) _ (by rw [eL_get hj]; exact List.getElem_mem hj))
    subst e2
    exact ⟨a, d, by rw [Nat.zero_add, h.cellAt hi, e6]; rfl, hE⟩
set_option maxRecDepth 100000 in
/-- A row put behind, in the walk. -/
theorem wpList_pushQ {w wr w4 : World} {ops : Array Oper} {rest : List Oper} {o : Oper} {a : Act} {Q : Exit → Act → World → Prop} (nb : Nat) (hnb : w4.heap.size = nb) (hgd : o.guard = none) (s y : Operand)
    (ho : o.op = .call { callee := .builtin .append, args := #[s, y], argTypes := #[23, 23] })
    (base : Nat) (v : Value) (Ps : List (List Ent)) (V : Nat → Value) (hs : a.eval s = v) (h : EaI w wr base v Ps V) {vo : Option Addr} {vn vc : Nat} {L : List Ent} (hb : Below wr.heap.size wr w4) (hG : GatE w w4 base (.slice vo vn vc) L) (hv4 : ∀ c, (Value.slice vo vn vc).ownBlock = some c → wr.heap.size ≤ c)
    (hy : a.eval y = .slice (some ⟨nb, 0, none⟩) 1 1) (hn : Ps.length ≤ 1048576) (hbase : base ≤ wr.heap.size)
    (hk : ∀ lo' lc' w2 V', EaI w w2 base (.slice lo' (Ps.length + 1) lc') (Ps ++ [L]) V' → Below base w4 w2 → wpList Tryz.prog ops Q rest (a.put o.dst (.slice lo' (Ps.length + 1) lc')) w2) :
    wpList Tryz.prog ops Q (o :: rest) a (w4.alloc (.cells #[.slice vo vn vc] 26)) := by
  subst hnb
  obtain ⟨i0, hi, hz0, hz1, hz2⟩ := info_parts Tryz.infoES
  have hB := below_new w4 (.cells #[.slice vo vn vc] 26)
  have hs1 := hb.size
  refine wpList_append_own_at (w := w4.alloc (.cells #[.slice vo vn vc] 26)) hgd s y 23 ho base 26 i0 _ 1 24 Tryz.underlying23 hi hz0 hz1 hz2 rfl (by decide) v Ps.length ((List.range Ps.length).map V) hs (ownsRow_keep (ownsRow_keep h.own hb) hB) ⟨w4.heap.size, 0, none⟩ 1 1 [.slice vo vn vc] hy rfl (cell_one_v _ _ _) (fun u hu => by rw [List.mem_singleton.1 hu]; rfl) (by unfold maxLen; omega) (by omega) (by simp; omega) ?_
  intro v' w2 h1 h2 h3 h4
  obtain ⟨lo', lc', rfl⟩ := ownsRow_form h1
  refine hk lo' lc' w2 _ (h.pushRow hb hG hv4 h1 (fun c hc hne => (h2.block c (by simp; omega) (fun e => hne e.symm)).trans (hB.block c hc)) ?_) (((Below.refl base w4).trans (hB.mono (by omega))).grown h2 (by simp; omega) (fun q hq => (h.own.lt q hq).1))
  rcases h4 with h4 | h4
  · exact .inl h4
  · refine .inr (fun c hc => ?_)
    rw [h4] at hc
    injection hc with hc
    simp at hc
    omega
set_option maxHeartbeats 1000000 in
theorem l8Each_none (ao : Option Addr) (cap : Nat) (w : World) : Calls Tryz.prog 35 #[.slice ao 0 cap] w fun e w' => e = .returned (.slice none 0 0) ∧ w' = w := by
  go_enter Tryz.func35, Tryz.ntmps35
  go_wp2
  go_loopw [3, 8] (fun u i wr => i = .int .i64 0 ∧ u = .slice none 0 0 ∧ wr = w) (fun _ _ _ => 0)
  case atStart => exact ⟨rfl, rfl, rfl⟩
  case round =>
    obtain ⟨rfl, rfl, rfl⟩ := hrel
    go_wp2
    go_ret
    exact ⟨rfl, rfl⟩
theorem l8Each_all (lo : Option Addr) (n lc : Nat) (X : Nat → Ent) (w : World) (hr : ERow w lo n X) (hn : n ≤ 1048576) :
    Calls Tryz.prog 35 #[.slice lo n lc] w fun e w' => ∃ v, e = .returned v ∧ RunsO w' w' w.heap.size (rn X n) v ∧ Below w.heap.size w w' := by
  by_cases h0 : n = 0
  · subst h0
    refine (l8Each_none lo lc w).mono ?_
    rintro e w' ⟨rfl, rfl⟩
    exact ⟨_, rfl, .inl ⟨rfl, rfl⟩, Below.refl _ _⟩
  · obtain ⟨b, off, rfl, _⟩ := hr.lies.resolve_left h0
    exact l8Each_any b off n lc X w hr hn

end Go.Proofs.YtmeckcaekkangaaGreat

namespace Go.Proofs.YtmeckcaekkangaaGreat
set_option maxRecDepth 100000
open Go.RowKit
set_option linter.unusedSimpArgs false
set_option linter.unusedVariables false

/-- An answer of rows that is read. -/
def RdA (Ps : List (List Ent)) (c : Bool) (w : World) (e : Ending) (w' : World) : Prop := ∃ lo lc, e = .returned (.tuple #[.slice lo Ps.length lc, .bool c]) ∧ RRow w' lo Ps.length (XR Ps) (MR Ps) ∧ Below w.heap.size w w'
/-- An answer of rows whose memory is its own. -/
def SnA (Ps : List (List Ent)) (c : Bool) (w : World) (e : Ending) (w' : World) : Prop := ∃ v, e = .returned (.tuple #[v, .bool c]) ∧ SAn w' w.heap.size v Ps ∧ Below w.heap.size w w'
def SpS (X : Nat → Ent) (n : Nat) (most : Int) (w : World) (e : Ending) (w' : World) : Prop :=
  (SpOk X n most → RdA (spP (rn X n) most (rn X n).length) true w e w') ∧ (¬ SpOk X n most → e = .returned (.tuple #[.slice none 0 0, .bool false]) ∧ Below w.heap.size w w')

theorem tot_sm {P : List Ent} (h : SmL P) : ∀ k, k ≤ P.length → tot (eL P) k ≤ 148 * k
  | 0, _ => by simp [tot]
  | k + 1, hk => by
    have h1 := tot_sm h k (by omega)
    have h2 := h.at (show k < P.length by omega)
    have h3 := h2.key
    have h4 := h2.n
    unfold tot
    omega
theorem totR_sm {Ps : List (List Ent)} (h : ∀ P ∈ Ps, SmL P) : ∀ k, k ≤ Ps.length → totR (XR Ps) (MR Ps) k ≤ 149 * ((Ps.take k).flatten).length
  | 0, _ => by simp [totR]
  | k + 1, hk => by
    have h1 := totR_sm h k (by omega)
    have h2 := tot_sm (h _ (gR_in (show k < Ps.length by omega))) (gR Ps k).length (Nat.le_refl _)
    have e : Ps[k]? = some (gR Ps k) := by simp [gR, show k < Ps.length by omega]
    have e2 : ((Ps.take (k + 1)).flatten).length = ((Ps.take k).flatten).length + (gR Ps k).length := by rw [List.take_add_one, e]; simp
    rw [e2]
    show totR (XR Ps) (MR Ps) k + ((gR Ps k).length + tot (eL (gR Ps k)) (gR Ps k).length) ≤ _
    omega
theorem spo_of {w : World} {ao : Option Addr} {X : Nat → Ent} {n : Nat} {most : Int} (hr : ERow w ao n X) : ∃ (Ps : List (List Ent)) (c : Bool), (∀ P ∈ Ps, SmL P) ∧ (∀ P ∈ Ps, P.length ≤ 300) ∧ Ps.length + totR (XR Ps) (MR Ps) Ps.length ≤ 1048576 ∧ (∀ w e w', SpS X n most w e w' → RdA Ps c w e w') ∧ ∀ w e w', SpI X n most w e w' → SnA Ps c w e w' := by
  by_cases h : SpOk X n most
  · have hS : ∀ P ∈ spP (rn X n) most (rn X n).length, SmL P := fun P hP x hx => by
      obtain ⟨i, hi, e⟩ := sl_mem ((sp_sub (Nat.le_refl _) hP).subset hx)
      rw [← e]
      exact (h.2.2.1 i hi).sm (hr.bd i hi) (hr.fb i hi)
    have hn := h.1
    refine ⟨spP (rn X n) most (rn X n).length, true, hS, fun P hP => ?_, ?_, fun w e w' hp => hp.1 h, fun w e w' hp => hp.1 h⟩
    · have := (sp_sub (Nat.le_refl _) hP).length_le
      rw [sl_len] at this
      omega
    · have h1 := totR_sm hS _ (Nat.le_refl _)
      rw [List.take_length, spP_flat _ _ _ (Nat.le_refl _), List.take_length, (rn_prop X n).1, sl_len] at h1
      have h2 := spP_len (rn X n) most (rn X n).length
      have h3 := rn_le X n
      omega
  · refine ⟨[], false, (fun P hP => nomatch hP), (fun P hP => nomatch hP), by simp [totR], fun w e w' hp => ?_, fun w e w' hp => ?_⟩
    · obtain ⟨e1, e2⟩ := hp.2 h
      exact ⟨none, 0, e1, ⟨fun i hi => absurd hi (Nat.not_lt_zero _), fun i hi => absurd hi (Nat.not_lt_zero _), .inl rfl⟩, e2⟩
    · obtain ⟨e1, e2⟩ := hp.2 h
      exact ⟨_, e1, .inl ⟨rfl, none, 0, rfl⟩, e2⟩
end Go.Proofs.YtmeckcaekkangaaGreat
