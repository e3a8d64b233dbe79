/- Files at work while they are drawn. / A file put behind the drawn files; steps of the draw. -/
import Derived.Test.YtiojjihonmonkaaDoorDz
import Derived.Test.YtiojjihonmonkaaDoorOh
namespace Go.Proofs.YtiojjihonmonkaaDoor
open Go.RowKit
set_option linter.unusedSimpArgs false
set_option linter.unusedVariables false

theorem qat_grown {w w' : World} {b CB : Nat} {Q : Int} {sv : Value} (h : QAt w b Q sv) (g : w.grownBy w' (some CB)) (hne : b ≠ CB) : QAt w' b Q sv :=
  ⟨Nat.lt_of_lt_of_le h.lt g.size, g.cell h.c0 (fun e => hne (Option.some.inj e)), g.cell h.c1 (fun e => hne (Option.some.inj e))⟩
theorem qat_set {w : World} {b : Nat} {Q : Int} {sv : Value} (h : QAt w b Q sv) (Q' : Int) (sv' : Value) : QAt ((w.setCell ⟨b, 0, none⟩ (.int .i64 Q')).setCell ⟨b, 1, none⟩ sv') b Q' sv' := by
  obtain ⟨l, h0, h1⟩ := h
  exact ⟨by simpa using l, by simp [go_sem, h0, h1], by simp [go_sem, h0, h1]⟩
theorem qat_others {w w' : World} {b d : Nat} {Q : Int} {sv : Value} (h : QAt w b Q sv) (o : Others d w w') (hne : b ≠ d) : QAt w' b Q sv :=
  have k : ∀ i, w'.cell? ⟨b, i, none⟩ = w.cell? ⟨b, i, none⟩ := fun i => World.cell?_of_block (w := w) (a := ⟨b, i, none⟩) (o.block b hne)
  ⟨by rw [o.size]; exact h.lt, (k 0).trans h.c0, (k 1).trans h.c1⟩
theorem fz_grown {w w' : World} {b CB : Nat} (h : ∀ j, w.frozen? ⟨b, j, none⟩ = false) (hlt : b < w.heap.size) (g : w.grownBy w' (some CB)) (hne : b ≠ CB) : ∀ j, w'.frozen? ⟨b, j, none⟩ = false :=
  fun j => (World.frozen?_of_block (w := w) (a := ⟨b, j, none⟩) (g.block b hlt (fun e => hne (Option.some.inj e)))).trans (h j)
theorem fz_others {w w' : World} {b d : Nat} (h : ∀ j, w.frozen? ⟨b, j, none⟩ = false) (o : Others d w w') (hne : b ≠ d) : ∀ j, w'.frozen? ⟨b, j, none⟩ = false :=
  fun j => (World.frozen?_of_block (w := w) (a := ⟨b, j, none⟩) (o.block b hne)).trans (h j)
theorem srow_grown {w w' : World} {base n CB : Nat} {v : Value} {F : Nat → Fil} (h : SRow w base v n F) (g : w.grownBy w' (some CB)) (hb : CB < base) : SRow w' base v n F :=
  h.low g.size (fun j h1 h2 => g.block j h2 (fun e => by injection e with e; omega))
theorem srow_others {w w' : World} {base n d : Nat} {v : Value} {F : Nat → Fil} (h : SRow w base v n F) (o : Others d w w') (hb : d < base) : SRow w' base v n F :=
  h.low (by rw [o.size]; exact Nat.le_refl _) (fun j h1 h2 => o.block j (by omega))
theorem oth1 (w : World) (b i : Nat) (v : Value) : Others b w (w.setCell ⟨b, i, none⟩ v) := Others.setCell _ _ _ _
theorem oth2 (w : World) (b : Nat) (v0 v1 : Value) : Others b w ((w.setCell ⟨b, 0, none⟩ v0).setCell ⟨b, 1, none⟩ v1) := (oth1 w b 0 v0).trans (oth1 _ b 1 v1)

/-- The box fb holds the files that are drawn since w; the box of the answer is nought yet. -/
structure FS (w wr : World) (CB : Nat) (ao : Option Addr) (n cap : Nat) (f : Nat → Int) (A fb : Nat) (Q : Int) (p : Option Addr) (m c : Nat) : Prop where
  cs : CS w wr CB ao n cap f A
  lt : w.heap.size < fb
  q : QAt wr fb Q (.slice p m c)
  qf : ∀ j, wr.frozen? ⟨fb, j, none⟩ = false
  r : QAt wr w.heap.size 0 (.slice none 0 0)
  rf : ∀ j, wr.frozen? ⟨w.heap.size, j, none⟩ = false
  s : ∃ F, Dw m F ∧ SRow wr (fb + 1) (.slice p m c) m F
  qb : -1 ≤ Q ∧ Q ≤ 60001
section
variable {w wr w' : World} {CB : Nat} {ao : Option Addr} {n cap : Nat} {f : Nat → Int} {A A' fb : Nat} {Q : Int} {p : Option Addr} {m c : Nat}
theorem FS.cb (h : FS w wr CB ao n cap f A fb Q p m c) : CB < w.heap.size := h.cs.lt
theorem FS.draw (h : FS w wr CB ao n cap f A fb Q p m c) (k : CS wr w' CB ao n cap f A') : FS w w' CB ao n cap f A' fb Q p m c := by
  have h1 := h.cb
  have h2 := h.lt
  obtain ⟨F, hD, hS⟩ := h.s
  exact ⟨h.cs.trans k, h2, qat_grown h.q k.gr (by omega), fz_grown h.qf h.q.lt k.gr (by omega), qat_grown h.r k.gr (by omega), fz_grown h.rf h.r.lt k.gr (by omega), ⟨F, hD, srow_grown hS k.gr (by omega)⟩, h.qb⟩
theorem FS.keep (h : FS w wr CB ao n cap f A fb Q p m c) (hb : Below wr.heap.size wr w') : FS w w' CB ao n cap f A fb Q p m c := h.draw (h.cs.self.keep hb)
theorem FS.mono (h : FS w wr CB ao n cap f A fb Q p m c) (hA : A ≤ A') : FS w wr CB ao n cap f A' fb Q p m c := ⟨h.cs.mono hA, h.lt, h.q, h.qf, h.r, h.rf, h.s, h.qb⟩
theorem FS.setQ (h : FS w wr CB ao n cap f A fb Q p m c) (Q' : Int) (hQ : -1 ≤ Q' ∧ Q' ≤ 60001) : FS w (wr.setCell ⟨fb, 0, none⟩ (.int .i64 Q')) CB ao n cap f A fb Q' p m c := by
  have h2 := h.lt
  have o := oth1 wr fb 0 (.int .i64 Q')
  obtain ⟨F, hD, hS⟩ := h.s
  obtain ⟨l, q0, q1⟩ := h.q
  exact ⟨h.cs.others o (by omega), h2, ⟨by simpa using l, by simp [go_sem, q0, q1], by simp [go_sem, q0, q1]⟩, fun j => by simpa using h.qf j, qat_others h.r o (by omega), fz_others h.rf o (by omega), ⟨F, hD, srow_others hS o (by omega)⟩, hQ⟩
theorem FS.setF (h : FS w wr CB ao n cap f A fb Q p m c) (p' : Option Addr) (m' c' : Nat) (hs : ∃ F, Dw m' F ∧ SRow wr (fb + 1) (.slice p' m' c') m' F) : FS w (wr.setCell ⟨fb, 1, none⟩ (.slice p' m' c')) CB ao n cap f A fb Q p' m' c' := by
  have h2 := h.lt
  have o := oth1 wr fb 1 (.slice p' m' c')
  obtain ⟨F, hD, hS⟩ := hs
  obtain ⟨l, q0, q1⟩ := h.q
  exact ⟨h.cs.others o (by omega), h2, ⟨by simpa using l, by simp [go_sem, q0, q1], by simp [go_sem, q0, q1]⟩, fun j => by simpa using h.qf j, qat_others h.r o (by omega), fz_others h.rf o (by omega), ⟨F, hD, srow_others hS o (by omega)⟩, h.qb⟩

/-- What the switch of a round leaves: a box of files and a code. -/
def SwO (w2 wx : World) (CB : Nat) (ao : Option Addr) (n cap : Nat) (f : Nat → Int) (A fb xb : Nat) (Q : Int) (s7 : Value) : Prop :=
  ∃ Qx px mx cx cd, s7 = .int .i64 cd ∧ CS w2 wx CB ao n cap f A ∧ QAt wx xb Qx (.slice px mx cx) ∧ (cd = 0 → Qx = Q ∧ mx ≤ 40 ∧ ∃ F', Dw mx F' ∧ SRow wx (fb + 1) (.slice px mx cx) mx F')
theorem sw_done {w2 w4 w5 : World} {A4 xb : Nat} {Qa Q' cd : Int} {va : Value} {ao' : Option Addr} {m' cap' : Nat} (S4 : CS w2 w4 CB ao n cap f A4) (X4 : QAt w4 xb Qa va) (hxb : w2.heap.size ≤ xb) (hA : A4 ≤ A) (hfb : fb + 1 ≤ w4.heap.size) (b5 : Below w4.heap.size w4 w5)
    (hok : cd = 0 → Q' = Q ∧ m' ≤ 40 ∧ ∃ F', Dw m' F' ∧ SRow w5 w4.heap.size (.slice ao' m' cap') m' F') :
    SwO w2 ((w5.setCell ⟨xb, 0, none⟩ (.int .i64 Q')).setCell ⟨xb, 1, none⟩ (.slice ao' m' cap')) CB ao n cap f A fb xb Q (.int .i64 cd) := by
  have o := oth2 w5 xb (.int .i64 Q') (.slice ao' m' cap')
  have hx := X4.lt
  refine ⟨Q', ao', m', cap', cd, rfl, ((S4.keep b5).others o hxb).mono hA, qat_set (X4.keep b5) _ _, fun h0 => ?_⟩
  obtain ⟨e, hm, F', hD, hS⟩ := hok h0
  exact ⟨e, hm, F', hD, (srow_others hS o hx).base hfb⟩
theorem sw_same {w2 w4 : World} {A4 xb : Nat} (S4 : CS w2 w4 CB ao n cap f A4) (X4 : QAt w4 xb Q (.slice p m c)) (hA : A4 ≤ A) (H : FS w w4 CB ao n cap f A4 fb Q p m c) (hm : m ≤ 40) : SwO w2 w4 CB ao n cap f A fb xb Q (.int .i64 0) := by
  obtain ⟨F, hD, hS⟩ := H.s
  exact ⟨Q, p, m, c, 0, rfl, S4.mono hA, X4, fun _ => ⟨rfl, hm, F, hD, hS⟩⟩
end
end Go.Proofs.YtiojjihonmonkaaDoor
namespace Go.Proofs.YtiojjihonmonkaaDoor
open Go.RowKit
set_option linter.unusedSimpArgs false
set_option linter.unusedVariables false

theorem bao_of {w : World} {base : Nat} {v : Value} {L : List Int} (h : OwnL w base v L) : ∃ ad bc, v = .slice ad L.length bc ∧ BAO w ad L.length bc (fl L) := by
  have ho := h.own
  rcases ho.2 with ⟨rfl, h0⟩ | ⟨g, cap, cur, rfl, hbg, hg, hnc, _⟩
  · exact ⟨none, 0, by rw [h0], .inl ⟨rfl, h0, rfl⟩⟩
  · refine ⟨_, cap, rfl, .inr ⟨_, rfl, (Array.getElem?_eq_some_iff.1 hg).1, rfl, fun i hi => ?_⟩⟩
    have := ho.cellAt i (by omega)
    rw [vb_get hi] at this
    by_cases e : i = 0
    · subst e; simpa [Addr.add] using this
    · simpa [Addr.add, e] using this

theorem step_storeQ {w : World} {ops : Array Oper} {o : Oper} {a : Act} {K : Act → World → Prop} {Q : Exit → Act → World → Prop} {E : Prop} (hgd : o.guard = none) (k j : Nat)
    (ho : o.op = .store 25 (.tmp k) (.tmp j)) (b : Nat) (Q0 : Int) (sv0 : Value) (Q1 : Int) (p : Option Addr) (m c : Nat) (hx : a.eval (.tmp k) = .pointer (some ⟨b, 0, none⟩)) (hv : a.eval (.tmp j) = .agg #[.int .i64 Q1, .slice p m c]) (hz : QAt w b Q0 sv0) (hf : ∀ i, w.frozen? ⟨b, i, none⟩ = false)
    (h : K (a.put o.dst undef) ((w.setCell ⟨b, 0, none⟩ (.int .i64 Q1)).setCell ⟨b, 1, none⟩ (.slice p m c))) :
    if Region.wanted o (yielded ops a.tmps) = true then Oper.wp Tryd.prog o a w K Q else E := by
  have hw : Region.wanted o (yielded ops a.tmps) = true := by simp [Region.wanted, hgd]
  rw [if_pos hw]
  have hx' : a.tmps.getD k undef = .pointer (some ⟨b, 0, none⟩) := hx
  have hv' : a.tmps.getD j undef = .agg #[.int .i64 Q1, .slice p m c] := hv
  obtain ⟨_, h0, h1⟩ := hz
  have f0 := hf 0
  have f1 := hf 1
  unfold Oper.wp execOp
  simp only [ho, Act.eval, hx', hv']
  go_simp
  exact h
theorem step_storeL {w : World} {ops : Array Oper} {o : Oper} {a : Act} {K : Act → World → Prop} {Q : Exit → Act → World → Prop} {E : Prop} (hgd : o.guard = none) (k j : Nat)
    (ho : o.op = .store 23 (.tmp k) (.tmp j)) (b : Nat) (Q0 : Int) (sv0 : Value) (p : Option Addr) (m c : Nat) (hx : a.eval (.tmp k) = .pointer (some ⟨b, 1, none⟩)) (hv : a.eval (.tmp j) = .slice p m c) (hz : QAt w b Q0 sv0) (hf : ∀ i, w.frozen? ⟨b, i, none⟩ = false)
    (h : K (a.put o.dst undef) (w.setCell ⟨b, 1, none⟩ (.slice p m c))) :
    if Region.wanted o (yielded ops a.tmps) = true then Oper.wp Tryd.prog o a w K Q else E := by
  have hw : Region.wanted o (yielded ops a.tmps) = true := by simp [Region.wanted, hgd]
  rw [if_pos hw]
  have hx' : a.tmps.getD k undef = .pointer (some ⟨b, 1, none⟩) := hx
  have hv' : a.tmps.getD j undef = .slice p m c := hv
  obtain ⟨_, h0, h1⟩ := hz
  have f1 := hf 1
  unfold Oper.wp execOp
  simp only [ho, Act.eval, hx', hv']
  go_simp
  exact h

/-- One file more. -/
def snocF (F : Nat → Fil) (m : Nat) (x : Fil) (i : Nat) : Fil := if i < m then F i else x
theorem FS.push {w wr : World} {CB : Nat} {ao : Option Addr} {n cap : Nat} {f : Nat → Int} {A fb : Nat} {Q : Int} {p : Option Addr} {m c : Nat} (H : FS w wr CB ao n cap f A fb Q p m c) (hm : m ≤ 40) (s : ByteArray) (hs : s.size ≤ 1048576) (sy : Int) (G : Nat) (g0 : wr.cell? ⟨G, 0, none⟩ = some (.string s)) (g1 : wr.cell? ⟨G, 1, none⟩ = some (.slice none 0 0)) (g2 : wr.cell? ⟨G, 2, none⟩ = some (.int .i64 sy)) :
    ∃ p' c' w', (∀ ty, (Builtin.append_ #[23, 23] ty #[.slice p m c, .slice (some ⟨G, 0, none⟩) 1 1]).run Tryd.prog wr = .ok (.slice p' (m + 1) c') w') ∧ QAt w' fb Q (.slice p m c) ∧ (∀ j, w'.frozen? ⟨fb, j, none⟩ = false) ∧ FS w (w'.setCell ⟨fb, 1, none⟩ (.slice p' (m + 1) c')) CB ao n cap f A fb Q p' (m + 1) c' := by
  obtain ⟨F, hD, hS⟩ := H.s
  obtain ⟨xs, hl, hown, hdat⟩ := hS
  have hlt := H.lt
  have hql := H.q.lt
  obtain ⟨p', c', w', hrun, hown', hgr, hat⟩ := app_run wr (fb + 1) p c xs [(s, (none, 0, 0), sy)] m 1 hl rfl ⟨G, 0, none⟩ 1 hown (fun j u hu => by
    match j, hu with
    | 0, hu => simp [fenc] at hu; subst hu; simpa [Addr.add] using g0
    | 1, hu => simp [fenc] at hu; subst hu; simpa [Addr.add] using g1
    | 2, hu => simp [fenc] at hu; subst hu; simpa [Addr.add] using g2
    | j + 3, hu => simp [fenc] at hu) (by omega) (by omega)
  have hk : ∀ k, (Value.slice p m c).ownBlock = some k → fb + 1 ≤ k := fun k e => (hown.lt k e).1
  have hk' : ∀ k, (Value.slice p' (m + 1) c').ownBlock = some k → fb + 1 ≤ k := fun k e => (hown'.lt k e).1
  have C' : CS w w' CB ao n cap f A := H.cs.far hgr (fun k e => by have := hk k e; omega)
  have bl : ∀ b, b < fb + 1 → w'.heap[b]? = wr.heap[b]? := fun b hb => hgr.block b (by omega) (fun e => by have := hk b e.symm; omega)
  have q' : QAt w' fb Q (.slice p m c) := ⟨Nat.lt_of_lt_of_le hql hgr.size, (World.cell?_of_block (w := wr) (a := ⟨fb, 0, none⟩) (bl fb (by omega))).trans H.q.c0, (World.cell?_of_block (w := wr) (a := ⟨fb, 1, none⟩) (bl fb (by omega))).trans H.q.c1⟩
  have qf' : ∀ j, w'.frozen? ⟨fb, j, none⟩ = false := fun j => (World.frozen?_of_block (w := wr) (a := ⟨fb, j, none⟩) (bl fb (by omega))).trans (H.qf j)
  have r' : QAt w' w.heap.size 0 (.slice none 0 0) := ⟨Nat.lt_of_lt_of_le H.r.lt hgr.size, (World.cell?_of_block (w := wr) (a := ⟨w.heap.size, 0, none⟩) (bl w.heap.size (by omega))).trans H.r.c0, (World.cell?_of_block (w := wr) (a := ⟨w.heap.size, 1, none⟩) (bl w.heap.size (by omega))).trans H.r.c1⟩
  have rf' : ∀ j, w'.frozen? ⟨w.heap.size, j, none⟩ = false := fun j => (World.frozen?_of_block (w := wr) (a := ⟨w.heap.size, j, none⟩) (bl w.heap.size (by omega))).trans (H.rf j)
  have hS' : SRow w' (fb + 1) (.slice p' (m + 1) c') (m + 1) (snocF F m ⟨s, 0, fun _ => 0, sy⟩) := by
    refine ⟨xs ++ [(s, (none, 0, 0), sy)], by simp [hl], hown', fun i x hx => ?_⟩
    by_cases hi : i < xs.length
    · rw [List.getElem?_append_left hi] at hx
      have e : snocF F m ⟨s, 0, fun _ => 0, sy⟩ i = F i := if_pos (by omega)
      rw [e]
      exact (hdat i x hx).to hgr.size (fun b _ hb h1 => hgr.block b hb h1) (fun b hb h1 e => by
        rcases hat b e with h | h
        · exact h1 h
        · omega)
    · have hlt' := (List.getElem?_eq_some_iff.1 hx).1
      rw [List.length_append] at hlt'
      simp at hlt'
      have e : i = m := by omega
      subst e
      rw [List.getElem?_append_right (by omega), hl] at hx
      simp at hx
      subst hx
      have e : snocF F i ⟨s, 0, fun _ => 0, sy⟩ i = ⟨s, 0, fun _ => 0, sy⟩ := if_neg (by omega)
      rw [e]
      exact ⟨rfl, rfl, rfl, ⟨fun i => ⟨by show (0 : Int) ≤ 0; decide, by show (0 : Int) ≤ 255; decide⟩, .inl rfl⟩, fun b off e h0 => absurd rfl h0, ⟨Nat.le_refl _, .inl ⟨rfl, rfl⟩⟩⟩
  have hD' : Dw (m + 1) (snocF F m ⟨s, 0, fun _ => 0, sy⟩) := by
    refine ⟨fun i hi => ?_, fun i hi => ?_, by omega⟩
    · unfold snocF
      split
      · rename_i h; exact hD.sz i h
      · exact ⟨hs, Nat.zero_le _⟩
    · unfold snocF
      split
      · rename_i h; exact hD.bd i h
      · exact fun j => ⟨by show (0 : Int) ≤ 0; decide, by show (0 : Int) ≤ 255; decide⟩
  have o := oth1 w' fb 1 (.slice p' (m + 1) c')
  refine ⟨p', c', w', hrun, q', qf', ⟨C'.others o (by omega), hlt, ?_, fun j => by simpa using qf' j, qat_others r' o (by omega), fz_others rf' o (by omega), ⟨_, hD', srow_others hS' o (by omega)⟩, H.qb⟩⟩
  obtain ⟨l, q0, q1⟩ := q'
  exact ⟨by simpa using l, by simp [go_sem, q0, q1], by simp [go_sem, q0, q1]⟩
end Go.Proofs.YtiojjihonmonkaaDoor
