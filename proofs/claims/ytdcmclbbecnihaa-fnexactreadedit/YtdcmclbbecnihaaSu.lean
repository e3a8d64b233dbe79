/- ReadEdit in the model: how its steps lead on. -/
import Derived.Test.YtdcmclbbecnihaaSr
namespace Go.Proofs.Ytdcmclbbecnihaa
open Go.RowKit
set_option linter.unusedSimpArgs false
set_option linter.unusedVariables false

/-- What one number tells: read, or bad. -/
def NumD (f : Nat → Int) (n q : Nat) (t : Bool) (u q' : Nat) (t' : Bool) : Prop :=
  (t' = false ∧ t = false ∧ sN f n q = some ((u : Int), q')) ∨ (t' = true ∧ u = 0 ∧ q' = q ∧ (t = true ∨ sN f n q = none))
def TexD (f : Nat → Int) (n q : Nat) (t : Bool) (x : ByteArray) (q' : Nat) (t' : Bool) : Prop :=
  (t' = false ∧ t = false ∧ sT f n q = some (x, q')) ∨ (t' = true ∧ (t = true ∨ sT f n q = none))
/-- The three first numbers. -/
def D3 (f : Nat → Int) (n : Nat) (a b c : Int) (q : Nat) (t : Bool) : Prop := (t = false ∧ H3 f n a b c q) ∨ (t = true ∧ NoR f n)
def D4 (f : Nat → Int) (n : Nat) (a b c : Int) (N q : Nat) (t : Bool) : Prop := (t = false ∧ H4 f n a b c N q) ∨ (t = true ∧ N = 0 ∧ NoR f n)
/-- What the first loop holds. -/
def L5 (f : Nat → Int) (n : Nat) (a b c : Int) (N q4 : Nat) (L : List Int) (q : Nat) (t : Bool) : Prop := (t = false ∧ H4 f n a b c N q4 ∧ pNs f n L.length q4 = some (L, q)) ∨ (t = true ∧ NoR f n)
def D5 (f : Nat → Int) (n : Nat) (a b c : Int) (L : List Int) (q : Nat) (t : Bool) : Prop := (t = false ∧ H5 f n a b c L q) ∨ (NoR f n ∧ (t = true ∨ 24 < L.length))
def D6 (f : Nat → Int) (n : Nat) (a b c : Int) (L : List Int) (M q : Nat) (t : Bool) : Prop := (t = false ∧ H6 f n a b c L M q) ∨ (NoR f n ∧ ((t = true ∧ M = 0) ∨ 24 < L.length))
def L7 (f : Nat → Int) (n : Nat) (a b c : Int) (D : List Int) (M q6 : Nat) (A : List Adm) (q : Nat) (t : Bool) : Prop := (t = false ∧ H6 f n a b c D M q6 ∧ pAs f n A.length q6 = some (A, q)) ∨ (NoR f n ∧ (t = true ∨ 24 < D.length))
def D7 (f : Nat → Int) (n : Nat) (a b c : Int) (D : List Int) (A : List Adm) (q : Nat) (t : Bool) : Prop := (t = false ∧ H7 f n a b c D A q) ∨ (NoR f n ∧ (t = true ∨ 24 < D.length ∨ 24 < A.length))
section
variable {f : Nat → Int} {n : Nat} {a b c : Int} {N M q4 q6 q q' : Nat} {D L : List Int} {A : List Adm} {t t' : Bool}
theorem NumD.bad {u : Nat} (h : NumD f n q true u q' t') : t' = true := by
  rcases h with ⟨_, h, _⟩ | ⟨h, _⟩
  · cases h
  · exact h
theorem TexD.bad {x : ByteArray} (h : TexD f n q true x q' t') : t' = true := by
  rcases h with ⟨_, h, _⟩ | ⟨h, _⟩
  · cases h
  · exact h
theorem NumD.yes {u : Nat} (h : NumD f n q t u q' false) : t = false ∧ sN f n q = some ((u : Int), q') := by
  rcases h with ⟨_, h⟩ | ⟨h, _⟩
  · exact h
  · cases h
theorem TexD.yes {x : ByteArray} (h : TexD f n q t x q' false) : t = false ∧ sT f n q = some (x, q') := by
  rcases h with ⟨_, h⟩ | ⟨h, _⟩
  · exact h
  · cases h
theorem NumD.no {u : Nat} (h : NumD f n q false u q' true) : sN f n q = none := by
  rcases h with ⟨h, _⟩ | ⟨_, _, _, h | h⟩
  · cases h
  · cases h
  · exact h
theorem TexD.no {x : ByteArray} (h : TexD f n q false x q' true) : sT f n q = none := by
  rcases h with ⟨h, _⟩ | ⟨_, h | h⟩
  · cases h
  · cases h
  · exact h
theorem NumD.zero {u : Nat} (h : NumD f n q t u q' true) : u = 0 := by
  rcases h with ⟨h, _⟩ | ⟨_, h, _⟩
  · cases h
  · exact h
theorem d3_of {u1 u2 u3 q1 q2 q3 : Nat} {t1 t2 t3 : Bool} (h1 : NumD f n 0 false u1 q1 t1) (h2 : NumD f n q1 t1 u2 q2 t2) (h3 : NumD f n q2 t2 u3 q3 t3) : D3 f n (u1 : Int) (u2 : Int) (u3 : Int) q3 t3 := by
  cases t1 with
  | true => exact .inr ⟨(by cases t2 with | true => exact h3.bad | false => exact absurd h2.bad (by simp)), no1 h1.no⟩
  | false =>
    have e1 := (sN_some h1.yes.2).1
    cases t2 with
    | true => exact .inr ⟨h3.bad, no2 e1 h2.no⟩
    | false =>
      have e2 := (sN_some h2.yes.2).1
      cases t3 with
      | true => exact .inr ⟨rfl, no3 e1 e2 h3.no⟩
      | false => exact .inl ⟨rfl, q1, q2, e1, e2, (sN_some h3.yes.2).1⟩
theorem d4_of {u : Nat} (h : D3 f n a b c q t) (k : NumD f n q t u q' t') : D4 f n a b c u q' t' := by
  cases t' with
  | true =>
    refine .inr ⟨rfl, k.zero, ?_⟩
    rcases h with ⟨rfl, h⟩ | ⟨_, h⟩
    · exact no4 h k.no
    · exact h
  | false =>
    obtain ⟨rfl, k9⟩ := k.yes
    rcases h with ⟨_, h⟩ | ⟨h, _⟩
    · exact .inl ⟨rfl, q, h, (sN_some k9).1⟩
    · cases h
theorem l5_of (h : D4 f n a b c N q t) : L5 f n a b c N q [] q t := by
  rcases h with ⟨h1, h2⟩ | ⟨h1, _, h2⟩
  · exact .inl ⟨h1, h2, rfl⟩
  · exact .inr ⟨h1, h2⟩
theorem l5_step {u : Nat} (h : L5 f n a b c N q4 L q false) (hN : L.length < N) (k : NumD f n q false u q' t') : L5 f n a b c N q4 (L ++ [(u : Int)]) q' t' := by
  rcases h with ⟨_, h4, hp⟩ | ⟨h, _⟩
  · cases t' with
    | true => exact .inr ⟨rfl, no5 h4 hN hp k.no⟩
    | false =>
      refine .inl ⟨rfl, h4, ?_⟩
      rw [List.length_append, List.length_singleton]
      unfold pNs
      rw [hp]
      simp only
      rw [(sN_some k.yes.2).1]
  · cases h
theorem d5_of {k : Nat} (h : L5 f n a b c N q4 L q t) (hk : k + L.length = N) (hx : k = 0 ∨ t = true ∨ 30 ≤ L.length) : D5 f n a b c L q t := by
  rcases h with ⟨rfl, h4, hp⟩ | ⟨h1, h2⟩
  · rcases hx with hx | hx | hx
    · by_cases h24 : N ≤ 24
      · exact .inl ⟨rfl, N, q4, h4, h24, by rw [show N = L.length by omega]; exact hp⟩
      · exact .inr ⟨no4b h4 (by omega), .inr (by omega)⟩
    · cases hx
    · exact .inr ⟨no4b h4 (by omega), .inr (by omega)⟩
  · exact .inr ⟨h2, .inl h1⟩
theorem d6_of {u : Nat} (h : D5 f n a b c L q t) (k : NumD f n q t u q' t') : D6 f n a b c L u q' t' := by
  cases t' with
  | true =>
    refine .inr ⟨?_, .inl ⟨rfl, k.zero⟩⟩
    rcases h with ⟨rfl, h⟩ | ⟨h, _⟩
    · exact no6 h k.no
    · exact h
  | false =>
    obtain ⟨rfl, k9⟩ := k.yes
    rcases h with ⟨_, h⟩ | ⟨h, h2 | h2⟩
    · exact .inl ⟨rfl, q, h, (sN_some k9).1⟩
    · cases h2
    · exact .inr ⟨h, .inr h2⟩
theorem l7_of (h : D6 f n a b c D M q t) : L7 f n a b c D M q [] q t := by
  rcases h with ⟨h1, h2⟩ | ⟨h1, h2⟩
  · exact .inl ⟨h1, h2, rfl⟩
  · exact .inr ⟨h1, h2.imp_left And.left⟩
/-- An add that the model reads. -/
theorem sAdd_steps {u1 u2 u3 q1 q2 q3 q5 : Nat} {x y : ByteArray} {t1 t2 t3 t4 t5 : Bool} {q4' : Nat} (h1 : NumD f n q false u1 q1 t1) (h2 : NumD f n q1 t1 u2 q2 t2) (h3 : NumD f n q2 t2 u3 q3 t3) (h4 : TexD f n q3 t3 x q4' t4) (h5 : TexD f n q4' t4 y q5 t5) :
    (t5 = false ∧ sAdd f n q = some (⟨(u1 : Int), ⟨(u2 : Int), x, y, (u3 : Int)⟩⟩, q5)) ∨ (t5 = true ∧ sAdd f n q = none) := by
  unfold sAdd
  cases t1 with
  | true =>
    rw [h1.no]
    have e2 := h2.bad
    subst e2
    have e3 := h3.bad
    subst e3
    have e4 := h4.bad
    subst e4
    exact .inr ⟨h5.bad, rfl⟩
  | false =>
    rw [h1.yes.2]
    simp only
    cases t2 with
    | true =>
      rw [h2.no]
      have e3 := h3.bad
      subst e3
      have e4 := h4.bad
      subst e4
      exact .inr ⟨h5.bad, rfl⟩
    | false =>
      rw [h2.yes.2]
      simp only
      cases t3 with
      | true =>
        rw [h3.no]
        have e4 := h4.bad
        subst e4
        exact .inr ⟨h5.bad, rfl⟩
      | false =>
        rw [h3.yes.2]
        simp only
        cases t4 with
        | true =>
          rw [h4.no]
          exact .inr ⟨h5.bad, rfl⟩
        | false =>
          rw [h4.yes.2]
          simp only
          cases t5 with
          | true =>
            rw [h5.no]
            exact .inr ⟨rfl, rfl⟩
          | false =>
            rw [h5.yes.2]
            exact .inl ⟨rfl, rfl⟩
theorem l7_step {y : Adm} (hn : n ≤ 1048576) (h : L7 f n a b c D M q6 A q false) (hM : A.length < M) (k : (t' = false ∧ sAdd f n q = some (y, q')) ∨ (t' = true ∧ sAdd f n q = none)) : L7 f n a b c D M q6 (A ++ [y]) q' t' := by
  rcases h with ⟨_, h6, hp⟩ | ⟨h, h2 | h2⟩
  · rcases k with ⟨rfl, k⟩ | ⟨rfl, k⟩
    · refine .inl ⟨rfl, h6, ?_⟩
      rw [List.length_append, List.length_singleton]
      unfold pAs
      rw [hp]
      simp only
      obtain ⟨q2, e1, e2⟩ := sAdd_some k
      rw [e1]
      simp only
      rw [e2]
    · exact .inr ⟨no7 hn h6 hM hp k, .inl rfl⟩
  · cases h2
  · exact .inr ⟨h, .inr h2⟩
theorem d7_of {k : Nat} (h : L7 f n a b c D M q6 A q t) (hk : k + A.length = M) (hx : k = 0 ∨ t = true ∨ 30 ≤ A.length) : D7 f n a b c D A q t := by
  rcases h with ⟨rfl, h6, hp⟩ | ⟨h1, h2⟩
  · rcases hx with hx | hx | hx
    · by_cases h24 : M ≤ 24
      · exact .inl ⟨rfl, M, q6, h6, h24, by rw [show M = A.length by omega]; exact hp⟩
      · exact .inr ⟨no6b h6 (by omega), .inr (.inr (by omega))⟩
    · cases hx
    · exact .inr ⟨no6b h6 (by omega), .inr (.inr (by omega))⟩
  · exact .inr ⟨h1, h2.imp_right .inl⟩
theorem d7_bad (h : D7 f n a b c D A q true) : NoR f n := by
  rcases h with ⟨h, _⟩ | ⟨h, _⟩
  · cases h
  · exact h
theorem d7_short (h : D7 f n a b c D A q t) (hq : q ≠ n) : NoR f n := by
  rcases h with ⟨_, h⟩ | ⟨h, _⟩
  · intro r hr
    obtain ⟨_, e⟩ := opt_two h.all hr.1
    exact hq e
  · exact h
theorem d7_not (h : D7 f n a b c D A q t) (hg : ¬ GoodEd a b c D.length (fi D) A.length (dL A)) : NoR f n := by
  rcases h with ⟨_, h⟩ | ⟨h, _⟩
  · intro r hr
    obtain ⟨e, _⟩ := opt_two h.all hr.1
    subst e
    exact hg hr.2
  · exact h
theorem d7_good (h : D7 f n a b c D A n false) (hg : GoodEd a b c D.length (fi D) A.length (dL A)) : Rok f n ⟨a, b, c, D, A⟩ := by
  rcases h with ⟨_, h⟩ | ⟨h, h2 | h2 | h2⟩
  · exact ⟨h.all, hg⟩
  · cases h2
  · have := hg.2.2.2.1.1
    omega
  · have := hg.2.2.2.2.1
    omega
end
/-- An add in a box that may be written. -/
structure DY (w : World) (b : Nat) (x : Adm) : Prop where
  at' : DAt w b 0 x
  fz : ∀ j, w.frozen? ⟨b, j, none⟩ = false
section
variable {w w' : World} {b : Nat} {x : Adm}
theorem DY.same (h : DY w b x) (hs : w.heap.size ≤ w'.heap.size) (hb : w'.heap[b]? = w.heap[b]?) : DY w' b x :=
  ⟨h.at'.move (Nat.lt_of_lt_of_le h.at'.lt hs) (fun j => World.cell?_of_block (w := w) (w' := w') (a := ⟨b, j, none⟩) hb), fun j => (World.frozen?_of_block (w := w) (w' := w') (a := ⟨b, j, none⟩) hb).trans (h.fz j)⟩
theorem DY.mid {R : Nat} (h : DY w b x) (hm : Mid R (R + 1) w w') (hne : b ≠ R) : DY w' b x := h.same hm.size (hm.block b h.at'.lt (by omega))
theorem DY.new (w : World) (x : Adm) (T : Nat) : DY (w.alloc (.cells #[.int .i64 x.lv, .int .i64 x.m.file, .string x.m.least, .string x.m.most, .int .i64 x.m.many] T)) w.heap.size x := ⟨DAt.new w x T, fun j => by simp [go_sem]⟩
theorem DY.file (h : DY w b x) (v : Int) : DY (w.setCell ⟨b, 1, none⟩ (.int .i64 v)) b ⟨x.lv, ⟨v, x.m.least, x.m.most, x.m.many⟩⟩ := by
  obtain ⟨⟨lt, c0, c1, c2, c3, c4⟩, fz⟩ := h
  exact ⟨⟨by simpa using lt, (World.cell?_setCell_other _ _ _ _ (by simp)).trans c0, World.cell?_setCell_same _ _ _ c1, (World.cell?_setCell_other _ _ _ _ (by simp)).trans c2, (World.cell?_setCell_other _ _ _ _ (by simp)).trans c3, (World.cell?_setCell_other _ _ _ _ (by simp)).trans c4⟩, fun j => by simpa using fz j⟩
theorem DY.many (h : DY w b x) (v : Int) : DY (w.setCell ⟨b, 4, none⟩ (.int .i64 v)) b ⟨x.lv, ⟨x.m.file, x.m.least, x.m.most, v⟩⟩ := by
  obtain ⟨⟨lt, c0, c1, c2, c3, c4⟩, fz⟩ := h
  exact ⟨⟨by simpa using lt, (World.cell?_setCell_other _ _ _ _ (by simp)).trans c0, (World.cell?_setCell_other _ _ _ _ (by simp)).trans c1, (World.cell?_setCell_other _ _ _ _ (by simp)).trans c2, (World.cell?_setCell_other _ _ _ _ (by simp)).trans c3, World.cell?_setCell_same _ _ _ c4⟩, fun j => by simpa using fz j⟩
theorem DY.least (h : DY w b x) (v : ByteArray) : DY (w.setCell ⟨b, 2, none⟩ (.string v)) b ⟨x.lv, ⟨x.m.file, v, x.m.most, x.m.many⟩⟩ := by
  obtain ⟨⟨lt, c0, c1, c2, c3, c4⟩, fz⟩ := h
  exact ⟨⟨by simpa using lt, (World.cell?_setCell_other _ _ _ _ (by simp)).trans c0, (World.cell?_setCell_other _ _ _ _ (by simp)).trans c1, World.cell?_setCell_same _ _ _ c2, (World.cell?_setCell_other _ _ _ _ (by simp)).trans c3, (World.cell?_setCell_other _ _ _ _ (by simp)).trans c4⟩, fun j => by simpa using fz j⟩
theorem DY.most (h : DY w b x) (v : ByteArray) : DY (w.setCell ⟨b, 3, none⟩ (.string v)) b ⟨x.lv, ⟨x.m.file, x.m.least, v, x.m.many⟩⟩ := by
  obtain ⟨⟨lt, c0, c1, c2, c3, c4⟩, fz⟩ := h
  exact ⟨⟨by simpa using lt, (World.cell?_setCell_other _ _ _ _ (by simp)).trans c0, (World.cell?_setCell_other _ _ _ _ (by simp)).trans c1, (World.cell?_setCell_other _ _ _ _ (by simp)).trans c2, World.cell?_setCell_same _ _ _ c3, (World.cell?_setCell_other _ _ _ _ (by simp)).trans c4⟩, fun j => by simpa using fz j⟩
end
theorem KB.set_new {base R : Nat} (w : World) (b j : Nat) (v : Value) (hb : base ≤ b) : KB base R w (w.setCell ⟨b, j, none⟩ v) :=
  have o := Others.setCell w b j v
  ⟨o.os, o.tape, o.output, by rw [o.size]; exact Nat.le_refl _, fun c hc _ => o.block c (by omega)⟩
theorem OwnD.kb {w w' : World} {base R : Nat} {v : Value} {L : List Adm} (h : OwnD w base v L) (hm : KB w.heap.size R w w') (hR : R < base) : OwnD w' base v L :=
  h.same fun c hc => hm.block c (h.own.lt c hc).2 (by have := (h.own.lt c hc).1; omega)
theorem K2.of_kb {base C R X : Nat} {w w' : World} (h : KB base R w w') (hC : C ≤ base) : K2 C R X w w' := ⟨h.os, h.tape, h.output, h.size, fun c hc h1 _ => h.block c (by omega) h1⟩
end Go.Proofs.Ytdcmclbbecnihaa
