/- Reading a log: a record. -/
import Derived.Test.YtimlggomjjkhlaaRd2
namespace Go.Proofs.Ytimlggomjjkhlaa
open Go.RowKit
set_option linter.unusedSimpArgs false
set_option linter.unusedVariables false

theorem grown_none {w w' : World} (h : w.grownBy w' none) (row : Option Nat) : w.grownBy w' row := ⟨h.os, h.tape, h.output, h.size, fun k hk _ => h.block k hk (by simp)⟩
theorem grown_own {w wr w' : World} {RB : Nat} {v : Value} {L : List Int} (h : w.grownBy wr (some RB)) (ho : OwnL wr w.heap.size v L) (k : wr.grownBy w' v.ownBlock) : w.grownBy w' (some RB) :=
  ⟨k.os.trans h.os, k.tape.trans h.tape, k.output.trans h.output, Nat.le_trans h.size k.size, fun i hi hne => (k.block i (Nat.lt_of_lt_of_le hi h.size) (fun e => by have := (ho.lt i e.symm).1; omega)).trans (h.block i hi hne)⟩
theorem Bx.own {w w' : World} {RB : Nat} {lg : Value} {a : Nat} {rv : Value} {wh : Nat} {row : Option Nat} (h : Bx w RB lg a rv wh) (hg : w.grownBy w' row) (hne : row ≠ some RB) : Bx w' RB lg a rv wh := by
  have hb : w'.heap[RB]? = w.heap[RB]? := hg.block RB h.lt (fun e => hne e.symm)
  exact ⟨Nat.lt_of_lt_of_le h.lt hg.size, (World.cell?_of_block (w := w) (a := ⟨RB, 0, none⟩) hb).trans h.c0, (World.cell?_of_block (w := w) (a := ⟨RB, 1, none⟩) hb).trans h.c1, (World.cell?_of_block (w := w) (a := ⟨RB, 2, none⟩) hb).trans h.c2,
    (World.cell?_of_block (w := w) (a := ⟨RB, 3, none⟩) hb).trans h.c3, fun i => (World.frozen?_of_block (w := w) (a := ⟨RB, i, none⟩) hb).trans (h.fz i)⟩

/-- The reader's place, as its box has it. -/
def plc (RB : Nat) (w : World) : Nat := match w.cell? ⟨RB, 1, none⟩ with
  | some v => (intOf v).toNat
  | none => 0
theorem Bx.plc {w : World} {RB : Nat} {lg : Value} {a : Nat} {rv : Value} {wh : Nat} (h : Bx w RB lg a rv wh) : plc RB w = a := by
  unfold Go.Proofs.Ytimlggomjjkhlaa.plc
  rw [h.c1]
  simp [intOf]

theorem pD_length {B : List Int} {a : Nat} (h : Pc B a) : (pD B a).length = pn B a := by
  unfold pD
  rw [List.length_take, List.length_drop]
  have := h.all
  omega

/-- Where the reading of the record that began at a0 stands. -/
def Way (B : List Int) (a0 a : Nat) (k : Int) (R : List Int) : Prop :=
  ((k = 2 ∨ k = 3) ∧ ∀ out g r, Fin B a R true out g r → Fin B a0 [] false out g r) ∨
  ((k = 1 ∨ k = 4) ∧ ∀ out g r, Fin B a [] false (out ++ [R]) a r → Fin B a0 [] false out g r)
theorem way_first {B : List Int} {a : Nat} (hn : NogOk B a) (hp : Pc B (a + nog a)) (hk : okK false (pk B (a + nog a)) = true) : Way B a (a + nog a + 6 + pn B (a + nog a)) (pk B (a + nog a)) (pD B (a + nog a)) := by
  rcases okK_cases hk with h | h
  · exact .inl ⟨h, fun out g r hf => fin_more' hn hp hk h (by simpa using hf)⟩
  · exact .inr ⟨h, fun out g r hf => fin_rec' hn hp hk h (by simpa using hf)⟩
theorem way_next {B : List Int} {a0 a : Nat} {k : Int} {R : List Int} (hw : Way B a0 a k R) (hk2 : k = 2 ∨ k = 3) (hn : NogOk B a) (hp : Pc B (a + nog a)) (hk : okK true (pk B (a + nog a)) = true) : Way B a0 (a + nog a + 6 + pn B (a + nog a)) (pk B (a + nog a)) (R ++ pD B (a + nog a)) := by
  rcases hw with ⟨_, hw⟩ | ⟨h, _⟩
  · rcases okK_cases hk with h | h
    · exact .inl ⟨h, fun out g r hf => hw out g r (fin_more' hn hp hk h hf)⟩
    · exact .inr ⟨h, fun out g r hf => hw out g r (fin_rec' hn hp hk h hf)⟩
  · omega

/-- What readRecord answers. -/
def RecOut (RB lb lo lc a : Nat) (B : List Int) (rv : Value) (wh : Nat) (w : World) (e : Ending) (w' : World) : Prop :=
  (∃ v R a', e = .returned v ∧ OwnL w' w.heap.size v R ∧ Bx w' RB (.slice (some ⟨lb, lo, none⟩) B.length lc) a' rv wh ∧ w.grownBy w' (some RB) ∧ a < a' ∧ a' ≤ B.length ∧ R.length + a ≤ a' ∧
    ∀ out g r, Fin B a' [] false (out ++ [R]) a' r → Fin B a [] false out g r) ∨
  (Gave RB (.slice (some ⟨lb, lo, none⟩) B.length lc) rv wh w e w' ∧ ∀ out g, Fin B a [] false out g (out, g))

set_option maxHeartbeats 2000000 in
theorem readRecord_any (RB lb lo lc a : Nat) (rv : Value) (wh : Nat) (B : List Int) (w : World) (hX : Bx w RB (.slice (some ⟨lb, lo, none⟩) B.length lc) a rv wh) (hL : Lg w RB lb lo lc B) (ha : a ≤ B.length) :
    Calls Try.prog 37 #[.pointer (some ⟨RB, 0, none⟩)] w fun e w' => RecOut RB lb lo lc a B rv wh w e w' := by
  have hsm := hL.small
  have hbd := hL.at'.bd
  have hRB := hX.lt
  go_enter Try.func37, Try.ntmps37
  go_wp2_with fail
  refine (readPiece_any RB lb lo lc a rv wh B _ hX hL ha).mono ?_
  rintro e w1 (⟨hn, hp, o, c, rfl, hA, hX1, hg1⟩ | ⟨hno, hgv⟩)
  · have hpk := pk_bd B hbd (a + nog a)
    have hall := hp.all
    have hlen := pD_length hp
    by_cases hk : okK false (pk B (a + nog a)) = true
    · have HW : Hid (Way B a (a + nog a + 6 + pn B (a + nog a)) (pk B (a + nog a)) (pD B (a + nog a))) := way_first hn hp hk
      have hk12 : pk B (a + nog a) = 1 ∨ pk B (a + nog a) = 2 := by simpa [okK] using hk
      have HA : Hid (a < a + nog a + 6 + pn B (a + nog a)) := by unfold Hid; omega
      have hle : (pD B (a + nog a)).length + a ≤ a + nog a + 6 + pn B (a + nog a) := by omega
      clear hk hn hp hX
      generalize a + nog a + 6 + pn B (a + nog a) = a1 at *
      generalize pk B (a + nog a) = k at *
      generalize pD B (a + nog a) = D at *
      generalize pn B (a + nog a) = m at *
      subst hlen
      rcases hk12 with rfl | rfl
      all_goals
        go_wp2_with fail
        refine (giveUp_no _).mono ?_
        rintro e w2 ⟨rfl, rfl⟩
        go_wp2_with (at_builtin; refine wpList_app rfl (.const (.slice none 0 0)) (.tmp 18) rfl w.heap.size (.slice none 0 0) [] rfl (ownL_nil _ _) lb o D.length c D rfl rfl hA (by simp; omega) hg1.size ?_; intro v3 w3 ho3 hg3 ha3; obtain ⟨ao3, cp3, rfl⟩ := ho3.form)
        have hX3 := hX1.own (grown_none hg3 none) (by simp)
        have g3 := hg1.trans (grown_none hg3 (some RB))
        rw [List.nil_append] at ho3
        clear hX1 hg1 hA hg3 ha3
        go_loopw [3, 5] (fun kv rc wr => ∃ (k : Int) (R : List Int) (a2 : Nat) (ao : Option Addr) (m cp : Nat), kv = .int .u8 k ∧ rc = .slice ao m cp ∧ m = R.length ∧ OwnL wr w.heap.size (.slice ao R.length cp) R ∧ Bx wr RB (.slice (some ⟨lb, lo, none⟩) B.length lc) a2 rv wh ∧ w.grownBy wr (some RB) ∧ a < a2 ∧ a2 ≤ B.length ∧ R.length + a ≤ a2 ∧ Hid (Way B a a2 k R)) (fun _ _ wr => B.length - plc RB wr)
        case atStart => exact ⟨_, D, a1, ao3, _, cp3, rfl, rfl, by simp, by simpa using ho3, hX3, g3, HA.out, hall, hle, HW⟩
        case round =>
          obtain ⟨k, R, a2, ao, m, cp, rfl, rfl, rfl, hown, hX2, g2, hlt2, hle2, hRl, hway⟩ := hrel
          clear ho3 hX3 g3 HA HW
          rcases hway.out with ⟨hk, _⟩ | ⟨hk, hfin⟩
          · have hL2 := hL.grown g2
            have hpl := hX2.plc
            have hneR : (Value.slice ao R.length cp).ownBlock ≠ some RB := fun e => by have := (hown.lt RB e).1; omega
            rcases hk with rfl | rfl
            all_goals
              go_wp2_with fail
              refine (readPiece_any RB lb lo lc a2 rv wh B _ hX2 hL2 hle2).mono ?_
              rintro e w5 (⟨hn, hp, o5, c5, rfl, hA5, hX5, hg5⟩ | ⟨hno, hgv⟩)
              · have hpk5 := pk_bd B hbd (a2 + nog a2)
                have hall5 := hp.all
                have hlen5 := pD_length hp
                have g5 := g2.trans hg5
                have hown5 := hown.kept hg5 (fun k hk e => hneR (by rw [hk]; exact e))
                by_cases hk5 : okK true (pk B (a2 + nog a2)) = true
                · have HW5 : Hid (Way B a (a2 + nog a2 + 6 + pn B (a2 + nog a2)) (pk B (a2 + nog a2)) (R ++ pD B (a2 + nog a2))) := way_next hway.out (by omega) hn hp hk5
                  have hk34 : pk B (a2 + nog a2) = 3 ∨ pk B (a2 + nog a2) = 4 := by simpa [okK] using hk5
                  have hlt5 : a2 < a2 + nog a2 + 6 + pn B (a2 + nog a2) := by omega
                  have hle5 : (R ++ pD B (a2 + nog a2)).length + a ≤ a2 + nog a2 + 6 + pn B (a2 + nog a2) := by rw [List.length_append]; omega
                  have hs5 : R.length + (pD B (a2 + nog a2)).length ≤ 40000 := by omega
                  clear hk5 hn hp hway hX2 hown
                  generalize a2 + nog a2 + 6 + pn B (a2 + nog a2) = a5 at *
                  generalize pk B (a2 + nog a2) = k5 at *
                  generalize pD B (a2 + nog a2) = D5 at *
                  generalize pn B (a2 + nog a2) = m5 at *
                  subst hlen5
                  rcases hk34 with rfl | rfl
                  all_goals
                    go_wp2_with fail
                    refine (giveUp_no _).mono ?_
                    rintro e w6 ⟨rfl, rfl⟩
                    go_wp2_with (at_builtin; refine wpList_app rfl (.tmp 38) (.tmp 39) rfl w.heap.size (.slice ao R.length cp) R rfl hown5 lb o5 D5.length c5 D5 rfl rfl hA5 (by omega) g5.size ?_; intro v7 w7 ho7 hg7 ha7; obtain ⟨ao7, cp7, rfl⟩ := ho7.form)
                    have hX7 := hX5.own hg7 hneR
                    have g7 := grown_own g5 hown5 hg7
                    have hpl7 := hX7.plc
                    go_roundw
                    case rel => exact ⟨_, _, a5, ao7, _, cp7, rfl, rfl, by rw [List.length_append], ho7, hX7, g7, by omega, hall5, hle5, HW5⟩
                    case measure => rw [hpl7, hpl]; omega
                · have HS : Hid (∀ out g, Fin B a2 R true out g (out, g)) := fun out g => fin_stop' (fun h => hk5 h.2.2)
                  have hk34 : pk B (a2 + nog a2) ≠ 3 ∧ pk B (a2 + nog a2) ≠ 4 := by simpa [okK] using hk5
                  have hb3 : (pk B (a2 + nog a2) == 3) = false := by simpa using hk34.1
                  have hb4 : (pk B (a2 + nog a2) == 4) = false := by simpa using hk34.2
                  have HF : Hid (∀ out g, Fin B a [] false out g (out, g)) := fun out g => by
                    rcases hway.out with ⟨_, hw⟩ | ⟨h, _⟩
                    · exact hw out g _ (HS.out out g)
                    · omega
                  clear hk5 hn hp hway hk34 hX2 hown
                  generalize pk B (a2 + nog a2) = k5 at *
                  go_wp2_with fail
                  refine (giveUp_yes _).mono ?_
                  rintro e w6 ⟨⟨t, v, rfl⟩, rfl⟩
                  exact ⟨rfl, .inr ⟨⟨⟨t, v, rfl⟩, _, hX5, g5⟩, HF.out⟩⟩
              · obtain ⟨⟨t, v, rfl⟩, a6, hX6, hg6⟩ := id hgv
                have HF : Hid (∀ out g, Fin B a [] false out g (out, g)) := fun out g => by
                  rcases hway.out with ⟨_, hw⟩ | ⟨h, _⟩
                  · exact hw out g _ (fin_stop' (fun h => hno ⟨h.1, h.2.1⟩))
                  · omega
                exact ⟨rfl, .inr ⟨⟨⟨t, v, rfl⟩, a6, hX6, g2.trans hg6⟩, HF.out⟩⟩
          · have HF : Hid (∀ out g r, Fin B a2 [] false (out ++ [R]) a2 r → Fin B a [] false out g r) := hfin
            clear hway hfin
            rcases hk with rfl | rfl
            all_goals
              go_wp2
              go_ret
              exact .inl ⟨_, R, a2, rfl, hown, hX2, g2, hlt2, hle2, hRl, HF.out⟩
    · have HF : Hid (∀ out g, Fin B a [] false out g (out, g)) := fun out g => fin_stop' (fun h => hk h.2.2)
      have hk12 : pk B (a + nog a) ≠ 1 ∧ pk B (a + nog a) ≠ 2 := by simpa [okK] using hk
      have hb1 : (pk B (a + nog a) == 1) = false := by simpa using hk12.1
      have hb2 : (pk B (a + nog a) == 2) = false := by simpa using hk12.2
      clear hk hk12 hp hn
      generalize pk B (a + nog a) = k at *
      go_wp2_with fail
      refine (giveUp_yes _).mono ?_
      rintro e w6 ⟨⟨t, v, rfl⟩, rfl⟩
      exact ⟨rfl, .inr ⟨⟨⟨t, v, rfl⟩, _, hX1, hg1⟩, HF.out⟩⟩
  · obtain ⟨⟨t, v, rfl⟩, hrest⟩ := id hgv
    exact ⟨rfl, .inr ⟨hgv, fun out g => fin_stop' (fun h => hno ⟨h.1, h.2.1⟩)⟩⟩
end Go.Proofs.Ytimlggomjjkhlaa
