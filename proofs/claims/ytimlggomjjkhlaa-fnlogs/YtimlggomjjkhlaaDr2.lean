/- Records drawn by the model. -/
import Derived.Test.YtimlggomjjkhlaaDr1
import Derived.Test.YtimlggomjjkhlaaPcLaw
namespace Go.Proofs.Ytimlggomjjkhlaa
open Go.RowKit
set_option linter.unusedSimpArgs false
set_option linter.unusedVariables false

theorem grown_new {w wr w' : World} {CB GB : Nat} (h : w.grownBy wr (some CB)) (ho : Others GB wr w') (hG : w.heap.size ≤ GB) : w.grownBy w' (some CB) :=
  ⟨ho.os.trans h.os, ho.tape.trans h.tape, ho.output.trans h.output, by rw [ho.size]; exact h.size, fun k hk hne => (ho.block k (by omega)).trans (h.block k hk hne)⟩
theorem grown_below {w wr w' : World} {CB : Nat} (h : w.grownBy wr (some CB)) (hb : Below wr.heap.size wr w') : w.grownBy w' (some CB) := h.trans (grown_of_below hb _)
theorem Own.grownB {w w' : World} {CB b off n : Nat} {f : Nat → Int} (h : Own w b off n f) (hg : w.grownBy w' (some CB)) (hne : b ≠ CB) : Own w' b off n f :=
  ⟨h.bd, Nat.lt_of_lt_of_le h.lt hg.size, fun i hi => hg.cell (h.cell i hi) (fun e => hne (Option.some.inj e)), fun i hi => (World.frozen?_of_block (w := w) (a := ⟨b, off + i, none⟩) (hg.block b h.lt (fun e => hne (Option.some.inj e)))).trans (h.free i hi)⟩
theorem Cu.others {w w' : World} {CB GB : Nat} {cv : Value} {a : Nat} {sd : Int} (h : Cu w CB cv a sd) (ho : Others GB w w') (hne : CB ≠ GB) : Cu w' CB cv a sd :=
  have c : ∀ j, w'.cell? ⟨CB, j, none⟩ = w.cell? ⟨CB, j, none⟩ := fun j => World.cell?_of_block (w := w) (a := ⟨CB, j, none⟩) (ho.block CB hne)
  ⟨by rw [ho.size]; exact h.lt, (c 0).trans h.c0, (c 1).trans h.c1, (c 2).trans h.c2, fun i => (World.frozen?_of_block (w := w) (a := ⟨CB, i, none⟩) (ho.block CB hne)).trans (h.fz i), h.sb⟩

def lens : Nat → Int := fun i => [0, 3, 20, 58, 59, 64, 130].getD i 0
def longs : Nat → Int := fun i => [2000, 2001].getD i 0
theorem lens_bd {i : Nat} (h : i < 7) : 0 ≤ lens i ∧ lens i ≤ 130 := by
  have : i = 0 ∨ i = 1 ∨ i = 2 ∨ i = 3 ∨ i = 4 ∨ i = 5 ∨ i = 6 := by omega
  rcases this with rfl | rfl | rfl | rfl | rfl | rfl | rfl <;> decide
theorem longs_bd {i : Nat} (h : i < 2) : 0 ≤ longs i ∧ longs i ≤ 2001 := by
  have : i = 0 ∨ i = 1 := by omega
  rcases this with rfl | rfl <;> decide
theorem lens_at (w : World) (T : Nat) : ∀ i, i < 7 → (w.alloc (.cells #[.int .i64 0, .int .i64 3, .int .i64 20, .int .i64 58, .int .i64 59, .int .i64 64, .int .i64 130] T)).cell? ⟨w.heap.size, i, none⟩ = some (.int .i64 (lens i)) := by
  intro i h
  have : i = 0 ∨ i = 1 ∨ i = 2 ∨ i = 3 ∨ i = 4 ∨ i = 5 ∨ i = 6 := by omega
  rcases this with rfl | rfl | rfl | rfl | rfl | rfl | rfl <;> simp [go_sem, lens]
theorem longs_at (w : World) (T : Nat) : ∀ i, i < 2 → (w.alloc (.cells #[.int .i64 2000, .int .i64 2001] T)).cell? ⟨w.heap.size, i, none⟩ = some (.int .i64 (longs i)) := by
  intro i h
  have : i = 0 ∨ i = 1 := by omega
  rcases this with rfl | rfl <;> simp [go_sem, longs]

/-- What a drawn record leaves. -/
def RecO (CB : Nat) (cv : Value) (a : Nat) (w : World) (e : Ending) (w' : World) : Prop :=
  ∃ (N GB a' : Nat) (f : Nat → Int) (sd : Int), e = .returned (.slice (some ⟨GB, 0, none⟩) N N) ∧ N ≤ 2001 ∧ w.heap.size ≤ GB ∧ Own w' GB 0 N f ∧ Cu w' CB cv a' sd ∧ a' ≤ a + 2010 ∧ w.grownBy w' (some CB)

set_option maxHeartbeats 2000000 in
theorem record_any (CB : Nat) (ao : Option Addr) (n cap a : Nat) (f : Nat → Int) (sd : Int) (w : World) (hC : Cu w CB (.slice ao n cap) a sd) (hB : Cb w CB ao n f) (hn : n ≤ 1048576) (ha : a ≤ 999990000) :
    Calls Try.prog 33 #[.pointer (some ⟨CB, 0, none⟩)] w fun e w' => RecO CB (.slice ao n cap) a w e w' := by
  obtain ⟨i0, hi, hz0, hz1, hz2⟩ := info_parts Try.info5
  have hlC := hC.lt
  have HB : ∀ b off, ao = some ⟨b, off, none⟩ → n ≠ 0 → b < w.heap.size := fun b off e h0 => by
    obtain ⟨b', off', e', h1, _⟩ := hB.row.lies.resolve_left h0
    rw [e] at e'
    injection e' with e'
    injection e' with e' _ _
    omega
  have hb0 := below_new w (.cells #[.int .i64 0, .int .i64 3, .int .i64 20, .int .i64 58, .int .i64 59, .int .i64 64, .int .i64 130] 3)
  have hA0 := lens_at w 3
  go_enter Try.func33, Try.ntmps33
  go_wp2_with fail
  refine (among_any 7 (by omega) w.heap.size lens CB ao n cap a f sd _ (hC.keep hb0) (hB.keep hb0) hn (by omega) (by simp) (by omega) hA0).mono ?_
  rintro e w1 ⟨i1, hi1, rfl, ⟨sd1, C1⟩, g1⟩
  have G1 := (grown_of_below hb0 (some CB)).trans g1
  have B1 := (hB.keep hb0).grown g1
  have hl := lens_bd hi1
  generalize lens i1 = N0 at hl
  obtain ⟨N, rfl⟩ := Int.eq_ofNat_of_zero_le hl.1
  clear hb0 hA0 g1
  go_wp2_with fail
  refine (one_any 40 (by omega) CB ao n cap (a + 1) f sd1 _ C1 B1 hn (by omega)).mono ?_
  rintro e w2 ⟨b2, rfl, ⟨sd2, C2⟩, g2⟩
  have G2 := G1.trans g2
  have B2 := B1.grown g2
  clear g2 C1 B1 G1
  cases b2
  · have hM : N ≤ 2001 := by omega
    have ha3 : a + 1 + 1 ≤ a + 3 := by omega
    generalize a + 1 + 1 = a3 at C2 ha3
    have hs2 := G2.size
    go_wp2_with (at_make; refine wpList_make_full _ rfl (.tmp 14) (.tmp 14) 22 rfl w.heap.size 5 i0 (.int .u8 0) 1 Try.underlying22 hi hz0 hz1 .i64 .i64 _ _ N rfl rfl rfl rfl (by rw [hz2]; omega) (by unfold maxLen; omega) hs2 ?_; intro w4 hown hgrow)
    have hb4 : Below w2.heap.size w2 w4 := (Below.refl _ _).grown hgrow (Nat.le_refl _) (fun k h => by cases h)
    have hlt4 : w2.heap.size < w4.heap.size := by
      rcases hown.2 with ⟨h, _⟩ | ⟨g', cap', cur, h, _, hg, _⟩
      · simp at h
      · simp at h; obtain ⟨rfl, _⟩ := h
        exact (Array.getElem?_eq_some_iff.1 hg).1
    have ho := own_of_made hown hlt4
    have C4 := C2.keep hb4
    have B4 := B2.keep hb4
    have G4 := grown_below G2 hb4
    clear hown hgrow hb4 C2 B2 G2
    generalize w2.heap.size = GB at *
    have hne : CB ≠ GB := by omega
    go_loopw [18] (fun i wr => ∃ (k : Nat) (sd' : Int) (g : Nat → Int), k ≤ N ∧ i = .int .i64 k ∧ Own wr GB 0 N g ∧ Cu wr CB (.slice ao n cap) (a3 + k) sd' ∧ Cb wr CB ao n f ∧ w.grownBy wr (some CB)) (fun i _ => N - (intOf i).toNat)
    case atStart => exact ⟨0, _, _, Nat.zero_le _, rfl, ho, C4, B4, G4⟩
    case round =>
      obtain ⟨k, sd', g, hk, rfl, hok, Ck, Bk, Gk⟩ := hrel
      clear ho C4 B4 G4
      by_cases hlt : k < N
      · go_wp2_with fail
        refine (pick_any 9 (by omega) CB ao n cap (a3 + k) f sd' _ Ck Bk hn (by omega)).mono ?_
        rintro e w5 ⟨x, rfl, x0, x1, ⟨sd5, C5⟩, g5⟩
        have G5 := Gk.trans g5
        have B5 := Bk.grown g5
        have o5 := hok.grownB g5 (Ne.symm hne)
        have hd := o5.cell k hlt
        have hfz := o5.free k hlt
        have hst := o5.store k hlt x (by omega)
        simp only [Nat.zero_add] at hd hfz hst
        have oth := Others.setCell w5 GB k (.int .u8 x)
        have C6 := C5.others oth hne
        have G6 := grown_new G5 oth hs2
        have hx256 : x % 256 = x := by omega
        have hbb : Hid (∀ b off, ao = some ⟨b, off, none⟩ → n ≠ 0 → b ≠ GB → True) := fun _ _ _ _ _ => trivial
        have B6 : Cb (w5.setCell ⟨GB, k, none⟩ (.int .u8 x)) CB ao n f := by
          refine ⟨⟨B5.row.bd, ?_⟩, B5.ne⟩
          by_cases h0 : n = 0
          · exact .inl h0
          · obtain ⟨b, off, e, h1, h2⟩ := B5.row.lies.resolve_left h0
            have hbw := HB b off e h0
            exact .inr ⟨b, off, e, by rw [oth.size]; exact h1, fun i hi => (World.cell?_of_block (w := w5) (a := ⟨b, off + i, none⟩) (oth.block b (by omega))).trans (h2 i hi)⟩
        clear hbb
        go_wp2
        go_roundw
        case rel => exact ⟨k + 1, sd5, _, by omega, by go_num, hst, C6, B6, G6⟩
        case measure => simp [intOf]; omega
      · obtain rfl : k = N := by omega
        go_wp2
        go_ret
        exact ⟨_, GB, _, g, sd', rfl, by omega, hs2, hok, Ck, by omega, Gk⟩
  · have hb3 := below_new w2 (.cells #[.int .i64 2000, .int .i64 2001] 3)
    have hA3 := longs_at w2 3
    have hlC2 := C2.lt
    go_wp2_with fail
    refine (among_any 2 (by omega) w2.heap.size longs CB ao n cap (a + 1 + 1) f sd2 _ (C2.keep hb3) (B2.keep hb3) hn (by omega) (by simp) (by omega) hA3).mono ?_
    rintro e w3 ⟨i3, hi3, rfl, ⟨sd3, C3⟩, g3⟩
    have G3 := (grown_below G2 hb3).trans g3
    have B3 := (B2.keep hb3).grown g3
    have hl3 := longs_bd hi3
    generalize longs i3 = M0 at hl3
    obtain ⟨M, rfl⟩ := Int.eq_ofNat_of_zero_le hl3.1
    have hM : M ≤ 2001 := by omega
    obtain ⟨a3, ha3, C3⟩ : ∃ a3, a3 ≤ a + 3 ∧ Cu w3 CB (.slice ao n cap) a3 sd3 := ⟨_, by omega, C3⟩
    clear hb3 hA3 g3 C2 B2 G2
    have hs2 := G3.size
    go_wp2_with (at_make; refine wpList_make_full _ rfl (.tmp 14) (.tmp 14) 22 rfl w.heap.size 5 i0 (.int .u8 0) 1 Try.underlying22 hi hz0 hz1 .i64 .i64 _ _ M rfl rfl rfl rfl (by rw [hz2]; omega) (by unfold maxLen; omega) hs2 ?_; intro w4 hown hgrow)
    have hb4 : Below w3.heap.size w3 w4 := (Below.refl _ _).grown hgrow (Nat.le_refl _) (fun k h => by cases h)
    have hlt4 : w3.heap.size < w4.heap.size := by
      rcases hown.2 with ⟨h, _⟩ | ⟨g', cap', cur, h, _, hg, _⟩
      · simp at h
      · simp at h; obtain ⟨rfl, _⟩ := h
        exact (Array.getElem?_eq_some_iff.1 hg).1
    have ho := own_of_made hown hlt4
    have C4 := C3.keep hb4
    have B4 := B3.keep hb4
    have G4 := grown_below G3 hb4
    clear hown hgrow hb4 C3 B3 G3
    generalize w3.heap.size = GB at *
    have hne : CB ≠ GB := by omega
    go_loopw [18] (fun i wr => ∃ (k : Nat) (sd' : Int) (g : Nat → Int), k ≤ M ∧ i = .int .i64 k ∧ Own wr GB 0 M g ∧ Cu wr CB (.slice ao n cap) (a3 + k) sd' ∧ Cb wr CB ao n f ∧ w.grownBy wr (some CB)) (fun i _ => M - (intOf i).toNat)
    case atStart => exact ⟨0, _, _, Nat.zero_le _, rfl, ho, C4, B4, G4⟩
    case round =>
      obtain ⟨k, sd', g, hk, rfl, hok, Ck, Bk, Gk⟩ := hrel
      clear ho C4 B4 G4
      by_cases hlt : k < M
      · go_wp2_with fail
        refine (pick_any 9 (by omega) CB ao n cap (a3 + k) f sd' _ Ck Bk hn (by omega)).mono ?_
        rintro e w5 ⟨x, rfl, x0, x1, ⟨sd5, C5⟩, g5⟩
        have G5 := Gk.trans g5
        have B5 := Bk.grown g5
        have o5 := hok.grownB g5 (Ne.symm hne)
        have hd := o5.cell k hlt
        have hfz := o5.free k hlt
        have hst := o5.store k hlt x (by omega)
        simp only [Nat.zero_add] at hd hfz hst
        have oth := Others.setCell w5 GB k (.int .u8 x)
        have C6 := C5.others oth hne
        have G6 := grown_new G5 oth hs2
        have hx256 : x % 256 = x := by omega
        have hbb : Hid (∀ b off, ao = some ⟨b, off, none⟩ → n ≠ 0 → b ≠ GB → True) := fun _ _ _ _ _ => trivial
        have B6 : Cb (w5.setCell ⟨GB, k, none⟩ (.int .u8 x)) CB ao n f := by
          refine ⟨⟨B5.row.bd, ?_⟩, B5.ne⟩
          by_cases h0 : n = 0
          · exact .inl h0
          · obtain ⟨b, off, e, h1, h2⟩ := B5.row.lies.resolve_left h0
            have hbw := HB b off e h0
            exact .inr ⟨b, off, e, by rw [oth.size]; exact h1, fun i hi => (World.cell?_of_block (w := w5) (a := ⟨b, off + i, none⟩) (oth.block b (by omega))).trans (h2 i hi)⟩
        clear hbb
        go_wp2
        go_roundw
        case rel => exact ⟨k + 1, sd5, _, by omega, by go_num, hst, C6, B6, G6⟩
        case measure => simp [intOf]; omega
      · obtain rfl : k = M := by omega
        go_wp2
        go_ret
        exact ⟨_, GB, _, g, sd', rfl, by omega, hs2, hok, Ck, by omega, Gk⟩

/-- A list of rows that is made and then only read. -/
structure LR (w : World) (base : Nat) (v : Value) (n : Nat) (V : Nat → Value) (Rs : Nat → List Int) : Prop where
  own : w.ownsRow base 22 1 v n ((List.range n).map V)
  row : ∀ i, i < n → ∃ g c, V i = .slice (some ⟨g, 0, none⟩) (Rs i).length c ∧ (Rs i).length ≤ c ∧ At w g 0 (Rs i) ∧ v.ownBlock ≠ some g ∧ base ≤ g
  len : ∀ i, i < n → (Rs i).length ≤ 2001
theorem lr_nil (w : World) (base : Nat) : LR w base (.slice none 0 0) 0 (fun _ => .slice none 0 0) (fun _ => []) :=
  ⟨World.ownsRow_nil _ _ _ _, fun i hi => absurd hi (Nat.not_lt_zero _), fun i hi => absurd hi (Nat.not_lt_zero _)⟩
theorem LR.form {w : World} {base : Nat} {v : Value} {n : Nat} {V : Nat → Value} {Rs : Nat → List Int} (h : LR w base v n V Rs) : ∃ ao cap, v = .slice ao n cap := by
  rcases h.own.2 with ⟨rfl, h0⟩ | ⟨g, cap, cur, rfl, _⟩
  · exact ⟨none, 0, by rw [h0]⟩
  · exact ⟨_, _, rfl⟩
theorem LR.grown {w w' : World} {base : Nat} {v : Value} {n : Nat} {V : Nat → Value} {Rs : Nat → List Int} {RB : Nat} (h : LR w base v n V Rs) (hg : w.grownBy w' (some RB)) (hb : RB < base) : LR w' base v n V Rs := by
  refine ⟨h.own.kept hg ?_, fun i hi => ?_, h.len⟩
  · cases hr : v.ownBlock with
    | none => exact .inl rfl
    | some k => exact .inr fun e => by have := (h.own.lt k hr).1; injection e with e; omega
  · obtain ⟨g, c, e, h1, h2, h3, h4⟩ := h.row i hi
    exact ⟨g, c, e, h1, h2.grown hg (fun e => by have := Option.some.inj e; omega), h3, h4⟩
theorem LR.keep {w w' : World} {base : Nat} {v : Value} {n : Nat} {V : Nat → Value} {Rs : Nat → List Int} (h : LR w base v n V Rs) (hb : Below w.heap.size w w') : LR w' base v n V Rs :=
  ⟨ownsRow_keep h.own hb, fun i hi => by
    obtain ⟨g, c, e, h1, h2, h3, h4⟩ := h.row i hi
    exact ⟨g, c, e, h1, h2.keep hb, h3, h4⟩, h.len⟩
theorem LR.push {w w' : World} {base : Nat} {v v' x : Value} {n GB c : Nat} {V : Nat → Value} {Rs : Nat → List Int} {R : List Int} (h : LR w base v n V Rs) (hx : x = .slice (some ⟨GB, 0, none⟩) R.length c) (hc : R.length ≤ c) (hR : R.length ≤ 2001) (hA : At w GB 0 R) (hG : base ≤ GB) (hne : v.ownBlock ≠ some GB)
    (ho : w'.ownsRow base 22 1 v' (n + 1) ((List.range n).map V ++ [x])) (hg : w.grownBy w' v.ownBlock) (ha : v'.ownBlock = v.ownBlock ∨ v'.ownBlock = some w.heap.size) :
    LR w' base v' (n + 1) (fun i => if i = n then x else V i) (fun i => if i = n then R else Rs i) := by
  refine ⟨?_, fun i hi => ?_, fun i hi => ?_⟩
  · have e : (List.range (n + 1)).map (fun i => if i = n then x else V i) = (List.range n).map V ++ [x] := by
      rw [List.range_succ, List.map_append]
      congr 1
      · refine List.map_congr_left fun i hi => ?_
        have := List.mem_range.1 hi
        rw [if_neg (by omega)]
      · simp
    rw [e]; exact ho
  · have out : ∀ g, g < w.heap.size → v.ownBlock ≠ some g → v'.ownBlock ≠ some g := fun g h1 h2 => block_ne ha h2 h1
    by_cases e : i = n
    · simp only [e, if_true]
      exact ⟨GB, c, hx, hc, hA.grown hg hne, out _ hA.lt hne, hG⟩
    · simp only [e, if_false]
      obtain ⟨g, c, e, h1, h2, h3, h4⟩ := h.row i (by omega)
      exact ⟨g, c, e, h1, h2.grown hg h3, out _ h2.lt h3, h4⟩
  · by_cases e : i = n
    · simp only [e, if_true]; exact hR
    · simp only [e, if_false]; exact h.len i (by omega)
theorem LR.rda {w : World} {base : Nat} {ao : Option Addr} {cap n : Nat} {V : Nat → Value} {Rs : Nat → List Int} (h : LR w base (.slice ao n cap) n V Rs) : RdA w ao n V Rs := by
  refine ⟨fun i hi => ?_, ?_⟩
  · obtain ⟨g, c, e, h1, h2, _, _⟩ := h.row i hi
    exact ⟨g, 0, c, e, h1, h2⟩
  · rcases h.own.2 with ⟨_, h0⟩ | ⟨g, cap', cur, e, h1, h2, _⟩
    · exact .inl h0
    · injection e with e1 _ _
      subst e1
      refine .inr ⟨g, 0, rfl, (Array.getElem?_eq_some_iff.1 h2).1, fun i hi => ?_⟩
      rw [Nat.zero_add, h.own.cellAt i (by omega)]
      simp [hi]

theorem wpList_pushR {w : World} {ops : Array Oper} {rest : List Oper} {o : Oper} {a : Act} {Q : Exit → Act → World → Prop} (hgd : o.guard = none) (s y : Operand)
    (ho : o.op = .call { callee := .builtin .append, args := #[s, y], argTypes := #[23, 23] })
    (base : Nat) (v : Value) (n GB c : Nat) (V : Nat → Value) (Rs : Nat → List Int) (R : List Int) (hs : a.eval s = v) (h : LR w base v n V Rs) (hc : R.length ≤ c) (hR : R.length ≤ 2001) (hA : At w GB 0 R) (hG : base ≤ GB) (hne : v.ownBlock ≠ some GB)
    (hy : a.eval y = .slice (some ⟨w.heap.size, 0, none⟩) 1 1) (hn : n ≤ 1048576) (hbase : base ≤ w.heap.size)
    (hk : ∀ v' w', LR w' base v' (n + 1) (fun i => if i = n then (.slice (some ⟨GB, 0, none⟩) R.length c) else V i) (fun i => if i = n then R else Rs i) → (w.alloc (.cells #[.slice (some ⟨GB, 0, none⟩) R.length c] 22)).grownBy w' v.ownBlock → wpList Try.prog ops Q rest (a.put o.dst v') w') :
    wpList Try.prog ops Q (o :: rest) a (w.alloc (.cells #[.slice (some ⟨GB, 0, none⟩) R.length c] 22)) := by
  obtain ⟨i0, hi, hz0, hz1, hz2⟩ := info_parts Try.info22
  have hB := below_new w (.cells #[.slice (some ⟨GB, 0, none⟩) R.length c] 22)
  refine wpList_append_own_at (w := w.alloc (.cells #[.slice (some ⟨GB, 0, none⟩) R.length c] 22)) hgd s y 23 ho base 22 i0 (.slice none 0 0) 1 24 Try.underlying23 hi hz0 hz1 hz2 rfl (by decide) v n ((List.range n).map V) hs (ownsRow_keep h.own hB) ⟨w.heap.size, 0, none⟩ 1 1 [.slice (some ⟨GB, 0, none⟩) R.length c] hy rfl (cell_one_new _ _ _) (fun u hu => by rw [List.mem_singleton.1 hu]; rfl) (by unfold maxLen; omega) (by omega) (by simp; omega) ?_
  intro v' w' h1 h2 h3 h4
  exact hk v' w' ((h.keep hB).push rfl hc hR (hA.keep hB) hG hne h1 h2 h4) h2
end Go.Proofs.Ytimlggomjjkhlaa
