/- The law of ReadKeyText, walked. -/
import Derived.Test.YtpddodjecbcmlaaRi
import Derived.Test.YtpddodjecbcmlaaRt
import Derived.Test.YtpddodjecbcmlaaMs
namespace Go.Proofs.Ytpddodjecbcmlaa
open Go.RowKit
set_option linter.unusedSimpArgs false
set_option linter.unusedVariables false

/-- All blocks but those from B up to U are as they were. -/
structure Mid (B U : Nat) (w w' : World) : Prop where
  os : w'.os = w.os
  tape : w'.tape = w.tape
  output : w'.output = w.output
  size : w.heap.size ≤ w'.heap.size
  block : ∀ k, k < w.heap.size → (k < B ∨ U ≤ k) → w'.heap[k]? = w.heap[k]?
section
variable {B U : Nat} {w w' : World}
theorem Mid.of_below (h : Below w.heap.size w w') : Mid B U w w' := ⟨h.os, h.tape, h.output, h.size, fun k hk _ => h.block k hk⟩
theorem Mid.of_thru {g : Nat} (h : Thru g w w') (h1 : B ≤ g) (h2 : g < U) : Mid B U w w' := ⟨h.os, h.tape, h.output, h.size, fun k hk hne => h.block k hk (by omega)⟩
theorem Mid.of_others {g : Nat} (h : Others g w w') (h1 : B ≤ g) (h2 : g < U) : Mid B U w w' := Mid.of_thru (Thru.of_others h) h1 h2
theorem Mid.cell (h : Mid B U w w') {b o : Nat} (hb : b < w.heap.size) (hne : b < B ∨ U ≤ b) : w'.cell? ⟨b, o, none⟩ = w.cell? ⟨b, o, none⟩ := World.cell?_of_block (w := w) (a := ⟨b, o, none⟩) (h.block b hb hne)
theorem Mid.frozen (h : Mid B U w w') {b o : Nat} (hb : b < w.heap.size) (hne : b < B ∨ U ≤ b) : w'.frozen? ⟨b, o, none⟩ = w.frozen? ⟨b, o, none⟩ := World.frozen?_of_block (w := w) (a := ⟨b, o, none⟩) (h.block b hb hne)
theorem Mid.kat (h : Mid B U w w') {b : Nat} {m : ByteArray} {sv : Value} {st : Int} (hk : KAt w b m sv st) (hne : b < B ∨ U ≤ b) : KAt w' b m sv st :=
  ⟨Nat.lt_of_lt_of_le hk.lt h.size, (h.cell hk.lt hne).trans hk.c0, (h.cell hk.lt hne).trans hk.c1, (h.cell hk.lt hne).trans hk.c2⟩
theorem Mid.below (h : Mid B U w w') {C : Nat} (hC : C ≤ B) (hs : C ≤ w.heap.size) : Below C w w' := ⟨h.os, h.tape, h.output, h.size, fun k hk => h.block k (by omega) (by omega)⟩
theorem Mid.town (h : Mid B U w w') {c n k : Nat} {nm vl : Nat → ByteArray} (ho : TOwn w c n k nm vl) (hne : c < B ∨ U ≤ c) : TOwn w' c n k nm vl :=
  ⟨Nat.lt_of_lt_of_le ho.lt h.size, fun i hk hi => ⟨(h.cell ho.lt hne).trans (ho.cell i hk hi).1, (h.cell ho.lt hne).trans (ho.cell i hk hi).2⟩, fun j hj => by obtain ⟨v, hv⟩ := ho.there j hj; exact ⟨v, (h.cell ho.lt hne).trans hv⟩, fun j hj => (h.frozen ho.lt hne).trans (ho.free j hj)⟩
end

/-- A key's tags: none, or in memory of their own between the blocks B and U. -/
def SVI (w : World) (B U : Nat) (ao : Option Addr) (n : Nat) (nm vl : Nat → ByteArray) : Prop := n = 0 ∨ ∃ g, ao = some ⟨g, 0, none⟩ ∧ B ≤ g ∧ g < U ∧ TOwn w g n n nm vl
section
variable {w w' : World} {B U n : Nat} {ao : Option Addr} {nm vl : Nat → ByteArray}
theorem SVI.mid {C D : Nat} (h : SVI w B U ao n nm vl) (hm : Mid C D w w') (hne : U ≤ C ∨ D ≤ B) : SVI w' B U ao n nm vl := by
  rcases h with h | ⟨g, e, h1, h2, ho⟩
  · exact .inl h
  · exact .inr ⟨g, e, h1, h2, hm.town ho (by omega)⟩
theorem SVI.row (h : SVI w B U ao n nm vl) : TRow w ao n nm vl := by
  rcases h with h | ⟨g, rfl, h1, h2, ho⟩
  · exact ⟨.inl h⟩
  · exact ho.row
end
theorem TgL.svi {w : World} {B : Nat} {ao : Option Addr} {cap : Nat} {T : List (ByteArray × ByteArray)} (h : TgL w B (.slice ao T.length cap) T) : SVI w B w.heap.size ao T.length (nmL T) (vlL T) := by
  have h' := id h
  rcases h.2 with ⟨e, h0⟩ | ⟨g, cap, cur, e, h1, h2, h3, _⟩
  · exact .inl h0
  · injection e with e1 e2 e3
    subst e1 e3
    have hlt : g < w.heap.size := (Array.getElem?_eq_some_iff.1 h2).1
    refine .inr ⟨g, rfl, h1, hlt, hlt, fun i hi _ => ?_, fun j hj => ?_, fun j hj => by simpa using World.ownsRow.frozenAt h' j⟩
    · rw [World.ownsRow.cellAt h' (i * 2) (by omega), World.ownsRow.cellAt h' (i * 2 + 1) (by omega)]
      exact tgl_get T i hi
    · rw [World.ownsRow.cellAt h' j (by omega)]
      have : j < (tgl T).length := by rw [tgl_len]; exact hj
      exact ⟨_, List.getElem?_eq_getElem this⟩
theorem markKey_any (m : ByteArray) (st : Int) (g n cap : Nat) (w : World) (nm vl : Nat → ByteArray) (ho : TOwn w g n n nm vl) (hn : n ≤ 1048576) :
    Calls Try.prog 22 #[.agg #[.string m, .slice (some ⟨g, 0, none⟩) n cap, .int .i64 st], .int .i64 1] w fun e w' => e = .returned (.int .i64 (1 + 2 * (n : Int))) ∧ TOwn w' g n n (mtN 1) (mtV 1) ∧ Thru g w w' := by
  have bn := (Below.refl w.heap.size w).alloc (Nat.le_refl _) (.cells #[.string m, .slice (some ⟨g, 0, none⟩) n cap, .int .i64 st] 37)
  go_enter Try.func22, Try.ntmps22
  go_wp2_with fail
  refine (markTagS_any g n cap 1 _ nm vl (ho.keep bn) hn (by omega) (by omega)).mono ?_
  rintro e w1 ⟨rfl, o1, t1⟩
  go_wp2
  go_ret
  exact ⟨rfl, o1, (Thru.of_below bn).trans t1⟩
theorem markKey_none (m : ByteArray) (st : Int) (ao : Option Addr) (cap : Nat) (w : World) :
    Calls Try.prog 22 #[.agg #[.string m, .slice ao 0 cap, .int .i64 st], .int .i64 1] w fun e w' => e = .returned (.int .i64 1) ∧ Below w.heap.size w w' := by
  have bn := (Below.refl w.heap.size w).alloc (Nat.le_refl _) (.cells #[.string m, .slice ao 0 cap, .int .i64 st] 37)
  go_enter Try.func22, Try.ntmps22
  go_wp2_with fail
  refine (markT_zero ao cap 1 _).mono ?_
  rintro e w1 ⟨rfl, h1⟩
  subst h1
  go_wp2
  go_ret
  exact ⟨rfl, bn⟩
theorem heldKey_yes (m : ByteArray) (st : Int) (ao : Option Addr) (n cap : Nat) (w : World) (hr : TRow w ao n (mtN 1) (mtV 1)) (hn : n ≤ 1048576) :
    Calls Try.prog 23 #[.agg #[.string m, .slice ao n cap, .int .i64 st], .int .i64 1] w fun e w' => e = .returned (.int .i64 (1 + 2 * (n : Int))) ∧ Below w.heap.size w w' := by
  have bn := (Below.refl w.heap.size w).alloc (Nat.le_refl _) (.cells #[.string m, .slice ao n cap, .int .i64 st] 37)
  have hd : decide (1 + 2 * (n : Int) < 0) = false := by simp; omega
  go_enter Try.func23, Try.ntmps23
  go_wp2_with fail
  refine (heldTagS_yes ao n cap 1 _ (hr.keep bn) hn (by omega) (by omega)).mono ?_
  rintro e w1 ⟨rfl, q1⟩
  go_wp2
  go_ret
  exact ⟨rfl, bn.trans (q1.mono (by simp))⟩
theorem SVI.marked {w : World} {B U n : Nat} {ao : Option Addr} {nm vl : Nat → ByteArray} (h : SVI w B U ao n nm vl) (hn : n ≤ 1048576) (m : ByteArray) (st : Int) (cap : Nat) :
    Calls Try.prog 22 #[.agg #[.string m, .slice ao n cap, .int .i64 st], .int .i64 1] w fun e w' => e = .returned (.int .i64 (1 + 2 * (n : Int))) ∧ SVI w' B U ao n (mtN 1) (mtV 1) ∧ Mid B U w w' := by
  rcases h with h | ⟨g, rfl, h1, h2, ho⟩
  · subst h
    refine (markKey_none m st ao cap w).mono ?_
    rintro e w' ⟨rfl, hb⟩
    exact ⟨rfl, .inl rfl, Mid.of_below hb⟩
  · refine (markKey_any m st g n cap w nm vl ho hn).mono ?_
    rintro e w' ⟨rfl, ho', ht⟩
    exact ⟨rfl, .inr ⟨g, rfl, h1, h2, ho'⟩, Mid.of_thru ht h1 h2⟩

/-- What the law holds in memory: the model's answer in block A2 with its tags between A1 and A2, the answer in A4 with its tags between A3 and A4. -/
structure RX (w : World) (A1 A2 A3 A4 k : Nat) (m : ByteArray) (st : Int) (a2 a4 : Option Addr) (c2 c4 : Nat) (nm vl nm4 vl4 : Nat → ByteArray) (wr : World) : Prop where
  ord : w.heap.size ≤ A1 ∧ A1 ≤ A2 ∧ A2 < A3 ∧ A3 ≤ A4 ∧ A4 < wr.heap.size
  kw : KAt wr A2 m (.slice a2 k c2) st
  sw : SVI wr A1 A2 a2 k nm vl
  kg : KAt wr A4 m (.slice a4 k c4) st
  sg : SVI wr A3 A4 a4 k nm4 vl4
  bel : Below w.heap.size w wr
section
variable {w wr w' : World} {A1 A2 A3 A4 k : Nat} {m : ByteArray} {st : Int} {a2 a4 : Option Addr} {c2 c4 : Nat} {nm vl nm4 vl4 : Nat → ByteArray}
theorem RX.keep (h : RX w A1 A2 A3 A4 k m st a2 a4 c2 c4 nm vl nm4 vl4 wr) (hb : Below wr.heap.size wr w') : RX w A1 A2 A3 A4 k m st a2 a4 c2 c4 nm vl nm4 vl4 w' := by
  obtain ⟨o1, o2, o3, o4, o5⟩ := h.ord
  have hs := hb.size
  have M : Mid 0 0 wr w' := Mid.of_below hb
  exact ⟨⟨o1, o2, o3, o4, by omega⟩, h.kw.keep hb, h.sw.mid M (.inr (Nat.zero_le _)), h.kg.keep hb, h.sg.mid M (.inr (Nat.zero_le _)), h.bel.trans (hb.mono (by omega))⟩
theorem RX.tags (h : RX w A1 A2 A3 A4 k m st a2 a4 c2 c4 nm vl nm4 vl4 wr) (M : Mid A3 A4 wr w') {nm' vl' : Nat → ByteArray} (hs : SVI w' A3 A4 a4 k nm' vl') : RX w A1 A2 A3 A4 k m st a2 a4 c2 c4 nm vl nm' vl' w' := by
  obtain ⟨o1, o2, o3, o4, o5⟩ := h.ord
  have hz := M.size
  exact ⟨⟨o1, o2, o3, o4, by omega⟩, M.kat h.kw (by omega), h.sw.mid M (by omega), M.kat h.kg (by omega), hs, h.bel.trans (M.below (by omega) (by omega))⟩
end

theorem readKeyText_spec (s : ByteArray) (w : World) (hs : s.size ≤ 1048576) :
    Calls Try.prog 19 #[.string s] w fun e w' => RkO s w e w' := by
  have bw0 : Below w.heap.size w (w.alloc (.cells #[.string ⟨#[]⟩, .slice none 0 0, .int .i64 0] 37)) := (Below.refl _ _).alloc (Nat.le_refl _) _
  have K0 := KAt.new w ⟨#[]⟩ (.slice none 0 0) 0 37
  have fz0 : ∀ j, (w.alloc (.cells #[.string ⟨#[]⟩, .slice none 0 0, .int .i64 0] 37)).frozen? ⟨w.heap.size, j, none⟩ = false := fun j => by simp [go_sem]
  go_enter Try.func19, Try.ntmps19
  go_wp2_with fail
  refine (l12ReadKey_any s _ hs).mono ?_
  rintro e w1 ⟨q1, hcase⟩
  have bw1 : Below w.heap.size w w1 := bw0.trans (q1.mono (by simp))
  obtain ⟨_, r0, r1, r2⟩ := K0.keep q1
  have fz1 : ∀ j, w1.frozen? ⟨w.heap.size, j, none⟩ = false := fun j => (q1.frozen (p := ⟨w.heap.size, j, none⟩) (by simp)).trans (fz0 j)
  have f0 := fz1 0
  have f1 := fz1 1
  have f2 := fz1 2
  clear fz0 K0 fz1 q1
  rcases hcase with ⟨hno, rfl⟩ | ⟨hyes, va, vc, rfl, TG⟩
  · have H : Hid (¬ KP s) := hno
    clear hno
    go_wp2
    refine bodyPost_ret (v := .tuple #[.agg #[.string ⟨#[]⟩, .slice none 0 0, .int .i64 0], .bool false]) (by simp [results, Try.results19, go_sem, r0, r1, r2]) rfl ⟨?_, .inl ⟨H.out, rfl⟩⟩
    repeat' refine Below.setCell ?_ (by first | exact Nat.le_refl _ | (simp; done) | (simp; omega)) _
    exact bw1
  · have H : Hid (KP s) := hyes
    clear hyes
    have hne : (Value.slice va (kt s).length vc).ownBlock ≠ some w.heap.size := fun e => by have h9 := (World.ownsRow.lt TG _ e).1; rw [World.size_alloc] at h9; omega
    go_wp2
    refine bodyPost_ret (v := .tuple #[.agg #[.string (km s), .slice va (kt s).length vc, .int .i64 (numI (h1 s))], .bool true]) (by simp [results, Try.results19, go_sem, r0, r1, r2]) rfl ⟨?_, .inr ⟨H.out, va, vc, rfl, ownsRow_mono (base := (w.alloc (.cells #[.string ⟨#[]⟩, .slice none 0 0, .int .i64 0] 37)).heap.size) ?_ (by simp)⟩⟩
    · repeat' refine Below.setCell ?_ (by first | exact Nat.le_refl _ | (simp; done) | (simp; omega)) _
      exact bw1
    · repeat' refine ownsRow_others ?_ (Others.setCell _ _ _ _) hne
      exact TG
/-- Whatever the text is, each reading answers the same. -/
theorem rkO_one (s : ByteArray) : ∃ (m : ByteArray) (T : List (ByteArray × ByteArray)) (st : Int) (ok : Bool), T.length ≤ 4 ∧
    ∀ (w : World) (e : Ending) (w' : World), RkO s w e w' → ∃ ao cap, e = .returned (.tuple #[.agg #[.string m, .slice ao T.length cap, .int .i64 st], .bool ok]) ∧ TgL w' w.heap.size (.slice ao T.length cap) T ∧ Below w.heap.size w w' := by
  by_cases h : KP s
  · refine ⟨km s, kt s, numI (h1 s), true, (goodB_sizes2 h.2.2).2.1, fun w e w' hR => ?_⟩
    obtain ⟨hb, ⟨hno, _⟩ | ⟨_, va, vc, e1, TG⟩⟩ := hR
    · exact absurd h hno
    · exact ⟨va, vc, e1, TG, hb⟩
  · refine ⟨⟨#[]⟩, [], 0, false, by simp, fun w e w' hR => ?_⟩
    obtain ⟨hb, ⟨_, e1⟩ | ⟨hy, _⟩⟩ := hR
    · exact ⟨none, 0, e1, tgL_nil _ _, hb⟩
    · exact absurd hy h

set_option maxHeartbeats 2000000 in
theorem readKeyText_law (s : ByteArray) (w : World) (hmx : s.size ≤ maxLen) :
    Calls Try.prog 5 #[.string s] w fun e w' => e = .returned (.bool true) ∧ Below w.heap.size w w' := by
  unfold maxLen at hmx
  by_cases hn : s.size ≤ 1048576
  · have hng : ¬ (1048576 : Int) < (s.size : Int) := by omega
    obtain ⟨m, T, st, ok, hk4, hone⟩ := rkO_one s
    have HO : Hid (∀ (w : World) (e : Ending) (w' : World), RkO s w e w' → ∃ ao cap, e = .returned (.tuple #[.agg #[.string m, .slice ao T.length cap, .int .i64 st], .bool ok]) ∧ TgL w' w.heap.size (.slice ao T.length cap) T ∧ Below w.heap.size w w') := hone
    clear hone
    go_enter Try.func5, Try.ntmps5
    go_wp2_with fail
    refine (readKeyText_spec s _ hn).mono ?_
    intro e w2 hR
    obtain ⟨a2, c2, rfl, sv2, hb2⟩ := HO.out _ _ _ hR
    have s2 := hb2.size
    have hBA : Below w2.heap.size w2 (w2.alloc (.cells #[.string m, .slice a2 T.length c2, .int .i64 st] 37)) := (Below.refl _ _).alloc (Nat.le_refl _) _
    have KA := KAt.new w2 m (.slice a2 T.length c2) st 37
    have SA := sv2.svi.mid (Mid.of_below (B := 0) (U := 0) hBA) (.inr (Nat.zero_le _))
    have bwA : Below w.heap.size w (w2.alloc (.cells #[.string m, .slice a2 T.length c2, .int .i64 st] 37)) := hb2.trans (hBA.mono s2)
    clear hR sv2 hb2 hBA
    go_wp2_with fail
    refine (readKeyText_impl s _ hn).mono ?_
    intro e w4 hR
    obtain ⟨a4, c4, rfl, sv4, hb4⟩ := HO.out _ _ _ hR
    have s4 := hb4.size
    simp only [World.size_alloc] at s4 sv4
    have hBB : Below w4.heap.size w4 (w4.alloc (.cells #[.string m, .slice a4 T.length c4, .int .i64 st] 37)) := (Below.refl _ _).alloc (Nat.le_refl _) _
    have R : RX w w.heap.size w2.heap.size (w2.heap.size + 1) w4.heap.size T.length m st a2 a4 c2 c4 (nmL T) (vlL T) (nmL T) (vlL T) (w4.alloc (.cells #[.string m, .slice a4 T.length c4, .int .i64 st] 37)) :=
      ⟨⟨Nat.le_refl _, s2, by omega, by omega, by simp⟩, (KA.keep hb4).keep hBB, (SA.mid (Mid.of_below (B := 0) (U := 0) hb4) (.inr (Nat.zero_le _))).mid (Mid.of_below (B := 0) (U := 0) hBB) (.inr (Nat.zero_le _)), KAt.new w4 m (.slice a4 T.length c4) st 37, sv4.svi.mid (Mid.of_below (B := 0) (U := 0) hBB) (.inr (Nat.zero_le _)), (bwA.trans (hb4.mono bwA.size)).trans (hBB.mono (by have := bwA.size; have := hb4.size; omega))⟩
    clear hR KA SA bwA sv4 hb4 hBB
    obtain ⟨lw, p0, p1, p2⟩ := R.kw
    obtain ⟨lg, q0, q1, q2⟩ := R.kg
    go_wp2_with fail
    refine (eqKey_same m st a4 a2 T.length c4 c2 (nmL T) (vlL T) _ R.sg.row R.sw.row (by omega)).mono ?_
    rintro e w5 ⟨rfl, hb5⟩
    have R5 := R.keep hb5
    clear R hb5 lw p0 p1 p2 lg q0 q1 q2
    obtain ⟨lg, q0, q1, q2⟩ := R5.kg
    go_wp2_with fail
    refine (R5.sg.marked (by omega) m st c4).mono ?_
    rintro e w10 ⟨rfl, s10, M10⟩
    have R10 := R5.tags M10 s10
    clear R5 s10 M10 lg q0 q1 q2
    obtain ⟨lg, q0, q1, q2⟩ := R10.kg
    go_wp2_with fail
    refine (heldKey_yes m st a4 T.length c4 _ R10.sg.row (by omega)).mono ?_
    rintro e w11 ⟨rfl, hb11⟩
    have R11 := R10.keep hb11
    have hd11 : decide (1 + 2 * (T.length : Int) < 0) = false := by simp; omega
    clear R10 hb11 lg q0 q1 q2
    go_wp2_with fail
    refine (readKeyText_impl s _ hn).mono ?_
    intro e w13 hR
    obtain ⟨a13, c13, rfl, sv13, hb13⟩ := HO.out _ _ _ hR
    have hBC : Below w13.heap.size w13 (w13.alloc (.cells #[.string m, .slice a13 T.length c13, .int .i64 st] 37)) := (Below.refl _ _).alloc (Nat.le_refl _) _
    have R13 := (R11.keep hb13).keep hBC
    have t13 := (TgL.row (ownsRow_keep sv13 hBC)).2
    have K13 := KAt.new w13 m (.slice a13 T.length c13) st 37
    clear R11 hR sv13 hb13 hBC
    obtain ⟨lw, p0, p1, p2⟩ := R13.kw
    obtain ⟨lg, q0, q1, q2⟩ := K13
    go_wp2_with fail
    refine (eqKey_same m st a13 a2 T.length c13 c2 (nmL T) (vlL T) _ t13 R13.sw.row (by omega)).mono ?_
    rintro e w14 ⟨rfl, hb14⟩
    have R14 := R13.keep hb14
    clear R13 hb14 lw p0 p1 p2 lg q0 q1 q2 t13
    obtain ⟨lg, q0, q1, q2⟩ := R14.kg
    go_wp2_with fail
    refine (heldKey_yes m st a4 T.length c4 _ R14.sg.row (by omega)).mono ?_
    rintro e w15 ⟨rfl, hb15⟩
    have R15 := R14.keep hb15
    clear R14 hb15 lg q0 q1 q2
    go_wp2
    go_ret
    exact ⟨rfl, R15.bel⟩
  · have hng : (1048576 : Int) < (s.size : Int) := by omega
    go_enter Try.func5, Try.ntmps5
    go_wp2
    go_ret
    exact ⟨rfl, Below.refl _ _⟩
end Go.Proofs.Ytpddodjecbcmlaa
