/- The law of ReadKey, walked. -/
import Derived.Test.YtddppcfkjhhmhaaHeldKey
import Derived.Test.YtddppcfkjhhmhaaKeyAt
import Derived.Test.YtddppcfkjhhmhaaMarks
namespace Go.Proofs.Ytddppcfkjhhmhaa
open Go.RowKit
set_option linter.unusedSimpArgs false
set_option linter.unusedVariables false

/-- All blocks but those from B up to U are as they were. -/
structure Mid (B U : Nat) (w w' : World) : Prop where
  os : w'.os = w.os
  tape : w'.tape = w.tape
  output : w'.output = w.output
  size : w.heap.size ≤ w'.heap.size
  block : ∀ k, k < w.heap.size → (k < B ∨ U ≤ k) → w'.heap[k]? = w.heap[k]?
section
variable {B U : Nat} {w w' : World}
theorem Mid.of_below (h : Below w.heap.size w w') : Mid B U w w' := ⟨h.os, h.tape, h.output, h.size, fun k hk _ => h.block k hk⟩
theorem Mid.of_thru {g : Nat} (h : Thru g w w') (h1 : B ≤ g) (h2 : g < U) : Mid B U w w' := ⟨h.os, h.tape, h.output, h.size, fun k hk hne => h.block k hk (by omega)⟩
theorem Mid.of_others {g : Nat} (h : Others g w w') (h1 : B ≤ g) (h2 : g < U) : Mid B U w w' := Mid.of_thru (Thru.of_others h) h1 h2
theorem Mid.cell (h : Mid B U w w') {b o : Nat} (hb : b < w.heap.size) (hne : b < B ∨ U ≤ b) : w'.cell? ⟨b, o, none⟩ = w.cell? ⟨b, o, none⟩ := World.cell?_of_block (w := w) (a := ⟨b, o, none⟩) (h.block b hb hne)
theorem Mid.frozen (h : Mid B U w w') {b o : Nat} (hb : b < w.heap.size) (hne : b < B ∨ U ≤ b) : w'.frozen? ⟨b, o, none⟩ = w.frozen? ⟨b, o, none⟩ := World.frozen?_of_block (w := w) (a := ⟨b, o, none⟩) (h.block b hb hne)
theorem Mid.kat (h : Mid B U w w') {b : Nat} {m : ByteArray} {sv : Value} {st : Int} (hk : KAt w b m sv st) (hne : b < B ∨ U ≤ b) : KAt w' b m sv st :=
  ⟨Nat.lt_of_lt_of_le hk.lt h.size, (h.cell hk.lt hne).trans hk.c0, (h.cell hk.lt hne).trans hk.c1, (h.cell hk.lt hne).trans hk.c2⟩
theorem Mid.own (h : Mid B U w w') {c off n : Nat} {f : Nat → Int} (ho : Own w c off n f) (hne : c < B ∨ U ≤ c) : Own w' c off n f :=
  ⟨ho.bd, Nat.lt_of_lt_of_le ho.lt h.size, fun i hi => (h.cell ho.lt hne).trans (ho.cell i hi), fun i hi => (h.frozen ho.lt hne).trans (ho.free i hi)⟩
theorem Mid.below (h : Mid B U w w') {C : Nat} (hC : C ≤ B) (hs : C ≤ w.heap.size) : Below C w w' := ⟨h.os, h.tape, h.output, h.size, fun k hk => h.block k (by omega) (by omega)⟩
theorem Mid.town (h : Mid B U w w') {c n k : Nat} {nm vl : Nat → ByteArray} (ho : TOwn w c n k nm vl) (hne : c < B ∨ U ≤ c) : TOwn w' c n k nm vl :=
  ⟨Nat.lt_of_lt_of_le ho.lt h.size, fun i hk hi => ⟨(h.cell ho.lt hne).trans (ho.cell i hk hi).1, (h.cell ho.lt hne).trans (ho.cell i hk hi).2⟩, fun j hj => by obtain ⟨v, hv⟩ := ho.there j hj; exact ⟨v, (h.cell ho.lt hne).trans hv⟩, fun j hj => (h.frozen ho.lt hne).trans (ho.free j hj)⟩
end

/-- A key's tags: none, or in memory of their own between the blocks B and U. -/
def SVI (w : World) (B U : Nat) (ao : Option Addr) (n : Nat) (nm vl : Nat → ByteArray) : Prop := n = 0 ∨ ∃ g, ao = some ⟨g, 0, none⟩ ∧ B ≤ g ∧ g < U ∧ TOwn w g n n nm vl
section
variable {w w' : World} {B U n : Nat} {ao : Option Addr} {nm vl : Nat → ByteArray}
theorem SV.upto {cap : Nat} (h : SV w B (.slice ao n cap) n nm vl) : SVI w B w.heap.size ao n nm vl := by
  obtain ⟨ao', cap', e, h | ⟨g, e2, hB, ho⟩⟩ := h
  · exact .inl h
  · injection e with e1 e3 e4
    subst e1
    exact .inr ⟨g, e2, hB, ho.lt, ho⟩
theorem SVI.mid {C D : Nat} (h : SVI w B U ao n nm vl) (hm : Mid C D w w') (hne : U ≤ C ∨ D ≤ B) : SVI w' B U ao n nm vl := by
  rcases h with h | ⟨g, e, h1, h2, ho⟩
  · exact .inl h
  · exact .inr ⟨g, e, h1, h2, hm.town ho (by omega)⟩
theorem SVI.row (h : SVI w B U ao n nm vl) : TRow w ao n nm vl := by
  rcases h with h | ⟨g, rfl, h1, h2, ho⟩
  · exact ⟨.inl h⟩
  · exact ho.row
theorem SVI.marked (h : SVI w B U ao n nm vl) (hn : n ≤ 1048576) (m : ByteArray) (st : Int) (cap : Nat) :
    Calls Try.prog 33 #[.agg #[.string m, .slice ao n cap, .int .i64 st], .int .i64 1] w fun e w' => e = .returned (.int .i64 (1 + 2 * (n : Int))) ∧ SVI w' B U ao n mtN mtV ∧ Mid B U w w' := by
  rcases h with h | ⟨g, rfl, h1, h2, ho⟩
  · subst h
    refine (markKey_none m st ao cap w).mono ?_
    rintro e w' ⟨rfl, hb⟩
    exact ⟨rfl, .inl rfl, Mid.of_below hb⟩
  · refine (markKey_any m st g n cap w nm vl ho hn).mono ?_
    rintro e w' ⟨rfl, ho', ht⟩
    exact ⟨rfl, .inr ⟨g, rfl, h1, h2, ho'⟩, Mid.of_thru ht h1 h2⟩
end

/-- What the law holds in memory: the model's answer in block A2 with its tags between A1 and A2, the argument's copy in A2 + 1, the answer in A4 with its tags between A3 and A4. -/
structure RK (w : World) (A1 A2 A3 A4 n k : Nat) (m : ByteArray) (st : Int) (a2 a4 : Option Addr) (c2 c4 : Nat) (nm vl nm4 vl4 : Nat → ByteArray) (fx : Nat → Int) (wr : World) : Prop where
  ord : w.heap.size ≤ A1 ∧ A1 ≤ A2 ∧ A2 + 1 < A3 ∧ A3 ≤ A4 ∧ A4 < wr.heap.size
  kw : KAt wr A2 m (.slice a2 k c2) st
  sw : SVI wr A1 A2 a2 k nm vl
  ox : Own wr (A2 + 1) 0 n fx
  kg : KAt wr A4 m (.slice a4 k c4) st
  sg : SVI wr A3 A4 a4 k nm4 vl4
  bel : Below w.heap.size w wr
section
variable {w wr w' : World} {A1 A2 A3 A4 n k : Nat} {m : ByteArray} {st : Int} {a2 a4 : Option Addr} {c2 c4 : Nat} {nm vl nm4 vl4 : Nat → ByteArray} {fx : Nat → Int}
theorem RK.keep (h : RK w A1 A2 A3 A4 n k m st a2 a4 c2 c4 nm vl nm4 vl4 fx wr) (hb : Below wr.heap.size wr w') : RK w A1 A2 A3 A4 n k m st a2 a4 c2 c4 nm vl nm4 vl4 fx w' := by
  obtain ⟨o1, o2, o3, o4, o5⟩ := h.ord
  have hs := hb.size
  have M : Mid 0 0 wr w' := Mid.of_below hb
  exact ⟨⟨o1, o2, o3, o4, by omega⟩, h.kw.keep hb, h.sw.mid M (.inr (Nat.zero_le _)), h.ox.keep hb, h.kg.keep hb, h.sg.mid M (.inr (Nat.zero_le _)), h.bel.trans (hb.mono (by omega))⟩
theorem RK.mark (h : RK w A1 A2 A3 A4 n k m st a2 a4 c2 c4 nm vl nm4 vl4 fx wr) (hx : Others (A2 + 1) wr w') {gx : Nat → Int} (ho : Own w' (A2 + 1) 0 n gx) : RK w A1 A2 A3 A4 n k m st a2 a4 c2 c4 nm vl nm4 vl4 gx w' := by
  obtain ⟨o1, o2, o3, o4, o5⟩ := h.ord
  have M : Mid (A2 + 1) (A2 + 2) wr w' := Mid.of_others hx (Nat.le_refl _) (by omega)
  exact ⟨⟨o1, o2, o3, o4, by rw [hx.size]; omega⟩, M.kat h.kw (by omega), h.sw.mid M (by omega), ho, M.kat h.kg (by omega), h.sg.mid M (by omega), h.bel.trans (M.below (by omega) (by omega))⟩
theorem RK.tags (h : RK w A1 A2 A3 A4 n k m st a2 a4 c2 c4 nm vl nm4 vl4 fx wr) (M : Mid A3 A4 wr w') {nm' vl' : Nat → ByteArray} (hs : SVI w' A3 A4 a4 k nm' vl') : RK w A1 A2 A3 A4 n k m st a2 a4 c2 c4 nm vl nm' vl' fx w' := by
  obtain ⟨o1, o2, o3, o4, o5⟩ := h.ord
  have hz := M.size
  exact ⟨⟨o1, o2, o3, o4, by omega⟩, M.kat h.kw (by omega), h.sw.mid M (by omega), M.own h.ox (by omega), M.kat h.kg (by omega), hs, h.bel.trans (M.below (by omega) (by omega))⟩
end
/-- Whatever the bytes are, each ReadKey answers the same. -/
theorem readOut_one (f : Nat → Int) (N : Nat) : ∃ (m : ByteArray) (k : Nat) (nm vl : Nat → ByteArray) (st : Int) (ok : Bool), k ≤ 4 ∧
    ∀ (w : World) (e : Ending) (w' : World), ReadOut f N w e w' → ∃ ao cap, e = .returned (.tuple #[.agg #[.string m, .slice ao k cap, .int .i64 st], .bool ok]) ∧ SV w' w.heap.size (.slice ao k cap) k nm vl ∧ Below w.heap.size w w' := by
  by_cases h : ∃ m n nm vl st, IsKey f N m n nm vl st
  · obtain ⟨m, n, nm, vl, st, hk⟩ := h
    exact ⟨m, n, nm, vl, st, true, (goodB_sizes hk.good).2.1, fun w e w' hr => hr.found hk⟩
  · refine ⟨⟨#[]⟩, 0, fun _ => ⟨#[]⟩, fun _ => ⟨#[]⟩, 0, false, by omega, fun w e w' hr => ?_⟩
    obtain ⟨e1, hb⟩ := ReadOut.missed (fun m n nm vl st hk => h ⟨m, n, nm, vl, st, hk⟩) hr
    exact ⟨none, 0, e1, ⟨none, 0, rfl, .inl rfl⟩, hb⟩

set_option maxHeartbeats 4000000 in
theorem readKey_law (ao : Option Addr) (n cap : Nat) (f : Nat → Int) (w : World) (hr : Row w ao n f) (hmx : n ≤ maxLen) :
    Calls Try.prog 10 #[.slice ao n cap] w fun e w' => e = .returned (.bool true) ∧ Below w.heap.size w w' := by
  unfold maxLen at hmx
  by_cases hn : n ≤ 1048576
  · have hng : ¬ (1048576 : Int) < (n : Int) := by omega
    obtain ⟨m, k, nm, vl, st, ok, hk4, hone⟩ := readOut_one f n
    have HO : Hid (∀ (w : World) (e : Ending) (w' : World), ReadOut f n w e w' → ∃ ao cap, e = .returned (.tuple #[.agg #[.string m, .slice ao k cap, .int .i64 st], .bool ok]) ∧ SV w' w.heap.size (.slice ao k cap) k nm vl ∧ Below w.heap.size w w') := hone
    clear hone
    have hbd := hr.bd
    go_enter Try.func10, Try.ntmps10
    go_wp2_with fail
    refine (toByteS_any ao n cap f _ hr hn).mono ?_
    rintro e w1 ⟨rfl, o1, hb1⟩
    go_wp2_with fail
    refine (readKey_spec w.heap.size 0 n n f _ hbd o1.lt o1.cell hn (Nat.le_refl _)).mono ?_
    intro e w2 hR
    obtain ⟨a2, c2, rfl, sv2, hb2⟩ := HO.out _ _ _ hR
    have s1 := hb1.size
    have s2 := hb2.size
    have hBA : Below w2.heap.size w2 (w2.alloc (.cells #[.string m, .slice a2 k c2, .int .i64 st] 48)) := (Below.refl _ _).alloc (Nat.le_refl _) _
    have KA := KAt.new w2 m (.slice a2 k c2) st 48
    have SA := sv2.upto.mid (Mid.of_below (B := 0) (U := 0) hBA) (.inr (Nat.zero_le _))
    have bwA : Below w.heap.size w (w2.alloc (.cells #[.string m, .slice a2 k c2, .int .i64 st] 48)) := (hb1.trans (hb2.mono s1)).trans (hBA.mono (by omega))
    clear hR sv2 hb1 hb2 o1 hBA
    go_wp2_with fail
    refine (toByteS_any ao n cap f _ (hr.keep bwA) hn).mono ?_
    rintro e w3 ⟨rfl, o3, hb3⟩
    have KA3 := KA.keep hb3
    have SA3 := SA.mid (Mid.of_below (B := 0) (U := 0) hb3) (.inr (Nat.zero_le _))
    have bw3 : Below w.heap.size w w3 := bwA.trans (hb3.mono bwA.size)
    simp only [World.size_alloc] at o3
    clear hb3 KA SA bwA
    go_wp2_with fail
    refine (readKey_impl (w2.heap.size + 1) 0 n n f _ hbd o3.lt o3.cell hn (Nat.le_refl _)).mono ?_
    intro e w4 hR
    obtain ⟨a4, c4, rfl, sv4, hb4⟩ := HO.out _ _ _ hR
    have s3 := o3.lt
    have s4 := hb4.size
    have hBB : Below w4.heap.size w4 (w4.alloc (.cells #[.string m, .slice a4 k c4, .int .i64 st] 48)) := (Below.refl _ _).alloc (Nat.le_refl _) _
    have R : RK w w1.heap.size w2.heap.size w3.heap.size w4.heap.size n k m st a2 a4 c2 c4 nm vl nm vl f (w4.alloc (.cells #[.string m, .slice a4 k c4, .int .i64 st] 48)) :=
      ⟨⟨s1, s2, s3, s4, by simp⟩, (KA3.keep hb4).keep hBB, (SA3.mid (Mid.of_below (B := 0) (U := 0) hb4) (.inr (Nat.zero_le _))).mid (Mid.of_below (B := 0) (U := 0) hBB) (.inr (Nat.zero_le _)), (o3.keep hb4).keep hBB, KAt.new w4 m (.slice a4 k c4) st 48, sv4.upto.mid (Mid.of_below (B := 0) (U := 0) hBB) (.inr (Nat.zero_le _)), (bw3.trans (hb4.mono bw3.size)).trans (hBB.mono (by have := bw3.size; omega))⟩
    clear hR KA3 SA3 bw3 o3 sv4 hb4 hBB
    obtain ⟨lw, p0, p1, p2⟩ := R.kw
    obtain ⟨lg, q0, q1, q2⟩ := R.kg
    go_wp2_with fail
    refine (eqKey_same m st a4 a2 k c4 c2 nm vl _ R.sg.row R.sw.row (by omega)).mono ?_
    rintro e w5 ⟨rfl, hb5⟩
    have R5 := R.keep hb5
    clear R hb5 lw p0 p1 p2 lg q0 q1 q2
    go_wp2_with fail
    refine (toByteS_any ao n cap f _ (hr.keep R5.bel) hn).mono ?_
    rintro e w6 ⟨rfl, o6, hb6⟩
    have R6 := R5.keep hb6
    clear R5 hb6
    go_wp2_with fail
    refine (eqByteS_same _ _ n n n f _ R6.ox.row o6.row hn).mono ?_
    rintro e w7 ⟨rfl, hb7⟩
    have R7 := R6.keep hb7
    clear R6 hb7 o6
    go_wp2_with fail
    refine (mark_one (w2.heap.size + 1) 0 n n f _ R7.ox hn).mono ?_
    rintro e w8 ⟨rfl, o8, hx8⟩
    have R8 := R7.mark hx8 o8
    have hd8 : decide ((n : Int) + 1 < 0) = false := by simp; omega
    clear R7 hx8 o8
    obtain ⟨lw, p0, p1, p2⟩ := R8.kw
    obtain ⟨lg, q0, q1, q2⟩ := R8.kg
    go_wp2_with fail
    refine (eqKey_same m st a4 a2 k c4 c2 nm vl _ R8.sg.row R8.sw.row (by omega)).mono ?_
    rintro e w9 ⟨rfl, hb9⟩
    have R9 := R8.keep hb9
    clear R8 hb9 lw p0 p1 p2 lg q0 q1 q2
    obtain ⟨lg, q0, q1, q2⟩ := R9.kg
    go_wp2_with fail
    refine (R9.sg.marked (by omega) m st c4).mono ?_
    rintro e w10 ⟨rfl, s10, M10⟩
    have R10 := R9.tags M10 s10
    clear R9 s10 M10 lg q0 q1 q2
    obtain ⟨lg, q0, q1, q2⟩ := R10.kg
    go_wp2_with fail
    refine (heldKey_yes m st a4 k c4 _ R10.sg.row (by omega)).mono ?_
    rintro e w11 ⟨rfl, hb11⟩
    have R11 := R10.keep hb11
    have hd11 : decide (1 + 2 * (k : Int) < 0) = false := by simp; omega
    clear R10 hb11 lg q0 q1 q2
    go_wp2_with fail
    refine (toByteS_any ao n cap f _ (hr.keep R11.bel) hn).mono ?_
    rintro e w12 ⟨rfl, o12, hb12⟩
    have R12 := R11.keep hb12
    clear R11 hb12
    go_wp2_with fail
    refine (readKey_impl w11.heap.size 0 n n f _ hbd o12.lt o12.cell hn (Nat.le_refl _)).mono ?_
    intro e w13 hR
    obtain ⟨a13, c13, rfl, sv13, hb13⟩ := HO.out _ _ _ hR
    have hBC : Below w13.heap.size w13 (w13.alloc (.cells #[.string m, .slice a13 k c13, .int .i64 st] 48)) := (Below.refl _ _).alloc (Nat.le_refl _) _
    have R13 := (R12.keep hb13).keep hBC
    have t13 := (sv13.keep hBC).row
    have K13 := KAt.new w13 m (.slice a13 k c13) st 48
    clear R12 hR sv13 hb13 hBC o12
    obtain ⟨lw, p0, p1, p2⟩ := R13.kw
    obtain ⟨lg, q0, q1, q2⟩ := K13
    go_wp2_with fail
    refine (eqKey_same m st a13 a2 k c13 c2 nm vl _ t13 R13.sw.row (by omega)).mono ?_
    rintro e w14 ⟨rfl, hb14⟩
    have R14 := R13.keep hb14
    clear R13 hb14 lw p0 p1 p2 lg q0 q1 q2 t13
    obtain ⟨lg, q0, q1, q2⟩ := R14.kg
    go_wp2_with fail
    refine (heldKey_yes m st a4 k c4 _ R14.sg.row (by omega)).mono ?_
    rintro e w15 ⟨rfl, hb15⟩
    have R15 := R14.keep hb15
    clear R14 hb15 lg q0 q1 q2
    go_wp2
    go_ret
    exact ⟨rfl, R15.bel⟩
  · have hng : (1048576 : Int) < (n : Int) := by omega
    go_enter Try.func10, Try.ntmps10
    go_wp2
    go_ret
    exact ⟨rfl, Below.refl _ _⟩
end Go.Proofs.Ytddppcfkjhhmhaa
