/- ReadAgg in the program. / The reader of bytes: a number, so many bytes, a kind. -/
import Derived.Test.YtohjjigkfdhklaaGreatRa
import Derived.Test.YtohjjigkfdhklaaGreatOb
import Derived.Test.YtohjjigkfdhklaaGreatAd
import Derived.Test.YtohjjigkfdhklaaGreatOe
import Derived.Test.YtohjjigkfdhklaaGreatBytI
import Derived.Test.YtohjjigkfdhklaaGreatGe
import Derived.Deep.RegionLaw
import Derived.Deep.CutRange
import Derived.Deep.DeepCutAuto
import Derived.Maps.AppendAt
import Derived.OwnWalk
import Derived.Test.YtohjjigkfdhklaaGreatBV
import Derived.Deep.RegionHeld3
namespace Go.Proofs.YtohjjigkfdhklaaGreat
set_option maxRecDepth 100000
open Go.RowKit
set_option linter.unusedSimpArgs false
set_option linter.unusedVariables false

theorem step_append_ty {P : Program} {w : World} {ops : Array Oper} {o : Oper} {a : Act} {K : Act → World → Prop} {Q : Exit → Act → World → Prop} {E : Prop} (hgd : o.guard = none) (s x : Operand) (t ty : TypeId)
    (ho : o.op = .call { callee := .builtin .append, args := #[s, x], argTypes := #[t, t] }) (hty : o.type = ty) (u v r : Value) (hs : a.eval s = u) (hx : a.eval x = v) (w' : World) (hrun : (Builtin.append_ #[t, t] ty #[u, v]).run P w = .ok r w') (h : K (a.put o.dst r) w') :
    if Region.wanted o (yielded ops a.tmps) = true then Oper.wp P o a w K Q else E := by
  have hw : Region.wanted o (yielded ops a.tmps) = true := by simp [Region.wanted, hgd]
  rw [if_pos hw]
  unfold Oper.wp execOp
  simp only [ho, hty, resolve, invoke, builtin, Sem.run_bind, Sem.run_pure, Result.andThen_ok, List.map_toArray, List.map_cons, List.map_nil, hs, hx, hrun]
  exact h
theorem rv_pos (f : Nat → Int) (n q : Nat) : ∀ t k acc, 0 < (rv f n q t k acc).2 → (q : Int) < (rv f n q t k acc).2 ∧ (rv f n q t k acc).2 ≤ n
  | 0, _, _ => by simp [rv]
  | t + 1, k, acc => by
    unfold rv
    repeat' split
    · simp
    · simp
    · intro h; simp only; omega
    · exact rv_pos f n q t _ _
    · simp
theorem rdVar_pos {f : Nat → Int} {n : Nat} {a : Int} (h : (rdVar f n a).2.2 = true) : a < (rdVar f n a).2.1 ∧ (rdVar f n a).2.1 ≤ n ∧ 0 ≤ a := by
  unfold rdVar at h ⊢
  split at h
  · next hc =>
    rw [if_pos hc]
    have := rv_pos f n a.toNat 10 0 0 (by have := of_decide_eq_true h; simpa [rvAll] using this)
    simp only [rvAll]
    omega
  · simp at h
theorem rdNs_pos {f : Nat → Int} {n : Nat} : ∀ {k : Nat} {N : List Int} {a : Int}, rdNs f n k = some (N, a) → (k : Int) + 1 ≤ a ∧ (0 < k → a ≤ n) ∧ N.length = k
  | 0, N, a, h => by simp only [rdNs, Option.some.injEq, Prod.mk.injEq] at h; obtain ⟨rfl, rfl⟩ := h; simp
  | k + 1, N, a, h => by
    unfold rdNs at h
    split at h
    · cases h
    · next L q hq =>
      split at h
      · next ok =>
        simp only [Option.some.injEq, Prod.mk.injEq] at h
        obtain ⟨rfl, rfl⟩ := h
        have h1 := rdVar_pos ok
        have h2 := rdNs_pos hq
        refine ⟨by omega, fun _ => h1.2.1, by rw [List.length_append, h2.2.2]; rfl⟩
      · cases h

/-- The bytes f of length n are those of an agg with the numbers N. -/
def RAg (f : Nat → Int) (n : Nat) (N : List Int) : Prop :=
  rdNs f n 12 = some (N, (n : Int)) ∧ f 0 ≤ 1 ∧ GoodA (fi N 0) (fi N 1) (fi N 2) (fi N 3) 8 (fun i => fi N (i + 4)) (f 0 == 1)
theorem RAg.inj {f : Nat → Int} {n : Nat} {N N' : List Int} (h : RAg f n N) (h' : RAg f n N') : N = N' := by
  have := h.1.symm.trans h'.1
  simp only [Option.some.injEq, Prod.mk.injEq] at this
  exact this.1
/-- What ReadAgg leaves in the program. -/
def RAO (f : Nat → Int) (n : Nat) (w : World) (e : Ending) (w' : World) : Prop :=
  (∃ N G c, RAg f n N ∧ e = .returned (.tuple #[.agg #[.int .i64 (fi N 0), .int .i64 (fi N 1), .int .i64 (fi N 2), .int .i64 (fi N 3), .slice (some ⟨G, 0, none⟩) 8 c, .bool (f 0 == 1)], .bool true]) ∧ w.heap.size ≤ G ∧ IOwn w' G 0 8 (fun i => fi N (i + 4)) ∧ Below w.heap.size w w') ∨
  ((∀ N, ¬ RAg f n N) ∧ (∃ G c, e = .returned (.tuple #[.agg #[.int .i64 0, .int .i64 0, .int .i64 0, .int .i64 0, .slice (some ⟨G, 0, none⟩) 8 c, .bool false], .bool false])) ∧ Below w.heap.size w w')

theorem app8 (U : World) (B4 : Nat) (g : Nat → Int) (h : ∀ i, i < 12 → U.cell? ⟨B4, i, none⟩ = some (.int .i64 (g i))) (hg : ∀ i, -9223372036854775808 ≤ g i ∧ g i ≤ 9223372036854775807) (lt : B4 < U.heap.size) :
    ∃ c U', (Builtin.append_ #[31, 31] 31 #[.slice none 0 0, .slice (some ⟨B4, 4, none⟩) 8 8]).run Tryz.prog U = .ok (.slice (some ⟨U.heap.size, 0, none⟩) 8 c) U' ∧ IOwn U' U.heap.size 0 8 (fun i => g (i + 4)) ∧ Below U.heap.size U U' := by
  obtain ⟨i0, hi, hz0, hz1, hz2⟩ := info_parts Tryz.infoInt
  obtain ⟨v', U', hrun, hown, hgr, _, hat⟩ := run_append_own_at (P := Tryz.prog) U U.heap.size 31 31 3 i0 (.int .i64 0) 1 8 Tryz.underlying31 hi hz0 hz1 hz2 rfl (by decide) (.slice none 0 0) 0 [] (World.ownsRow_nil _ _ _ _) ⟨B4, 4, none⟩ 8 8 ((List.range 8).map fun i => Value.int .i64 (g (i + 4))) (by simp) (fun j u hj => by
      have hlt : j < 8 := by
        have := (List.getElem?_eq_some_iff.1 hj).1
        simpa using this
      rw [Addr.add_lit, h (4 + j) (by omega), ← hj]
      simp [hlt, Nat.add_comm]) (fun u hu => by obtain ⟨i, _, rfl⟩ := List.mem_map.1 hu; rfl) (by unfold maxLen; omega) (by omega) (Nat.le_refl _)
  rcases hown.2 with ⟨_, h0⟩ | ⟨G, c, cur, rfl, hbg, hgb, hnc, _⟩
  · omega
  · have hG : G = U.heap.size := by
      rcases hat with e | e
      · simp [Value.ownBlock] at e
      · simpa [Value.ownBlock] using e
    subst hG
    refine ⟨c, U', hrun, ⟨fun i => hg _, (Array.getElem?_eq_some_iff.1 hgb).1, fun i hi => ?_, fun i _ => by simpa using hown.frozenAt i⟩, ⟨hgr.os, hgr.tape, hgr.output, hgr.size, fun k hk => hgr.block k hk (by simp [Value.ownBlock])⟩⟩
    rw [Nat.zero_add, hown.cellAt i (by omega)]
    simp [hi]

set_option maxHeartbeats 4000000 in
theorem readAgg_impl (ao : Option Addr) (n cap : Nat) (f : Nat → Int) (w : World) (hr : Row w ao n f) (hn : n ≤ 1048576) (hcap : n ≤ cap) :
    Calls Tryz.prog 144 #[.slice ao n cap] w fun e w' => RAO f n w e w' := by
  have hB0 := below_new w (.cells #[.int .i64 0, .int .i64 0, .int .i64 0, .int .i64 0, .slice none 0 0, .bool false] 33)
  have R0 := AAt.new w 0 0 0 0 (.slice none 0 0) false 33
  have F0 : ∀ j, (w.alloc (.cells #[.int .i64 0, .int .i64 0, .int .i64 0, .int .i64 0, .slice none 0 0, .bool false] 33)).frozen? ⟨w.heap.size, j, none⟩ = false := fun j => by simp [go_sem]
  have hs0 : w.heap.size < (w.alloc (.cells #[.int .i64 0, .int .i64 0, .int .i64 0, .int .i64 0, .slice none 0 0, .bool false] 33)).heap.size := by simp
  have hcall := readAggNumbers_any ao n cap f _ (hr.keep hB0) hn hcap
  go_enter Tryz.func144, Tryz.ntmps144
  go_wp2_with fail
  refine hcall.mono ?_
  rintro e w1 ⟨g, ok, rfl, h1, h2, h3, q1⟩
  have R1 := R0.keep q1
  have F1 : ∀ j, w1.frozen? ⟨w.heap.size, j, none⟩ = false := fun j => (q1.frozen (p := ⟨w.heap.size, j, none⟩) hs0).trans (F0 j)
  have bw1 := hB0.trans (q1.mono hB0.size)
  clear hcall R0 F0 q1 hB0 hs0
  unfold arr12
  have hB4 := below_new w1 (.cells #[.int .i64 (g 0), .int .i64 (g 1), .int .i64 (g 2), .int .i64 (g 3), .int .i64 (g 4), .int .i64 (g 5), .int .i64 (g 6), .int .i64 (g 7), .int .i64 (g 8), .int .i64 (g 9), .int .i64 (g 10), .int .i64 (g 11)] 175)
  have I4 : IOwn (w1.alloc (.cells #[.int .i64 (g 0), .int .i64 (g 1), .int .i64 (g 2), .int .i64 (g 3), .int .i64 (g 4), .int .i64 (g 5), .int .i64 (g 6), .int .i64 (g 7), .int .i64 (g 8), .int .i64 (g 9), .int .i64 (g 10), .int .i64 (g 11)] 175)) w1.heap.size 0 12 g := by
    refine ⟨h3, by simp, fun i hi => ?_, fun i hi => by simp [go_sem]⟩
    match i, hi with
    | 0, _ => simp [go_sem]
    | 1, _ => simp [go_sem]
    | 2, _ => simp [go_sem]
    | 3, _ => simp [go_sem]
    | 4, _ => simp [go_sem]
    | 5, _ => simp [go_sem]
    | 6, _ => simp [go_sem]
    | 7, _ => simp [go_sem]
    | 8, _ => simp [go_sem]
    | 9, _ => simp [go_sem]
    | 10, _ => simp [go_sem]
    | 11, _ => simp [go_sem]
  have R4 := R1.keep hB4
  have F4 : ∀ j, (w1.alloc (.cells #[.int .i64 (g 0), .int .i64 (g 1), .int .i64 (g 2), .int .i64 (g 3), .int .i64 (g 4), .int .i64 (g 5), .int .i64 (g 6), .int .i64 (g 7), .int .i64 (g 8), .int .i64 (g 9), .int .i64 (g 10), .int .i64 (g 11)] 175)).frozen? ⟨w.heap.size, j, none⟩ = false := fun j => (hB4.frozen (p := ⟨w.heap.size, j, none⟩) R1.lt).trans (F1 j)
  have bw4 := bw1.trans (hB4.mono bw1.size)
  cases ok
  · have HN : Hid (∀ N, ¬ RAg f n N) := fun N h => by have := (h1 N _ h.1).1; simp at this
    clear h1 h2
    go_upto_region 2 with fail
    generalize w1.alloc (.cells #[.int .i64 (g 0), .int .i64 (g 1), .int .i64 (g 2), .int .i64 (g 3), .int .i64 (g 4), .int .i64 (g 5), .int .i64 (g 6), .int .i64 (g 7), .int .i64 (g 8), .int .i64 (g 9), .int .i64 (g 10), .int .i64 (g 11)] 175) = w4 at *
    go_wp2_with fail
    refine (zeroAgg_any _).mono ?_
    rintro e w3 ⟨g3, rfl, hg3, o3, q3⟩
    have R3 := R4.keep q3
    have F3 : ∀ j, w3.frozen? ⟨w.heap.size, j, none⟩ = false := fun j => (q3.frozen (p := ⟨w.heap.size, j, none⟩) R4.lt).trans (F4 j)
    have bw3 := bw4.trans (q3.mono bw4.size)
    have OB7 := (((((OB.set0 (w := w3) ⟨R3, F3, Below.refl _ _⟩ 0).set1 0).set2 0).set3 0).set4 (.slice (some ⟨g3, 0, none⟩) 8 8)).set5 false
    obtain ⟨_, r0, r1, r2, r3, r4, r5⟩ := R3
    go_wp2
    have bw7 := bw3.trans (OB7.bw.mono (Nat.le_refl _))
    generalize (((((w3.setCell ⟨w.heap.size, 0, none⟩ (.int .i64 0)).setCell ⟨w.heap.size, 1, none⟩ (.int .i64 0)).setCell ⟨w.heap.size, 2, none⟩ (.int .i64 0)).setCell ⟨w.heap.size, 3, none⟩ (.int .i64 0)).setCell ⟨w.heap.size, 4, none⟩ (.slice (some ⟨g3, 0, none⟩) 8 8)).setCell ⟨w.heap.size, 5, none⟩ (.bool false) = wF at *
    obtain ⟨_, t0, t1, t2, t3, t4, t5⟩ := OB7.A
    exact bodyPost_ret (v := .tuple #[.agg #[.int .i64 0, .int .i64 0, .int .i64 0, .int .i64 0, .slice (some ⟨g3, 0, none⟩) 8 8, .bool false], .bool false]) (by simp [results, Tryz.results144, go_sem, t0, t1, t2, t3, t4, t5]) rfl (.inr ⟨HN.out, ⟨g3, 8, rfl⟩, bw7⟩)
  · have hex : ∃ N, rdNs f n 12 = some (N, (n : Int)) ∧ ∀ i, g i = fi N i := by
      cases hq : rdNs f n 12 with
      | none => have := h2 hq; simp at this
      | some p =>
        obtain ⟨N, a⟩ := p
        have := h1 N a hq
        exact ⟨N, by rw [of_decide_eq_true this.1.symm], this.2⟩
    obtain ⟨N, hN0, hgN0⟩ := hex
    have hn1 : 13 ≤ n := by have := (rdNs_pos hN0).1; omega
    have hN : Hid (rdNs f n 12 = some (N, (n : Int))) := hN0
    have hgN : Hid (g = fi N) := funext hgN0
    clear h1 h2 hN0 hgN0
    go_upto_region 2 with fail
    generalize w1.alloc (.cells #[.int .i64 (g 0), .int .i64 (g 1), .int .i64 (g 2), .int .i64 (g 3), .int .i64 (g 4), .int .i64 (g 5), .int .i64 (g 6), .int .i64 (g 7), .int .i64 (g 8), .int .i64 (g 9), .int .i64 (g 10), .int .i64 (g 11)] 175) = w4 at *
    obtain ⟨bb, bo, rfl, hbl, hbc⟩ := (hr.keep bw4).lies.resolve_left (by omega)
    have hb0 := hbc 0 (by omega)
    rw [Nat.add_zero] at hb0
    have h0n : 0 < n := by omega
    have hfb := hr.bd 0
    clear hbc
    by_cases h01 : f 0 ≤ 1
    · have h01i : ¬ (1 : Int) < f 0 := by omega
      go_upto_region 4 with fail
      obtain ⟨k0, k1, k2, k3, k4, k5, k6, k7, k8, k9, k10, k11⟩ := I4.twelve
      obtain ⟨cA, UA, hrA, oA, qA⟩ := app8 w4.drew w1.heap.size g (fun i hi => by have := I4.cell i hi; rw [Nat.zero_add] at this; exact this) h3 I4.lt
      obtain ⟨Z, hZ⟩ : ∃ Z : Obj, Z = .cells #[.int .i64 0, .int .i64 0, .int .i64 0, .int .i64 0, .slice none 0 0, .bool false] 33 := ⟨_, rfl⟩
      have hBz := below_new w4.drew Z
      have I4z := (I4.keep (Below.refl _ w4).drew).keep hBz
      obtain ⟨cB, UB, hrB, oB, qB⟩ := app8 (w4.drew.alloc Z) w1.heap.size g (fun i hi => by have := I4z.cell i hi; rw [Nat.zero_add] at this; exact this) h3 I4z.lt
      have AB : AAt UB w4.heap.size 0 0 0 0 (.slice none 0 0) false := by rw [hZ] at qB; exact (AAt.new w4.drew 0 0 0 0 (.slice none 0 0) false 33).keep qB
      have FB : ∀ j, UB.frozen? ⟨w4.heap.size, j, none⟩ = false := fun j => (qB.frozen (p := ⟨w4.heap.size, j, none⟩) (by simp)).trans (by rw [hZ]; simp [go_sem])
      rw [hZ] at hrB
      simp only [World.size_alloc] at hrB oB
      have sz4 : w4.drew.heap.size = w4.heap.size := rfl
      rw [sz4] at hrA oA hrB oB
      obtain ⟨_, e0, e1, e2, e3, e4, e5⟩ := AB
      go_cut [6] from 21 to 35 (fun s6 wx => ∃ B6 Gx c, s6 = .pointer (some ⟨B6, 0, none⟩) ∧ AAt wx B6 (g 0) (g 1) (g 2) (g 3) (.slice (some ⟨Gx, 0, none⟩) 8 c) (f 0 == 1) ∧ IOwn wx Gx 0 8 (fun i => g (i + 4)) ∧ w4.heap.size ≤ Gx ∧ w4.heap.size ≤ B6 ∧ B6 ≠ Gx ∧ Below w4.heap.size w4 wx)
      case first =>
        have hl1 := I4.lt
        have n1 : w1.heap.size ≠ w4.heap.size := by omega
        have n2 : bb ≠ w4.heap.size := by omega
        have n3 : ¬ w4.heap.size = w1.heap.size := by omega
        have n4 : ¬ w4.heap.size = bb := by omega
        have a0 : UA.cell? ⟨w1.heap.size, 0, none⟩ = some (.int .i64 (g 0)) := (qA.cell (p := ⟨w1.heap.size, 0, none⟩) hl1).trans k0
        have a1 : UA.cell? ⟨w1.heap.size, 1, none⟩ = some (.int .i64 (g 1)) := (qA.cell (p := ⟨w1.heap.size, 1, none⟩) hl1).trans k1
        have a2 : UA.cell? ⟨w1.heap.size, 2, none⟩ = some (.int .i64 (g 2)) := (qA.cell (p := ⟨w1.heap.size, 2, none⟩) hl1).trans k2
        have a3 : UA.cell? ⟨w1.heap.size, 3, none⟩ = some (.int .i64 (g 3)) := (qA.cell (p := ⟨w1.heap.size, 3, none⟩) hl1).trans k3
        have a4 : UA.cell? ⟨bb, bo, none⟩ = some (.int .u8 (f 0)) := (qA.cell (p := ⟨bb, bo, none⟩) hbl).trans hb0
        have qB' : Below w4.heap.size w4 UB := ((Below.refl _ w4).drew.trans hBz).trans (qB.mono (by simp))
        have b0 : UB.cell? ⟨w1.heap.size, 0, none⟩ = some (.int .i64 (g 0)) := (qB'.cell (p := ⟨w1.heap.size, 0, none⟩) hl1).trans k0
        have b1 : UB.cell? ⟨w1.heap.size, 1, none⟩ = some (.int .i64 (g 1)) := (qB'.cell (p := ⟨w1.heap.size, 1, none⟩) hl1).trans k1
        have b2 : UB.cell? ⟨w1.heap.size, 2, none⟩ = some (.int .i64 (g 2)) := (qB'.cell (p := ⟨w1.heap.size, 2, none⟩) hl1).trans k2
        have b3 : UB.cell? ⟨w1.heap.size, 3, none⟩ = some (.int .i64 (g 3)) := (qB'.cell (p := ⟨w1.heap.size, 3, none⟩) hl1).trans k3
        have b4 : UB.cell? ⟨bb, bo, none⟩ = some (.int .u8 (f 0)) := (qB'.cell (p := ⟨bb, bo, none⟩) hbl).trans hb0
        have EA : AAt (UA.alloc (.cells #[.int .i64 (g 0), .int .i64 (g 1), .int .i64 (g 2), .int .i64 (g 3), .slice (some ⟨w4.heap.size, 0, none⟩) 8 cA, .bool (f 0 == 1)] 33)) UA.heap.size (g 0) (g 1) (g 2) (g 3) (.slice (some ⟨w4.heap.size, 0, none⟩) 8 cA) (f 0 == 1) := AAt.new UA _ _ _ _ _ _ _
        have qA' : Below w4.heap.size w4 UA := (Below.refl _ w4).drew.trans qA
        have hlA := oA.lt
        have OBx := (((((OB.set0 (w := UB) ⟨⟨by assumption, e0, e1, e2, e3, e4, e5⟩, FB, Below.refl _ _⟩ (g 0)).set1 (g 1)).set2 (g 2)).set3 (g 3)).set4 (.slice (some ⟨w4.heap.size + 1, 0, none⟩) 8 cB)).set5 (f 0 == 1)
        have OtB : Others w4.heap.size UB ((((((UB.setCell ⟨w4.heap.size, 0, none⟩ (.int .i64 (g 0))).setCell ⟨w4.heap.size, 1, none⟩ (.int .i64 (g 1))).setCell ⟨w4.heap.size, 2, none⟩ (.int .i64 (g 2))).setCell ⟨w4.heap.size, 3, none⟩ (.int .i64 (g 3))).setCell ⟨w4.heap.size, 4, none⟩ (.slice (some ⟨w4.heap.size + 1, 0, none⟩) 8 cB)).setCell ⟨w4.heap.size, 5, none⟩ (.bool (f 0 == 1))) := (((((Others.setCell _ _ _ _).trans (Others.setCell _ _ _ _)).trans (Others.setCell _ _ _ _)).trans (Others.setCell _ _ _ _)).trans (Others.setCell _ _ _ _)).trans (Others.setCell _ _ _ _)
        go_region_held3 (fun w' => w'.cell? ⟨w1.heap.size, 0, none⟩ = some (.int .i64 (g 0)) ∧ w'.cell? ⟨w1.heap.size, 1, none⟩ = some (.int .i64 (g 1)) ∧ w'.cell? ⟨w1.heap.size, 2, none⟩ = some (.int .i64 (g 2)) ∧ w'.cell? ⟨w1.heap.size, 3, none⟩ = some (.int .i64 (g 3)) ∧ w'.cell? ⟨bb, bo, none⟩ = some (.int .u8 (f 0))) (go_keep) (first | (refine step_append_ty (by rfl) (.const (.slice none 0 0)) (.tmp 29) 31 31 (by rfl) (by rfl) (.slice none 0 0) (.slice (some ⟨w1.heap.size, 4, none⟩) 8 8) (.slice (some ⟨w4.heap.size, 0, none⟩) 8 cA) (by simp [Act.eval, Act.put]) (by simp [Act.eval, Act.put]) UA hrA ?_) | (refine step_append_ty (by rfl) (.const (.slice none 0 0)) (.tmp 29) 31 31 (by rfl) (by rfl) (.slice none 0 0) (.slice (some ⟨w1.heap.size, 4, none⟩) 8 8) (.slice (some ⟨w4.heap.size + 1, 0, none⟩) 8 cB) (by simp [Act.eval, Act.put]) (by simp [Act.eval, Act.put]) UB hrB ?_) | fail)
        all_goals
          go_wp2_with fail
          go_meet
        · exact ⟨UA.heap.size, w4.heap.size, cA, rfl, EA, oA.keep (below_new _ _), Nat.le_refl _, qA'.size, by omega, qA'.trans ((below_new UA _).mono qA'.size)⟩
        · exact ⟨w4.heap.size, w4.heap.size + 1, cB, rfl, OBx.A, iown_others oB OtB (by omega), by omega, Nat.le_refl _, by omega, qB'.trans (OtB.below (Nat.le_refl _))⟩
      case rest =>
        obtain ⟨B6, Gx, cx, rfl, A6, o6, hG6, hB6, hne6, q6⟩ := hcut
        generalize wc = w6 at *
        clear hrA oA qA hrB oB qB hBz I4z FB e0 e1 e2 e3 e4 e5 k0 k1 k2 k3 k4 k5 k6 k7 k8 k9 k10 k11 hZ hb0
        have R6 := R4.keep q6
        have F6 : ∀ j, w6.frozen? ⟨w.heap.size, j, none⟩ = false := fun j => (q6.frozen (p := ⟨w.heap.size, j, none⟩) R4.lt).trans (F4 j)
        have bw6 := bw4.trans (q6.mono bw4.size)
        have hgc := goodAgg_impl (g 0) (g 1) (g 2) (g 3) (some ⟨Gx, 0, none⟩) 8 cx (fun i => g (i + 4)) (f 0 == 1) w6 o6.row
        obtain ⟨_, x0, x1, x2, x3, x4, x5⟩ := A6
        have A6 : AAt w6 B6 (g 0) (g 1) (g 2) (g 3) (.slice (some ⟨Gx, 0, none⟩) 8 cx) (f 0 == 1) := ⟨by assumption, x0, x1, x2, x3, x4, x5⟩
        obtain ⟨fu, hfu⟩ : ∃ fu : Bool, (f 0 == 1) = fu := ⟨_, rfl⟩
        have HFU : Hid ((f 0 == 1) = fu) := hfu
        rw [hfu] at A6 x5 hgc
        clear hfu
        go_wp2_with fail
        refine (hgc (by omega) (h3 1)).mono ?_
        rintro e w7 ⟨bx, rfl, hgood, q7⟩
        have R7 := R6.keep q7
        have F7 : ∀ j, w7.frozen? ⟨w.heap.size, j, none⟩ = false := fun j => (q7.frozen (p := ⟨w.heap.size, j, none⟩) R6.lt).trans (F6 j)
        have bw7x := bw6.trans (q7.mono bw6.size)
        have A7 := A6.keep q7
        have o7 := o6.keep q7
        clear hgc A6 o6 x0 x1 x2 x3 x4 x5 R6 F6
        cases bx
        · have HN : Hid (∀ N', ¬ RAg f n N') := fun N' h => by
            have e : N' = N := by have := h.1.symm.trans hN.out; simp only [Option.some.injEq, Prod.mk.injEq] at this; exact this.1
            subst e
            have := h.2.2
            rw [HFU.out, ← hgN.out] at this
            simpa using hgood.2 this
          clear hgood A7 o7
          go_wp2_with fail
          refine (zeroAgg_any _).mono ?_
          rintro e w3 ⟨g3, rfl, hg3, o3, q3⟩
          have R3 := R7.keep q3
          have F3 : ∀ j, w3.frozen? ⟨w.heap.size, j, none⟩ = false := fun j => (q3.frozen (p := ⟨w.heap.size, j, none⟩) R7.lt).trans (F7 j)
          have bw3 := bw7x.trans (q3.mono bw7x.size)
          have OB7 := (((((OB.set0 (w := w3) ⟨R3, F3, Below.refl _ _⟩ 0).set1 0).set2 0).set3 0).set4 (.slice (some ⟨g3, 0, none⟩) 8 8)).set5 false
          obtain ⟨_, r0, r1, r2, r3, r4, r5⟩ := R3
          go_wp2
          have bw7 := bw3.trans (OB7.bw.mono (Nat.le_refl _))
          generalize (((((w3.setCell ⟨w.heap.size, 0, none⟩ (.int .i64 0)).setCell ⟨w.heap.size, 1, none⟩ (.int .i64 0)).setCell ⟨w.heap.size, 2, none⟩ (.int .i64 0)).setCell ⟨w.heap.size, 3, none⟩ (.int .i64 0)).setCell ⟨w.heap.size, 4, none⟩ (.slice (some ⟨g3, 0, none⟩) 8 8)).setCell ⟨w.heap.size, 5, none⟩ (.bool false) = wF at *
          obtain ⟨_, t0, t1, t2, t3, t4, t5⟩ := OB7.A
          exact bodyPost_ret (v := .tuple #[.agg #[.int .i64 0, .int .i64 0, .int .i64 0, .int .i64 0, .slice (some ⟨g3, 0, none⟩) 8 8, .bool false], .bool false]) (by simp [results, Tryz.results144, go_sem, t0, t1, t2, t3, t4, t5]) rfl (.inr ⟨HN.out, ⟨g3, 8, rfl⟩, bw7⟩)
        · have HY : Hid (RAg f n N) := ⟨hN.out, h01, by rw [HFU.out, ← hgN.out]; exact hgood.1 rfl⟩
          clear hgood
          have OB8 := (((((OB.set0 (w := w7) ⟨R7, F7, Below.refl _ _⟩ (g 0)).set1 (g 1)).set2 (g 2)).set3 (g 3)).set4 (.slice (some ⟨Gx, 0, none⟩) 8 cx)).set5 fu
          obtain ⟨_, r0, r1, r2, r3, r4, r5⟩ := R7
          obtain ⟨_, x0, x1, x2, x3, x4, x5⟩ := A7
          go_wp2
          have Ot8 : Others w.heap.size w7 ((((((w7.setCell ⟨w.heap.size, 0, none⟩ (.int .i64 (g 0))).setCell ⟨w.heap.size, 1, none⟩ (.int .i64 (g 1))).setCell ⟨w.heap.size, 2, none⟩ (.int .i64 (g 2))).setCell ⟨w.heap.size, 3, none⟩ (.int .i64 (g 3))).setCell ⟨w.heap.size, 4, none⟩ (.slice (some ⟨Gx, 0, none⟩) 8 cx)).setCell ⟨w.heap.size, 5, none⟩ (.bool fu)) := (((((Others.setCell _ _ _ _).trans (Others.setCell _ _ _ _)).trans (Others.setCell _ _ _ _)).trans (Others.setCell _ _ _ _)).trans (Others.setCell _ _ _ _)).trans (Others.setCell _ _ _ _)
          have hGw : w.heap.size < Gx := by have := R4.lt; omega
          have o8 := iown_others o7 Ot8 (by omega)
          have bw8 := bw7x.trans (OB8.bw.mono (Nat.le_refl _))
          generalize (((((w7.setCell ⟨w.heap.size, 0, none⟩ (.int .i64 (g 0))).setCell ⟨w.heap.size, 1, none⟩ (.int .i64 (g 1))).setCell ⟨w.heap.size, 2, none⟩ (.int .i64 (g 2))).setCell ⟨w.heap.size, 3, none⟩ (.int .i64 (g 3))).setCell ⟨w.heap.size, 4, none⟩ (.slice (some ⟨Gx, 0, none⟩) 8 cx)).setCell ⟨w.heap.size, 5, none⟩ (.bool fu) = wF at *
          obtain ⟨_, t0, t1, t2, t3, t4, t5⟩ := OB8.A
          refine bodyPost_ret (v := .tuple #[.agg #[.int .i64 (g 0), .int .i64 (g 1), .int .i64 (g 2), .int .i64 (g 3), .slice (some ⟨Gx, 0, none⟩) 8 cx, .bool fu], .bool true]) (by simp [results, Tryz.results144, go_sem, t0, t1, t2, t3, t4, t5]) rfl (.inl ⟨N, Gx, cx, HY.out, ?_, by omega, ?_, bw8⟩)
          · rw [HFU.out, ← hgN.out]
          · rw [← hgN.out]; exact o8
    · have HN : Hid (∀ N, ¬ RAg f n N) := fun N h => h01 h.2.1
      have h01i : (1 : Int) < f 0 := by omega
      go_wp2_with fail
      refine (zeroAgg_any _).mono ?_
      rintro e w3 ⟨g3, rfl, hg3, o3, q3⟩
      have R3 := R4.keep q3
      have F3 : ∀ j, w3.frozen? ⟨w.heap.size, j, none⟩ = false := fun j => (q3.frozen (p := ⟨w.heap.size, j, none⟩) R4.lt).trans (F4 j)
      have bw3 := bw4.trans (q3.mono bw4.size)
      have OB7 := (((((OB.set0 (w := w3) ⟨R3, F3, Below.refl _ _⟩ 0).set1 0).set2 0).set3 0).set4 (.slice (some ⟨g3, 0, none⟩) 8 8)).set5 false
      obtain ⟨_, r0, r1, r2, r3, r4, r5⟩ := R3
      go_wp2
      have bw7 := bw3.trans (OB7.bw.mono (Nat.le_refl _))
      generalize (((((w3.setCell ⟨w.heap.size, 0, none⟩ (.int .i64 0)).setCell ⟨w.heap.size, 1, none⟩ (.int .i64 0)).setCell ⟨w.heap.size, 2, none⟩ (.int .i64 0)).setCell ⟨w.heap.size, 3, none⟩ (.int .i64 0)).setCell ⟨w.heap.size, 4, none⟩ (.slice (some ⟨g3, 0, none⟩) 8 8)).setCell ⟨w.heap.size, 5, none⟩ (.bool false) = wF at *
      obtain ⟨_, t0, t1, t2, t3, t4, t5⟩ := OB7.A
      exact bodyPost_ret (v := .tuple #[.agg #[.int .i64 0, .int .i64 0, .int .i64 0, .int .i64 0, .slice (some ⟨g3, 0, none⟩) 8 8, .bool false], .bool false]) (by simp [results, Tryz.results144, go_sem, t0, t1, t2, t3, t4, t5]) rfl (.inr ⟨HN.out, ⟨g3, 8, rfl⟩, bw7⟩)
end Go.Proofs.YtohjjigkfdhklaaGreat
namespace Go.Proofs.YtohjjigkfdhklaaGreat
set_option maxRecDepth 100000
open Go.RowKit
set_option linter.unusedSimpArgs false
set_option linter.unusedVariables false

/-- A reader of the bytes at ao in block B, at place q, torn or not. -/
structure BR (w : World) (B : Nat) (ao : Option Addr) (n cap q : Nat) (t : Bool) : Prop where
  lt : B < w.heap.size
  c0 : w.cell? ⟨B, 0, none⟩ = some (.slice ao n cap)
  c1 : w.cell? ⟨B, 1, none⟩ = some (.int .i64 (q : Int))
  c2 : w.cell? ⟨B, 2, none⟩ = some (.bool t)
  fz : ∀ j, w.frozen? ⟨B, j, none⟩ = false
section
variable {w w' : World} {B : Nat} {ao : Option Addr} {n cap q : Nat} {t : Bool}
theorem BR.keep (h : BR w B ao n cap q t) (hb : Below w.heap.size w w') : BR w' B ao n cap q t :=
  ⟨Nat.lt_of_lt_of_le h.lt hb.size, (hb.cell (p := ⟨B, 0, none⟩) h.lt).trans h.c0, (hb.cell (p := ⟨B, 1, none⟩) h.lt).trans h.c1, (hb.cell (p := ⟨B, 2, none⟩) h.lt).trans h.c2, fun j => (hb.frozen (p := ⟨B, j, none⟩) h.lt).trans (h.fz j)⟩
theorem BR.set1 (h : BR w B ao n cap q t) (p : Nat) : BR (w.setCell ⟨B, 1, none⟩ (.int .i64 (p : Int))) B ao n cap p t :=
  ⟨by simpa using h.lt, (World.cell?_setCell_other _ _ _ _ (by simp)).trans h.c0, World.cell?_setCell_same _ _ _ h.c1, (World.cell?_setCell_other _ _ _ _ (by simp)).trans h.c2, fun j => by simpa using h.fz j⟩
theorem BR.set2 (h : BR w B ao n cap q t) (s : Bool) : BR (w.setCell ⟨B, 2, none⟩ (.bool s)) B ao n cap q s :=
  ⟨by simpa using h.lt, (World.cell?_setCell_other _ _ _ _ (by simp)).trans h.c0, (World.cell?_setCell_other _ _ _ _ (by simp)).trans h.c1, World.cell?_setCell_same _ _ _ h.c2, fun j => by simpa using h.fz j⟩
end
/-- A number at place q, and the place behind it. -/
def rdNum (f : Nat → Int) (n q : Nat) : Option (Int × Nat) := if (rdVar f n q).2.2 = true ∧ (rdVar f n q).1 ≤ 9223372036854775807 then some ((rdVar f n q).1, (rdVar f n q).2.1.toNat) else none
theorem rdNum_pos {f : Nat → Int} {n q q' : Nat} {u : Int} (h : rdNum f n q = some (u, q')) : q < q' ∧ q' ≤ n ∧ 0 ≤ u ∧ u ≤ 9223372036854775807 := by
  unfold rdNum at h
  split at h
  · next hc =>
    simp only [Option.some.injEq, Prod.mk.injEq] at h
    have h1 := rdVar_pos hc.1
    have h2 := rdVar_bd f n q
    omega
  · cases h
/-- What a step of the reader leaves: what is answered, the place and whether it is torn. -/
def NumR (f : Nat → Int) (B : Nat) (ao : Option Addr) (n cap q : Nat) (t : Bool) (w : World) (e : Ending) (w' : World) : Prop :=
  ((∃ u q', rdNum f n q = some (u, q') ∧ e = .returned (.int .i64 u) ∧ BR w' B ao n cap q' t) ∨ (rdNum f n q = none ∧ e = .returned (.int .i64 0) ∧ BR w' B ao n cap q true)) ∧ Mid B (B + 1) w w'

set_option maxHeartbeats 3200000 in
theorem number_any (f : Nat → Int) (B : Nat) (ao : Option Addr) (n cap q : Nat) (t : Bool) (w : World) (hB : BR w B ao n cap q t) (hr : Row w ao n f) (hn : n ≤ 1048576) (hcap : n ≤ cap) :
    Calls Tryz.prog 127 #[.pointer (some ⟨B, 0, none⟩)] w fun e w' => NumR f B ao n cap q t w e w' := by
  have hcall := fun W h => readVar_impl ao n cap f (q : Int) W h hn hcap
  have hv := rdVar_bd f n (q : Int)
  have hN : Hid (rdNum f n q = if (rdVar f n q).2.2 = true ∧ (rdVar f n q).1 ≤ 9223372036854775807 then some ((rdVar f n q).1, (rdVar f n q).2.1.toNat) else none) := rfl
  have hP : Hid ((rdVar f n (q : Int)).2.2 = true → (q : Int) < (rdVar f n (q : Int)).2.1 ∧ (rdVar f n (q : Int)).2.1 ≤ n) := fun h => ⟨(rdVar_pos h).1, (rdVar_pos h).2.1⟩
  obtain ⟨_, c0, c1, c2, fz⟩ := hB
  have hB : BR w B ao n cap q t := ⟨by assumption, c0, c1, c2, fz⟩
  generalize rdVar f n (q : Int) = R at *
  obtain ⟨u, q2, ok⟩ := R
  simp only at hcall hv hN hP
  go_enter Tryz.func127, Tryz.ntmps127
  go_wp2
  go_region_held3 (fun w' => w'.cell? ⟨B, 0, none⟩ = some (.slice ao n cap) ∧ w'.cell? ⟨B, 1, none⟩ = some (.int .i64 (q : Int))) (go_keep) (first | (go_at_call 143; refine (hcall _ (hr.keep (Below.refl _ _).drew)).mono ?_; rintro e w1 ⟨rfl, q1⟩; have bw1 : Below w.heap.size w w1 := (Below.refl _ w).drew.trans q1; have B1 := hB.keep bw1; have B1' := B1; obtain ⟨_, d0, d1, d2, dz⟩ := B1') | fail)
  have M1 : Mid B (B + 1) w w1 := Mid.of_below bw1
  clear hcall hB c0 c1 c2 fz q1 bw1
  by_cases hk : ok = true ∧ u ≤ 9223372036854775807
  · obtain ⟨rfl, hu⟩ := hk
    obtain ⟨h1, h2⟩ := hP.out rfl
    have HS : Hid (rdNum f n q = some (u, q2.toNat)) := by unfold Hid; rw [hN.out, if_pos ⟨rfl, hu⟩]
    have hui : ¬ (9223372036854775807 : Int) < u := by omega
    have hwu : IntKind.i64.wrap u = u := by rw [IntKind.wrap_i64]; omega
    obtain ⟨q3, rfl⟩ : ∃ q3 : Nat, q2 = (q3 : Int) := ⟨q2.toNat, by omega⟩
    have B2 := B1.set1 q3
    have M2 := M1.trans (Mid.of_others (Others.setCell w1 B 1 (.int .i64 (q3 : Int))) (Nat.le_refl _) (Nat.lt_succ_self _))
    clear hN hP
    go_wp2
    go_ret
    exact ⟨.inl ⟨u, q3, by rw [HS.out]; rfl, rfl, B2⟩, M2⟩
  · have HS : Hid (rdNum f n q = none) := by unfold Hid; rw [hN.out, if_neg hk]
    have B2 := B1.set2 true
    have M2 := M1.trans (Mid.of_others (Others.setCell w1 B 2 (.bool true)) (Nat.le_refl _) (Nat.lt_succ_self _))
    cases ok
    · clear hN hP hk
      go_wp2
      go_ret
      exact ⟨.inr ⟨HS.out, rfl, B2⟩, M2⟩
    · have hui : (9223372036854775807 : Int) < u := by
        by_cases h : u ≤ 9223372036854775807
        · exact absurd ⟨rfl, h⟩ hk
        · omega
      clear hN hP hk
      go_wp2
      go_ret
      exact ⟨.inr ⟨HS.out, rfl, B2⟩, M2⟩
end Go.Proofs.YtohjjigkfdhklaaGreat
