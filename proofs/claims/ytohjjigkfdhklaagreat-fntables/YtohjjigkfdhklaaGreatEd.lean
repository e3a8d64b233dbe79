/- The model's reading of entries. -/
import Derived.Test.YtohjjigkfdhklaaGreatEb
import Derived.Test.YtohjjigkfdhklaaGreatEc
import Derived.BigFrame
namespace Go.Proofs.YtohjjigkfdhklaaGreat
set_option maxRecDepth 100000
open Go.RowKit
set_option linter.unusedSimpArgs false
set_option linter.unusedVariables false

/-- What l7Entries leaves. -/
def L7O (f : Nat → Int) (n m : Nat) (w : World) (e : Ending) (w' : World) : Prop :=
  (∃ X V v q, RdK f n X m q ∧ e = .returned (.tuple #[v, .bool true]) ∧ OutH w' w.heap.size v m X V ∧ Below w.heap.size w w') ∨
  (e = .returned (.tuple #[.slice none 0 0, .bool false]) ∧ NoG f n m ∧ Below w.heap.size w w')
def L7s (f : Nat → Int) (n m : Nat) (w : World) (v a s : Value) (wr : World) : Prop :=
  ∃ (k q : Nat) (sh : ByteArray) (lo : Option Addr) (lc : Nat) (X : Nat → Ent) (V : Nat → Value), v = .slice lo k lc ∧ a = .int .i64 (q : Nat) ∧ s = .string sh ∧ k ≤ m ∧ q ≤ n ∧ sh.size ≤ q ∧ Hid (RdK f n X k q) ∧ Hid (k = 0 ∨ sh = (X (k - 1)).key) ∧ OutH wr w.heap.size (.slice lo k lc) k X V ∧ Below w.heap.size w wr
section
variable {w : World} {ops : Array Oper} {o : Oper} {a : Act} {K : Act → World → Prop} {Q : Exit → Act → World → Prop} {E : Prop}
theorem step_allocE9 (hgd : o.guard = none) (ho : o.op = .alloc 35)
    (h : K (a.put o.dst (.pointer (some ⟨w.heap.size, 0, none⟩))) (w.alloc (.cells #[.string ⟨#[]⟩, .int .i64 0, .int .i64 0, .int .i64 0, .int .i64 0, .int .i64 0, .int .i64 0, .slice none 0 0, .bool false] 35))) :
    if Region.wanted o (yielded ops a.tmps) = true then Oper.wp Tryz.prog o a w K Q else E := by
  have hw : Region.wanted o (yielded ops a.tmps) = true := by simp [Region.wanted, hgd]
  rw [if_pos hw]
  unfold Oper.wp execOp
  simp only [ho]
  go_simp
  exact h
def z9 (j : Nat) : Value := if j = 0 then .string ⟨#[]⟩ else if j = 7 then .slice none 0 0 else if j = 8 then .bool false else .int .i64 0
theorem V9.zero (w : World) (T : Nat) : V9 (w.alloc (.cells #[.string ⟨#[]⟩, .int .i64 0, .int .i64 0, .int .i64 0, .int .i64 0, .int .i64 0, .int .i64 0, .slice none 0 0, .bool false] T)) w.heap.size z9 := by
  refine ⟨by simp, fun j hj => ?_, fun j => by simp [go_sem]⟩
  match j, hj with
  | 0, _ => simp [go_sem, z9]
  | 1, _ => simp [go_sem, z9]
  | 2, _ => simp [go_sem, z9]
  | 3, _ => simp [go_sem, z9]
  | 4, _ => simp [go_sem, z9]
  | 5, _ => simp [go_sem, z9]
  | 6, _ => simp [go_sem, z9]
  | 7, _ => simp [go_sem, z9]
  | 8, _ => simp [go_sem, z9]
/-- A bare entry, laid. -/
def layE (w : World) (D : Nat) (s : ByteArray) (u kd : Int) : World := ((((((((w.setCell ⟨D, 0, none⟩ (.string s)).setCell ⟨D, 1, none⟩ (.int .i64 u)).setCell ⟨D, 2, none⟩ (.int .i64 kd)).setCell ⟨D, 3, none⟩ (.int .i64 0)).setCell ⟨D, 4, none⟩ (.int .i64 0)).setCell ⟨D, 5, none⟩ (.int .i64 0)).setCell ⟨D, 6, none⟩ (.int .i64 0)).setCell ⟨D, 7, none⟩ (.slice none 0 0)).setCell ⟨D, 8, none⟩ (.bool false)
theorem step_storeE9 (hgd : o.guard = none) (k j : Nat) (ho : o.op = .store 35 (.tmp k) (.tmp j)) (D : Nat) (s : ByteArray) (u kd : Int) (hx : a.eval (.tmp k) = .pointer (some ⟨D, 0, none⟩)) (hv : a.eval (.tmp j) = .agg #[.string s, .int .i64 u, .int .i64 kd, .int .i64 0, .int .i64 0, .int .i64 0, .int .i64 0, .slice none 0 0, .bool false]) (Z : V9 w D z9)
    (h : K (a.put o.dst undef) (layE w D s u kd)) :
    if Region.wanted o (yielded ops a.tmps) = true then Oper.wp Tryz.prog o a w K Q else E := by
  have hw : Region.wanted o (yielded ops a.tmps) = true := by simp [Region.wanted, hgd]
  rw [if_pos hw]
  have hx' : a.tmps.getD k undef = .pointer (some ⟨D, 0, none⟩) := hx
  have hv' : a.tmps.getD j undef = .agg #[.string s, .int .i64 u, .int .i64 kd, .int .i64 0, .int .i64 0, .int .i64 0, .int .i64 0, .slice none 0 0, .bool false] := hv
  have v0 := Z.cell 0 (by decide)
  have v1 := Z.cell 1 (by decide)
  have v2 := Z.cell 2 (by decide)
  have v3 := Z.cell 3 (by decide)
  have v4 := Z.cell 4 (by decide)
  have v5 := Z.cell 5 (by decide)
  have v6 := Z.cell 6 (by decide)
  have v7 := Z.cell 7 (by decide)
  have v8 := Z.cell 8 (by decide)
  have vz := Z.fz
  unfold layE at h
  unfold Oper.wp execOp
  simp only [ho, Act.eval, hx', hv']
  go_simp
  exact h
end
/-- An entry in a box that may be written. -/
structure EBx (w : World) (D : Nat) (x : Ent) (ao : Option Addr) (c : Nat) : Prop where
  at' : EAt w D 0 x ao c
  fz : ∀ j, w.frozen? ⟨D, j, none⟩ = false
theorem layE_ebx {w : World} {D : Nat} (s : ByteArray) (u kd : Int) (g : Nat → Int) (Z : V9 w D z9) : EBx (layE w D s u kd) D ⟨s, u, kd, 0, 0, 0, 0, 0, g, false⟩ none 0 ∧ Others D w (layE w D s u kd) := by
  obtain ⟨W, hW, x0, x1, x2, x3, x4, x5, x6, x7, x8, ho⟩ := Z.all (.string s) (.int .i64 u) (.int .i64 kd) (.int .i64 0) (.int .i64 0) (.int .i64 0) (.int .i64 0) (.slice none 0 0) (.bool false)
  have e : layE w D s u kd = W := hW
  rw [e]
  refine ⟨⟨⟨by rw [ho.size]; exact Z.lt, x0, x1, x2, x3, x4, x5, x6, x7, x8⟩, fun j => ?_⟩, ho⟩
  rw [← hW]
  simp only [World.frozen?_setCell]
  exact Z.fz j
theorem EBx.keep {w w' : World} {D : Nat} {x : Ent} {ao : Option Addr} {c : Nat} (h : EBx w D x ao c) (hb : Below w.heap.size w w') : EBx w' D x ao c :=
  ⟨h.at'.keep hb, fun j => (hb.frozen (p := ⟨D, j, none⟩) h.at'.lt).trans (h.fz j)⟩

/-- An agg laid into an entry. -/
def layG (w : World) (D : Nat) (N : List Int) (G c : Nat) (t : Bool) : World := (((((w.setCell ⟨D, 3, none⟩ (.int .i64 (fi N 0))).setCell ⟨D, 4, none⟩ (.int .i64 (fi N 1))).setCell ⟨D, 5, none⟩ (.int .i64 (fi N 2))).setCell ⟨D, 6, none⟩ (.int .i64 (fi N 3))).setCell ⟨D, 7, none⟩ (.slice (some ⟨G, 0, none⟩) 8 c)).setCell ⟨D, 8, none⟩ (.bool t)
theorem layG_ebx {w : World} {D : Nat} {s : ByteArray} {u kd : Int} {g : Nat → Int} (N : List Int) (G c : Nat) (t : Bool) (h : EBx w D ⟨s, u, kd, 0, 0, 0, 0, 0, g, false⟩ none 0) : EAt (layG w D N G c t) D 0 ⟨s, u, kd, fi N 0, fi N 1, fi N 2, fi N 3, 8, fun i => fi N (i + 4), t⟩ (some ⟨G, 0, none⟩) c ∧ Others D w (layG w D N G c t) := by
  have hot : Others D w (layG w D N G c t) := by
    unfold layG
    exact (((((Others.setCell _ _ _ _).trans (Others.setCell _ _ _ _)).trans (Others.setCell _ _ _ _)).trans (Others.setCell _ _ _ _)).trans (Others.setCell _ _ _ _)).trans (Others.setCell _ _ _ _)
  obtain ⟨lt, x0, x1, x2, x3, x4, x5, x6, x7, x8⟩ := h.at'.z
  refine ⟨⟨by rw [hot.size]; exact lt, ?_, ?_, ?_, ?_, ?_, ?_, ?_, ?_, ?_⟩, hot⟩ <;> (unfold layG; simp [go_sem, x0, x1, x2, x3, x4, x5, x6, x7, x8])

set_option maxRecDepth 100000 in
set_option maxHeartbeats 16000000 in
theorem l7Entries_any (b off n cap : Nat) (f : Nat → Int) (m : Nat) (w : World) (hr : Row w (some ⟨b, off, none⟩) n f) (hbl0 : b < w.heap.size) (hn : n ≤ 8000) (hcap : n < cap) (hm : m ≤ 1000) :
    Calls Tryz.prog 71 #[.slice (some ⟨b, off, none⟩) n cap, .int .i64 (m : Nat)] w fun e w' => L7O f n m w e w' := by
  go_enter Tryz.func71, Tryz.ntmps71
  go_wp2
  go_loopw [6, 7, 8] (fun v a s wr => L7s f n m w v a s wr) (fun v _ _ _ => m - slen v)
  case atStart => exact ⟨0, 0, ⟨#[]⟩, none, 0, fun _ => ⟨⟨#[]⟩, 0, 0, 0, 0, 0, 0, 0, fun _ => 0, false⟩, _, rfl, rfl, rfl, by omega, by omega, by decide, RdK.zero _ _ _, .inl rfl, outH_nil _ _ _, Below.refl _ _⟩
  case round =>
    obtain ⟨k, q, sh, lo, lc, X, V, rfl, rfl, rfl, hk, hq, hsh, HR, HK, hO, bw⟩ := hrel
    have hbs := bw.size
    by_cases hlt : k < m
    rotate_left
    · obtain rfl : k = m := by omega
      have hli : ¬ (k : Int) < (k : Int) := by omega
      go_wp2
      exact bodyPost_ret (v := .tuple #[.slice lo k lc, .bool true]) (by simp [results, Tryz.results71, go_sem]) rfl (.inl ⟨X, V, _, q, HR.out, rfl, hO, bw⟩)
    have hli : (k : Int) < (m : Int) := by omega
    obtain ⟨ah, hah⟩ : ∃ ah, ahR X k = ah := ⟨_, rfl⟩
    have HA : Hid (ahR X k = ah) := hah
    have hahs : ah.size ≤ q := by
      rw [← hah]
      unfold ahR
      split
      · exact Nat.zero_le _
      · next h4 =>
        rcases HK.out with h | h
        · omega
        · rw [← h]; exact hsh
    have HE : Hid (k % 4 = 0 → ah = ⟨#[]⟩) := fun h4 => by rw [← hah]; unfold ahR; rw [if_pos h4]; rfl
    have HE2 : Hid (¬ k % 4 = 0 → sh = ah) := fun h4 => by
      rw [← hah]; unfold ahR; rw [if_neg h4]
      rcases HK.out with h | h
      · omega
      · exact h
    clear hah
    go_upto_if 27 with fail
    go_cut [8] from 27 to 28 (fun s8 wx => s8 = .string ah ∧ wx = wr)
    case first =>
      by_cases hk4 : k % 4 = 0
      · have hb4 : ((k : Int) % 4 == 0) = true := by simp; omega
        have he := HE.out hk4
        clear hk4
        go_wp2
        go_meet
        exact ⟨by rw [he], rfl⟩
      · have hb4 : ((k : Int) % 4 == 0) = false := by simp; omega
        have he := HE2.out hk4
        clear hk4
        go_wp2
        go_meet
        exact ⟨by rw [he], rfl⟩
    case rest =>
      obtain ⟨rfl, hwc⟩ := hcut
      have hwc2 := hwc.symm
      clear hwc
      subst hwc2
      have r0 := hr.keep bw
      go_wp2_with fail
      refine (l1Var_o b off n cap f q _ r0 (by omega) (by omega) hq).mono ?_
      rintro e w1 ⟨u1, r1, rfl, q1, hu1, D1⟩
      have bw1 := bw.trans (q1.mono bw.size)
      have O1 := hO.keep q1
      have hs1 := q1.size
      clear hO r0
      rcases D1 with ⟨rfl, R1⟩ | R1
      · have HN : Hid (NoG f n m) := rdK_stop HR.out hlt (by rw [HA.out]; exact no_a R1)
        go_wp2
        exact bodyPost_ret (v := .tuple #[.slice none 0 0, .bool false]) (by simp [results, Tryz.results71, go_sem]) rfl (.inr ⟨rfl, HN.out, bw1⟩)
      have hr1b : ((r1 : Int) == 0) = false := by have := R1.1; simp; omega
      have hr1n := R1.2.1
      have R1' : Hid (VarR f n q u1 r1) := R1
      go_wp2_with fail
      refine (l1Var_o b off n cap f r1 _ (hr.keep bw1) (by omega) (by omega) (by omega)).mono ?_
      rintro e w2 ⟨u2, r2, rfl, q2, hu2, D2⟩
      have bw2 := bw1.trans (q2.mono bw1.size)
      have O2 := O1.keep q2
      have hs2 := q2.size
      clear O1 q1
      rcases D2 with ⟨rfl, R2⟩ | R2
      · have HN : Hid (NoG f n m) := rdK_stop HR.out hlt (by rw [HA.out]; exact no_b R1 R2)
        go_wp2
        exact bodyPost_ret (v := .tuple #[.slice none 0 0, .bool false]) (by simp [results, Tryz.results71, go_sem]) rfl (.inr ⟨rfl, HN.out, bw2⟩)
      have hr2b : ((r2 : Int) == 0) = false := by have := R2.1; simp; omega
      have hr2n := R2.2.1
      have R2' : Hid (VarR f n r1 u2 r2) := R2
      go_wp2_with fail
      refine (l1Var_o b off n cap f r2 _ (hr.keep bw2) (by omega) (by omega) (by omega)).mono ?_
      rintro e w3 ⟨u3, r3, rfl, q3, hu3, D3⟩
      have bw3 := bw2.trans (q3.mono bw2.size)
      have O3 := O2.keep q3
      have hs3 := q3.size
      clear O2 q2
      rcases D3 with ⟨rfl, R3⟩ | R3
      · have HN : Hid (NoG f n m) := rdK_stop HR.out hlt (by rw [HA.out]; exact no_c R1 R2 R3)
        go_wp2
        exact bodyPost_ret (v := .tuple #[.slice none 0 0, .bool false]) (by simp [results, Tryz.results71, go_sem]) rfl (.inr ⟨rfl, HN.out, bw3⟩)
      have hr3b : ((r3 : Int) == 0) = false := by have := R3.1; simp; omega
      have hr3n := R3.2.1
      have R3' : Hid (VarR f n r2 u3 r3) := R3
      by_cases hd : n ≤ r3
      · have hdi : (n : Int) ≤ (r3 : Int) := by omega
        have HN : Hid (NoG f n m) := rdK_stop HR.out hlt (by rw [HA.out]; exact no_d R1 R2 R3 hd)
        go_wp2
        exact bodyPost_ret (v := .tuple #[.slice none 0 0, .bool false]) (by simp [results, Tryz.results71, go_sem]) rfl (.inr ⟨rfl, HN.out, bw3⟩)
      have hdi : ¬ (n : Int) ≤ (r3 : Int) := by omega
      have hdi2 : (r3 : Int) < (n : Int) := by omega
      have hw3 : IntKind.i64.wrap ((r3 : Int) + 1) = (r3 : Int) + 1 := by rw [IntKind.wrap_i64] <;> omega
      have hcall := l1Var_o b off n cap f (r3 + 1) w3 (hr.keep bw3) (by omega) (by omega) (by omega)
      rw [show ((r3 + 1 : Nat) : Int) = (r3 : Int) + 1 from by omega] at hcall
      go_wp2_with fail
      refine hcall.mono ?_
      rintro e w4 ⟨u4, r4, rfl, q4, hu4, D4⟩
      have bw4 := bw3.trans (q4.mono bw3.size)
      have O4 := O3.keep q4
      have hs4 := q4.size
      clear O3 q3 hcall
      have hO0 : Hid (∀ z, (Value.slice lo k lc).ownBlock = some z → z < w4.heap.size) := fun z hz => (O4.own.lt z hz).2
      rcases D4 with ⟨rfl, R4⟩ | R4
      · have HN : Hid (NoG f n m) := rdK_stop HR.out hlt (by rw [HA.out]; exact no_e R1 R2 R3 R4)
        go_wp2
        exact bodyPost_ret (v := .tuple #[.slice none 0 0, .bool false]) (by simp [results, Tryz.results71, go_sem]) rfl (.inr ⟨rfl, HN.out, bw4⟩)
      have hr4b : ((r4 : Int) == 0) = false := by have := R4.1; simp; omega
      have hr4n := R4.2.1
      have R4' : Hid (VarR f n (r3 + 1) u4 r4) := R4
      have hwa : IntKind.u64.wrap (ah.size : Int) = (ah.size : Int) := by rw [IntKind.wrap_u64]; omega
      have HB := fun h => (no_f (ah := ah) R1 R2 R3 R4 h)
      have HB : Hid ((ah.size < u1 ∨ n < u2 ∨ n < u4 ∨ 1000000000 < u3 ∨ n < r4 + u2 + u4) → NoE f n q ah) := HB
      clear R1 R2 R3 R4
      by_cases hc0 : ah.size < u1
      · have hci : (ah.size : Int) < (u1 : Int) := by omega
        have HN : Hid (NoG f n m) := rdK_stop HR.out hlt (by rw [HA.out]; exact HB.out (.inl (by omega)))
        go_wp2
        exact bodyPost_ret (v := .tuple #[.slice none 0 0, .bool false]) (by simp [results, Tryz.results71, go_sem]) rfl (.inr ⟨rfl, HN.out, bw4⟩)
      have hc0i : ¬ (ah.size : Int) < (u1 : Int) := by omega
      by_cases hc1 : 8000 < u2
      · have hci : (8000 : Int) < (u2 : Int) := by omega
        have HN : Hid (NoG f n m) := rdK_stop HR.out hlt (by rw [HA.out]; exact HB.out (.inr (.inl (by omega))))
        go_wp2
        exact bodyPost_ret (v := .tuple #[.slice none 0 0, .bool false]) (by simp [results, Tryz.results71, go_sem]) rfl (.inr ⟨rfl, HN.out, bw4⟩)
      have hc1i : ¬ (8000 : Int) < (u2 : Int) := by omega
      by_cases hc2 : 8000 < u4
      · have hci : (8000 : Int) < (u4 : Int) := by omega
        have HN : Hid (NoG f n m) := rdK_stop HR.out hlt (by rw [HA.out]; exact HB.out (.inr (.inr (.inl (by omega)))))
        go_wp2
        exact bodyPost_ret (v := .tuple #[.slice none 0 0, .bool false]) (by simp [results, Tryz.results71, go_sem]) rfl (.inr ⟨rfl, HN.out, bw4⟩)
      have hc2i : ¬ (8000 : Int) < (u4 : Int) := by omega
      by_cases hc3 : 1099511627776 < u3
      · have hci : (1099511627776 : Int) < (u3 : Int) := by omega
        have HN : Hid (NoG f n m) := rdK_stop HR.out hlt (by rw [HA.out]; exact HB.out (.inr (.inr (.inr (.inl (by omega))))))
        go_wp2
        exact bodyPost_ret (v := .tuple #[.slice none 0 0, .bool false]) (by simp [results, Tryz.results71, go_sem]) rfl (.inr ⟨rfl, HN.out, bw4⟩)
      have hc3i : ¬ (1099511627776 : Int) < (u3 : Int) := by omega
      have hwu2 : IntKind.i64.wrap (u2 : Int) = (u2 : Int) := by rw [IntKind.wrap_i64] <;> omega
      have hwu4 : IntKind.i64.wrap (u4 : Int) = (u4 : Int) := by rw [IntKind.wrap_i64] <;> omega
      have hws1 : IntKind.i64.wrap ((r4 : Int) + (u2 : Int)) = (r4 : Int) + (u2 : Int) := by rw [IntKind.wrap_i64] <;> omega
      have hws2 : IntKind.i64.wrap ((r4 : Int) + (u2 : Int) + (u4 : Int)) = (r4 : Int) + (u2 : Int) + (u4 : Int) := by rw [IntKind.wrap_i64] <;> omega
      by_cases hc4 : n < r4 + u2 + u4
      · have hci : (n : Int) < (r4 : Int) + (u2 : Int) + (u4 : Int) := by omega
        have HN : Hid (NoG f n m) := rdK_stop HR.out hlt (by rw [HA.out]; exact HB.out (.inr (.inr (.inr (.inr (by omega))))))
        go_wp2
        exact bodyPost_ret (v := .tuple #[.slice none 0 0, .bool false]) (by simp [results, Tryz.results71, go_sem]) rfl (.inr ⟨rfl, HN.out, bw4⟩)
      have hc4i : ¬ (n : Int) < (r4 : Int) + (u2 : Int) + (u4 : Int) := by omega
      have hwu3 : IntKind.i64.wrap (u3 : Int) = (u3 : Int) := by rw [IntKind.wrap_i64] <;> omega
      have rw4 := hr.keep bw4
      obtain ⟨b', o', e, _, hcc⟩ := rw4.lies.resolve_left (by omega)
      injection e with e
      injection e with e1 e2 _
      subst e1 e2
      have cd := hcc r3 (by omega)
      have hfb := hr.bd r3
      have hwf : IntKind.i64.wrap (f r3) = f r3 := by rw [IntKind.wrap_i64] <;> omega
      clear hcc HB
      obtain ⟨K, hK⟩ : ∃ K, strOfNums (segL f r4 u2) = K := ⟨_, rfl⟩
      have HKK : Hid (strOfNums (segL f r4 u2) = K) := hK
      have hcv : ∀ W, Below w4.heap.size w4 W → (convert 22 9 (.slice (some ⟨b, off + r4, none⟩) u2 (cap - r4))).run Tryz.prog W = .ok (.string K) W := fun W hW => by
        have := conv_row W (some ⟨b, off + r4, none⟩) (cap - r4) (segL f r4 u2) ((rw4.keep hW).seg (by omega))
        rw [segL_len, hK] at this
        exact this
      clear hK
      have hKs : K.size ≤ 8000 := by rw [← HKK.out, strOfNums_size, segL_len]; omega
      have hexs : (ah.extract 0 u1).size ≤ 8000 := by rw [ByteArray.size_extract]; omega
      have hcr : ¬ cap = r4 := by omega
      have hqm : r4 + u2 - r4 = u2 := by omega
      have hrc : r4 + u2 ≤ cap := by omega
      have hrn : r4 + u2 ≤ n := by omega
      have hule : u1 ≤ ah.size := by omega
      have hri : (0 : Int) ≤ (r3 : Int) := by omega
      have ht1 : ((r4 : Int) + (u2 : Int)).toNat = r4 + u2 := by omega
      have ht2 : (0 : Int) ≤ (r4 : Int) + (u2 : Int) := by omega
      have ht3 : (r4 : Int) + (u2 : Int) ≤ (cap : Int) := by omega
      have ht4 : u1 + K.size ≤ 9223372036854775807 := by omega
      have ht5 : r4 ≤ r4 + u2 := by omega
      have hr3lt : r3 < n := by omega
      have bd := (Below.refl w4.heap.size w4).drew
      have hblt : b < w4.heap.size := by have := bw4.size; omega
      have HD : Hid (∀ c s lo hi nn g fu, AgE f n (r4 + u2) u4 ⟨ah.extract 0 u1 ++ strOfNums (segL f r4 u2), u3, f r3, c, s, lo, hi, nn, g, fu⟩ → EY f n q ah ⟨ah.extract 0 u1 ++ strOfNums (segL f r4 u2), u3, f r3, c, s, lo, hi, nn, g, fu⟩ (r4 + u2 + u4)) := fun c s lo hi nn g fu hA => ey_yes hr.bd R1'.out R2'.out R3'.out R4'.out hule (by omega) (by omega) (by omega) (by omega) hn c s lo hi nn g fu hA
      have HGo : Hid ((∀ N, ¬ RAg (fun i => f (r4 + u2 + i)) u4 N) → 0 < u4 → NoG f n m) := fun hN h0 => rdK_stop HR.out hlt (by rw [HA.out]; exact no_g R1'.out R2'.out R3'.out R4'.out h0 hN)
      go_upto_region 19 with fail
      go_cut [17] from 98 to 118 (fun s17 wx => s17 = .pointer (some ⟨w4.heap.size, 0, none⟩) ∧ EBx wx w4.heap.size ⟨ah.extract 0 u1 ++ K, u3, f r3, 0, 0, 0, 0, 0, fun _ => 0, false⟩ none 0 ∧ Below w4.heap.size w4 wx)
      case first =>
        refine wp_region_w (fun w' : World => Below w4.heap.size w4 w') (fun _ => true) (by kernel_rfl) ?_
        change wpW _ _ _ _ _ _ 22 _ _ w4.drew
        have hS0 : (fun w' : World => Below w4.heap.size w4 w') w4.drew := bd
        refine wpW_take 0 _ (.string ah) rfl (by kernel_rfl) (by kernel_rfl) (by kernel_rfl) (fun _ _ _ h => h) (by kernel_rfl) (.inl ⟨rfl, fun w' hS' => by go_simp⟩) hS0 ?_
        simp only [Act.put, List.getElem_toArray, List.getElem_cons_succ, List.getElem_cons_zero, List.setIfInBounds_toArray, List.set_cons_zero, List.set_cons_succ]
        refine wpW_take 1 _ (.int .u64 (u1 : Nat)) rfl (by kernel_rfl) (by kernel_rfl) (by kernel_rfl) (fun _ _ _ h => h) (by kernel_rfl) (.inl ⟨rfl, fun w' hS' => by go_simp⟩) hS0 ?_
        simp only [Act.put, List.getElem_toArray, List.getElem_cons_succ, List.getElem_cons_zero, List.setIfInBounds_toArray, List.set_cons_zero, List.set_cons_succ]
        refine wpW_take 2 _ (.string (ah.extract 0 u1)) rfl (by kernel_rfl) (by kernel_rfl) (by kernel_rfl) (fun _ _ _ h => h) (by kernel_rfl) (.inl ⟨rfl, fun w' hS' => by go_simp⟩) hS0 ?_
        simp only [Act.put, List.getElem_toArray, List.getElem_cons_succ, List.getElem_cons_zero, List.setIfInBounds_toArray, List.set_cons_zero, List.set_cons_succ]
        refine wpW_take 3 _ (.slice (some ⟨b, off, none⟩) n cap) rfl (by kernel_rfl) (by kernel_rfl) (by kernel_rfl) (fun _ _ _ h => h) (by kernel_rfl) (.inl ⟨rfl, fun w' hS' => by go_simp⟩) hS0 ?_
        simp only [Act.put, List.getElem_toArray, List.getElem_cons_succ, List.getElem_cons_zero, List.setIfInBounds_toArray, List.set_cons_zero, List.set_cons_succ]
        refine wpW_take 4 _ (.int .i64 (r4 : Nat)) rfl (by kernel_rfl) (by kernel_rfl) (by kernel_rfl) (fun _ _ _ h => h) (by kernel_rfl) (.inl ⟨rfl, fun w' hS' => by go_simp⟩) hS0 ?_
        simp only [Act.put, List.getElem_toArray, List.getElem_cons_succ, List.getElem_cons_zero, List.setIfInBounds_toArray, List.set_cons_zero, List.set_cons_succ]
        refine wpW_take 5 _ (.int .i64 (r4 : Nat)) rfl (by kernel_rfl) (by kernel_rfl) (by kernel_rfl) (fun _ _ _ h => h) (by kernel_rfl) (.inl ⟨rfl, fun w' hS' => by go_simp⟩) hS0 ?_
        simp only [Act.put, List.getElem_toArray, List.getElem_cons_succ, List.getElem_cons_zero, List.setIfInBounds_toArray, List.set_cons_zero, List.set_cons_succ]
        refine wpW_take 6 _ (.int .u64 (u2 : Nat)) rfl (by kernel_rfl) (by kernel_rfl) (by kernel_rfl) (fun _ _ _ h => h) (by kernel_rfl) (.inl ⟨rfl, fun w' hS' => by go_simp⟩) hS0 ?_
        simp only [Act.put, List.getElem_toArray, List.getElem_cons_succ, List.getElem_cons_zero, List.setIfInBounds_toArray, List.set_cons_zero, List.set_cons_succ]
        refine wpW_take 7 _ (.int .i64 (u2 : Nat)) rfl (by kernel_rfl) (by kernel_rfl) (by kernel_rfl) (fun _ _ _ h => h) (by kernel_rfl) (.inl ⟨rfl, fun w' hS' => by go_simp⟩) hS0 ?_
        simp only [Act.put, List.getElem_toArray, List.getElem_cons_succ, List.getElem_cons_zero, List.setIfInBounds_toArray, List.set_cons_zero, List.set_cons_succ]
        refine wpW_take 8 _ (.int .i64 ((r4 : Int) + (u2 : Int))) rfl (by kernel_rfl) (by kernel_rfl) (by kernel_rfl) (fun _ _ _ h => h) (by kernel_rfl) (.inl ⟨rfl, fun w' hS' => by go_simp⟩) hS0 ?_
        simp only [Act.put, List.getElem_toArray, List.getElem_cons_succ, List.getElem_cons_zero, List.setIfInBounds_toArray, List.set_cons_zero, List.set_cons_succ]
        refine wpW_take 9 _ (.slice (some ⟨b, off + r4, none⟩) u2 (cap - r4)) rfl (by kernel_rfl) (by kernel_rfl) (by kernel_rfl) (fun _ _ _ h => h) (by kernel_rfl) (.inl ⟨rfl, fun w' hS' => by go_simp⟩) hS0 ?_
        simp only [Act.put, List.getElem_toArray, List.getElem_cons_succ, List.getElem_cons_zero, List.setIfInBounds_toArray, List.set_cons_zero, List.set_cons_succ]
        refine wpW_take 10 _ (.string K) rfl (by kernel_rfl) (by kernel_rfl) (by kernel_rfl) (fun _ _ _ h => h) (by kernel_rfl) (.inl ⟨rfl, fun w' hS' => by have hq := hcv _ hS'; go_simp⟩) hS0 ?_
        simp only [Act.put, List.getElem_toArray, List.getElem_cons_succ, List.getElem_cons_zero, List.setIfInBounds_toArray, List.set_cons_zero, List.set_cons_succ]
        refine wpW_take 11 _ (.string (ah.extract 0 u1 ++ K)) rfl (by kernel_rfl) (by kernel_rfl) (by kernel_rfl) (fun _ _ _ h => h) (by kernel_rfl) (.inl ⟨rfl, fun w' hS' => by go_simp⟩) hS0 ?_
        simp only [Act.put, List.getElem_toArray, List.getElem_cons_succ, List.getElem_cons_zero, List.setIfInBounds_toArray, List.set_cons_zero, List.set_cons_succ]
        refine wpW_take 12 _ (.int .u64 (u3 : Nat)) rfl (by kernel_rfl) (by kernel_rfl) (by kernel_rfl) (fun _ _ _ h => h) (by kernel_rfl) (.inl ⟨rfl, fun w' hS' => by go_simp⟩) hS0 ?_
        simp only [Act.put, List.getElem_toArray, List.getElem_cons_succ, List.getElem_cons_zero, List.setIfInBounds_toArray, List.set_cons_zero, List.set_cons_succ]
        refine wpW_take 13 _ (.int .i64 (u3 : Nat)) rfl (by kernel_rfl) (by kernel_rfl) (by kernel_rfl) (fun _ _ _ h => h) (by kernel_rfl) (.inl ⟨rfl, fun w' hS' => by go_simp⟩) hS0 ?_
        simp only [Act.put, List.getElem_toArray, List.getElem_cons_succ, List.getElem_cons_zero, List.setIfInBounds_toArray, List.set_cons_zero, List.set_cons_succ]
        refine wpW_take 14 _ (.slice (some ⟨b, off, none⟩) n cap) rfl (by kernel_rfl) (by kernel_rfl) (by kernel_rfl) (fun _ _ _ h => h) (by kernel_rfl) (.inl ⟨rfl, fun w' hS' => by go_simp⟩) hS0 ?_
        simp only [Act.put, List.getElem_toArray, List.getElem_cons_succ, List.getElem_cons_zero, List.setIfInBounds_toArray, List.set_cons_zero, List.set_cons_succ]
        refine wpW_take 15 _ (.int .i64 (r3 : Nat)) rfl (by kernel_rfl) (by kernel_rfl) (by kernel_rfl) (fun _ _ _ h => h) (by kernel_rfl) (.inl ⟨rfl, fun w' hS' => by go_simp⟩) hS0 ?_
        simp only [Act.put, List.getElem_toArray, List.getElem_cons_succ, List.getElem_cons_zero, List.setIfInBounds_toArray, List.set_cons_zero, List.set_cons_succ]
        refine wpW_take 16 _ (.pointer (some ⟨b, off + r3, none⟩)) rfl (by kernel_rfl) (by kernel_rfl) (by kernel_rfl) (fun _ _ _ h => h) (by kernel_rfl) (.inl ⟨rfl, fun w' hS' => by go_simp⟩) hS0 ?_
        simp only [Act.put, List.getElem_toArray, List.getElem_cons_succ, List.getElem_cons_zero, List.setIfInBounds_toArray, List.set_cons_zero, List.set_cons_succ]
        refine wpW_take 17 _ (.int .u8 (f r3)) rfl (by kernel_rfl) (by kernel_rfl) (by kernel_rfl) (fun _ _ _ h => h) (by kernel_rfl) (.inl ⟨rfl, fun w' hS' => by have kb := (hS'.cell (p := ⟨b, off + r3, none⟩) hblt).trans cd; go_simp⟩) hS0 ?_
        simp only [Act.put, List.getElem_toArray, List.getElem_cons_succ, List.getElem_cons_zero, List.setIfInBounds_toArray, List.set_cons_zero, List.set_cons_succ]
        refine wpW_take 18 _ (.int .i64 (f r3)) rfl (by kernel_rfl) (by kernel_rfl) (by kernel_rfl) (fun _ _ _ h => h) (by kernel_rfl) (.inl ⟨rfl, fun w' hS' => by go_simp⟩) hS0 ?_
        simp only [Act.put, List.getElem_toArray, List.getElem_cons_succ, List.getElem_cons_zero, List.setIfInBounds_toArray, List.set_cons_zero, List.set_cons_succ]
        refine wpW_take 19 _ (.agg #[.string (ah.extract 0 u1 ++ K), .int .i64 (u3 : Nat), .int .i64 (f r3), .int .i64 0, .int .i64 0, .int .i64 0, .int .i64 0, .slice none 0 0, .bool false]) rfl (by kernel_rfl) (by kernel_rfl) (by kernel_rfl) (fun _ _ _ h => h) (by kernel_rfl) (.inl ⟨rfl, fun w' hS' => by go_simp⟩) hS0 ?_
        simp only [Act.put, List.getElem_toArray, List.getElem_cons_succ, List.getElem_cons_zero, List.setIfInBounds_toArray, List.set_cons_zero, List.set_cons_succ]
        refine wpW_one 20 _ rfl (by kernel_rfl) (step_allocE9 rfl rfl ?_)
        have bz := bd.trans ((below_new w4.drew (.cells #[.string ⟨#[]⟩, .int .i64 0, .int .i64 0, .int .i64 0, .int .i64 0, .int .i64 0, .int .i64 0, .slice none 0 0, .bool false] 35)).mono bd.size)
        have Z1 := V9.zero w4.drew 35
        rw [show w4.drew.heap.size = w4.heap.size from rfl] at Z1
        rw [show w4.drew.heap.size = w4.heap.size from rfl]
        refine ⟨fun _ => bz, ?_⟩
        simp only [Act.put, List.getElem_toArray, List.getElem_cons_succ, List.getElem_cons_zero, List.setIfInBounds_toArray, List.set_cons_zero, List.set_cons_succ]
        generalize w4.drew.alloc (.cells #[.string ⟨#[]⟩, .int .i64 0, .int .i64 0, .int .i64 0, .int .i64 0, .int .i64 0, .int .i64 0, .slice none 0 0, .bool false] 35) = u5 at *
        refine wpW_one 21 _ rfl (by kernel_rfl) (step_storeE9 rfl 17 117 rfl w4.heap.size (ah.extract 0 u1 ++ K) (u3 : Nat) (f r3) (by simp [Act.eval, Act.put]) (by simp [Act.eval, Act.put]) Z1 ?_)
        obtain ⟨QE, QO⟩ := layE_ebx (ah.extract 0 u1 ++ K) (u3 : Nat) (f r3) (fun _ => 0) Z1
        have QB : Below w4.heap.size w4 (layE u5 w4.heap.size (ah.extract 0 u1 ++ K) (u3 : Nat) (f r3)) := bz.trans (QO.below (Nat.le_refl _))
        refine ⟨fun _ => QB, ?_⟩
        simp only [Act.put, List.getElem_toArray, List.getElem_cons_succ, List.getElem_cons_zero, List.setIfInBounds_toArray, List.set_cons_zero, List.set_cons_succ]
        refine wpW_done (by kernel_rfl) ?_
        try simp only [Act.put, List.getElem_toArray, List.getElem_cons_succ, List.getElem_cons_zero, List.setIfInBounds_toArray, List.set_cons_zero, List.set_cons_succ]
        go_wp2_with fail
        go_meet
        case rel => exact ⟨rfl, QE, QB⟩
      case rest =>
        obtain ⟨rfl, QE, QB⟩ := hcut
        generalize wc = w5 at *
        have bw5 := bw4.trans (QB.mono bw4.size)
        have O5 := O4.keep QB
        have hs5 := QB.size
        have hD5 := QE.at'.lt
        obtain ⟨_, x0, x1, x2, x3, x4, x5, x6, x7, x8⟩ := QE.at'.z
        have hOl := hO0.out
        by_cases h0 : u4 = 0
        · have h0i : ¬ (0 : Int) < (u4 : Int) := by omega
          have HY : Hid (EY f n q ah ⟨ah.extract 0 u1 ++ K, u3, f r3, 0, 0, 0, 0, 0, fun _ => 0, false⟩ (r4 + u2 + u4)) := by
            have := HD.out 0 0 0 0 0 (fun _ => 0) false (.inl ⟨h0, rfl, rfl, rfl, rfl, rfl, rfl⟩)
            rw [HKK.out] at this
            exact this
          have hqn : q < n := by have := R1'.out.1; omega
          have hsz6 : (ah.extract 0 u1 ++ K).size ≤ r4 + u2 + u4 := by have := ey_size HY.out; have h : (ah.extract 0 u1 ++ K).size + q ≤ ah.size + (r4 + u2 + u4) := this.1; omega
          clear h0 HB hcv
          go_wp2_with (at_builtin; refine wpList_pushH (w := w5) rfl (.tmp 144) (.tmp 146) rfl w.heap.size (.slice lo k lc) (.slice none 0 0) k X V ⟨ah.extract 0 u1 ++ K, u3, f r3, 0, 0, 0, 0, 0, fun _ => 0, false⟩ rfl O5 ⟨none, 0, rfl, .inl ⟨rfl, rfl⟩⟩ (fun i hi z hz h2 => by simp [Value.ownBlock] at h2) rfl (by omega) (by omega) rfl ?_; intro v2 w6 hO6 hg6; obtain ⟨lo2, lc2, rfl⟩ := ownsRow_form hO6.own)
          have bA := below_new w5 (.cells #[.string (ah.extract 0 u1 ++ K), .int .i64 (u3 : Nat), .int .i64 (f r3), .int .i64 0, .int .i64 0, .int .i64 0, .int .i64 0, .slice none 0 0, .bool false] 35)
          have B6 := (bw5.trans (bA.mono bw5.size)).grown hg6 (by simp; omega) (fun z hz => by have := (O5.own.lt z hz).1; omega)
          go_wp2
          go_roundw
          case rel =>
            refine ⟨k + 1, r4 + u2 + u4, _, lo2, lc2, _, _, rfl, ?_, rfl, by omega, by omega, ?_, HR.out.step hqn (by rw [HA.out]; exact HY.out), .inr (by simp), hO6, B6⟩
            · first | rfl | go_num | (congr 1; omega)
            · exact hsz6
          case measure => simp [slen]; omega
        · have h0i : (0 : Int) < (u4 : Int) := by omega
          have h0p : 0 < u4 := by omega
          have hcr2 : ¬ cap = r4 + u2 := by omega
          have hqm2 : r4 + u2 + u4 - (r4 + u2) = u4 := by omega
          have ht6 : ((r4 : Int) + (u2 : Int) + (u4 : Int)).toNat = r4 + u2 + u4 := by omega
          have ht7 : (r4 : Int) + (u2 : Int) + (u4 : Int) ≤ (cap : Int) := by omega
          have ht8 : r4 + u2 ≤ r4 + u2 + u4 := by omega
          have ht9 : (0 : Int) ≤ (r4 : Int) + (u2 : Int) + (u4 : Int) := by omega
          have ht10 : r4 + u2 + u4 ≤ cap := by omega
          have hrow5 := (hr.keep bw5).sub (k := r4 + u2) (m := u4) (by omega)
          have hra := readAgg_spec b (off + (r4 + u2)) u4 (cap - (r4 + u2)) (fun i => f (r4 + u2 + i)) w5 hrow5 (by omega) (by omega) (by omega)
          clear h0 HB hcv
          go_wp2_with fail
          refine hra.mono ?_
          rintro e w6 (⟨N, G, c, hN, rfl, hG, hGo, q6⟩ | ⟨hno, rfl, q6⟩)
          rotate_left
          · have HN : Hid (NoG f n m) := HGo.out hno h0p
            have bw6 := bw5.trans (q6.mono bw5.size)
            have bw7 := bw6.trans ((below_new w6 (.cells #[.int .i64 0, .int .i64 0, .int .i64 0, .int .i64 0, .slice none 0 0, .bool false] 33)).mono bw6.size)
            clear hno hra
            go_wp2
            exact bodyPost_ret (v := .tuple #[.slice none 0 0, .bool false]) (by simp [results, Tryz.results71, go_sem]) rfl (.inr ⟨rfl, HN.out, bw7⟩)
          obtain ⟨t, ht⟩ : ∃ t, ((fun i => f (r4 + u2 + i)) 0 == 1) = t := ⟨_, rfl⟩
          have HT : Hid ((f (r4 + u2) == 1) = t) := ht
          rw [ht]
          have HY : Hid (EY f n q ah ⟨ah.extract 0 u1 ++ K, u3, f r3, fi N 0, fi N 1, fi N 2, fi N 3, 8, fun i => fi N (i + 4), t⟩ (r4 + u2 + u4)) := by
            have := HD.out (fi N 0) (fi N 1) (fi N 2) (fi N 3) 8 (fun i => fi N (i + 4)) t (.inr ⟨h0p, N, ⟨by omega, hN⟩, rfl, rfl, rfl, rfl, rfl, fun i hi => rfl, HT.out.symm⟩)
            rw [HKK.out] at this
            exact this
          have hqn : q < n := by have := R1'.out.1; omega
          have hsz6 : (ah.extract 0 u1 ++ K).size ≤ r4 + u2 + u4 := by have := ey_size HY.out; have h : (ah.extract 0 u1 ++ K).size + q ≤ ah.size + (r4 + u2 + u4) := this.1; omega
          have b7 := below_new w6 (.cells #[.int .i64 (fi N 0), .int .i64 (fi N 1), .int .i64 (fi N 2), .int .i64 (fi N 3), .slice (some ⟨G, 0, none⟩) 8 c, .bool t] 33)
          have A7 := AAt.new w6 (fi N 0) (fi N 1) (fi N 2) (fi N 3) (.slice (some ⟨G, 0, none⟩) 8 c) t 33
          have QE7 := (QE.keep q6).keep b7
          have hG7 := hGo.keep b7
          have hs6 := q6.size
          have B7 : Below w4.heap.size w4 (w6.alloc (.cells #[.int .i64 (fi N 0), .int .i64 (fi N 1), .int .i64 (fi N 2), .int .i64 (fi N 3), .slice (some ⟨G, 0, none⟩) 8 c, .bool t] 33)) := (QB.trans (q6.mono QB.size)).trans (b7.mono (by omega))
          obtain ⟨EG, OG⟩ := layG_ebx N G c t QE7
          clear x0 x1 x2 x3 x4 x5 x6 x7 x8 hra hN ht hrow5 b7 hGo
          obtain ⟨_, x0, x1, x2, x3, x4, x5, x6, x7, x8⟩ := QE7.at'.z
          have xz := QE7.fz
          obtain ⟨_, a0, a1, a2, a3, a4, a5⟩ := id A7
          go_upto_region 26 with fail
          generalize w6.alloc (.cells #[.int .i64 (fi N 0), .int .i64 (fi N 1), .int .i64 (fi N 2), .int .i64 (fi N 3), .slice (some ⟨G, 0, none⟩) 8 c, .bool t] 33) = w7 at *
          unfold layG at EG OG
          generalize (((((w7.setCell ⟨w4.heap.size, 3, none⟩ (.int .i64 (fi N 0))).setCell ⟨w4.heap.size, 4, none⟩ (.int .i64 (fi N 1))).setCell ⟨w4.heap.size, 5, none⟩ (.int .i64 (fi N 2))).setCell ⟨w4.heap.size, 6, none⟩ (.int .i64 (fi N 3))).setCell ⟨w4.heap.size, 7, none⟩ (.slice (some ⟨G, 0, none⟩) 8 c)).setCell ⟨w4.heap.size, 8, none⟩ (.bool t) = w8 at *
          have B8 := B7.trans (OG.below (Nat.le_refl _))
          have O8 := O4.keep B8
          have hG8 := hG7.oth OG (by omega)
          have bw8 := bw4.trans (B8.mono bw4.size)
          have hs8 := B8.size
          clear x0 x1 x2 x3 x4 x5 x6 x7 x8 xz a0 a1 a2 a3 a4 a5
          obtain ⟨_, x0, x1, x2, x3, x4, x5, x6, x7, x8⟩ := EG.z
          have HRo : HRow w8 w.heap.size (.slice (some ⟨G, 0, none⟩) 8 c) ⟨ah.extract 0 u1 ++ K, u3, f r3, fi N 0, fi N 1, fi N 2, fi N 3, 8, fun i => fi N (i + 4), t⟩ (.slice lo k lc) := ⟨some ⟨G, 0, none⟩, c, rfl, .inr ⟨G, rfl, by omega, hG8, fun e => by have := hO0.out G e; omega⟩⟩
          have HNd : Hid (∀ i, i < k → ∀ z, (V i).ownBlock = some z → (Value.slice (some ⟨G, 0, none⟩) 8 c).ownBlock ≠ some z) := fun i hi z hz h2 => by
            have h3 := ((O4.row i hi).at z hz).2
            have e : G = z := by simpa [Value.ownBlock] using h2
            omega
          go_wp2_with (at_builtin; refine wpList_pushH (w := w8) rfl (.tmp 144) (.tmp 146) rfl w.heap.size (.slice lo k lc) (.slice (some ⟨G, 0, none⟩) 8 c) k X V ⟨ah.extract 0 u1 ++ K, u3, f r3, fi N 0, fi N 1, fi N 2, fi N 3, 8, fun i => fi N (i + 4), t⟩ rfl O8 HRo HNd.out rfl (by omega) (by omega) rfl ?_; intro v2 w9 hO6 hg6; obtain ⟨lo2, lc2, rfl⟩ := ownsRow_form hO6.own)
          have bA := below_new w8 (.cells #[.string (ah.extract 0 u1 ++ K), .int .i64 (u3 : Nat), .int .i64 (f r3), .int .i64 (fi N 0), .int .i64 (fi N 1), .int .i64 (fi N 2), .int .i64 (fi N 3), .slice (some ⟨G, 0, none⟩) 8 c, .bool t] 35)
          have B6 := (bw8.trans (bA.mono bw8.size)).grown hg6 (by simp; omega) (fun z hz => by have := (O8.own.lt z hz).1; omega)
          go_wp2
          go_roundw
          case rel =>
            refine ⟨k + 1, r4 + u2 + u4, _, lo2, lc2, _, _, rfl, ?_, rfl, by omega, by omega, ?_, HR.out.step hqn (by rw [HA.out]; exact HY.out), .inr (by simp), hO6, B6⟩
            · first | rfl | go_num | (congr 1; omega)
            · exact hsz6
          case measure => simp [slen]; omega
end Go.Proofs.YtohjjigkfdhklaaGreat
