/- The reader of bytes: so many bytes, and a kind. / The reader of bytes: an agg. -/
import Derived.Test.YtohjjigkfdhklaaGreatOh
import Derived.BigQuiet
namespace Go.Proofs.YtohjjigkfdhklaaGreat
set_option maxRecDepth 100000
open Go.RowKit
set_option linter.unusedSimpArgs false
set_option linter.unusedVariables false

/-- What take leaves. -/
def TakR (f : Nat → Int) (B bb bo n cap q : Nat) (t : Bool) (m : Nat) (w : World) (e : Ending) (w' : World) : Prop :=
  ((q + m ≤ n ∧ ∃ A c, e = .returned (.slice A m c) ∧ m ≤ c ∧ (A = some ⟨bb, bo + q, none⟩ ∨ m = 0) ∧ (∃ b o, A = some ⟨b, o, none⟩) ∧ BR w' B (some ⟨bb, bo, none⟩) n cap (q + m) t) ∨ (¬ q + m ≤ n ∧ e = .returned (.slice none 0 0) ∧ BR w' B (some ⟨bb, bo, none⟩) n cap q true)) ∧ Mid B (B + 1) w w'

set_option maxHeartbeats 3200000 in
theorem take_any (f : Nat → Int) (B bb bo n cap q : Nat) (t : Bool) (m : Nat) (hm : m ≤ 9223372036854775807) (w : World) (hB : BR w B (some ⟨bb, bo, none⟩) n cap q t) (hn : n ≤ 1048576) (hcap : n ≤ cap) (hq : q ≤ n) :
    Calls Tryz.prog 129 #[.pointer (some ⟨B, 0, none⟩), .int .i64 (m : Nat)] w fun e w' => TakR f B bb bo n cap q t m w e w' := by
  have hws : IntKind.i64.wrap ((n : Int) - (q : Int)) = (n : Int) - (q : Int) := by rw [IntKind.wrap_i64] <;> omega
  obtain ⟨_, c0, c1, c2, fz⟩ := hB
  have hB : BR w B (some ⟨bb, bo, none⟩) n cap q t := ⟨by assumption, c0, c1, c2, fz⟩
  have B1 := hB.keep (Below.refl _ w).drew
  have M1 : Mid B (B + 1) w w.drew := Mid.of_below (Below.refl _ w).drew
  by_cases hlt : q + m ≤ n
  · have hc : ¬ (n : Int) - (q : Int) < (m : Int) := by omega
    have hwa : IntKind.i64.wrap ((q : Int) + (m : Int)) = (q : Int) + (m : Int) := by rw [IntKind.wrap_i64] <;> omega
    have hqm : q + m - q = m := by omega
    have hqc : q + m ≤ cap := by omega
    have B3 : BR w.drew.drew B (some ⟨bb, bo, none⟩) n cap q t := B1.keep (Below.refl _ _).drew
    have B4 := B3.set1 (q + m)
    have M4 : Mid B (B + 1) w (w.drew.drew.setCell ⟨B, 1, none⟩ (.int .i64 ((q + m : Nat) : Int))) := (M1.trans (Mid.of_below (Below.refl _ w.drew).drew)).trans (Mid.of_others (Others.setCell _ B 1 _) (Nat.le_refl _) (Nat.lt_succ_self _))
    rw [show ((q + m : Nat) : Int) = (q : Int) + (m : Int) from by omega] at B4 M4
    rcases Nat.lt_or_ge q cap with hlc | hlc
    · have hcq : ¬ cap = q := by omega
      go_enter Tryz.func129, Tryz.ntmps129
      go_wp2
      go_region
      go_wp2
      go_region
      go_wp2
      refine bodyPost_ret (v := .slice (some ⟨bb, bo + q, none⟩) m (cap - q)) (by simp [results, Tryz.results129, go_sem, hqm]) rfl ?_
      exact ⟨.inl ⟨hlt, _, _, rfl, by omega, .inl rfl, ⟨_, _, rfl⟩, B4⟩, M4⟩
    · obtain rfl : cap = q := by omega
      obtain rfl : m = 0 := by omega
      obtain rfl : n = cap := by omega
      go_enter Tryz.func129, Tryz.ntmps129
      go_wp2
      go_region
      go_wp2
      go_region
      go_wp2
      refine bodyPost_ret (v := .slice (some ⟨bb, bo, none⟩) 0 0) (by simp [results, Tryz.results129, go_sem]) rfl ?_
      simp only [Int.natCast_zero, Int.add_zero, Nat.add_zero] at B4 M4
      exact ⟨.inl ⟨hlt, _, _, rfl, Nat.le_refl _, .inr rfl, ⟨_, _, rfl⟩, B4⟩, M4⟩
  · have hc : (n : Int) - (q : Int) < (m : Int) := by omega
    have B2 := B1.set2 true
    have M2 := M1.trans (Mid.of_others (Others.setCell w.drew B 2 (.bool true)) (Nat.le_refl _) (Nat.lt_succ_self _))
    go_enter Tryz.func129, Tryz.ntmps129
    go_wp2
    go_region
    go_wp2
    go_ret
    exact ⟨.inr ⟨hlt, rfl, B2⟩, M2⟩

/-- What kind leaves. -/
def KinR (f : Nat → Int) (B bb bo n cap q : Nat) (t : Bool) (w : World) (e : Ending) (w' : World) : Prop :=
  ((q + 1 ≤ n ∧ t = false ∧ e = .returned (.int .i64 (f q)) ∧ BR w' B (some ⟨bb, bo, none⟩) n cap (q + 1) false) ∨ (¬ (q + 1 ≤ n ∧ t = false) ∧ e = .returned (.int .i64 0) ∧ ∃ q', q' ≤ n ∧ BR w' B (some ⟨bb, bo, none⟩) n cap q' true)) ∧ Mid B (B + 1) w w'

set_option maxHeartbeats 3200000 in
theorem kind_any (f : Nat → Int) (B bb bo n cap q : Nat) (t : Bool) (w : World) (hB : BR w B (some ⟨bb, bo, none⟩) n cap q t) (hr : Row w (some ⟨bb, bo, none⟩) n f) (hne : bb ≠ B) (hn : n ≤ 1048576) (hcap : n ≤ cap) (hq : q ≤ n) :
    Calls Tryz.prog 128 #[.pointer (some ⟨B, 0, none⟩)] w fun e w' => KinR f B bb bo n cap q t w e w' := by
  have hcall := take_any f B bb bo n cap q t 1 (by omega) w hB hn hcap hq
  go_enter Tryz.func128, Tryz.ntmps128
  go_wp2_with fail
  refine hcall.mono ?_
  rintro e w1 ⟨⟨h1, A, c, rfl, hc, hA, _, B1⟩ | ⟨h1, rfl, B1⟩, M1⟩
  · obtain rfl : A = some ⟨bb, bo + q, none⟩ := hA.resolve_right (by omega)
    have hr1 := M1.row hr (fun b o e _ => by injection e with e; injection e with e1 e2; omega)
    obtain ⟨b', o', e, hlt, hcc⟩ := hr1.lies.resolve_left (by omega)
    injection e with e
    injection e with e1 e2 _
    subst e1 e2
    have hcell := hcc q (by omega)
    have hfb := hr.bd q
    have hw : IntKind.i64.wrap (f q) = f q := by rw [IntKind.wrap_i64]; omega
    obtain ⟨_, d0, d1, d2, dz⟩ := B1
    have B1 : BR w1 B (some ⟨bb, bo, none⟩) n cap (q + 1) t := ⟨by assumption, d0, d1, d2, dz⟩
    clear hcall hcc hr1
    have h01 : 0 < 1 := by omega
    cases t
    · go_wp2
      go_ret
      exact ⟨.inl ⟨h1, rfl, rfl, B1⟩, M1⟩
    · go_wp2
      go_ret
      exact ⟨.inr ⟨by simp, rfl, q + 1, h1, B1⟩, M1⟩
  · obtain ⟨_, d0, d1, d2, dz⟩ := B1
    have B1 : BR w1 B (some ⟨bb, bo, none⟩) n cap q true := ⟨by assumption, d0, d1, d2, dz⟩
    clear hcall
    go_wp2
    go_ret
    exact ⟨.inr ⟨fun h => h1 h.1, rfl, q, hq, B1⟩, M1⟩
end Go.Proofs.YtohjjigkfdhklaaGreat
namespace Go.Proofs.YtohjjigkfdhklaaGreat
set_option maxRecDepth 100000
open Go.RowKit
set_option linter.unusedSimpArgs false
set_option linter.unusedVariables false

/-- All blocks below base but B are as they were. -/
structure Nm (base B : Nat) (w w' : World) : Prop where
  os : w'.os = w.os
  tape : w'.tape = w.tape
  output : w'.output = w.output
  size : w.heap.size ≤ w'.heap.size
  block : ∀ k, k < base → k ≠ B → w'.heap[k]? = w.heap[k]?
section
variable {base B : Nat} {w w' u : World}
theorem Nm.trans (h : Nm base B w w') (k : Nm base B w' u) : Nm base B w u := ⟨k.os.trans h.os, k.tape.trans h.tape, k.output.trans h.output, Nat.le_trans h.size k.size, fun j h1 h2 => (k.block j h1 h2).trans (h.block j h1 h2)⟩
theorem Nm.of_below (h : Below base w w') : Nm base B w w' := ⟨h.os, h.tape, h.output, h.size, fun k h1 _ => h.block k h1⟩
theorem Nm.of_mid (h : Mid B (B + 1) w w') (hb : base ≤ w.heap.size) : Nm base B w w' := ⟨h.os, h.tape, h.output, h.size, fun k h1 h2 => h.block k (by omega) (by omega)⟩
theorem Nm.of_others {D : Nat} (h : Others D w w') (hD : D = B ∨ base ≤ D) : Nm base B w w' := ⟨h.os, h.tape, h.output, by rw [h.size]; exact Nat.le_refl _, fun k h1 h2 => h.block k (by omega)⟩
theorem Nm.row (h : Nm base B w w') {bb bo n : Nat} {f : Nat → Int} (hr : Row w (some ⟨bb, bo, none⟩) n f) (h1 : bb < base) (h2 : bb ≠ B) : Row w' (some ⟨bb, bo, none⟩) n f := by
  refine ⟨hr.bd, hr.lies.elim .inl fun ⟨b, off, e, hlt, hc⟩ => ?_⟩
  injection e with e
  injection e with e1 e2 _
  subst e1 e2
  exact .inr ⟨bb, bo, rfl, Nat.lt_of_lt_of_le hlt h.size, fun i hi => (World.cell?_of_block (w := w) (a := ⟨bb, bo + i, none⟩) (h.block bb h1 h2)).trans (hc i hi)⟩
end
theorem AAt.mid' {B U : Nat} {w w' : World} {b : Nat} {c s lo hi : Int} {hv : Value} {fu : Bool} (h : AAt w b c s lo hi hv fu) (hm : Mid B U w w') (hne : b < B ∨ U ≤ b) : AAt w' b c s lo hi hv fu :=
  ⟨Nat.lt_of_lt_of_le h.lt hm.size, (hm.cell h.lt hne).trans h.c0, (hm.cell h.lt hne).trans h.c1, (hm.cell h.lt hne).trans h.c2, (hm.cell h.lt hne).trans h.c3, (hm.cell h.lt hne).trans h.c4, (hm.cell h.lt hne).trans h.c5⟩
theorem AAt.others' {D : Nat} {w w' : World} {b : Nat} {c s lo hi : Int} {hv : Value} {fu : Bool} (h : AAt w b c s lo hi hv fu) (ho : Others D w w') (hne : b ≠ D) : AAt w' b c s lo hi hv fu :=
  have cl : ∀ j, w'.cell? ⟨b, j, none⟩ = w.cell? ⟨b, j, none⟩ := fun j => World.cell?_of_block (w := w) (a := ⟨b, j, none⟩) (ho.block b hne)
  ⟨by rw [ho.size]; exact h.lt, (cl _).trans h.c0, (cl _).trans h.c1, (cl _).trans h.c2, (cl _).trans h.c3, (cl _).trans h.c4, (cl _).trans h.c5⟩

/-- An agg is read at place q out of m bytes. -/
def AgY (f : Nat → Int) (n q m : Nat) (N : List Int) : Prop := q + m ≤ n ∧ RAg (fun i => f (q + i)) m N
/-- What agg leaves. -/
def AggR (f : Nat → Int) (B bb bo n cap q : Nat) (t : Bool) (m : Nat) (w : World) (e : Ending) (w' : World) : Prop :=
  ((m = 0 ∧ e = .returned (.agg #[.int .i64 0, .int .i64 0, .int .i64 0, .int .i64 0, .slice none 0 0, .bool false]) ∧ BR w' B (some ⟨bb, bo, none⟩) n cap q t) ∨
   (0 < m ∧ ∃ N G c, AgY f n q m N ∧ e = .returned (.agg #[.int .i64 (fi N 0), .int .i64 (fi N 1), .int .i64 (fi N 2), .int .i64 (fi N 3), .slice (some ⟨G, 0, none⟩) 8 c, .bool (f q == 1)]) ∧ w.heap.size ≤ G ∧ IOwn w' G 0 8 (fun i => fi N (i + 4)) ∧ BR w' B (some ⟨bb, bo, none⟩) n cap (q + m) t) ∨
   (0 < m ∧ (∀ N, ¬ AgY f n q m N) ∧ (∃ G c, e = .returned (.agg #[.int .i64 0, .int .i64 0, .int .i64 0, .int .i64 0, .slice (some ⟨G, 0, none⟩) 8 c, .bool false])) ∧ ∃ q', q' ≤ n ∧ BR w' B (some ⟨bb, bo, none⟩) n cap q' true)) ∧ Nm w.heap.size B w w'

set_option maxHeartbeats 4000000 in
theorem agg_any (f : Nat → Int) (B bb bo n cap q : Nat) (t : Bool) (m : Nat) (hm : m ≤ 9223372036854775807) (w : World) (hB : BR w B (some ⟨bb, bo, none⟩) n cap q t) (hr : Row w (some ⟨bb, bo, none⟩) n f) (hbb : bb < w.heap.size) (hne : bb ≠ B) (hn : n ≤ 1048576) (hcap : n ≤ cap) (hq : q ≤ n) :
    Calls Tryz.prog 130 #[.pointer (some ⟨B, 0, none⟩), .int .i64 (m : Nat)] w fun e w' => AggR f B bb bo n cap q t m w e w' := by
  have hB0 := below_new w (.cells #[.int .i64 0, .int .i64 0, .int .i64 0, .int .i64 0, .slice none 0 0, .bool false] 33)
  have R0 := AAt.new w 0 0 0 0 (.slice none 0 0) false 33
  have F0 : ∀ j, (w.alloc (.cells #[.int .i64 0, .int .i64 0, .int .i64 0, .int .i64 0, .slice none 0 0, .bool false] 33)).frozen? ⟨w.heap.size, j, none⟩ = false := fun j => by simp [go_sem]
  have B0 := hB.keep hB0
  have hs0 : (w.alloc (.cells #[.int .i64 0, .int .i64 0, .int .i64 0, .int .i64 0, .slice none 0 0, .bool false] 33)).heap.size = w.heap.size + 1 := by simp
  have hBl := hB.lt
  by_cases hm0 : m = 0
  · subst hm0
    go_enter Tryz.func130, Tryz.ntmps130
    go_wp2
    generalize w.alloc (.cells #[.int .i64 0, .int .i64 0, .int .i64 0, .int .i64 0, .slice none 0 0, .bool false] 33) = w0 at *
    obtain ⟨_, t0, t1, t2, t3, t4, t5⟩ := R0
    exact bodyPost_ret (v := .agg #[.int .i64 0, .int .i64 0, .int .i64 0, .int .i64 0, .slice none 0 0, .bool false]) (by simp [results, Tryz.results130, go_sem, t0, t1, t2, t3, t4, t5]) rfl ⟨.inl ⟨rfl, rfl, B0⟩, Nm.of_below hB0⟩
  · have hm1 : 0 < m := by omega
    have hmi : ((m : Int) == 0) = false := by simp; omega
    have hcall := take_any f B bb bo n cap q t m hm _ B0 hn hcap hq
    have hfq : ∀ i, 0 ≤ f (q + i) ∧ f (q + i) ≤ 255 := fun i => hr.bd _
    go_enter Tryz.func130, Tryz.ntmps130
    go_wp2_with fail
    have N0 : Nm w.heap.size B w (w.alloc (.cells #[.int .i64 0, .int .i64 0, .int .i64 0, .int .i64 0, .slice none 0 0, .bool false] 33)) := Nm.of_below hB0
    have r0' := hr.keep hB0
    generalize w.alloc (.cells #[.int .i64 0, .int .i64 0, .int .i64 0, .int .i64 0, .slice none 0 0, .bool false] 33) = w0 at *
    refine hcall.mono ?_
    rintro e w1 ⟨⟨h1, A, c, rfl, hc, hA, _, B1⟩ | ⟨h1, rfl, B1⟩, M1⟩
    · obtain rfl : A = some ⟨bb, bo + q, none⟩ := hA.resolve_right (by omega)
      have hr1 := M1.row r0' (fun b o e _ => by injection e with e; injection e with e1 e2; omega)
      have hrow : Row w1 (some ⟨bb, bo + q, none⟩) m (fun i => f (q + i)) := by
        obtain ⟨b', o', e, hlt, hcc⟩ := hr1.lies.resolve_left (by omega)
        injection e with e
        injection e with e1 e2 _
        subst e1 e2
        exact ⟨hfq, .inr ⟨bb, bo + q, rfl, hlt, fun i hi => by rw [Nat.add_assoc]; exact hcc (q + i) (by omega)⟩⟩
      have hRA := readAgg_impl (some ⟨bb, bo + q, none⟩) m c (fun i => f (q + i)) w1 hrow (by omega) hc
      have R1 := R0.mid' M1 (by omega)
      have F1 : ∀ j, w1.frozen? ⟨w.heap.size, j, none⟩ = false := fun j => (M1.frozen (by omega) (by omega)).trans (F0 j)
      have N1 := N0.trans (Nm.of_mid (base := w.heap.size) M1 (by omega))
      have s1 := M1.size
      clear hcall hr1 hrow r0' M1 R0 F0 N0
      go_wp2_with fail
      refine hRA.mono ?_
      intro e w2 hO
      obtain ⟨fu, hfu⟩ : ∃ fu : Bool, (f (q + 0) == 1) = fu := ⟨_, rfl⟩
      rcases hO with ⟨N, G, cc, hR, he, hG, oG, q2⟩ | ⟨hNo, ⟨G, cc, rfl⟩, q2⟩
      · have HY : Hid (AgY f n q m N) := ⟨h1, hR⟩
        have HFU : Hid ((f q == 1) = fu) := hfu
        have he' : e = .returned (.tuple #[.agg #[.int .i64 (fi N 0), .int .i64 (fi N 1), .int .i64 (fi N 2), .int .i64 (fi N 3), .slice (some ⟨G, 0, none⟩) 8 cc, .bool fu], .bool true]) := by rw [he, ← hfu]
        subst he'
        have R2 := R1.keep q2
        have F2 : ∀ j, w2.frozen? ⟨w.heap.size, j, none⟩ = false := fun j => (q2.frozen (p := ⟨w.heap.size, j, none⟩) R1.lt).trans (F1 j)
        have N2 := N1.trans (Nm.of_below (q2.mono (by omega)))
        have s2 : w.heap.size ≤ w2.heap.size := by have := q2.size; omega
        have hGw : w.heap.size ≤ G := by omega
        have hoG := oG.lt
        have B2 := B1.keep q2
        obtain ⟨qq, hqqe⟩ : ∃ qq, q + m = qq := ⟨_, rfl⟩
        rw [hqqe] at B2
        clear hRA hfu hR he R1 F1 N1 q2 hB B0 B1
        cases t
        · have hB3 := below_new w2 (.cells #[.int .i64 (fi N 0), .int .i64 (fi N 1), .int .i64 (fi N 2), .int .i64 (fi N 3), .slice (some ⟨G, 0, none⟩) 8 cc, .bool fu] 33)
          have R3 := R2.keep hB3
          have F3 : ∀ j, (w2.alloc (.cells #[.int .i64 (fi N 0), .int .i64 (fi N 1), .int .i64 (fi N 2), .int .i64 (fi N 3), .slice (some ⟨G, 0, none⟩) 8 cc, .bool fu] 33)).frozen? ⟨w.heap.size, j, none⟩ = false := fun j => (hB3.frozen (p := ⟨w.heap.size, j, none⟩) R2.lt).trans (F2 j)
          have X3 := AAt.new w2 (fi N 0) (fi N 1) (fi N 2) (fi N 3) (.slice (some ⟨G, 0, none⟩) 8 cc) fu 33
          have B3 := B2.keep hB3
          have B4 := B3.set2 false
          have O4 := Others.setCell (w2.alloc (.cells #[.int .i64 (fi N 0), .int .i64 (fi N 1), .int .i64 (fi N 2), .int .i64 (fi N 3), .slice (some ⟨G, 0, none⟩) 8 cc, .bool fu] 33)) B 2 (.bool false)
          have hlb : B ≠ w2.heap.size := by have := B2.lt; omega
          have hwb : w.heap.size ≠ B := by omega
          have X4 := X3.others' O4 (by omega)
          have R4 := R3.others' O4 hwb
          have F4 : ∀ j, ((w2.alloc (.cells #[.int .i64 (fi N 0), .int .i64 (fi N 1), .int .i64 (fi N 2), .int .i64 (fi N 3), .slice (some ⟨G, 0, none⟩) 8 cc, .bool fu] 33)).setCell ⟨B, 2, none⟩ (.bool false)).frozen? ⟨w.heap.size, j, none⟩ = false := fun j => by rw [frozen_set]; exact F3 j
          have OB8 := (((((OB.set0 (w := ((w2.alloc (.cells #[.int .i64 (fi N 0), .int .i64 (fi N 1), .int .i64 (fi N 2), .int .i64 (fi N 3), .slice (some ⟨G, 0, none⟩) 8 cc, .bool fu] 33)).setCell ⟨B, 2, none⟩ (.bool false))) ⟨R4, F4, Below.refl _ _⟩ (fi N 0)).set1 (fi N 1)).set2 (fi N 2)).set3 (fi N 3)).set4 (.slice (some ⟨G, 0, none⟩) 8 cc)).set5 fu
          have Ot8 : Others w.heap.size ((w2.alloc (.cells #[.int .i64 (fi N 0), .int .i64 (fi N 1), .int .i64 (fi N 2), .int .i64 (fi N 3), .slice (some ⟨G, 0, none⟩) 8 cc, .bool fu] 33)).setCell ⟨B, 2, none⟩ (.bool false)) ((((((((w2.alloc (.cells #[.int .i64 (fi N 0), .int .i64 (fi N 1), .int .i64 (fi N 2), .int .i64 (fi N 3), .slice (some ⟨G, 0, none⟩) 8 cc, .bool fu] 33)).setCell ⟨B, 2, none⟩ (.bool false)).setCell ⟨w.heap.size, 0, none⟩ (.int .i64 (fi N 0))).setCell ⟨w.heap.size, 1, none⟩ (.int .i64 (fi N 1))).setCell ⟨w.heap.size, 2, none⟩ (.int .i64 (fi N 2))).setCell ⟨w.heap.size, 3, none⟩ (.int .i64 (fi N 3))).setCell ⟨w.heap.size, 4, none⟩ (.slice (some ⟨G, 0, none⟩) 8 cc)).setCell ⟨w.heap.size, 5, none⟩ (.bool fu)) := (((((Others.setCell _ _ _ _).trans (Others.setCell _ _ _ _)).trans (Others.setCell _ _ _ _)).trans (Others.setCell _ _ _ _)).trans (Others.setCell _ _ _ _)).trans (Others.setCell _ _ _ _)
          have NF : Nm w.heap.size B w ((((((((w2.alloc (.cells #[.int .i64 (fi N 0), .int .i64 (fi N 1), .int .i64 (fi N 2), .int .i64 (fi N 3), .slice (some ⟨G, 0, none⟩) 8 cc, .bool fu] 33)).setCell ⟨B, 2, none⟩ (.bool false)).setCell ⟨w.heap.size, 0, none⟩ (.int .i64 (fi N 0))).setCell ⟨w.heap.size, 1, none⟩ (.int .i64 (fi N 1))).setCell ⟨w.heap.size, 2, none⟩ (.int .i64 (fi N 2))).setCell ⟨w.heap.size, 3, none⟩ (.int .i64 (fi N 3))).setCell ⟨w.heap.size, 4, none⟩ (.slice (some ⟨G, 0, none⟩) 8 cc)).setCell ⟨w.heap.size, 5, none⟩ (.bool fu)) := (((N2.trans (Nm.of_below (hB3.mono s2))).trans (Nm.of_others O4 (.inl rfl)))).trans (Nm.of_others Ot8 (.inr (Nat.le_refl _)))
          have BF : BR ((((((((w2.alloc (.cells #[.int .i64 (fi N 0), .int .i64 (fi N 1), .int .i64 (fi N 2), .int .i64 (fi N 3), .slice (some ⟨G, 0, none⟩) 8 cc, .bool fu] 33)).setCell ⟨B, 2, none⟩ (.bool false)).setCell ⟨w.heap.size, 0, none⟩ (.int .i64 (fi N 0))).setCell ⟨w.heap.size, 1, none⟩ (.int .i64 (fi N 1))).setCell ⟨w.heap.size, 2, none⟩ (.int .i64 (fi N 2))).setCell ⟨w.heap.size, 3, none⟩ (.int .i64 (fi N 3))).setCell ⟨w.heap.size, 4, none⟩ (.slice (some ⟨G, 0, none⟩) 8 cc)).setCell ⟨w.heap.size, 5, none⟩ (.bool fu)) B (some ⟨bb, bo, none⟩) n cap qq false := by
            have cl : ∀ j, ((((((((w2.alloc (.cells #[.int .i64 (fi N 0), .int .i64 (fi N 1), .int .i64 (fi N 2), .int .i64 (fi N 3), .slice (some ⟨G, 0, none⟩) 8 cc, .bool fu] 33)).setCell ⟨B, 2, none⟩ (.bool false)).setCell ⟨w.heap.size, 0, none⟩ (.int .i64 (fi N 0))).setCell ⟨w.heap.size, 1, none⟩ (.int .i64 (fi N 1))).setCell ⟨w.heap.size, 2, none⟩ (.int .i64 (fi N 2))).setCell ⟨w.heap.size, 3, none⟩ (.int .i64 (fi N 3))).setCell ⟨w.heap.size, 4, none⟩ (.slice (some ⟨G, 0, none⟩) 8 cc)).setCell ⟨w.heap.size, 5, none⟩ (.bool fu)).cell? ⟨B, j, none⟩ = ((w2.alloc (.cells #[.int .i64 (fi N 0), .int .i64 (fi N 1), .int .i64 (fi N 2), .int .i64 (fi N 3), .slice (some ⟨G, 0, none⟩) 8 cc, .bool fu] 33)).setCell ⟨B, 2, none⟩ (.bool false)).cell? ⟨B, j, none⟩ := fun j => World.cell?_of_block (w := ((w2.alloc (.cells #[.int .i64 (fi N 0), .int .i64 (fi N 1), .int .i64 (fi N 2), .int .i64 (fi N 3), .slice (some ⟨G, 0, none⟩) 8 cc, .bool fu] 33)).setCell ⟨B, 2, none⟩ (.bool false))) (a := ⟨B, j, none⟩) (Ot8.block B (by omega))
            have fl' : ∀ j, ((((((((w2.alloc (.cells #[.int .i64 (fi N 0), .int .i64 (fi N 1), .int .i64 (fi N 2), .int .i64 (fi N 3), .slice (some ⟨G, 0, none⟩) 8 cc, .bool fu] 33)).setCell ⟨B, 2, none⟩ (.bool false)).setCell ⟨w.heap.size, 0, none⟩ (.int .i64 (fi N 0))).setCell ⟨w.heap.size, 1, none⟩ (.int .i64 (fi N 1))).setCell ⟨w.heap.size, 2, none⟩ (.int .i64 (fi N 2))).setCell ⟨w.heap.size, 3, none⟩ (.int .i64 (fi N 3))).setCell ⟨w.heap.size, 4, none⟩ (.slice (some ⟨G, 0, none⟩) 8 cc)).setCell ⟨w.heap.size, 5, none⟩ (.bool fu)).frozen? ⟨B, j, none⟩ = ((w2.alloc (.cells #[.int .i64 (fi N 0), .int .i64 (fi N 1), .int .i64 (fi N 2), .int .i64 (fi N 3), .slice (some ⟨G, 0, none⟩) 8 cc, .bool fu] 33)).setCell ⟨B, 2, none⟩ (.bool false)).frozen? ⟨B, j, none⟩ := fun j => World.frozen?_of_block (w := ((w2.alloc (.cells #[.int .i64 (fi N 0), .int .i64 (fi N 1), .int .i64 (fi N 2), .int .i64 (fi N 3), .slice (some ⟨G, 0, none⟩) 8 cc, .bool fu] 33)).setCell ⟨B, 2, none⟩ (.bool false))) (a := ⟨B, j, none⟩) (Ot8.block B (by omega))
            exact ⟨by rw [Ot8.size]; exact B4.lt, (cl _).trans B4.c0, (cl _).trans B4.c1, (cl _).trans B4.c2, fun j => (fl' j).trans (B4.fz j)⟩
          have oF : IOwn ((((((((w2.alloc (.cells #[.int .i64 (fi N 0), .int .i64 (fi N 1), .int .i64 (fi N 2), .int .i64 (fi N 3), .slice (some ⟨G, 0, none⟩) 8 cc, .bool fu] 33)).setCell ⟨B, 2, none⟩ (.bool false)).setCell ⟨w.heap.size, 0, none⟩ (.int .i64 (fi N 0))).setCell ⟨w.heap.size, 1, none⟩ (.int .i64 (fi N 1))).setCell ⟨w.heap.size, 2, none⟩ (.int .i64 (fi N 2))).setCell ⟨w.heap.size, 3, none⟩ (.int .i64 (fi N 3))).setCell ⟨w.heap.size, 4, none⟩ (.slice (some ⟨G, 0, none⟩) 8 cc)).setCell ⟨w.heap.size, 5, none⟩ (.bool fu)) G 0 8 (fun i => fi N (i + 4)) := iown_others (iown_others (oG.keep hB3) O4 (by omega)) Ot8 (by omega)
          obtain ⟨_, x0, x1, x2, x3, x4, x5⟩ := X4
          obtain ⟨_, r0, r1, r2, r3, r4, r5⟩ := R4
          obtain ⟨_, d0, d1, d2, dz⟩ := B3
          clear R3 X3 hB3 O4 B4 B2
          go_wp2
          show bodyPost Tryz.prog Tryz.f130 (fun e w' => AggR f B bb bo n cap q false m w e w') _ _ ((((((((w2.alloc (.cells #[.int .i64 (fi N 0), .int .i64 (fi N 1), .int .i64 (fi N 2), .int .i64 (fi N 3), .slice (some ⟨G, 0, none⟩) 8 cc, .bool fu] 33)).setCell ⟨B, 2, none⟩ (.bool false)).setCell ⟨w.heap.size, 0, none⟩ (.int .i64 (fi N 0))).setCell ⟨w.heap.size, 1, none⟩ (.int .i64 (fi N 1))).setCell ⟨w.heap.size, 2, none⟩ (.int .i64 (fi N 2))).setCell ⟨w.heap.size, 3, none⟩ (.int .i64 (fi N 3))).setCell ⟨w.heap.size, 4, none⟩ (.slice (some ⟨G, 0, none⟩) 8 cc)).setCell ⟨w.heap.size, 5, none⟩ (.bool fu))
          clear Ot8
          generalize ((((((((w2.alloc (.cells #[.int .i64 (fi N 0), .int .i64 (fi N 1), .int .i64 (fi N 2), .int .i64 (fi N 3), .slice (some ⟨G, 0, none⟩) 8 cc, .bool fu] 33)).setCell ⟨B, 2, none⟩ (.bool false)).setCell ⟨w.heap.size, 0, none⟩ (.int .i64 (fi N 0))).setCell ⟨w.heap.size, 1, none⟩ (.int .i64 (fi N 1))).setCell ⟨w.heap.size, 2, none⟩ (.int .i64 (fi N 2))).setCell ⟨w.heap.size, 3, none⟩ (.int .i64 (fi N 3))).setCell ⟨w.heap.size, 4, none⟩ (.slice (some ⟨G, 0, none⟩) 8 cc)).setCell ⟨w.heap.size, 5, none⟩ (.bool fu)) = wF at *
          obtain ⟨_, t0, t1, t2, t3, t4, t5⟩ := OB8.A
          refine bodyPost_ret (v := .agg #[.int .i64 (fi N 0), .int .i64 (fi N 1), .int .i64 (fi N 2), .int .i64 (fi N 3), .slice (some ⟨G, 0, none⟩) 8 cc, .bool fu]) (by simp [results, Tryz.results130, go_sem, t0, t1, t2, t3, t4, t5]) rfl ⟨.inr (.inl ⟨hm1, N, G, cc, HY.out, by rw [HFU.out], hGw, oF, by rw [hqqe]; exact BF⟩), NF⟩
        · have hB3 := below_new w2 (.cells #[.int .i64 (fi N 0), .int .i64 (fi N 1), .int .i64 (fi N 2), .int .i64 (fi N 3), .slice (some ⟨G, 0, none⟩) 8 cc, .bool fu] 33)
          have R3 := R2.keep hB3
          have F3 : ∀ j, (w2.alloc (.cells #[.int .i64 (fi N 0), .int .i64 (fi N 1), .int .i64 (fi N 2), .int .i64 (fi N 3), .slice (some ⟨G, 0, none⟩) 8 cc, .bool fu] 33)).frozen? ⟨w.heap.size, j, none⟩ = false := fun j => (hB3.frozen (p := ⟨w.heap.size, j, none⟩) R2.lt).trans (F2 j)
          have X3 := AAt.new w2 (fi N 0) (fi N 1) (fi N 2) (fi N 3) (.slice (some ⟨G, 0, none⟩) 8 cc) fu 33
          have B3 := B2.keep hB3
          have B4 := B3.set2 true
          have O4 := Others.setCell (w2.alloc (.cells #[.int .i64 (fi N 0), .int .i64 (fi N 1), .int .i64 (fi N 2), .int .i64 (fi N 3), .slice (some ⟨G, 0, none⟩) 8 cc, .bool fu] 33)) B 2 (.bool true)
          have hlb : B ≠ w2.heap.size := by have := B2.lt; omega
          have hwb : w.heap.size ≠ B := by omega
          have X4 := X3.others' O4 (by omega)
          have R4 := R3.others' O4 hwb
          have F4 : ∀ j, ((w2.alloc (.cells #[.int .i64 (fi N 0), .int .i64 (fi N 1), .int .i64 (fi N 2), .int .i64 (fi N 3), .slice (some ⟨G, 0, none⟩) 8 cc, .bool fu] 33)).setCell ⟨B, 2, none⟩ (.bool true)).frozen? ⟨w.heap.size, j, none⟩ = false := fun j => by rw [frozen_set]; exact F3 j
          have OB8 := (((((OB.set0 (w := ((w2.alloc (.cells #[.int .i64 (fi N 0), .int .i64 (fi N 1), .int .i64 (fi N 2), .int .i64 (fi N 3), .slice (some ⟨G, 0, none⟩) 8 cc, .bool fu] 33)).setCell ⟨B, 2, none⟩ (.bool true))) ⟨R4, F4, Below.refl _ _⟩ (fi N 0)).set1 (fi N 1)).set2 (fi N 2)).set3 (fi N 3)).set4 (.slice (some ⟨G, 0, none⟩) 8 cc)).set5 fu
          have Ot8 : Others w.heap.size ((w2.alloc (.cells #[.int .i64 (fi N 0), .int .i64 (fi N 1), .int .i64 (fi N 2), .int .i64 (fi N 3), .slice (some ⟨G, 0, none⟩) 8 cc, .bool fu] 33)).setCell ⟨B, 2, none⟩ (.bool true)) ((((((((w2.alloc (.cells #[.int .i64 (fi N 0), .int .i64 (fi N 1), .int .i64 (fi N 2), .int .i64 (fi N 3), .slice (some ⟨G, 0, none⟩) 8 cc, .bool fu] 33)).setCell ⟨B, 2, none⟩ (.bool true)).setCell ⟨w.heap.size, 0, none⟩ (.int .i64 (fi N 0))).setCell ⟨w.heap.size, 1, none⟩ (.int .i64 (fi N 1))).setCell ⟨w.heap.size, 2, none⟩ (.int .i64 (fi N 2))).setCell ⟨w.heap.size, 3, none⟩ (.int .i64 (fi N 3))).setCell ⟨w.heap.size, 4, none⟩ (.slice (some ⟨G, 0, none⟩) 8 cc)).setCell ⟨w.heap.size, 5, none⟩ (.bool fu)) := (((((Others.setCell _ _ _ _).trans (Others.setCell _ _ _ _)).trans (Others.setCell _ _ _ _)).trans (Others.setCell _ _ _ _)).trans (Others.setCell _ _ _ _)).trans (Others.setCell _ _ _ _)
          have NF : Nm w.heap.size B w ((((((((w2.alloc (.cells #[.int .i64 (fi N 0), .int .i64 (fi N 1), .int .i64 (fi N 2), .int .i64 (fi N 3), .slice (some ⟨G, 0, none⟩) 8 cc, .bool fu] 33)).setCell ⟨B, 2, none⟩ (.bool true)).setCell ⟨w.heap.size, 0, none⟩ (.int .i64 (fi N 0))).setCell ⟨w.heap.size, 1, none⟩ (.int .i64 (fi N 1))).setCell ⟨w.heap.size, 2, none⟩ (.int .i64 (fi N 2))).setCell ⟨w.heap.size, 3, none⟩ (.int .i64 (fi N 3))).setCell ⟨w.heap.size, 4, none⟩ (.slice (some ⟨G, 0, none⟩) 8 cc)).setCell ⟨w.heap.size, 5, none⟩ (.bool fu)) := (((N2.trans (Nm.of_below (hB3.mono s2))).trans (Nm.of_others O4 (.inl rfl)))).trans (Nm.of_others Ot8 (.inr (Nat.le_refl _)))
          have BF : BR ((((((((w2.alloc (.cells #[.int .i64 (fi N 0), .int .i64 (fi N 1), .int .i64 (fi N 2), .int .i64 (fi N 3), .slice (some ⟨G, 0, none⟩) 8 cc, .bool fu] 33)).setCell ⟨B, 2, none⟩ (.bool true)).setCell ⟨w.heap.size, 0, none⟩ (.int .i64 (fi N 0))).setCell ⟨w.heap.size, 1, none⟩ (.int .i64 (fi N 1))).setCell ⟨w.heap.size, 2, none⟩ (.int .i64 (fi N 2))).setCell ⟨w.heap.size, 3, none⟩ (.int .i64 (fi N 3))).setCell ⟨w.heap.size, 4, none⟩ (.slice (some ⟨G, 0, none⟩) 8 cc)).setCell ⟨w.heap.size, 5, none⟩ (.bool fu)) B (some ⟨bb, bo, none⟩) n cap qq true := by
            have cl : ∀ j, ((((((((w2.alloc (.cells #[.int .i64 (fi N 0), .int .i64 (fi N 1), .int .i64 (fi N 2), .int .i64 (fi N 3), .slice (some ⟨G, 0, none⟩) 8 cc, .bool fu] 33)).setCell ⟨B, 2, none⟩ (.bool true)).setCell ⟨w.heap.size, 0, none⟩ (.int .i64 (fi N 0))).setCell ⟨w.heap.size, 1, none⟩ (.int .i64 (fi N 1))).setCell ⟨w.heap.size, 2, none⟩ (.int .i64 (fi N 2))).setCell ⟨w.heap.size, 3, none⟩ (.int .i64 (fi N 3))).setCell ⟨w.heap.size, 4, none⟩ (.slice (some ⟨G, 0, none⟩) 8 cc)).setCell ⟨w.heap.size, 5, none⟩ (.bool fu)).cell? ⟨B, j, none⟩ = ((w2.alloc (.cells #[.int .i64 (fi N 0), .int .i64 (fi N 1), .int .i64 (fi N 2), .int .i64 (fi N 3), .slice (some ⟨G, 0, none⟩) 8 cc, .bool fu] 33)).setCell ⟨B, 2, none⟩ (.bool true)).cell? ⟨B, j, none⟩ := fun j => World.cell?_of_block (w := ((w2.alloc (.cells #[.int .i64 (fi N 0), .int .i64 (fi N 1), .int .i64 (fi N 2), .int .i64 (fi N 3), .slice (some ⟨G, 0, none⟩) 8 cc, .bool fu] 33)).setCell ⟨B, 2, none⟩ (.bool true))) (a := ⟨B, j, none⟩) (Ot8.block B (by omega))
            have fl' : ∀ j, ((((((((w2.alloc (.cells #[.int .i64 (fi N 0), .int .i64 (fi N 1), .int .i64 (fi N 2), .int .i64 (fi N 3), .slice (some ⟨G, 0, none⟩) 8 cc, .bool fu] 33)).setCell ⟨B, 2, none⟩ (.bool true)).setCell ⟨w.heap.size, 0, none⟩ (.int .i64 (fi N 0))).setCell ⟨w.heap.size, 1, none⟩ (.int .i64 (fi N 1))).setCell ⟨w.heap.size, 2, none⟩ (.int .i64 (fi N 2))).setCell ⟨w.heap.size, 3, none⟩ (.int .i64 (fi N 3))).setCell ⟨w.heap.size, 4, none⟩ (.slice (some ⟨G, 0, none⟩) 8 cc)).setCell ⟨w.heap.size, 5, none⟩ (.bool fu)).frozen? ⟨B, j, none⟩ = ((w2.alloc (.cells #[.int .i64 (fi N 0), .int .i64 (fi N 1), .int .i64 (fi N 2), .int .i64 (fi N 3), .slice (some ⟨G, 0, none⟩) 8 cc, .bool fu] 33)).setCell ⟨B, 2, none⟩ (.bool true)).frozen? ⟨B, j, none⟩ := fun j => World.frozen?_of_block (w := ((w2.alloc (.cells #[.int .i64 (fi N 0), .int .i64 (fi N 1), .int .i64 (fi N 2), .int .i64 (fi N 3), .slice (some ⟨G, 0, none⟩) 8 cc, .bool fu] 33)).setCell ⟨B, 2, none⟩ (.bool true))) (a := ⟨B, j, none⟩) (Ot8.block B (by omega))
            exact ⟨by rw [Ot8.size]; exact B4.lt, (cl _).trans B4.c0, (cl _).trans B4.c1, (cl _).trans B4.c2, fun j => (fl' j).trans (B4.fz j)⟩
          have oF : IOwn ((((((((w2.alloc (.cells #[.int .i64 (fi N 0), .int .i64 (fi N 1), .int .i64 (fi N 2), .int .i64 (fi N 3), .slice (some ⟨G, 0, none⟩) 8 cc, .bool fu] 33)).setCell ⟨B, 2, none⟩ (.bool true)).setCell ⟨w.heap.size, 0, none⟩ (.int .i64 (fi N 0))).setCell ⟨w.heap.size, 1, none⟩ (.int .i64 (fi N 1))).setCell ⟨w.heap.size, 2, none⟩ (.int .i64 (fi N 2))).setCell ⟨w.heap.size, 3, none⟩ (.int .i64 (fi N 3))).setCell ⟨w.heap.size, 4, none⟩ (.slice (some ⟨G, 0, none⟩) 8 cc)).setCell ⟨w.heap.size, 5, none⟩ (.bool fu)) G 0 8 (fun i => fi N (i + 4)) := iown_others (iown_others (oG.keep hB3) O4 (by omega)) Ot8 (by omega)
          obtain ⟨_, x0, x1, x2, x3, x4, x5⟩ := X4
          obtain ⟨_, r0, r1, r2, r3, r4, r5⟩ := R4
          obtain ⟨_, d0, d1, d2, dz⟩ := B3
          clear R3 X3 hB3 O4 B4 B2
          go_wp2
          show bodyPost Tryz.prog Tryz.f130 (fun e w' => AggR f B bb bo n cap q true m w e w') _ _ ((((((((w2.alloc (.cells #[.int .i64 (fi N 0), .int .i64 (fi N 1), .int .i64 (fi N 2), .int .i64 (fi N 3), .slice (some ⟨G, 0, none⟩) 8 cc, .bool fu] 33)).setCell ⟨B, 2, none⟩ (.bool true)).setCell ⟨w.heap.size, 0, none⟩ (.int .i64 (fi N 0))).setCell ⟨w.heap.size, 1, none⟩ (.int .i64 (fi N 1))).setCell ⟨w.heap.size, 2, none⟩ (.int .i64 (fi N 2))).setCell ⟨w.heap.size, 3, none⟩ (.int .i64 (fi N 3))).setCell ⟨w.heap.size, 4, none⟩ (.slice (some ⟨G, 0, none⟩) 8 cc)).setCell ⟨w.heap.size, 5, none⟩ (.bool fu))
          clear Ot8
          generalize ((((((((w2.alloc (.cells #[.int .i64 (fi N 0), .int .i64 (fi N 1), .int .i64 (fi N 2), .int .i64 (fi N 3), .slice (some ⟨G, 0, none⟩) 8 cc, .bool fu] 33)).setCell ⟨B, 2, none⟩ (.bool true)).setCell ⟨w.heap.size, 0, none⟩ (.int .i64 (fi N 0))).setCell ⟨w.heap.size, 1, none⟩ (.int .i64 (fi N 1))).setCell ⟨w.heap.size, 2, none⟩ (.int .i64 (fi N 2))).setCell ⟨w.heap.size, 3, none⟩ (.int .i64 (fi N 3))).setCell ⟨w.heap.size, 4, none⟩ (.slice (some ⟨G, 0, none⟩) 8 cc)).setCell ⟨w.heap.size, 5, none⟩ (.bool fu)) = wF at *
          obtain ⟨_, t0, t1, t2, t3, t4, t5⟩ := OB8.A
          refine bodyPost_ret (v := .agg #[.int .i64 (fi N 0), .int .i64 (fi N 1), .int .i64 (fi N 2), .int .i64 (fi N 3), .slice (some ⟨G, 0, none⟩) 8 cc, .bool fu]) (by simp [results, Tryz.results130, go_sem, t0, t1, t2, t3, t4, t5]) rfl ⟨.inr (.inl ⟨hm1, N, G, cc, HY.out, by rw [HFU.out], hGw, oF, by rw [hqqe]; exact BF⟩), NF⟩
      · have HNo : Hid (∀ N, ¬ AgY f n q m N) := fun N h => hNo N h.2
        have R2 := R1.keep q2
        have F2 : ∀ j, w2.frozen? ⟨w.heap.size, j, none⟩ = false := fun j => (q2.frozen (p := ⟨w.heap.size, j, none⟩) R1.lt).trans (F1 j)
        have N2 := N1.trans (Nm.of_below (q2.mono (by omega)))
        have s2 : w.heap.size ≤ w2.heap.size := by have := q2.size; omega
        have B2 := B1.keep q2
        obtain ⟨qq, hqqe⟩ : ∃ qq, q + m = qq := ⟨_, rfl⟩
        have hqq : qq ≤ n := by omega
        rw [hqqe] at B2
        clear hRA hfu hNo R1 F1 N1 q2 hB B0 B1
        cases t
        · have hB3 := below_new w2 (.cells #[.int .i64 0, .int .i64 0, .int .i64 0, .int .i64 0, .slice (some ⟨G, 0, none⟩) 8 cc, .bool false] 33)
          have R3 := R2.keep hB3
          have F3 : ∀ j, (w2.alloc (.cells #[.int .i64 0, .int .i64 0, .int .i64 0, .int .i64 0, .slice (some ⟨G, 0, none⟩) 8 cc, .bool false] 33)).frozen? ⟨w.heap.size, j, none⟩ = false := fun j => (hB3.frozen (p := ⟨w.heap.size, j, none⟩) R2.lt).trans (F2 j)
          have X3 := AAt.new w2 0 0 0 0 (.slice (some ⟨G, 0, none⟩) 8 cc) false 33
          have B3 := B2.keep hB3
          have B4 := B3.set2 true
          have O4 := Others.setCell (w2.alloc (.cells #[.int .i64 0, .int .i64 0, .int .i64 0, .int .i64 0, .slice (some ⟨G, 0, none⟩) 8 cc, .bool false] 33)) B 2 (.bool true)
          have hlb : B ≠ w2.heap.size := by have := B2.lt; omega
          have hwb : w.heap.size ≠ B := by omega
          have X4 := X3.others' O4 (by omega)
          have R4 := R3.others' O4 hwb
          have F4 : ∀ j, ((w2.alloc (.cells #[.int .i64 0, .int .i64 0, .int .i64 0, .int .i64 0, .slice (some ⟨G, 0, none⟩) 8 cc, .bool false] 33)).setCell ⟨B, 2, none⟩ (.bool true)).frozen? ⟨w.heap.size, j, none⟩ = false := fun j => by rw [frozen_set]; exact F3 j
          have OB8 := (((((OB.set0 (w := ((w2.alloc (.cells #[.int .i64 0, .int .i64 0, .int .i64 0, .int .i64 0, .slice (some ⟨G, 0, none⟩) 8 cc, .bool false] 33)).setCell ⟨B, 2, none⟩ (.bool true))) ⟨R4, F4, Below.refl _ _⟩ 0).set1 0).set2 0).set3 0).set4 (.slice (some ⟨G, 0, none⟩) 8 cc)).set5 false
          have Ot8 : Others w.heap.size ((w2.alloc (.cells #[.int .i64 0, .int .i64 0, .int .i64 0, .int .i64 0, .slice (some ⟨G, 0, none⟩) 8 cc, .bool false] 33)).setCell ⟨B, 2, none⟩ (.bool true)) ((((((((w2.alloc (.cells #[.int .i64 0, .int .i64 0, .int .i64 0, .int .i64 0, .slice (some ⟨G, 0, none⟩) 8 cc, .bool false] 33)).setCell ⟨B, 2, none⟩ (.bool true)).setCell ⟨w.heap.size, 0, none⟩ (.int .i64 0)).setCell ⟨w.heap.size, 1, none⟩ (.int .i64 0)).setCell ⟨w.heap.size, 2, none⟩ (.int .i64 0)).setCell ⟨w.heap.size, 3, none⟩ (.int .i64 0)).setCell ⟨w.heap.size, 4, none⟩ (.slice (some ⟨G, 0, none⟩) 8 cc)).setCell ⟨w.heap.size, 5, none⟩ (.bool false)) := (((((Others.setCell _ _ _ _).trans (Others.setCell _ _ _ _)).trans (Others.setCell _ _ _ _)).trans (Others.setCell _ _ _ _)).trans (Others.setCell _ _ _ _)).trans (Others.setCell _ _ _ _)
          have NF : Nm w.heap.size B w ((((((((w2.alloc (.cells #[.int .i64 0, .int .i64 0, .int .i64 0, .int .i64 0, .slice (some ⟨G, 0, none⟩) 8 cc, .bool false] 33)).setCell ⟨B, 2, none⟩ (.bool true)).setCell ⟨w.heap.size, 0, none⟩ (.int .i64 0)).setCell ⟨w.heap.size, 1, none⟩ (.int .i64 0)).setCell ⟨w.heap.size, 2, none⟩ (.int .i64 0)).setCell ⟨w.heap.size, 3, none⟩ (.int .i64 0)).setCell ⟨w.heap.size, 4, none⟩ (.slice (some ⟨G, 0, none⟩) 8 cc)).setCell ⟨w.heap.size, 5, none⟩ (.bool false)) := (((N2.trans (Nm.of_below (hB3.mono s2))).trans (Nm.of_others O4 (.inl rfl)))).trans (Nm.of_others Ot8 (.inr (Nat.le_refl _)))
          have BF : BR ((((((((w2.alloc (.cells #[.int .i64 0, .int .i64 0, .int .i64 0, .int .i64 0, .slice (some ⟨G, 0, none⟩) 8 cc, .bool false] 33)).setCell ⟨B, 2, none⟩ (.bool true)).setCell ⟨w.heap.size, 0, none⟩ (.int .i64 0)).setCell ⟨w.heap.size, 1, none⟩ (.int .i64 0)).setCell ⟨w.heap.size, 2, none⟩ (.int .i64 0)).setCell ⟨w.heap.size, 3, none⟩ (.int .i64 0)).setCell ⟨w.heap.size, 4, none⟩ (.slice (some ⟨G, 0, none⟩) 8 cc)).setCell ⟨w.heap.size, 5, none⟩ (.bool false)) B (some ⟨bb, bo, none⟩) n cap qq true := by
            have cl : ∀ j, ((((((((w2.alloc (.cells #[.int .i64 0, .int .i64 0, .int .i64 0, .int .i64 0, .slice (some ⟨G, 0, none⟩) 8 cc, .bool false] 33)).setCell ⟨B, 2, none⟩ (.bool true)).setCell ⟨w.heap.size, 0, none⟩ (.int .i64 0)).setCell ⟨w.heap.size, 1, none⟩ (.int .i64 0)).setCell ⟨w.heap.size, 2, none⟩ (.int .i64 0)).setCell ⟨w.heap.size, 3, none⟩ (.int .i64 0)).setCell ⟨w.heap.size, 4, none⟩ (.slice (some ⟨G, 0, none⟩) 8 cc)).setCell ⟨w.heap.size, 5, none⟩ (.bool false)).cell? ⟨B, j, none⟩ = ((w2.alloc (.cells #[.int .i64 0, .int .i64 0, .int .i64 0, .int .i64 0, .slice (some ⟨G, 0, none⟩) 8 cc, .bool false] 33)).setCell ⟨B, 2, none⟩ (.bool true)).cell? ⟨B, j, none⟩ := fun j => World.cell?_of_block (w := ((w2.alloc (.cells #[.int .i64 0, .int .i64 0, .int .i64 0, .int .i64 0, .slice (some ⟨G, 0, none⟩) 8 cc, .bool false] 33)).setCell ⟨B, 2, none⟩ (.bool true))) (a := ⟨B, j, none⟩) (Ot8.block B (by omega))
            have fl' : ∀ j, ((((((((w2.alloc (.cells #[.int .i64 0, .int .i64 0, .int .i64 0, .int .i64 0, .slice (some ⟨G, 0, none⟩) 8 cc, .bool false] 33)).setCell ⟨B, 2, none⟩ (.bool true)).setCell ⟨w.heap.size, 0, none⟩ (.int .i64 0)).setCell ⟨w.heap.size, 1, none⟩ (.int .i64 0)).setCell ⟨w.heap.size, 2, none⟩ (.int .i64 0)).setCell ⟨w.heap.size, 3, none⟩ (.int .i64 0)).setCell ⟨w.heap.size, 4, none⟩ (.slice (some ⟨G, 0, none⟩) 8 cc)).setCell ⟨w.heap.size, 5, none⟩ (.bool false)).frozen? ⟨B, j, none⟩ = ((w2.alloc (.cells #[.int .i64 0, .int .i64 0, .int .i64 0, .int .i64 0, .slice (some ⟨G, 0, none⟩) 8 cc, .bool false] 33)).setCell ⟨B, 2, none⟩ (.bool true)).frozen? ⟨B, j, none⟩ := fun j => World.frozen?_of_block (w := ((w2.alloc (.cells #[.int .i64 0, .int .i64 0, .int .i64 0, .int .i64 0, .slice (some ⟨G, 0, none⟩) 8 cc, .bool false] 33)).setCell ⟨B, 2, none⟩ (.bool true))) (a := ⟨B, j, none⟩) (Ot8.block B (by omega))
            exact ⟨by rw [Ot8.size]; exact B4.lt, (cl _).trans B4.c0, (cl _).trans B4.c1, (cl _).trans B4.c2, fun j => (fl' j).trans (B4.fz j)⟩
          obtain ⟨_, x0, x1, x2, x3, x4, x5⟩ := X4
          obtain ⟨_, r0, r1, r2, r3, r4, r5⟩ := R4
          obtain ⟨_, d0, d1, d2, dz⟩ := B3
          clear R3 X3 hB3 O4 B4 B2
          go_wp2
          show bodyPost Tryz.prog Tryz.f130 (fun e w' => AggR f B bb bo n cap q false m w e w') _ _ ((((((((w2.alloc (.cells #[.int .i64 0, .int .i64 0, .int .i64 0, .int .i64 0, .slice (some ⟨G, 0, none⟩) 8 cc, .bool false] 33)).setCell ⟨B, 2, none⟩ (.bool true)).setCell ⟨w.heap.size, 0, none⟩ (.int .i64 0)).setCell ⟨w.heap.size, 1, none⟩ (.int .i64 0)).setCell ⟨w.heap.size, 2, none⟩ (.int .i64 0)).setCell ⟨w.heap.size, 3, none⟩ (.int .i64 0)).setCell ⟨w.heap.size, 4, none⟩ (.slice (some ⟨G, 0, none⟩) 8 cc)).setCell ⟨w.heap.size, 5, none⟩ (.bool false))
          clear Ot8
          generalize ((((((((w2.alloc (.cells #[.int .i64 0, .int .i64 0, .int .i64 0, .int .i64 0, .slice (some ⟨G, 0, none⟩) 8 cc, .bool false] 33)).setCell ⟨B, 2, none⟩ (.bool true)).setCell ⟨w.heap.size, 0, none⟩ (.int .i64 0)).setCell ⟨w.heap.size, 1, none⟩ (.int .i64 0)).setCell ⟨w.heap.size, 2, none⟩ (.int .i64 0)).setCell ⟨w.heap.size, 3, none⟩ (.int .i64 0)).setCell ⟨w.heap.size, 4, none⟩ (.slice (some ⟨G, 0, none⟩) 8 cc)).setCell ⟨w.heap.size, 5, none⟩ (.bool false)) = wF at *
          obtain ⟨_, t0, t1, t2, t3, t4, t5⟩ := OB8.A
          refine bodyPost_ret (v := .agg #[.int .i64 0, .int .i64 0, .int .i64 0, .int .i64 0, .slice (some ⟨G, 0, none⟩) 8 cc, .bool false]) (by simp [results, Tryz.results130, go_sem, t0, t1, t2, t3, t4, t5]) rfl ⟨.inr (.inr ⟨hm1, HNo.out, ⟨G, cc, rfl⟩, qq, hqq, BF⟩), NF⟩
        · have hB3 := below_new w2 (.cells #[.int .i64 0, .int .i64 0, .int .i64 0, .int .i64 0, .slice (some ⟨G, 0, none⟩) 8 cc, .bool false] 33)
          have R3 := R2.keep hB3
          have F3 : ∀ j, (w2.alloc (.cells #[.int .i64 0, .int .i64 0, .int .i64 0, .int .i64 0, .slice (some ⟨G, 0, none⟩) 8 cc, .bool false] 33)).frozen? ⟨w.heap.size, j, none⟩ = false := fun j => (hB3.frozen (p := ⟨w.heap.size, j, none⟩) R2.lt).trans (F2 j)
          have X3 := AAt.new w2 0 0 0 0 (.slice (some ⟨G, 0, none⟩) 8 cc) false 33
          have B3 := B2.keep hB3
          have B4 := B3.set2 true
          have O4 := Others.setCell (w2.alloc (.cells #[.int .i64 0, .int .i64 0, .int .i64 0, .int .i64 0, .slice (some ⟨G, 0, none⟩) 8 cc, .bool false] 33)) B 2 (.bool true)
          have hlb : B ≠ w2.heap.size := by have := B2.lt; omega
          have hwb : w.heap.size ≠ B := by omega
          have X4 := X3.others' O4 (by omega)
          have R4 := R3.others' O4 hwb
          have F4 : ∀ j, ((w2.alloc (.cells #[.int .i64 0, .int .i64 0, .int .i64 0, .int .i64 0, .slice (some ⟨G, 0, none⟩) 8 cc, .bool false] 33)).setCell ⟨B, 2, none⟩ (.bool true)).frozen? ⟨w.heap.size, j, none⟩ = false := fun j => by rw [frozen_set]; exact F3 j
          have OB8 := (((((OB.set0 (w := ((w2.alloc (.cells #[.int .i64 0, .int .i64 0, .int .i64 0, .int .i64 0, .slice (some ⟨G, 0, none⟩) 8 cc, .bool false] 33)).setCell ⟨B, 2, none⟩ (.bool true))) ⟨R4, F4, Below.refl _ _⟩ 0).set1 0).set2 0).set3 0).set4 (.slice (some ⟨G, 0, none⟩) 8 cc)).set5 false
          have Ot8 : Others w.heap.size ((w2.alloc (.cells #[.int .i64 0, .int .i64 0, .int .i64 0, .int .i64 0, .slice (some ⟨G, 0, none⟩) 8 cc, .bool false] 33)).setCell ⟨B, 2, none⟩ (.bool true)) ((((((((w2.alloc (.cells #[.int .i64 0, .int .i64 0, .int .i64 0, .int .i64 0, .slice (some ⟨G, 0, none⟩) 8 cc, .bool false] 33)).setCell ⟨B, 2, none⟩ (.bool true)).setCell ⟨w.heap.size, 0, none⟩ (.int .i64 0)).setCell ⟨w.heap.size, 1, none⟩ (.int .i64 0)).setCell ⟨w.heap.size, 2, none⟩ (.int .i64 0)).setCell ⟨w.heap.size, 3, none⟩ (.int .i64 0)).setCell ⟨w.heap.size, 4, none⟩ (.slice (some ⟨G, 0, none⟩) 8 cc)).setCell ⟨w.heap.size, 5, none⟩ (.bool false)) := (((((Others.setCell _ _ _ _).trans (Others.setCell _ _ _ _)).trans (Others.setCell _ _ _ _)).trans (Others.setCell _ _ _ _)).trans (Others.setCell _ _ _ _)).trans (Others.setCell _ _ _ _)
          have NF : Nm w.heap.size B w ((((((((w2.alloc (.cells #[.int .i64 0, .int .i64 0, .int .i64 0, .int .i64 0, .slice (some ⟨G, 0, none⟩) 8 cc, .bool false] 33)).setCell ⟨B, 2, none⟩ (.bool true)).setCell ⟨w.heap.size, 0, none⟩ (.int .i64 0)).setCell ⟨w.heap.size, 1, none⟩ (.int .i64 0)).setCell ⟨w.heap.size, 2, none⟩ (.int .i64 0)).setCell ⟨w.heap.size, 3, none⟩ (.int .i64 0)).setCell ⟨w.heap.size, 4, none⟩ (.slice (some ⟨G, 0, none⟩) 8 cc)).setCell ⟨w.heap.size, 5, none⟩ (.bool false)) := (((N2.trans (Nm.of_below (hB3.mono s2))).trans (Nm.of_others O4 (.inl rfl)))).trans (Nm.of_others Ot8 (.inr (Nat.le_refl _)))
          have BF : BR ((((((((w2.alloc (.cells #[.int .i64 0, .int .i64 0, .int .i64 0, .int .i64 0, .slice (some ⟨G, 0, none⟩) 8 cc, .bool false] 33)).setCell ⟨B, 2, none⟩ (.bool true)).setCell ⟨w.heap.size, 0, none⟩ (.int .i64 0)).setCell ⟨w.heap.size, 1, none⟩ (.int .i64 0)).setCell ⟨w.heap.size, 2, none⟩ (.int .i64 0)).setCell ⟨w.heap.size, 3, none⟩ (.int .i64 0)).setCell ⟨w.heap.size, 4, none⟩ (.slice (some ⟨G, 0, none⟩) 8 cc)).setCell ⟨w.heap.size, 5, none⟩ (.bool false)) B (some ⟨bb, bo, none⟩) n cap qq true := by
            have cl : ∀ j, ((((((((w2.alloc (.cells #[.int .i64 0, .int .i64 0, .int .i64 0, .int .i64 0, .slice (some ⟨G, 0, none⟩) 8 cc, .bool false] 33)).setCell ⟨B, 2, none⟩ (.bool true)).setCell ⟨w.heap.size, 0, none⟩ (.int .i64 0)).setCell ⟨w.heap.size, 1, none⟩ (.int .i64 0)).setCell ⟨w.heap.size, 2, none⟩ (.int .i64 0)).setCell ⟨w.heap.size, 3, none⟩ (.int .i64 0)).setCell ⟨w.heap.size, 4, none⟩ (.slice (some ⟨G, 0, none⟩) 8 cc)).setCell ⟨w.heap.size, 5, none⟩ (.bool false)).cell? ⟨B, j, none⟩ = ((w2.alloc (.cells #[.int .i64 0, .int .i64 0, .int .i64 0, .int .i64 0, .slice (some ⟨G, 0, none⟩) 8 cc, .bool false] 33)).setCell ⟨B, 2, none⟩ (.bool true)).cell? ⟨B, j, none⟩ := fun j => World.cell?_of_block (w := ((w2.alloc (.cells #[.int .i64 0, .int .i64 0, .int .i64 0, .int .i64 0, .slice (some ⟨G, 0, none⟩) 8 cc, .bool false] 33)).setCell ⟨B, 2, none⟩ (.bool true))) (a := ⟨B, j, none⟩) (Ot8.block B (by omega))
            have fl' : ∀ j, ((((((((w2.alloc (.cells #[.int .i64 0, .int .i64 0, .int .i64 0, .int .i64 0, .slice (some ⟨G, 0, none⟩) 8 cc, .bool false] 33)).setCell ⟨B, 2, none⟩ (.bool true)).setCell ⟨w.heap.size, 0, none⟩ (.int .i64 0)).setCell ⟨w.heap.size, 1, none⟩ (.int .i64 0)).setCell ⟨w.heap.size, 2, none⟩ (.int .i64 0)).setCell ⟨w.heap.size, 3, none⟩ (.int .i64 0)).setCell ⟨w.heap.size, 4, none⟩ (.slice (some ⟨G, 0, none⟩) 8 cc)).setCell ⟨w.heap.size, 5, none⟩ (.bool false)).frozen? ⟨B, j, none⟩ = ((w2.alloc (.cells #[.int .i64 0, .int .i64 0, .int .i64 0, .int .i64 0, .slice (some ⟨G, 0, none⟩) 8 cc, .bool false] 33)).setCell ⟨B, 2, none⟩ (.bool true)).frozen? ⟨B, j, none⟩ := fun j => World.frozen?_of_block (w := ((w2.alloc (.cells #[.int .i64 0, .int .i64 0, .int .i64 0, .int .i64 0, .slice (some ⟨G, 0, none⟩) 8 cc, .bool false] 33)).setCell ⟨B, 2, none⟩ (.bool true))) (a := ⟨B, j, none⟩) (Ot8.block B (by omega))
            exact ⟨by rw [Ot8.size]; exact B4.lt, (cl _).trans B4.c0, (cl _).trans B4.c1, (cl _).trans B4.c2, fun j => (fl' j).trans (B4.fz j)⟩
          obtain ⟨_, x0, x1, x2, x3, x4, x5⟩ := X4
          obtain ⟨_, r0, r1, r2, r3, r4, r5⟩ := R4
          obtain ⟨_, d0, d1, d2, dz⟩ := B3
          clear R3 X3 hB3 O4 B4 B2
          go_wp2
          show bodyPost Tryz.prog Tryz.f130 (fun e w' => AggR f B bb bo n cap q true m w e w') _ _ ((((((((w2.alloc (.cells #[.int .i64 0, .int .i64 0, .int .i64 0, .int .i64 0, .slice (some ⟨G, 0, none⟩) 8 cc, .bool false] 33)).setCell ⟨B, 2, none⟩ (.bool true)).setCell ⟨w.heap.size, 0, none⟩ (.int .i64 0)).setCell ⟨w.heap.size, 1, none⟩ (.int .i64 0)).setCell ⟨w.heap.size, 2, none⟩ (.int .i64 0)).setCell ⟨w.heap.size, 3, none⟩ (.int .i64 0)).setCell ⟨w.heap.size, 4, none⟩ (.slice (some ⟨G, 0, none⟩) 8 cc)).setCell ⟨w.heap.size, 5, none⟩ (.bool false))
          clear Ot8
          generalize ((((((((w2.alloc (.cells #[.int .i64 0, .int .i64 0, .int .i64 0, .int .i64 0, .slice (some ⟨G, 0, none⟩) 8 cc, .bool false] 33)).setCell ⟨B, 2, none⟩ (.bool true)).setCell ⟨w.heap.size, 0, none⟩ (.int .i64 0)).setCell ⟨w.heap.size, 1, none⟩ (.int .i64 0)).setCell ⟨w.heap.size, 2, none⟩ (.int .i64 0)).setCell ⟨w.heap.size, 3, none⟩ (.int .i64 0)).setCell ⟨w.heap.size, 4, none⟩ (.slice (some ⟨G, 0, none⟩) 8 cc)).setCell ⟨w.heap.size, 5, none⟩ (.bool false)) = wF at *
          obtain ⟨_, t0, t1, t2, t3, t4, t5⟩ := OB8.A
          refine bodyPost_ret (v := .agg #[.int .i64 0, .int .i64 0, .int .i64 0, .int .i64 0, .slice (some ⟨G, 0, none⟩) 8 cc, .bool false]) (by simp [results, Tryz.results130, go_sem, t0, t1, t2, t3, t4, t5]) rfl ⟨.inr (.inr ⟨hm1, HNo.out, ⟨G, cc, rfl⟩, qq, hqq, BF⟩), NF⟩
    · have HNo : Hid (∀ N, ¬ AgY f n q m N) := fun N h => h1 h.1
      have hRA := readAgg_impl none 0 0 (fun _ => 0) w1 ⟨fun _ => by omega, .inl rfl⟩ (by omega) (Nat.le_refl _)
      have R1 := R0.mid' M1 (by omega)
      have F1 : ∀ j, w1.frozen? ⟨w.heap.size, j, none⟩ = false := fun j => (M1.frozen (by omega) (by omega)).trans (F0 j)
      have N1 := N0.trans (Nm.of_mid (base := w.heap.size) M1 (by omega))
      have s1 := M1.size
      clear hcall r0' M1 R0 F0 N0
      go_wp2_with fail
      refine hRA.mono ?_
      intro e w2 hO
      obtain ⟨G, cc, rfl, q2⟩ : ∃ G cc, e = .returned (.tuple #[.agg #[.int .i64 0, .int .i64 0, .int .i64 0, .int .i64 0, .slice (some ⟨G, 0, none⟩) 8 cc, .bool false], .bool false]) ∧ Below w1.heap.size w1 w2 := by
        rcases hO with ⟨N, G, cc, hR, _⟩ | ⟨_, ⟨G, cc, he⟩, q2⟩
        · have := (rdNs_pos hR.1).1; omega
        · exact ⟨G, cc, he, q2⟩
      have R2 := R1.keep q2
      have F2 : ∀ j, w2.frozen? ⟨w.heap.size, j, none⟩ = false := fun j => (q2.frozen (p := ⟨w.heap.size, j, none⟩) R1.lt).trans (F1 j)
      have N2 := N1.trans (Nm.of_below (q2.mono (by omega)))
      have s2 : w.heap.size ≤ w2.heap.size := by have := q2.size; omega
      have B2 := B1.keep q2
      obtain ⟨qq, hqqe⟩ : ∃ qq, q = qq := ⟨_, rfl⟩
      have hqq : qq ≤ n := by omega
      rw [hqqe] at B2
      clear hRA hO R1 F1 N1 q2 hB B0 B1
      have hB3 := below_new w2 (.cells #[.int .i64 0, .int .i64 0, .int .i64 0, .int .i64 0, .slice (some ⟨G, 0, none⟩) 8 cc, .bool false] 33)
      have R3 := R2.keep hB3
      have F3 : ∀ j, (w2.alloc (.cells #[.int .i64 0, .int .i64 0, .int .i64 0, .int .i64 0, .slice (some ⟨G, 0, none⟩) 8 cc, .bool false] 33)).frozen? ⟨w.heap.size, j, none⟩ = false := fun j => (hB3.frozen (p := ⟨w.heap.size, j, none⟩) R2.lt).trans (F2 j)
      have X3 := AAt.new w2 0 0 0 0 (.slice (some ⟨G, 0, none⟩) 8 cc) false 33
      have B3 := B2.keep hB3
      have B4 := B3.set2 true
      have O4 := Others.setCell (w2.alloc (.cells #[.int .i64 0, .int .i64 0, .int .i64 0, .int .i64 0, .slice (some ⟨G, 0, none⟩) 8 cc, .bool false] 33)) B 2 (.bool true)
      have hlb : B ≠ w2.heap.size := by have := B2.lt; omega
      have hwb : w.heap.size ≠ B := by omega
      have X4 := X3.others' O4 (by omega)
      have R4 := R3.others' O4 hwb
      have F4 : ∀ j, ((w2.alloc (.cells #[.int .i64 0, .int .i64 0, .int .i64 0, .int .i64 0, .slice (some ⟨G, 0, none⟩) 8 cc, .bool false] 33)).setCell ⟨B, 2, none⟩ (.bool true)).frozen? ⟨w.heap.size, j, none⟩ = false := fun j => by rw [frozen_set]; exact F3 j
      have OB8 := (((((OB.set0 (w := ((w2.alloc (.cells #[.int .i64 0, .int .i64 0, .int .i64 0, .int .i64 0, .slice (some ⟨G, 0, none⟩) 8 cc, .bool false] 33)).setCell ⟨B, 2, none⟩ (.bool true))) ⟨R4, F4, Below.refl _ _⟩ 0).set1 0).set2 0).set3 0).set4 (.slice (some ⟨G, 0, none⟩) 8 cc)).set5 false
      have Ot8 : Others w.heap.size ((w2.alloc (.cells #[.int .i64 0, .int .i64 0, .int .i64 0, .int .i64 0, .slice (some ⟨G, 0, none⟩) 8 cc, .bool false] 33)).setCell ⟨B, 2, none⟩ (.bool true)) ((((((((w2.alloc (.cells #[.int .i64 0, .int .i64 0, .int .i64 0, .int .i64 0, .slice (some ⟨G, 0, none⟩) 8 cc, .bool false] 33)).setCell ⟨B, 2, none⟩ (.bool true)).setCell ⟨w.heap.size, 0, none⟩ (.int .i64 0)).setCell ⟨w.heap.size, 1, none⟩ (.int .i64 0)).setCell ⟨w.heap.size, 2, none⟩ (.int .i64 0)).setCell ⟨w.heap.size, 3, none⟩ (.int .i64 0)).setCell ⟨w.heap.size, 4, none⟩ (.slice (some ⟨G, 0, none⟩) 8 cc)).setCell ⟨w.heap.size, 5, none⟩ (.bool false)) := (((((Others.setCell _ _ _ _).trans (Others.setCell _ _ _ _)).trans (Others.setCell _ _ _ _)).trans (Others.setCell _ _ _ _)).trans (Others.setCell _ _ _ _)).trans (Others.setCell _ _ _ _)
      have NF : Nm w.heap.size B w ((((((((w2.alloc (.cells #[.int .i64 0, .int .i64 0, .int .i64 0, .int .i64 0, .slice (some ⟨G, 0, none⟩) 8 cc, .bool false] 33)).setCell ⟨B, 2, none⟩ (.bool true)).setCell ⟨w.heap.size, 0, none⟩ (.int .i64 0)).setCell ⟨w.heap.size, 1, none⟩ (.int .i64 0)).setCell ⟨w.heap.size, 2, none⟩ (.int .i64 0)).setCell ⟨w.heap.size, 3, none⟩ (.int .i64 0)).setCell ⟨w.heap.size, 4, none⟩ (.slice (some ⟨G, 0, none⟩) 8 cc)).setCell ⟨w.heap.size, 5, none⟩ (.bool false)) := (((N2.trans (Nm.of_below (hB3.mono s2))).trans (Nm.of_others O4 (.inl rfl)))).trans (Nm.of_others Ot8 (.inr (Nat.le_refl _)))
      have BF : BR ((((((((w2.alloc (.cells #[.int .i64 0, .int .i64 0, .int .i64 0, .int .i64 0, .slice (some ⟨G, 0, none⟩) 8 cc, .bool false] 33)).setCell ⟨B, 2, none⟩ (.bool true)).setCell ⟨w.heap.size, 0, none⟩ (.int .i64 0)).setCell ⟨w.heap.size, 1, none⟩ (.int .i64 0)).setCell ⟨w.heap.size, 2, none⟩ (.int .i64 0)).setCell ⟨w.heap.size, 3, none⟩ (.int .i64 0)).setCell ⟨w.heap.size, 4, none⟩ (.slice (some ⟨G, 0, none⟩) 8 cc)).setCell ⟨w.heap.size, 5, none⟩ (.bool false)) B (some ⟨bb, bo, none⟩) n cap qq true := by
        have cl : ∀ j, ((((((((w2.alloc (.cells #[.int .i64 0, .int .i64 0, .int .i64 0, .int .i64 0, .slice (some ⟨G, 0, none⟩) 8 cc, .bool false] 33)).setCell ⟨B, 2, none⟩ (.bool true)).setCell ⟨w.heap.size, 0, none⟩ (.int .i64 0)).setCell ⟨w.heap.size, 1, none⟩ (.int .i64 0)).setCell ⟨w.heap.size, 2, none⟩ (.int .i64 0)).setCell ⟨w.heap.size, 3, none⟩ (.int .i64 0)).setCell ⟨w.heap.size, 4, none⟩ (.slice (some ⟨G, 0, none⟩) 8 cc)).setCell ⟨w.heap.size, 5, none⟩ (.bool false)).cell? ⟨B, j, none⟩ = ((w2.alloc (.cells #[.int .i64 0, .int .i64 0, .int .i64 0, .int .i64 0, .slice (some ⟨G, 0, none⟩) 8 cc, .bool false] 33)).setCell ⟨B, 2, none⟩ (.bool true)).cell? ⟨B, j, none⟩ := fun j => World.cell?_of_block (w := ((w2.alloc (.cells #[.int .i64 0, .int .i64 0, .int .i64 0, .int .i64 0, .slice (some ⟨G, 0, none⟩) 8 cc, .bool false] 33)).setCell ⟨B, 2, none⟩ (.bool true))) (a := ⟨B, j, none⟩) (Ot8.block B (by omega))
        have fl' : ∀ j, ((((((((w2.alloc (.cells #[.int .i64 0, .int .i64 0, .int .i64 0, .int .i64 0, .slice (some ⟨G, 0, none⟩) 8 cc, .bool false] 33)).setCell ⟨B, 2, none⟩ (.bool true)).setCell ⟨w.heap.size, 0, none⟩ (.int .i64 0)).setCell ⟨w.heap.size, 1, none⟩ (.int .i64 0)).setCell ⟨w.heap.size, 2, none⟩ (.int .i64 0)).setCell ⟨w.heap.size, 3, none⟩ (.int .i64 0)).setCell ⟨w.heap.size, 4, none⟩ (.slice (some ⟨G, 0, none⟩) 8 cc)).setCell ⟨w.heap.size, 5, none⟩ (.bool false)).frozen? ⟨B, j, none⟩ = ((w2.alloc (.cells #[.int .i64 0, .int .i64 0, .int .i64 0, .int .i64 0, .slice (some ⟨G, 0, none⟩) 8 cc, .bool false] 33)).setCell ⟨B, 2, none⟩ (.bool true)).frozen? ⟨B, j, none⟩ := fun j => World.frozen?_of_block (w := ((w2.alloc (.cells #[.int .i64 0, .int .i64 0, .int .i64 0, .int .i64 0, .slice (some ⟨G, 0, none⟩) 8 cc, .bool false] 33)).setCell ⟨B, 2, none⟩ (.bool true))) (a := ⟨B, j, none⟩) (Ot8.block B (by omega))
        exact ⟨by rw [Ot8.size]; exact B4.lt, (cl _).trans B4.c0, (cl _).trans B4.c1, (cl _).trans B4.c2, fun j => (fl' j).trans (B4.fz j)⟩
      obtain ⟨_, x0, x1, x2, x3, x4, x5⟩ := X4
      obtain ⟨_, r0, r1, r2, r3, r4, r5⟩ := R4
      obtain ⟨_, d0, d1, d2, dz⟩ := B3
      clear R3 X3 hB3 O4 B4 B2
      go_wp2
      show bodyPost Tryz.prog Tryz.f130 (fun e w' => AggR f B bb bo n cap q t m w e w') _ _ ((((((((w2.alloc (.cells #[.int .i64 0, .int .i64 0, .int .i64 0, .int .i64 0, .slice (some ⟨G, 0, none⟩) 8 cc, .bool false] 33)).setCell ⟨B, 2, none⟩ (.bool true)).setCell ⟨w.heap.size, 0, none⟩ (.int .i64 0)).setCell ⟨w.heap.size, 1, none⟩ (.int .i64 0)).setCell ⟨w.heap.size, 2, none⟩ (.int .i64 0)).setCell ⟨w.heap.size, 3, none⟩ (.int .i64 0)).setCell ⟨w.heap.size, 4, none⟩ (.slice (some ⟨G, 0, none⟩) 8 cc)).setCell ⟨w.heap.size, 5, none⟩ (.bool false))
      clear Ot8
      generalize ((((((((w2.alloc (.cells #[.int .i64 0, .int .i64 0, .int .i64 0, .int .i64 0, .slice (some ⟨G, 0, none⟩) 8 cc, .bool false] 33)).setCell ⟨B, 2, none⟩ (.bool true)).setCell ⟨w.heap.size, 0, none⟩ (.int .i64 0)).setCell ⟨w.heap.size, 1, none⟩ (.int .i64 0)).setCell ⟨w.heap.size, 2, none⟩ (.int .i64 0)).setCell ⟨w.heap.size, 3, none⟩ (.int .i64 0)).setCell ⟨w.heap.size, 4, none⟩ (.slice (some ⟨G, 0, none⟩) 8 cc)).setCell ⟨w.heap.size, 5, none⟩ (.bool false)) = wF at *
      obtain ⟨_, t0, t1, t2, t3, t4, t5⟩ := OB8.A
      refine bodyPost_ret (v := .agg #[.int .i64 0, .int .i64 0, .int .i64 0, .int .i64 0, .slice (some ⟨G, 0, none⟩) 8 cc, .bool false]) (by simp [results, Tryz.results130, go_sem, t0, t1, t2, t3, t4, t5]) rfl ⟨.inr (.inr ⟨hm1, HNo.out, ⟨G, cc, rfl⟩, qq, hqq, BF⟩), NF⟩
end Go.Proofs.YtohjjigkfdhklaaGreat
