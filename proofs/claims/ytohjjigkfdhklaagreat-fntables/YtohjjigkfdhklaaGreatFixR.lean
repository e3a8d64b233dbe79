/- The reader of bytes: so many bytes, and a kind. / The reader of bytes: an agg. / A number comes back from PutVar's bytes. / Numbers and aggs come back from their bytes. / Numbers of fixed length: what ReadFixed reads. / A number comes back from PutFixed's bytes. -/
import Derived.Test.YtohjjigkfdhklaaGreatBr
import Derived.BigQuiet
import Derived.Test.YtohjjigkfdhklaaGreatBytI
import Derived.Test.YtohjjigkfdhklaaGreatRa
import Derived.Test.YtohjjigkfdhklaaGreatIL
import Derived.OpenShut
import Derived.Test.YtohjjigkfdhklaaGreatBV
namespace Go.Proofs.YtohjjigkfdhklaaGreat
set_option maxRecDepth 100000
open Go.RowKit
set_option linter.unusedSimpArgs false
set_option linter.unusedVariables false

/-- What take leaves. -/
def TakR (f : Nat → Int) (B bb bo n cap q : Nat) (t : Bool) (m : Nat) (w : World) (e : Ending) (w' : World) : Prop :=
  ((q + m ≤ n ∧ ∃ A c, e = .returned (.slice A m c) ∧ m ≤ c ∧ (A = some ⟨bb, bo + q, none⟩ ∨ m = 0) ∧ (∃ b o, A = some ⟨b, o, none⟩) ∧ BR w' B (some ⟨bb, bo, none⟩) n cap (q + m) t) ∨ (¬ q + m ≤ n ∧ e = .returned (.slice none 0 0) ∧ BR w' B (some ⟨bb, bo, none⟩) n cap q true)) ∧ Mid B (B + 1) w w'

set_option maxHeartbeats 3200000 in
theorem take_any (f : Nat → Int) (B bb bo n cap q : Nat) (t : Bool) (m : Nat) (hm : m ≤ 9223372036854775807) (w : World) (hB : BR w B (some ⟨bb, bo, none⟩) n cap q t) (hn : n ≤ 1048576) (hcap : n ≤ cap) (hq : q ≤ n) :
    Calls Tryz.prog 129 #[.pointer (some ⟨B, 0, none⟩), .int .i64 (m : Nat)] w fun e w' => TakR f B bb bo n cap q t m w e w' := by
  have hws : IntKind.i64.wrap ((n : Int) - (q : Int)) = (n : Int) - (q : Int) := by rw [IntKind.wrap_i64] <;> omega
  obtain ⟨_, c0, c1, c2, fz⟩ := hB
  have hB : BR w B (some ⟨bb, bo, none⟩) n cap q t := ⟨by assumption, c0, c1, c2, fz⟩
  have B1 := hB.keep (Below.refl _ w).drew
  have M1 : Mid B (B + 1) w w.drew := Mid.of_below (Below.refl _ w).drew
  by_cases hlt : q + m ≤ n
  · have hc : ¬ (n : Int) - (q : Int) < (m : Int) := by omega
    have hwa : IntKind.i64.wrap ((q : Int) + (m : Int)) = (q : Int) + (m : Int) := by rw [IntKind.wrap_i64] <;> omega
    have hqm : q + m - q = m := by omega
    have hqc : q + m ≤ cap := by omega
    have B3 : BR w.drew.drew B (some ⟨bb, bo, none⟩) n cap q t := B1.keep (Below.refl _ _).drew
    have B4 := B3.set1 (q + m)
    have M4 : Mid B (B + 1) w (w.drew.drew.setCell ⟨B, 1, none⟩ (.int .i64 ((q + m : Nat) : Int))) := (M1.trans (Mid.of_below (Below.refl _ w.drew).drew)).trans (Mid.of_others (Others.setCell _ B 1 _) (Nat.le_refl _) (Nat.lt_succ_self _))
    rw [show ((q + m : Nat) : Int) = (q : Int) + (m : Int) from by omega] at B4 M4
    rcases Nat.lt_or_ge q cap with hlc | hlc
    · have hcq : ¬ cap = q := by omega
      go_enter Tryz.func129, Tryz.ntmps129
      go_wp2
      go_region
      go_wp2
      go_region
      go_wp2
      refine bodyPost_ret (v := .slice (some ⟨bb, bo + q, none⟩) m (cap - q)) (by simp [results, Tryz.results129, go_sem, hqm]) rfl ?_
      exact ⟨.inl ⟨hlt, _, _, rfl, by omega, .inl rfl, ⟨_, _, rfl⟩, B4⟩, M4⟩
    · obtain rfl : cap = q := by omega
      obtain rfl : m = 0 := by omega
      obtain rfl : n = cap := by omega
      go_enter Tryz.func129, Tryz.ntmps129
      go_wp2
      go_region
      go_wp2
      go_region
      go_wp2
      refine bodyPost_ret (v := .slice (some ⟨bb, bo, none⟩) 0 0) (by simp [results, Tryz.results129, go_sem]) rfl ?_
      simp only [Int.natCast_zero, Int.add_zero, Nat.add_zero] at B4 M4
      exact ⟨.inl ⟨hlt, _, _, rfl, Nat.le_refl _, .inr rfl, ⟨_, _, rfl⟩, B4⟩, M4⟩
  · have hc : (n : Int) - (q : Int) < (m : Int) := by omega
    have B2 := B1.set2 true
    have M2 := M1.trans (Mid.of_others (Others.setCell w.drew B 2 (.bool true)) (Nat.le_refl _) (Nat.lt_succ_self _))
    go_enter Tryz.func129, Tryz.ntmps129
    go_wp2
    go_region
    go_wp2
    go_ret
    exact ⟨.inr ⟨hlt, rfl, B2⟩, M2⟩

/-- What kind leaves. -/
def KinR (f : Nat → Int) (B bb bo n cap q : Nat) (t : Bool) (w : World) (e : Ending) (w' : World) : Prop :=
  ((q + 1 ≤ n ∧ t = false ∧ e = .returned (.int .i64 (f q)) ∧ BR w' B (some ⟨bb, bo, none⟩) n cap (q + 1) false) ∨ (¬ (q + 1 ≤ n ∧ t = false) ∧ e = .returned (.int .i64 0) ∧ ∃ q', q' ≤ n ∧ BR w' B (some ⟨bb, bo, none⟩) n cap q' true)) ∧ Mid B (B + 1) w w'

set_option maxHeartbeats 3200000 in
theorem kind_any (f : Nat → Int) (B bb bo n cap q : Nat) (t : Bool) (w : World) (hB : BR w B (some ⟨bb, bo, none⟩) n cap q t) (hr : Row w (some ⟨bb, bo, none⟩) n f) (hne : bb ≠ B) (hn : n ≤ 1048576) (hcap : n ≤ cap) (hq : q ≤ n) :
    Calls Tryz.prog 128 #[.pointer (some ⟨B, 0, none⟩)] w fun e w' => KinR f B bb bo n cap q t w e w' := by
  have hcall := take_any f B bb bo n cap q t 1 (by omega) w hB hn hcap hq
  go_enter Tryz.func128, Tryz.ntmps128
  go_wp2_with fail
  refine hcall.mono ?_
  rintro e w1 ⟨⟨h1, A, c, rfl, hc, hA, _, B1⟩ | ⟨h1, rfl, B1⟩, M1⟩
  · obtain rfl : A = some ⟨bb, bo + q, none⟩ := hA.resolve_right (by omega)
    have hr1 := M1.row hr (fun b o e _ => by injection e with e; injection e with e1 e2; omega)
    obtain ⟨b', o', e, hlt, hcc⟩ := hr1.lies.resolve_left (by omega)
    injection e with e
    injection e with e1 e2 _
    subst e1 e2
    have hcell := hcc q (by omega)
    have hfb := hr.bd q
    have hw : IntKind.i64.wrap (f q) = f q := by rw [IntKind.wrap_i64]; omega
    obtain ⟨_, d0, d1, d2, dz⟩ := B1
    have B1 : BR w1 B (some ⟨bb, bo, none⟩) n cap (q + 1) t := ⟨by assumption, d0, d1, d2, dz⟩
    clear hcall hcc hr1
    have h01 : 0 < 1 := by omega
    cases t
    · go_wp2
      go_ret
      exact ⟨.inl ⟨h1, rfl, rfl, B1⟩, M1⟩
    · go_wp2
      go_ret
      exact ⟨.inr ⟨by simp, rfl, q + 1, h1, B1⟩, M1⟩
  · obtain ⟨_, d0, d1, d2, dz⟩ := B1
    have B1 : BR w1 B (some ⟨bb, bo, none⟩) n cap q true := ⟨by assumption, d0, d1, d2, dz⟩
    clear hcall
    go_wp2
    go_ret
    exact ⟨.inr ⟨fun h => h1 h.1, rfl, q, hq, B1⟩, M1⟩
end Go.Proofs.YtohjjigkfdhklaaGreat
namespace Go.Proofs.YtohjjigkfdhklaaGreat
set_option maxRecDepth 100000
open Go.RowKit
set_option linter.unusedSimpArgs false
set_option linter.unusedVariables false

/-- All blocks below base but B are as they were. -/
structure Nm (base B : Nat) (w w' : World) : Prop where
  os : w'.os = w.os
  tape : w'.tape = w.tape
  output : w'.output = w.output
  size : w.heap.size ≤ w'.heap.size
  block : ∀ k, k < base → k ≠ B → w'.heap[k]? = w.heap[k]?
section
variable {base B : Nat} {w w' u : World}
theorem Nm.trans (h : Nm base B w w') (k : Nm base B w' u) : Nm base B w u := ⟨k.os.trans h.os, k.tape.trans h.tape, k.output.trans h.output, Nat.le_trans h.size k.size, fun j h1 h2 => (k.block j h1 h2).trans (h.block j h1 h2)⟩
theorem Nm.of_below (h : Below base w w') : Nm base B w w' := ⟨h.os, h.tape, h.output, h.size, fun k h1 _ => h.block k h1⟩
theorem Nm.of_mid (h : Mid B (B + 1) w w') (hb : base ≤ w.heap.size) : Nm base B w w' := ⟨h.os, h.tape, h.output, h.size, fun k h1 h2 => h.block k (by omega) (by omega)⟩
theorem Nm.of_others {D : Nat} (h : Others D w w') (hD : D = B ∨ base ≤ D) : Nm base B w w' := ⟨h.os, h.tape, h.output, by rw [h.size]; exact Nat.le_refl _, fun k h1 h2 => h.block k (by omega)⟩
theorem Nm.row (h : Nm base B w w') {bb bo n : Nat} {f : Nat → Int} (hr : Row w (some ⟨bb, bo, none⟩) n f) (h1 : bb < base) (h2 : bb ≠ B) : Row w' (some ⟨bb, bo, none⟩) n f := by
  refine ⟨hr.bd, hr.lies.elim .inl fun ⟨b, off, e, hlt, hc⟩ => ?_⟩
  injection e with e
  injection e with e1 e2 _
  subst e1 e2
  exact .inr ⟨bb, bo, rfl, Nat.lt_of_lt_of_le hlt h.size, fun i hi => (World.cell?_of_block (w := w) (a := ⟨bb, bo + i, none⟩) (h.block bb h1 h2)).trans (hc i hi)⟩
end
theorem AAt.mid' {B U : Nat} {w w' : World} {b : Nat} {c s lo hi : Int} {hv : Value} {fu : Bool} (h : AAt w b c s lo hi hv fu) (hm : Mid B U w w') (hne : b < B ∨ U ≤ b) : AAt w' b c s lo hi hv fu :=
  ⟨Nat.lt_of_lt_of_le h.lt hm.size, (hm.cell h.lt hne).trans h.c0, (hm.cell h.lt hne).trans h.c1, (hm.cell h.lt hne).trans h.c2, (hm.cell h.lt hne).trans h.c3, (hm.cell h.lt hne).trans h.c4, (hm.cell h.lt hne).trans h.c5⟩
theorem AAt.others' {D : Nat} {w w' : World} {b : Nat} {c s lo hi : Int} {hv : Value} {fu : Bool} (h : AAt w b c s lo hi hv fu) (ho : Others D w w') (hne : b ≠ D) : AAt w' b c s lo hi hv fu :=
  have cl : ∀ j, w'.cell? ⟨b, j, none⟩ = w.cell? ⟨b, j, none⟩ := fun j => World.cell?_of_block (w := w) (a := ⟨b, j, none⟩) (ho.block b hne)
  ⟨by rw [ho.size]; exact h.lt, (cl _).trans h.c0, (cl _).trans h.c1, (cl _).trans h.c2, (cl _).trans h.c3, (cl _).trans h.c4, (cl _).trans h.c5⟩

/-- An agg is read at place q out of m bytes. -/
def AgY (f : Nat → Int) (n q m : Nat) (N : List Int) : Prop := q + m ≤ n ∧ RAg (fun i => f (q + i)) m N
/-- What agg leaves. -/
def AggR (f : Nat → Int) (B bb bo n cap q : Nat) (t : Bool) (m : Nat) (w : World) (e : Ending) (w' : World) : Prop :=
  ((m = 0 ∧ e = .returned (.agg #[.int .i64 0, .int .i64 0, .int .i64 0, .int .i64 0, .slice none 0 0, .bool false]) ∧ BR w' B (some ⟨bb, bo, none⟩) n cap q t) ∨
   (0 < m ∧ ∃ N G c, AgY f n q m N ∧ e = .returned (.agg #[.int .i64 (fi N 0), .int .i64 (fi N 1), .int .i64 (fi N 2), .int .i64 (fi N 3), .slice (some ⟨G, 0, none⟩) 8 c, .bool (f q == 1)]) ∧ w.heap.size ≤ G ∧ IOwn w' G 0 8 (fun i => fi N (i + 4)) ∧ BR w' B (some ⟨bb, bo, none⟩) n cap (q + m) t) ∨
   (0 < m ∧ (∀ N, ¬ AgY f n q m N) ∧ (∃ G c, e = .returned (.agg #[.int .i64 0, .int .i64 0, .int .i64 0, .int .i64 0, .slice (some ⟨G, 0, none⟩) 8 c, .bool false])) ∧ ∃ q', q' ≤ n ∧ BR w' B (some ⟨bb, bo, none⟩) n cap q' true)) ∧ Nm w.heap.size B w w'

set_option maxHeartbeats 4000000 in
theorem agg_any (f : Nat → Int) (B bb bo n cap q : Nat) (t : Bool) (m : Nat) (hm : m ≤ 9223372036854775807) (w : World) (hB : BR w B (some ⟨bb, bo, none⟩) n cap q t) (hr : Row w (some ⟨bb, bo, none⟩) n f) (hbb : bb < w.heap.size) (hne : bb ≠ B) (hn : n ≤ 1048576) (hcap : n ≤ cap) (hq : q ≤ n) :
    Calls Tryz.prog 130 #[.pointer (some ⟨B, 0, none⟩), .int .i64 (m : Nat)] w fun e w' => AggR f B bb bo n cap q t m w e w' := by
  have hB0 := below_new w (.cells #[.int .i64 0, .int .i64 0, .int .i64 0, .int .i64 0, .slice none 0 0, .bool false] 33)
  have R0 := AAt.new w 0 0 0 0 (.slice none 0 0) false 33
  have F0 : ∀ j, (w.alloc (.cells #[.int .i64 0, .int .i64 0, .int .i64 0, .int .i64 0, .slice none 0 0, .bool false] 33)).frozen? ⟨w.heap.size, j, none⟩ = false := fun j => by simp [go_sem]
  have B0 := hB.keep hB0
  have hs0 : (w.alloc (.cells #[.int .i64 0, .int .i64 0, .int .i64 0, .int .i64 0, .slice none 0 0, .bool false] 33)).heap.size = w.heap.size + 1 := by simp
  have hBl := hB.lt
  by_cases hm0 : m = 0
  · subst hm0
    go_enter Tryz.func130, Tryz.ntmps130
    go_wp2
    generalize w.alloc (.cells #[.int .i64 0, .int .i64 0, .int .i64 0, .int .i64 0, .slice none 0 0, .bool false] 33) = w0 at *
    obtain ⟨_, t0, t1, t2, t3, t4, t5⟩ := R0
    exact bodyPost_ret (v := .agg #[.int .i64 0, .int .i64 0, .int .i64 0, .int .i64 0, .slice none 0 0, .bool false]) (by simp [results, Tryz.results130, go_sem, t0, t1, t2, t3, t4, t5]) rfl ⟨.inl ⟨rfl, rfl, B0⟩, Nm.of_below hB0⟩
  · have hm1 : 0 < m := by omega
    have hmi : ((m : Int) == 0) = false := by simp; omega
    have hcall := take_any f B bb bo n cap q t m hm _ B0 hn hcap hq
    have hfq : ∀ i, 0 ≤ f (q + i) ∧ f (q + i) ≤ 255 := fun i => hr.bd _
    go_enter Tryz.func130, Tryz.ntmps130
    go_wp2_with fail
    have N0 : Nm w.heap.size B w (w.alloc (.cells #[.int .i64 0, .int .i64 0, .int .i64 0, .int .i64 0, .slice none 0 0, .bool false] 33)) := Nm.of_below hB0
    have r0' := hr.keep hB0
    generalize w.alloc (.cells #[.int .i64 0, .int .i64 0, .int .i64 0, .int .i64 0, .slice none 0 0, .bool false] 33) = w0 at *
    refine hcall.mono ?_
    rintro e w1 ⟨⟨h1, A, c, rfl, hc, hA, _, B1⟩ | ⟨h1, rfl, B1⟩, M1⟩
    · obtain rfl : A = some ⟨bb, bo + q, none⟩ := hA.resolve_right (by omega)
      have hr1 := M1.row r0' (fun b o e _ => by injection e with e; injection e with e1 e2; omega)
      have hrow : Row w1 (some ⟨bb, bo + q, none⟩) m (fun i => f (q + i)) := by
        obtain ⟨b', o', e, hlt, hcc⟩ := hr1.lies.resolve_left (by omega)
        injection e with e
        injection e with e1 e2 _
        subst e1 e2
        exact ⟨hfq, .inr ⟨bb, bo + q, rfl, hlt, fun i hi => by rw [Nat.add_assoc]; exact hcc (q + i) (by omega)⟩⟩
      have hRA := readAgg_impl (some ⟨bb, bo + q, none⟩) m c (fun i => f (q + i)) w1 hrow (by omega) hc
      have R1 := R0.mid' M1 (by omega)
      have F1 : ∀ j, w1.frozen? ⟨w.heap.size, j, none⟩ = false := fun j => (M1.frozen (by omega) (by omega)).trans (F0 j)
      have N1 := N0.trans (Nm.of_mid (base := w.heap.size) M1 (by omega))
      have s1 := M1.size
      clear hcall hr1 hrow r0' M1 R0 F0 N0
      go_wp2_with fail
      refine hRA.mono ?_
      intro e w2 hO
      obtain ⟨fu, hfu⟩ : ∃ fu : Bool, (f (q + 0) == 1) = fu := ⟨_, rfl⟩
      rcases hO with ⟨N, G, cc, hR, he, hG, oG, q2⟩ | ⟨hNo, ⟨G, cc, rfl⟩, q2⟩
      · have HY : Hid (AgY f n q m N) := ⟨h1, hR⟩
        have HFU : Hid ((f q == 1) = fu) := hfu
        have he' : e = .returned (.tuple #[.agg #[.int .i64 (fi N 0), .int .i64 (fi N 1), .int .i64 (fi N 2), .int .i64 (fi N 3), .slice (some ⟨G, 0, none⟩) 8 cc, .bool fu], .bool true]) := by rw [he, ← hfu]
        subst he'
        have R2 := R1.keep q2
        have F2 : ∀ j, w2.frozen? ⟨w.heap.size, j, none⟩ = false := fun j => (q2.frozen (p := ⟨w.heap.size, j, none⟩) R1.lt).trans (F1 j)
        have N2 := N1.trans (Nm.of_below (q2.mono (by omega)))
        have s2 : w.heap.size ≤ w2.heap.size := by have := q2.size; omega
        have hGw : w.heap.size ≤ G := by omega
        have hoG := oG.lt
        have B2 := B1.keep q2
        obtain ⟨qq, hqqe⟩ : ∃ qq, q + m = qq := ⟨_, rfl⟩
        rw [hqqe] at B2
        clear hRA hfu hR he R1 F1 N1 q2 hB B0 B1
        cases t
        · have hB3 := below_new w2 (.cells #[.int .i64 (fi N 0), .int .i64 (fi N 1), .int .i64 (fi N 2), .int .i64 (fi N 3), .slice (some ⟨G, 0, none⟩) 8 cc, .bool fu] 33)
          have R3 := R2.keep hB3
          have F3 : ∀ j, (w2.alloc (.cells #[.int .i64 (fi N 0), .int .i64 (fi N 1), .int .i64 (fi N 2), .int .i64 (fi N 3), .slice (some ⟨G, 0, none⟩) 8 cc, .bool fu] 33)).frozen? ⟨w.heap.size, j, none⟩ = false := fun j => (hB3.frozen (p := ⟨w.heap.size, j, none⟩) R2.lt).trans (F2 j)
          have X3 := AAt.new w2 (fi N 0) (fi N 1) (fi N 2) (fi N 3) (.slice (some ⟨G, 0, none⟩) 8 cc) fu 33
          have B3 := B2.keep hB3
          have B4 := B3.set2 false
          have O4 := Others.setCell (w2.alloc (.cells #[.int .i64 (fi N 0), .int .i64 (fi N 1), .int .i64 (fi N 2), .int .i64 (fi N 3), .slice (some ⟨G, 0, none⟩) 8 cc, .bool fu] 33)) B 2 (.bool false)
          have hlb : B ≠ w2.heap.size := by have := B2.lt; omega
          have hwb : w.heap.size ≠ B := by omega
          have X4 := X3.others' O4 (by omega)
          have R4 := R3.others' O4 hwb
          have F4 : ∀ j, ((w2.alloc (.cells #[.int .i64 (fi N 0), .int .i64 (fi N 1), .int .i64 (fi N 2), .int .i64 (fi N 3), .slice (some ⟨G, 0, none⟩) 8 cc, .bool fu] 33)).setCell ⟨B, 2, none⟩ (.bool false)).frozen? ⟨w.heap.size, j, none⟩ = false := fun j => by rw [frozen_set]; exact F3 j
          have OB8 := (((((OB.set0 (w := ((w2.alloc (.cells #[.int .i64 (fi N 0), .int .i64 (fi N 1), .int .i64 (fi N 2), .int .i64 (fi N 3), .slice (some ⟨G, 0, none⟩) 8 cc, .bool fu] 33)).setCell ⟨B, 2, none⟩ (.bool false))) ⟨R4, F4, Below.refl _ _⟩ (fi N 0)).set1 (fi N 1)).set2 (fi N 2)).set3 (fi N 3)).set4 (.slice (some ⟨G, 0, none⟩) 8 cc)).set5 fu
          have Ot8 : Others w.heap.size ((w2.alloc (.cells #[.int .i64 (fi N 0), .int .i64 (fi N 1), .int .i64 (fi N 2), .int .i64 (fi N 3), .slice (some ⟨G, 0, none⟩) 8 cc, .bool fu] 33)).setCell ⟨B, 2, none⟩ (.bool false)) ((((((((w2.alloc (.cells #[.int .i64 (fi N 0), .int .i64 (fi N 1), .int .i64 (fi N 2), .int .i64 (fi N 3), .slice (some ⟨G, 0, none⟩) 8 cc, .bool fu] 33)).setCell ⟨B, 2, none⟩ (.bool false)).setCell ⟨w.heap.size, 0, none⟩ (.int .i64 (fi N 0))).setCell ⟨w.heap.size, 1, none⟩ (.int .i64 (fi N 1))).setCell ⟨w.heap.size, 2, none⟩ (.int .i64 (fi N 2))).setCell ⟨w.heap.size, 3, none⟩ (.int .i64 (fi N 3))).setCell ⟨w.heap.size, 4, none⟩ (.slice (some ⟨G, 0, none⟩) 8 cc)).setCell ⟨w.heap.size, 5, none⟩ (.bool fu)) := (((((Others.setCell _ _ _ _).trans (Others.setCell _ _ _ _)).trans (Others.setCell _ _ _ _)).trans (Others.setCell _ _ _ _)).trans (Others.setCell _ _ _ _)).trans (Others.setCell _ _ _ _)
          have NF : Nm w.heap.size B w ((((((((w2.alloc (.cells #[.int .i64 (fi N 0), .int .i64 (fi N 1), .int .i64 (fi N 2), .int .i64 (fi N 3), .slice (some ⟨G, 0, none⟩) 8 cc, .bool fu] 33)).setCell ⟨B, 2, none⟩ (.bool false)).setCell ⟨w.heap.size, 0, none⟩ (.int .i64 (fi N 0))).setCell ⟨w.heap.size, 1, none⟩ (.int .i64 (fi N 1))).setCell ⟨w.heap.size, 2, none⟩ (.int .i64 (fi N 2))).setCell ⟨w.heap.size, 3, none⟩ (.int .i64 (fi N 3))).setCell ⟨w.heap.size, 4, none⟩ (.slice (some ⟨G, 0, none⟩) 8 cc)).setCell ⟨w.heap.size, 5, none⟩ (.bool fu)) := (((N2.trans (Nm.of_below (hB3.mono s2))).trans (Nm.of_others O4 (.inl rfl)))).trans (Nm.of_others Ot8 (.inr (Nat.le_refl _)))
          have BF : BR ((((((((w2.alloc (.cells #[.int .i64 (fi N 0), .int .i64 (fi N 1), .int .i64 (fi N 2), .int .i64 (fi N 3), .slice (some ⟨G, 0, none⟩) 8 cc, .bool fu] 33)).setCell ⟨B, 2, none⟩ (.bool false)).setCell ⟨w.heap.size, 0, none⟩ (.int .i64 (fi N 0))).setCell ⟨w.heap.size, 1, none⟩ (.int .i64 (fi N 1))).setCell ⟨w.heap.size, 2, none⟩ (.int .i64 (fi N 2))).setCell ⟨w.heap.size, 3, none⟩ (.int .i64 (fi N 3))).setCell ⟨w.heap.size, 4, none⟩ (.slice (some ⟨G, 0, none⟩) 8 cc)).setCell ⟨w.heap.size, 5, none⟩ (.bool fu)) B (some ⟨bb, bo, none⟩) n cap qq false := by
            have cl : ∀ j, ((((((((w2.alloc (.cells #[.int .i64 (fi N 0), .int .i64 (fi N 1), .int .i64 (fi N 2), .int .i64 (fi N 3), .slice (some ⟨G, 0, none⟩) 8 cc, .bool fu] 33)).setCell ⟨B, 2, none⟩ (.bool false)).setCell ⟨w.heap.size, 0, none⟩ (.int .i64 (fi N 0))).setCell ⟨w.heap.size, 1, none⟩ (.int .i64 (fi N 1))).setCell ⟨w.heap.size, 2, none⟩ (.int .i64 (fi N 2))).setCell ⟨w.heap.size, 3, none⟩ (.int .i64 (fi N 3))).setCell ⟨w.heap.size, 4, none⟩ (.slice (some ⟨G, 0, none⟩) 8 cc)).setCell ⟨w.heap.size, 5, none⟩ (.bool fu)).cell? ⟨B, j, none⟩ = ((w2.alloc (.cells #[.int .i64 (fi N 0), .int .i64 (fi N 1), .int .i64 (fi N 2), .int .i64 (fi N 3), .slice (some ⟨G, 0, none⟩) 8 cc, .bool fu] 33)).setCell ⟨B, 2, none⟩ (.bool false)).cell? ⟨B, j, none⟩ := fun j => World.cell?_of_block (w := ((w2.alloc (.cells #[.int .i64 (fi N 0), .int .i64 (fi N 1), .int .i64 (fi N 2), .int .i64 (fi N 3), .slice (some ⟨G, 0, none⟩) 8 cc, .bool fu] 33)).setCell ⟨B, 2, none⟩ (.bool false))) (a := ⟨B, j, none⟩) (Ot8.block B (by omega))
            have fl' : ∀ j, ((((((((w2.alloc (.cells #[.int .i64 (fi N 0), .int .i64 (fi N 1), .int .i64 (fi N 2), .int .i64 (fi N 3), .slice (some ⟨G, 0, none⟩) 8 cc, .bool fu] 33)).setCell ⟨B, 2, none⟩ (.bool false)).setCell ⟨w.heap.size, 0, none⟩ (.int .i64 (fi N 0))).setCell ⟨w.heap.size, 1, none⟩ (.int .i64 (fi N 1))).setCell ⟨w.heap.size, 2, none⟩ (.int .i64 (fi N 2))).setCell ⟨w.heap.size, 3, none⟩ (.int .i64 (fi N 3))).setCell ⟨w.heap.size, 4, none⟩ (.slice (some ⟨G, 0, none⟩) 8 cc)).setCell ⟨w.heap.size, 5, none⟩ (.bool fu)).frozen? ⟨B, j, none⟩ = ((w2.alloc (.cells #[.int .i64 (fi N 0), .int .i64 (fi N 1), .int .i64 (fi N 2), .int .i64 (fi N 3), .slice (some ⟨G, 0, none⟩) 8 cc, .bool fu] 33)).setCell ⟨B, 2, none⟩ (.bool false)).frozen? ⟨B, j, none⟩ := fun j => World.frozen?_of_block (w := ((w2.alloc (.cells #[.int .i64 (fi N 0), .int .i64 (fi N 1), .int .i64 (fi N 2), .int .i64 (fi N 3), .slice (some ⟨G, 0, none⟩) 8 cc, .bool fu] 33)).setCell ⟨B, 2, none⟩ (.bool false))) (a := ⟨B, j, none⟩) (Ot8.block B (by omega))
            exact ⟨by rw [Ot8.size]; exact B4.lt, (cl _).trans B4.c0, (cl _).trans B4.c1, (cl _).trans B4.c2, fun j => (fl' j).trans (B4.fz j)⟩
          have oF : IOwn ((((((((w2.alloc (.cells #[.int .i64 (fi N 0), .int .i64 (fi N 1), .int .i64 (fi N 2), .int .i64 (fi N 3), .slice (some ⟨G, 0, none⟩) 8 cc, .bool fu] 33)).setCell ⟨B, 2, none⟩ (.bool false)).setCell ⟨w.heap.size, 0, none⟩ (.int .i64 (fi N 0))).setCell ⟨w.heap.size, 1, none⟩ (.int .i64 (fi N 1))).setCell ⟨w.heap.size, 2, none⟩ (.int .i64 (fi N 2))).setCell ⟨w.heap.size, 3, none⟩ (.int .i64 (fi N 3))).setCell ⟨w.heap.size, 4, none⟩ (.slice (some ⟨G, 0, none⟩) 8 cc)).setCell ⟨w.heap.size, 5, none⟩ (.bool fu)) G 0 8 (fun i => fi N (i + 4)) := iown_others (iown_others (oG.keep hB3) O4 (by omega)) Ot8 (by omega)
          obtain ⟨_, x0, x1, x2, x3, x4, x5⟩ := X4
          obtain ⟨_, r0, r1, r2, r3, r4, r5⟩ := R4
          obtain ⟨_, d0, d1, d2, dz⟩ := B3
          clear R3 X3 hB3 O4 B4 B2
          go_wp2
          show bodyPost Tryz.prog Tryz.f130 (fun e w' => AggR f B bb bo n cap q false m w e w') _ _ ((((((((w2.alloc (.cells #[.int .i64 (fi N 0), .int .i64 (fi N 1), .int .i64 (fi N 2), .int .i64 (fi N 3), .slice (some ⟨G, 0, none⟩) 8 cc, .bool fu] 33)).setCell ⟨B, 2, none⟩ (.bool false)).setCell ⟨w.heap.size, 0, none⟩ (.int .i64 (fi N 0))).setCell ⟨w.heap.size, 1, none⟩ (.int .i64 (fi N 1))).setCell ⟨w.heap.size, 2, none⟩ (.int .i64 (fi N 2))).setCell ⟨w.heap.size, 3, none⟩ (.int .i64 (fi N 3))).setCell ⟨w.heap.size, 4, none⟩ (.slice (some ⟨G, 0, none⟩) 8 cc)).setCell ⟨w.heap.size, 5, none⟩ (.bool fu))
          clear Ot8
          generalize ((((((((w2.alloc (.cells #[.int .i64 (fi N 0), .int .i64 (fi N 1), .int .i64 (fi N 2), .int .i64 (fi N 3), .slice (some ⟨G, 0, none⟩) 8 cc, .bool fu] 33)).setCell ⟨B, 2, none⟩ (.bool false)).setCell ⟨w.heap.size, 0, none⟩ (.int .i64 (fi N 0))).setCell ⟨w.heap.size, 1, none⟩ (.int .i64 (fi N 1))).setCell ⟨w.heap.size, 2, none⟩ (.int .i64 (fi N 2))).setCell ⟨w.heap.size, 3, none⟩ (.int .i64 (fi N 3))).setCell ⟨w.heap.size, 4, none⟩ (.slice (some ⟨G, 0, none⟩) 8 cc)).setCell ⟨w.heap.size, 5, none⟩ (.bool fu)) = wF at *
          obtain ⟨_, t0, t1, t2, t3, t4, t5⟩ := OB8.A
          refine bodyPost_ret (v := .agg #[.int .i64 (fi N 0), .int .i64 (fi N 1), .int .i64 (fi N 2), .int .i64 (fi N 3), .slice (some ⟨G, 0, none⟩) 8 cc, .bool fu]) (by simp [results, Tryz.results130, go_sem, t0, t1, t2, t3, t4, t5]) rfl ⟨.inr (.inl ⟨hm1, N, G, cc, HY.out, by rw [HFU.out], hGw, oF, by rw [hqqe]; exact BF⟩), NF⟩
        · have hB3 := below_new w2 (.cells #[.int .i64 (fi N 0), .int .i64 (fi N 1), .int .i64 (fi N 2), .int .i64 (fi N 3), .slice (some ⟨G, 0, none⟩) 8 cc, .bool fu] 33)
          have R3 := R2.keep hB3
          have F3 : ∀ j, (w2.alloc (.cells #[.int .i64 (fi N 0), .int .i64 (fi N 1), .int .i64 (fi N 2), .int .i64 (fi N 3), .slice (some ⟨G, 0, none⟩) 8 cc, .bool fu] 33)).frozen? ⟨w.heap.size, j, none⟩ = false := fun j => (hB3.frozen (p := ⟨w.heap.size, j, none⟩) R2.lt).trans (F2 j)
          have X3 := AAt.new w2 (fi N 0) (fi N 1) (fi N 2) (fi N 3) (.slice (some ⟨G, 0, none⟩) 8 cc) fu 33
          have B3 := B2.keep hB3
          have B4 := B3.set2 true
          have O4 := Others.setCell (w2.alloc (.cells #[.int .i64 (fi N 0), .int .i64 (fi N 1), .int .i64 (fi N 2), .int .i64 (fi N 3), .slice (some ⟨G, 0, none⟩) 8 cc, .bool fu] 33)) B 2 (.bool true)
          have hlb : B ≠ w2.heap.size := by have := B2.lt; omega
          have hwb : w.heap.size ≠ B := by omega
          have X4 := X3.others' O4 (by omega)
          have R4 := R3.others' O4 hwb
          have F4 : ∀ j, ((w2.alloc (.cells #[.int .i64 (fi N 0), .int .i64 (fi N 1), .int .i64 (fi N 2), .int .i64 (fi N 3), .slice (some ⟨G, 0, none⟩) 8 cc, .bool fu] 33)).setCell ⟨B, 2, none⟩ (.bool true)).frozen? ⟨w.heap.size, j, none⟩ = false := fun j => by rw [frozen_set]; exact F3 j
          have OB8 := (((((OB.set0 (w := ((w2.alloc (.cells #[.int .i64 (fi N 0), .int .i64 (fi N 1), .int .i64 (fi N 2), .int .i64 (fi N 3), .slice (some ⟨G, 0, none⟩) 8 cc, .bool fu] 33)).setCell ⟨B, 2, none⟩ (.bool true))) ⟨R4, F4, Below.refl _ _⟩ (fi N 0)).set1 (fi N 1)).set2 (fi N 2)).set3 (fi N 3)).set4 (.slice (some ⟨G, 0, none⟩) 8 cc)).set5 fu
          have Ot8 : Others w.heap.size ((w2.alloc (.cells #[.int .i64 (fi N 0), .int .i64 (fi N 1), .int .i64 (fi N 2), .int .i64 (fi N 3), .slice (some ⟨G, 0, none⟩) 8 cc, .bool fu] 33)).setCell ⟨B, 2, none⟩ (.bool true)) ((((((((w2.alloc (.cells #[.int .i64 (fi N 0), .int .i64 (fi N 1), .int .i64 (fi N 2), .int .i64 (fi N 3), .slice (some ⟨G, 0, none⟩) 8 cc, .bool fu] 33)).setCell ⟨B, 2, none⟩ (.bool true)).setCell ⟨w.heap.size, 0, none⟩ (.int .i64 (fi N 0))).setCell ⟨w.heap.size, 1, none⟩ (.int .i64 (fi N 1))).setCell ⟨w.heap.size, 2, none⟩ (.int .i64 (fi N 2))).setCell ⟨w.heap.size, 3, none⟩ (.int .i64 (fi N 3))).setCell ⟨w.heap.size, 4, none⟩ (.slice (some ⟨G, 0, none⟩) 8 cc)).setCell ⟨w.heap.size, 5, none⟩ (.bool fu)) := (((((Others.setCell _ _ _ _).trans (Others.setCell _ _ _ _)).trans (Others.setCell _ _ _ _)).trans (Others.setCell _ _ _ _)).trans (Others.setCell _ _ _ _)).trans (Others.setCell _ _ _ _)
          have NF : Nm w.heap.size B w ((((((((w2.alloc (.cells #[.int .i64 (fi N 0), .int .i64 (fi N 1), .int .i64 (fi N 2), .int .i64 (fi N 3), .slice (some ⟨G, 0, none⟩) 8 cc, .bool fu] 33)).setCell ⟨B, 2, none⟩ (.bool true)).setCell ⟨w.heap.size, 0, none⟩ (.int .i64 (fi N 0))).setCell ⟨w.heap.size, 1, none⟩ (.int .i64 (fi N 1))).setCell ⟨w.heap.size, 2, none⟩ (.int .i64 (fi N 2))).setCell ⟨w.heap.size, 3, none⟩ (.int .i64 (fi N 3))).setCell ⟨w.heap.size, 4, none⟩ (.slice (some ⟨G, 0, none⟩) 8 cc)).setCell ⟨w.heap.size, 5, none⟩ (.bool fu)) := (((N2.trans (Nm.of_below (hB3.mono s2))).trans (Nm.of_others O4 (.inl rfl)))).trans (Nm.of_others Ot8 (.inr (Nat.le_refl _)))
          have BF : BR ((((((((w2.alloc (.cells #[.int .i64 (fi N 0), .int .i64 (fi N 1), .int .i64 (fi N 2), .int .i64 (fi N 3), .slice (some ⟨G, 0, none⟩) 8 cc, .bool fu] 33)).setCell ⟨B, 2, none⟩ (.bool true)).setCell ⟨w.heap.size, 0, none⟩ (.int .i64 (fi N 0))).setCell ⟨w.heap.size, 1, none⟩ (.int .i64 (fi N 1))).setCell ⟨w.heap.size, 2, none⟩ (.int .i64 (fi N 2))).setCell ⟨w.heap.size, 3, none⟩ (.int .i64 (fi N 3))).setCell ⟨w.heap.size, 4, none⟩ (.slice (some ⟨G, 0, none⟩) 8 cc)).setCell ⟨w.heap.size, 5, none⟩ (.bool fu)) B (some ⟨bb, bo, none⟩) n cap qq true := by
            have cl : ∀ j, ((((((((w2.alloc (.cells #[.int .i64 (fi N 0), .int .i64 (fi N 1), .int .i64 (fi N 2), .int .i64 (fi N 3), .slice (some ⟨G, 0, none⟩) 8 cc, .bool fu] 33)).setCell ⟨B, 2, none⟩ (.bool true)).setCell ⟨w.heap.size, 0, none⟩ (.int .i64 (fi N 0))).setCell ⟨w.heap.size, 1, none⟩ (.int .i64 (fi N 1))).setCell ⟨w.heap.size, 2, none⟩ (.int .i64 (fi N 2))).setCell ⟨w.heap.size, 3, none⟩ (.int .i64 (fi N 3))).setCell ⟨w.heap.size, 4, none⟩ (.slice (some ⟨G, 0, none⟩) 8 cc)).setCell ⟨w.heap.size, 5, none⟩ (.bool fu)).cell? ⟨B, j, none⟩ = ((w2.alloc (.cells #[.int .i64 (fi N 0), .int .i64 (fi N 1), .int .i64 (fi N 2), .int .i64 (fi N 3), .slice (some ⟨G, 0, none⟩) 8 cc, .bool fu] 33)).setCell ⟨B, 2, none⟩ (.bool true)).cell? ⟨B, j, none⟩ := fun j => World.cell?_of_block (w := ((w2.alloc (.cells #[.int .i64 (fi N 0), .int .i64 (fi N 1), .int .i64 (fi N 2), .int .i64 (fi N 3), .slice (some ⟨G, 0, none⟩) 8 cc, .bool fu] 33)).setCell ⟨B, 2, none⟩ (.bool true))) (a := ⟨B, j, none⟩) (Ot8.block B (by omega))
            have fl' : ∀ j, ((((((((w2.alloc (.cells #[.int .i64 (fi N 0), .int .i64 (fi N 1), .int .i64 (fi N 2), .int .i64 (fi N 3), .slice (some ⟨G, 0, none⟩) 8 cc, .bool fu] 33)).setCell ⟨B, 2, none⟩ (.bool true)).setCell ⟨w.heap.size, 0, none⟩ (.int .i64 (fi N 0))).setCell ⟨w.heap.size, 1, none⟩ (.int .i64 (fi N 1))).setCell ⟨w.heap.size, 2, none⟩ (.int .i64 (fi N 2))).setCell ⟨w.heap.size, 3, none⟩ (.int .i64 (fi N 3))).setCell ⟨w.heap.size, 4, none⟩ (.slice (some ⟨G, 0, none⟩) 8 cc)).setCell ⟨w.heap.size, 5, none⟩ (.bool fu)).frozen? ⟨B, j, none⟩ = ((w2.alloc (.cells #[.int .i64 (fi N 0), .int .i64 (fi N 1), .int .i64 (fi N 2), .int .i64 (fi N 3), .slice (some ⟨G, 0, none⟩) 8 cc, .bool fu] 33)).setCell ⟨B, 2, none⟩ (.bool true)).frozen? ⟨B, j, none⟩ := fun j => World.frozen?_of_block (w := ((w2.alloc (.cells #[.int .i64 (fi N 0), .int .i64 (fi N 1), .int .i64 (fi N 2), .int .i64 (fi N 3), .slice (some ⟨G, 0, none⟩) 8 cc, .bool fu] 33)).setCell ⟨B, 2, none⟩ (.bool true))) (a := ⟨B, j, none⟩) (Ot8.block B (by omega))
            exact ⟨by rw [Ot8.size]; exact B4.lt, (cl _).trans B4.c0, (cl _).trans B4.c1, (cl _).trans B4.c2, fun j => (fl' j).trans (B4.fz j)⟩
          have oF : IOwn ((((((((w2.alloc (.cells #[.int .i64 (fi N 0), .int .i64 (fi N 1), .int .i64 (fi N 2), .int .i64 (fi N 3), .slice (some ⟨G, 0, none⟩) 8 cc, .bool fu] 33)).setCell ⟨B, 2, none⟩ (.bool true)).setCell ⟨w.heap.size, 0, none⟩ (.int .i64 (fi N 0))).setCell ⟨w.heap.size, 1, none⟩ (.int .i64 (fi N 1))).setCell ⟨w.heap.size, 2, none⟩ (.int .i64 (fi N 2))).setCell ⟨w.heap.size, 3, none⟩ (.int .i64 (fi N 3))).setCell ⟨w.heap.size, 4, none⟩ (.slice (some ⟨G, 0, none⟩) 8 cc)).setCell ⟨w.heap.size, 5, none⟩ (.bool fu)) G 0 8 (fun i => fi N (i + 4)) := iown_others (iown_others (oG.keep hB3) O4 (by omega)) Ot8 (by omega)
          obtain ⟨_, x0, x1, x2, x3, x4, x5⟩ := X4
          obtain ⟨_, r0, r1, r2, r3, r4, r5⟩ := R4
          obtain ⟨_, d0, d1, d2, dz⟩ := B3
          clear R3 X3 hB3 O4 B4 B2
          go_wp2
          show bodyPost Tryz.prog Tryz.f130 (fun e w' => AggR f B bb bo n cap q true m w e w') _ _ ((((((((w2.alloc (.cells #[.int .i64 (fi N 0), .int .i64 (fi N 1), .int .i64 (fi N 2), .int .i64 (fi N 3), .slice (some ⟨G, 0, none⟩) 8 cc, .bool fu] 33)).setCell ⟨B, 2, none⟩ (.bool true)).setCell ⟨w.heap.size, 0, none⟩ (.int .i64 (fi N 0))).setCell ⟨w.heap.size, 1, none⟩ (.int .i64 (fi N 1))).setCell ⟨w.heap.size, 2, none⟩ (.int .i64 (fi N 2))).setCell ⟨w.heap.size, 3, none⟩ (.int .i64 (fi N 3))).setCell ⟨w.heap.size, 4, none⟩ (.slice (some ⟨G, 0, none⟩) 8 cc)).setCell ⟨w.heap.size, 5, none⟩ (.bool fu))
          clear Ot8
          generalize ((((((((w2.alloc (.cells #[.int .i64 (fi N 0), .int .i64 (fi N 1), .int .i64 (fi N 2), .int .i64 (fi N 3), .slice (some ⟨G, 0, none⟩) 8 cc, .bool fu] 33)).setCell ⟨B, 2, none⟩ (.bool true)).setCell ⟨w.heap.size, 0, none⟩ (.int .i64 (fi N 0))).setCell ⟨w.heap.size, 1, none⟩ (.int .i64 (fi N 1))).setCell ⟨w.heap.size, 2, none⟩ (.int .i64 (fi N 2))).setCell ⟨w.heap.size, 3, none⟩ (.int .i64 (fi N 3))).setCell ⟨w.heap.size, 4, none⟩ (.slice (some ⟨G, 0, none⟩) 8 cc)).setCell ⟨w.heap.size, 5, none⟩ (.bool fu)) = wF at *
          obtain ⟨_, t0, t1, t2, t3, t4, t5⟩ := OB8.A
          refine bodyPost_ret (v := .agg #[.int .i64 (fi N 0), .int .i64 (fi N 1), .int .i64 (fi N 2), .int .i64 (fi N 3), .slice (some ⟨G, 0, none⟩) 8 cc, .bool fu]) (by simp [results, Tryz.results130, go_sem, t0, t1, t2, t3, t4, t5]) rfl ⟨.inr (.inl ⟨hm1, N, G, cc, HY.out, by rw [HFU.out], hGw, oF, by rw [hqqe]; exact BF⟩), NF⟩
      · have HNo : Hid (∀ N, ¬ AgY f n q m N) := fun N h => hNo N h.2
        have R2 := R1.keep q2
        have F2 : ∀ j, w2.frozen? ⟨w.heap.size, j, none⟩ = false := fun j => (q2.frozen (p := ⟨w.heap.size, j, none⟩) R1.lt).trans (F1 j)
        have N2 := N1.trans (Nm.of_below (q2.mono (by omega)))
        have s2 : w.heap.size ≤ w2.heap.size := by have := q2.size; omega
        have B2 := B1.keep q2
        obtain ⟨qq, hqqe⟩ : ∃ qq, q + m = qq := ⟨_, rfl⟩
        have hqq : qq ≤ n := by omega
        rw [hqqe] at B2
        clear hRA hfu hNo R1 F1 N1 q2 hB B0 B1
        cases t
        · have hB3 := below_new w2 (.cells #[.int .i64 0, .int .i64 0, .int .i64 0, .int .i64 0, .slice (some ⟨G, 0, none⟩) 8 cc, .bool false] 33)
          have R3 := R2.keep hB3
          have F3 : ∀ j, (w2.alloc (.cells #[.int .i64 0, .int .i64 0, .int .i64 0, .int .i64 0, .slice (some ⟨G, 0, none⟩) 8 cc, .bool false] 33)).frozen? ⟨w.heap.size, j, none⟩ = false := fun j => (hB3.frozen (p := ⟨w.heap.size, j, none⟩) R2.lt).trans (F2 j)
          have X3 := AAt.new w2 0 0 0 0 (.slice (some ⟨G, 0, none⟩) 8 cc) false 33
          have B3 := B2.keep hB3
          have B4 := B3.set2 true
          have O4 := Others.setCell (w2.alloc (.cells #[.int .i64 0, .int .i64 0, .int .i64 0, .int .i64 0, .slice (some ⟨G, 0, none⟩) 8 cc, .bool false] 33)) B 2 (.bool true)
          have hlb : B ≠ w2.heap.size := by have := B2.lt; omega
          have hwb : w.heap.size ≠ B := by omega
          have X4 := X3.others' O4 (by omega)
          have R4 := R3.others' O4 hwb
          have F4 : ∀ j, ((w2.alloc (.cells #[.int .i64 0, .int .i64 0, .int .i64 0, .int .i64 0, .slice (some ⟨G, 0, none⟩) 8 cc, .bool false] 33)).setCell ⟨B, 2, none⟩ (.bool true)).frozen? ⟨w.heap.size, j, none⟩ = false := fun j => by rw [frozen_set]; exact F3 j
          have OB8 := (((((OB.set0 (w := ((w2.alloc (.cells #[.int .i64 0, .int .i64 0, .int .i64 0, .int .i64 0, .slice (some ⟨G, 0, none⟩) 8 cc, .bool false] 33)).setCell ⟨B, 2, none⟩ (.bool true))) ⟨R4, F4, Below.refl _ _⟩ 0).set1 0).set2 0).set3 0).set4 (.slice (some ⟨G, 0, none⟩) 8 cc)).set5 false
          have Ot8 : Others w.heap.size ((w2.alloc (.cells #[.int .i64 0, .int .i64 0, .int .i64 0, .int .i64 0, .slice (some ⟨G, 0, none⟩) 8 cc, .bool false] 33)).setCell ⟨B, 2, none⟩ (.bool true)) ((((((((w2.alloc (.cells #[.int .i64 0, .int .i64 0, .int .i64 0, .int .i64 0, .slice (some ⟨G, 0, none⟩) 8 cc, .bool false] 33)).setCell ⟨B, 2, none⟩ (.bool true)).setCell ⟨w.heap.size, 0, none⟩ (.int .i64 0)).setCell ⟨w.heap.size, 1, none⟩ (.int .i64 0)).setCell ⟨w.heap.size, 2, none⟩ (.int .i64 0)).setCell ⟨w.heap.size, 3, none⟩ (.int .i64 0)).setCell ⟨w.heap.size, 4, none⟩ (.slice (some ⟨G, 0, none⟩) 8 cc)).setCell ⟨w.heap.size, 5, none⟩ (.bool false)) := (((((Others.setCell _ _ _ _).trans (Others.setCell _ _ _ _)).trans (Others.setCell _ _ _ _)).trans (Others.setCell _ _ _ _)).trans (Others.setCell _ _ _ _)).trans (Others.setCell _ _ _ _)
          have NF : Nm w.heap.size B w ((((((((w2.alloc (.cells #[.int .i64 0, .int .i64 0, .int .i64 0, .int .i64 0, .slice (some ⟨G, 0, none⟩) 8 cc, .bool false] 33)).setCell ⟨B, 2, none⟩ (.bool true)).setCell ⟨w.heap.size, 0, none⟩ (.int .i64 0)).setCell ⟨w.heap.size, 1, none⟩ (.int .i64 0)).setCell ⟨w.heap.size, 2, none⟩ (.int .i64 0)).setCell ⟨w.heap.size, 3, none⟩ (.int .i64 0)).setCell ⟨w.heap.size, 4, none⟩ (.slice (some ⟨G, 0, none⟩) 8 cc)).setCell ⟨w.heap.size, 5, none⟩ (.bool false)) := (((N2.trans (Nm.of_below (hB3.mono s2))).trans (Nm.of_others O4 (.inl rfl)))).trans (Nm.of_others Ot8 (.inr (Nat.le_refl _)))
          have BF : BR ((((((((w2.alloc (.cells #[.int .i64 0, .int .i64 0, .int .i64 0, .int .i64 0, .slice (some ⟨G, 0, none⟩) 8 cc, .bool false] 33)).setCell ⟨B, 2, none⟩ (.bool true)).setCell ⟨w.heap.size, 0, none⟩ (.int .i64 0)).setCell ⟨w.heap.size, 1, none⟩ (.int .i64 0)).setCell ⟨w.heap.size, 2, none⟩ (.int .i64 0)).setCell ⟨w.heap.size, 3, none⟩ (.int .i64 0)).setCell ⟨w.heap.size, 4, none⟩ (.slice (some ⟨G, 0, none⟩) 8 cc)).setCell ⟨w.heap.size, 5, none⟩ (.bool false)) B (some ⟨bb, bo, none⟩) n cap qq true := by
            have cl : ∀ j, ((((((((w2.alloc (.cells #[.int .i64 0, .int .i64 0, .int .i64 0, .int .i64 0, .slice (some ⟨G, 0, none⟩) 8 cc, .bool false] 33)).setCell ⟨B, 2, none⟩ (.bool true)).setCell ⟨w.heap.size, 0, none⟩ (.int .i64 0)).setCell ⟨w.heap.size, 1, none⟩ (.int .i64 0)).setCell ⟨w.heap.size, 2, none⟩ (.int .i64 0)).setCell ⟨w.heap.size, 3, none⟩ (.int .i64 0)).setCell ⟨w.heap.size, 4, none⟩ (.slice (some ⟨G, 0, none⟩) 8 cc)).setCell ⟨w.heap.size, 5, none⟩ (.bool false)).cell? ⟨B, j, none⟩ = ((w2.alloc (.cells #[.int .i64 0, .int .i64 0, .int .i64 0, .int .i64 0, .slice (some ⟨G, 0, none⟩) 8 cc, .bool false] 33)).setCell ⟨B, 2, none⟩ (.bool true)).cell? ⟨B, j, none⟩ := fun j => World.cell?_of_block (w := ((w2.alloc (.cells #[.int .i64 0, .int .i64 0, .int .i64 0, .int .i64 0, .slice (some ⟨G, 0, none⟩) 8 cc, .bool false] 33)).setCell ⟨B, 2, none⟩ (.bool true))) (a := ⟨B, j, none⟩) (Ot8.block B (by omega))
            have fl' : ∀ j, ((((((((w2.alloc (.cells #[.int .i64 0, .int .i64 0, .int .i64 0, .int .i64 0, .slice (some ⟨G, 0, none⟩) 8 cc, .bool false] 33)).setCell ⟨B, 2, none⟩ (.bool true)).setCell ⟨w.heap.size, 0, none⟩ (.int .i64 0)).setCell ⟨w.heap.size, 1, none⟩ (.int .i64 0)).setCell ⟨w.heap.size, 2, none⟩ (.int .i64 0)).setCell ⟨w.heap.size, 3, none⟩ (.int .i64 0)).setCell ⟨w.heap.size, 4, none⟩ (.slice (some ⟨G, 0, none⟩) 8 cc)).setCell ⟨w.heap.size, 5, none⟩ (.bool false)).frozen? ⟨B, j, none⟩ = ((w2.alloc (.cells #[.int .i64 0, .int .i64 0, .int .i64 0, .int .i64 0, .slice (some ⟨G, 0, none⟩) 8 cc, .bool false] 33)).setCell ⟨B, 2, none⟩ (.bool true)).frozen? ⟨B, j, none⟩ := fun j => World.frozen?_of_block (w := ((w2.alloc (.cells #[.int .i64 0, .int .i64 0, .int .i64 0, .int .i64 0, .slice (some ⟨G, 0, none⟩) 8 cc, .bool false] 33)).setCell ⟨B, 2, none⟩ (.bool true))) (a := ⟨B, j, none⟩) (Ot8.block B (by omega))
            exact ⟨by rw [Ot8.size]; exact B4.lt, (cl _).trans B4.c0, (cl _).trans B4.c1, (cl _).trans B4.c2, fun j => (fl' j).trans (B4.fz j)⟩
          obtain ⟨_, x0, x1, x2, x3, x4, x5⟩ := X4
          obtain ⟨_, r0, r1, r2, r3, r4, r5⟩ := R4
          obtain ⟨_, d0, d1, d2, dz⟩ := B3
          clear R3 X3 hB3 O4 B4 B2
          go_wp2
          show bodyPost Tryz.prog Tryz.f130 (fun e w' => AggR f B bb bo n cap q false m w e w') _ _ ((((((((w2.alloc (.cells #[.int .i64 0, .int .i64 0, .int .i64 0, .int .i64 0, .slice (some ⟨G, 0, none⟩) 8 cc, .bool false] 33)).setCell ⟨B, 2, none⟩ (.bool true)).setCell ⟨w.heap.size, 0, none⟩ (.int .i64 0)).setCell ⟨w.heap.size, 1, none⟩ (.int .i64 0)).setCell ⟨w.heap.size, 2, none⟩ (.int .i64 0)).setCell ⟨w.heap.size, 3, none⟩ (.int .i64 0)).setCell ⟨w.heap.size, 4, none⟩ (.slice (some ⟨G, 0, none⟩) 8 cc)).setCell ⟨w.heap.size, 5, none⟩ (.bool false))
          clear Ot8
          generalize ((((((((w2.alloc (.cells #[.int .i64 0, .int .i64 0, .int .i64 0, .int .i64 0, .slice (some ⟨G, 0, none⟩) 8 cc, .bool false] 33)).setCell ⟨B, 2, none⟩ (.bool true)).setCell ⟨w.heap.size, 0, none⟩ (.int .i64 0)).setCell ⟨w.heap.size, 1, none⟩ (.int .i64 0)).setCell ⟨w.heap.size, 2, none⟩ (.int .i64 0)).setCell ⟨w.heap.size, 3, none⟩ (.int .i64 0)).setCell ⟨w.heap.size, 4, none⟩ (.slice (some ⟨G, 0, none⟩) 8 cc)).setCell ⟨w.heap.size, 5, none⟩ (.bool false)) = wF at *
          obtain ⟨_, t0, t1, t2, t3, t4, t5⟩ := OB8.A
          refine bodyPost_ret (v := .agg #[.int .i64 0, .int .i64 0, .int .i64 0, .int .i64 0, .slice (some ⟨G, 0, none⟩) 8 cc, .bool false]) (by simp [results, Tryz.results130, go_sem, t0, t1, t2, t3, t4, t5]) rfl ⟨.inr (.inr ⟨hm1, HNo.out, ⟨G, cc, rfl⟩, qq, hqq, BF⟩), NF⟩
        · have hB3 := below_new w2 (.cells #[.int .i64 0, .int .i64 0, .int .i64 0, .int .i64 0, .slice (some ⟨G, 0, none⟩) 8 cc, .bool false] 33)
          have R3 := R2.keep hB3
          have F3 : ∀ j, (w2.alloc (.cells #[.int .i64 0, .int .i64 0, .int .i64 0, .int .i64 0, .slice (some ⟨G, 0, none⟩) 8 cc, .bool false] 33)).frozen? ⟨w.heap.size, j, none⟩ = false := fun j => (hB3.frozen (p := ⟨w.heap.size, j, none⟩) R2.lt).trans (F2 j)
          have X3 := AAt.new w2 0 0 0 0 (.slice (some ⟨G, 0, none⟩) 8 cc) false 33
          have B3 := B2.keep hB3
          have B4 := B3.set2 true
          have O4 := Others.setCell (w2.alloc (.cells #[.int .i64 0, .int .i64 0, .int .i64 0, .int .i64 0, .slice (some ⟨G, 0, none⟩) 8 cc, .bool false] 33)) B 2 (.bool true)
          have hlb : B ≠ w2.heap.size := by have := B2.lt; omega
          have hwb : w.heap.size ≠ B := by omega
          have X4 := X3.others' O4 (by omega)
          have R4 := R3.others' O4 hwb
          have F4 : ∀ j, ((w2.alloc (.cells #[.int .i64 0, .int .i64 0, .int .i64 0, .int .i64 0, .slice (some ⟨G, 0, none⟩) 8 cc, .bool false] 33)).setCell ⟨B, 2, none⟩ (.bool true)).frozen? ⟨w.heap.size, j, none⟩ = false := fun j => by rw [frozen_set]; exact F3 j
          have OB8 := (((((OB.set0 (w := ((w2.alloc (.cells #[.int .i64 0, .int .i64 0, .int .i64 0, .int .i64 0, .slice (some ⟨G, 0, none⟩) 8 cc, .bool false] 33)).setCell ⟨B, 2, none⟩ (.bool true))) ⟨R4, F4, Below.refl _ _⟩ 0).set1 0).set2 0).set3 0).set4 (.slice (some ⟨G, 0, none⟩) 8 cc)).set5 false
          have Ot8 : Others w.heap.size ((w2.alloc (.cells #[.int .i64 0, .int .i64 0, .int .i64 0, .int .i64 0, .slice (some ⟨G, 0, none⟩) 8 cc, .bool false] 33)).setCell ⟨B, 2, none⟩ (.bool true)) ((((((((w2.alloc (.cells #[.int .i64 0, .int .i64 0, .int .i64 0, .int .i64 0, .slice (some ⟨G, 0, none⟩) 8 cc, .bool false] 33)).setCell ⟨B, 2, none⟩ (.bool true)).setCell ⟨w.heap.size, 0, none⟩ (.int .i64 0)).setCell ⟨w.heap.size, 1, none⟩ (.int .i64 0)).setCell ⟨w.heap.size, 2, none⟩ (.int .i64 0)).setCell ⟨w.heap.size, 3, none⟩ (.int .i64 0)).setCell ⟨w.heap.size, 4, none⟩ (.slice (some ⟨G, 0, none⟩) 8 cc)).setCell ⟨w.heap.size, 5, none⟩ (.bool false)) := (((((Others.setCell _ _ _ _).trans (Others.setCell _ _ _ _)).trans (Others.setCell _ _ _ _)).trans (Others.setCell _ _ _ _)).trans (Others.setCell _ _ _ _)).trans (Others.setCell _ _ _ _)
          have NF : Nm w.heap.size B w ((((((((w2.alloc (.cells #[.int .i64 0, .int .i64 0, .int .i64 0, .int .i64 0, .slice (some ⟨G, 0, none⟩) 8 cc, .bool false] 33)).setCell ⟨B, 2, none⟩ (.bool true)).setCell ⟨w.heap.size, 0, none⟩ (.int .i64 0)).setCell ⟨w.heap.size, 1, none⟩ (.int .i64 0)).setCell ⟨w.heap.size, 2, none⟩ (.int .i64 0)).setCell ⟨w.heap.size, 3, none⟩ (.int .i64 0)).setCell ⟨w.heap.size, 4, none⟩ (.slice (some ⟨G, 0, none⟩) 8 cc)).setCell ⟨w.heap.size, 5, none⟩ (.bool false)) := (((N2.trans (Nm.of_below (hB3.mono s2))).trans (Nm.of_others O4 (.inl rfl)))).trans (Nm.of_others Ot8 (.inr (Nat.le_refl _)))
          have BF : BR ((((((((w2.alloc (.cells #[.int .i64 0, .int .i64 0, .int .i64 0, .int .i64 0, .slice (some ⟨G, 0, none⟩) 8 cc, .bool false] 33)).setCell ⟨B, 2, none⟩ (.bool true)).setCell ⟨w.heap.size, 0, none⟩ (.int .i64 0)).setCell ⟨w.heap.size, 1, none⟩ (.int .i64 0)).setCell ⟨w.heap.size, 2, none⟩ (.int .i64 0)).setCell ⟨w.heap.size, 3, none⟩ (.int .i64 0)).setCell ⟨w.heap.size, 4, none⟩ (.slice (some ⟨G, 0, none⟩) 8 cc)).setCell ⟨w.heap.size, 5, none⟩ (.bool false)) B (some ⟨bb, bo, none⟩) n cap qq true := by
            have cl : ∀ j, ((((((((w2.alloc (.cells #[.int .i64 0, .int .i64 0, .int .i64 0, .int .i64 0, .slice (some ⟨G, 0, none⟩) 8 cc, .bool false] 33)).setCell ⟨B, 2, none⟩ (.bool true)).setCell ⟨w.heap.size, 0, none⟩ (.int .i64 0)).setCell ⟨w.heap.size, 1, none⟩ (.int .i64 0)).setCell ⟨w.heap.size, 2, none⟩ (.int .i64 0)).setCell ⟨w.heap.size, 3, none⟩ (.int .i64 0)).setCell ⟨w.heap.size, 4, none⟩ (.slice (some ⟨G, 0, none⟩) 8 cc)).setCell ⟨w.heap.size, 5, none⟩ (.bool false)).cell? ⟨B, j, none⟩ = ((w2.alloc (.cells #[.int .i64 0, .int .i64 0, .int .i64 0, .int .i64 0, .slice (some ⟨G, 0, none⟩) 8 cc, .bool false] 33)).setCell ⟨B, 2, none⟩ (.bool true)).cell? ⟨B, j, none⟩ := fun j => World.cell?_of_block (w := ((w2.alloc (.cells #[.int .i64 0, .int .i64 0, .int .i64 0, .int .i64 0, .slice (some ⟨G, 0, none⟩) 8 cc, .bool false] 33)).setCell ⟨B, 2, none⟩ (.bool true))) (a := ⟨B, j, none⟩) (Ot8.block B (by omega))
            have fl' : ∀ j, ((((((((w2.alloc (.cells #[.int .i64 0, .int .i64 0, .int .i64 0, .int .i64 0, .slice (some ⟨G, 0, none⟩) 8 cc, .bool false] 33)).setCell ⟨B, 2, none⟩ (.bool true)).setCell ⟨w.heap.size, 0, none⟩ (.int .i64 0)).setCell ⟨w.heap.size, 1, none⟩ (.int .i64 0)).setCell ⟨w.heap.size, 2, none⟩ (.int .i64 0)).setCell ⟨w.heap.size, 3, none⟩ (.int .i64 0)).setCell ⟨w.heap.size, 4, none⟩ (.slice (some ⟨G, 0, none⟩) 8 cc)).setCell ⟨w.heap.size, 5, none⟩ (.bool false)).frozen? ⟨B, j, none⟩ = ((w2.alloc (.cells #[.int .i64 0, .int .i64 0, .int .i64 0, .int .i64 0, .slice (some ⟨G, 0, none⟩) 8 cc, .bool false] 33)).setCell ⟨B, 2, none⟩ (.bool true)).frozen? ⟨B, j, none⟩ := fun j => World.frozen?_of_block (w := ((w2.alloc (.cells #[.int .i64 0, .int .i64 0, .int .i64 0, .int .i64 0, .slice (some ⟨G, 0, none⟩) 8 cc, .bool false] 33)).setCell ⟨B, 2, none⟩ (.bool true))) (a := ⟨B, j, none⟩) (Ot8.block B (by omega))
            exact ⟨by rw [Ot8.size]; exact B4.lt, (cl _).trans B4.c0, (cl _).trans B4.c1, (cl _).trans B4.c2, fun j => (fl' j).trans (B4.fz j)⟩
          obtain ⟨_, x0, x1, x2, x3, x4, x5⟩ := X4
          obtain ⟨_, r0, r1, r2, r3, r4, r5⟩ := R4
          obtain ⟨_, d0, d1, d2, dz⟩ := B3
          clear R3 X3 hB3 O4 B4 B2
          go_wp2
          show bodyPost Tryz.prog Tryz.f130 (fun e w' => AggR f B bb bo n cap q true m w e w') _ _ ((((((((w2.alloc (.cells #[.int .i64 0, .int .i64 0, .int .i64 0, .int .i64 0, .slice (some ⟨G, 0, none⟩) 8 cc, .bool false] 33)).setCell ⟨B, 2, none⟩ (.bool true)).setCell ⟨w.heap.size, 0, none⟩ (.int .i64 0)).setCell ⟨w.heap.size, 1, none⟩ (.int .i64 0)).setCell ⟨w.heap.size, 2, none⟩ (.int .i64 0)).setCell ⟨w.heap.size, 3, none⟩ (.int .i64 0)).setCell ⟨w.heap.size, 4, none⟩ (.slice (some ⟨G, 0, none⟩) 8 cc)).setCell ⟨w.heap.size, 5, none⟩ (.bool false))
          clear Ot8
          generalize ((((((((w2.alloc (.cells #[.int .i64 0, .int .i64 0, .int .i64 0, .int .i64 0, .slice (some ⟨G, 0, none⟩) 8 cc, .bool false] 33)).setCell ⟨B, 2, none⟩ (.bool true)).setCell ⟨w.heap.size, 0, none⟩ (.int .i64 0)).setCell ⟨w.heap.size, 1, none⟩ (.int .i64 0)).setCell ⟨w.heap.size, 2, none⟩ (.int .i64 0)).setCell ⟨w.heap.size, 3, none⟩ (.int .i64 0)).setCell ⟨w.heap.size, 4, none⟩ (.slice (some ⟨G, 0, none⟩) 8 cc)).setCell ⟨w.heap.size, 5, none⟩ (.bool false)) = wF at *
          obtain ⟨_, t0, t1, t2, t3, t4, t5⟩ := OB8.A
          refine bodyPost_ret (v := .agg #[.int .i64 0, .int .i64 0, .int .i64 0, .int .i64 0, .slice (some ⟨G, 0, none⟩) 8 cc, .bool false]) (by simp [results, Tryz.results130, go_sem, t0, t1, t2, t3, t4, t5]) rfl ⟨.inr (.inr ⟨hm1, HNo.out, ⟨G, cc, rfl⟩, qq, hqq, BF⟩), NF⟩
    · have HNo : Hid (∀ N, ¬ AgY f n q m N) := fun N h => h1 h.1
      have hRA := readAgg_impl none 0 0 (fun _ => 0) w1 ⟨fun _ => by omega, .inl rfl⟩ (by omega) (Nat.le_refl _)
      have R1 := R0.mid' M1 (by omega)
      have F1 : ∀ j, w1.frozen? ⟨w.heap.size, j, none⟩ = false := fun j => (M1.frozen (by omega) (by omega)).trans (F0 j)
      have N1 := N0.trans (Nm.of_mid (base := w.heap.size) M1 (by omega))
      have s1 := M1.size
      clear hcall r0' M1 R0 F0 N0
      go_wp2_with fail
      refine hRA.mono ?_
      intro e w2 hO
      obtain ⟨G, cc, rfl, q2⟩ : ∃ G cc, e = .returned (.tuple #[.agg #[.int .i64 0, .int .i64 0, .int .i64 0, .int .i64 0, .slice (some ⟨G, 0, none⟩) 8 cc, .bool false], .bool false]) ∧ Below w1.heap.size w1 w2 := by
        rcases hO with ⟨N, G, cc, hR, _⟩ | ⟨_, ⟨G, cc, he⟩, q2⟩
        · have := (rdNs_pos hR.1).1; omega
        · exact ⟨G, cc, he, q2⟩
      have R2 := R1.keep q2
      have F2 : ∀ j, w2.frozen? ⟨w.heap.size, j, none⟩ = false := fun j => (q2.frozen (p := ⟨w.heap.size, j, none⟩) R1.lt).trans (F1 j)
      have N2 := N1.trans (Nm.of_below (q2.mono (by omega)))
      have s2 : w.heap.size ≤ w2.heap.size := by have := q2.size; omega
      have B2 := B1.keep q2
      obtain ⟨qq, hqqe⟩ : ∃ qq, q = qq := ⟨_, rfl⟩
      have hqq : qq ≤ n := by omega
      rw [hqqe] at B2
      clear hRA hO R1 F1 N1 q2 hB B0 B1
      have hB3 := below_new w2 (.cells #[.int .i64 0, .int .i64 0, .int .i64 0, .int .i64 0, .slice (some ⟨G, 0, none⟩) 8 cc, .bool false] 33)
      have R3 := R2.keep hB3
      have F3 : ∀ j, (w2.alloc (.cells #[.int .i64 0, .int .i64 0, .int .i64 0, .int .i64 0, .slice (some ⟨G, 0, none⟩) 8 cc, .bool false] 33)).frozen? ⟨w.heap.size, j, none⟩ = false := fun j => (hB3.frozen (p := ⟨w.heap.size, j, none⟩) R2.lt).trans (F2 j)
      have X3 := AAt.new w2 0 0 0 0 (.slice (some ⟨G, 0, none⟩) 8 cc) false 33
      have B3 := B2.keep hB3
      have B4 := B3.set2 true
      have O4 := Others.setCell (w2.alloc (.cells #[.int .i64 0, .int .i64 0, .int .i64 0, .int .i64 0, .slice (some ⟨G, 0, none⟩) 8 cc, .bool false] 33)) B 2 (.bool true)
      have hlb : B ≠ w2.heap.size := by have := B2.lt; omega
      have hwb : w.heap.size ≠ B := by omega
      have X4 := X3.others' O4 (by omega)
      have R4 := R3.others' O4 hwb
      have F4 : ∀ j, ((w2.alloc (.cells #[.int .i64 0, .int .i64 0, .int .i64 0, .int .i64 0, .slice (some ⟨G, 0, none⟩) 8 cc, .bool false] 33)).setCell ⟨B, 2, none⟩ (.bool true)).frozen? ⟨w.heap.size, j, none⟩ = false := fun j => by rw [frozen_set]; exact F3 j
      have OB8 := (((((OB.set0 (w := ((w2.alloc (.cells #[.int .i64 0, .int .i64 0, .int .i64 0, .int .i64 0, .slice (some ⟨G, 0, none⟩) 8 cc, .bool false] 33)).setCell ⟨B, 2, none⟩ (.bool true))) ⟨R4, F4, Below.refl _ _⟩ 0).set1 0).set2 0).set3 0).set4 (.slice (some ⟨G, 0, none⟩) 8 cc)).set5 false
      have Ot8 : Others w.heap.size ((w2.alloc (.cells #[.int .i64 0, .int .i64 0, .int .i64 0, .int .i64 0, .slice (some ⟨G, 0, none⟩) 8 cc, .bool false] 33)).setCell ⟨B, 2, none⟩ (.bool true)) ((((((((w2.alloc (.cells #[.int .i64 0, .int .i64 0, .int .i64 0, .int .i64 0, .slice (some ⟨G, 0, none⟩) 8 cc, .bool false] 33)).setCell ⟨B, 2, none⟩ (.bool true)).setCell ⟨w.heap.size, 0, none⟩ (.int .i64 0)).setCell ⟨w.heap.size, 1, none⟩ (.int .i64 0)).setCell ⟨w.heap.size, 2, none⟩ (.int .i64 0)).setCell ⟨w.heap.size, 3, none⟩ (.int .i64 0)).setCell ⟨w.heap.size, 4, none⟩ (.slice (some ⟨G, 0, none⟩) 8 cc)).setCell ⟨w.heap.size, 5, none⟩ (.bool false)) := (((((Others.setCell _ _ _ _).trans (Others.setCell _ _ _ _)).trans (Others.setCell _ _ _ _)).trans (Others.setCell _ _ _ _)).trans (Others.setCell _ _ _ _)).trans (Others.setCell _ _ _ _)
      have NF : Nm w.heap.size B w ((((((((w2.alloc (.cells #[.int .i64 0, .int .i64 0, .int .i64 0, .int .i64 0, .slice (some ⟨G, 0, none⟩) 8 cc, .bool false] 33)).setCell ⟨B, 2, none⟩ (.bool true)).setCell ⟨w.heap.size, 0, none⟩ (.int .i64 0)).setCell ⟨w.heap.size, 1, none⟩ (.int .i64 0)).setCell ⟨w.heap.size, 2, none⟩ (.int .i64 0)).setCell ⟨w.heap.size, 3, none⟩ (.int .i64 0)).setCell ⟨w.heap.size, 4, none⟩ (.slice (some ⟨G, 0, none⟩) 8 cc)).setCell ⟨w.heap.size, 5, none⟩ (.bool false)) := (((N2.trans (Nm.of_below (hB3.mono s2))).trans (Nm.of_others O4 (.inl rfl)))).trans (Nm.of_others Ot8 (.inr (Nat.le_refl _)))
      have BF : BR ((((((((w2.alloc (.cells #[.int .i64 0, .int .i64 0, .int .i64 0, .int .i64 0, .slice (some ⟨G, 0, none⟩) 8 cc, .bool false] 33)).setCell ⟨B, 2, none⟩ (.bool true)).setCell ⟨w.heap.size, 0, none⟩ (.int .i64 0)).setCell ⟨w.heap.size, 1, none⟩ (.int .i64 0)).setCell ⟨w.heap.size, 2, none⟩ (.int .i64 0)).setCell ⟨w.heap.size, 3, none⟩ (.int .i64 0)).setCell ⟨w.heap.size, 4, none⟩ (.slice (some ⟨G, 0, none⟩) 8 cc)).setCell ⟨w.heap.size, 5, none⟩ (.bool false)) B (some ⟨bb, bo, none⟩) n cap qq true := by
        have cl : ∀ j, ((((((((w2.alloc (.cells #[.int .i64 0, .int .i64 0, .int .i64 0, .int .i64 0, .slice (some ⟨G, 0, none⟩) 8 cc, .bool false] 33)).setCell ⟨B, 2, none⟩ (.bool true)).setCell ⟨w.heap.size, 0, none⟩ (.int .i64 0)).setCell ⟨w.heap.size, 1, none⟩ (.int .i64 0)).setCell ⟨w.heap.size, 2, none⟩ (.int .i64 0)).setCell ⟨w.heap.size, 3, none⟩ (.int .i64 0)).setCell ⟨w.heap.size, 4, none⟩ (.slice (some ⟨G, 0, none⟩) 8 cc)).setCell ⟨w.heap.size, 5, none⟩ (.bool false)).cell? ⟨B, j, none⟩ = ((w2.alloc (.cells #[.int .i64 0, .int .i64 0, .int .i64 0, .int .i64 0, .slice (some ⟨G, 0, none⟩) 8 cc, .bool false] 33)).setCell ⟨B, 2, none⟩ (.bool true)).cell? ⟨B, j, none⟩ := fun j => World.cell?_of_block (w := ((w2.alloc (.cells #[.int .i64 0, .int .i64 0, .int .i64 0, .int .i64 0, .slice (some ⟨G, 0, none⟩) 8 cc, .bool false] 33)).setCell ⟨B, 2, none⟩ (.bool true))) (a := ⟨B, j, none⟩) (Ot8.block B (by omega))
        have fl' : ∀ j, ((((((((w2.alloc (.cells #[.int .i64 0, .int .i64 0, .int .i64 0, .int .i64 0, .slice (some ⟨G, 0, none⟩) 8 cc, .bool false] 33)).setCell ⟨B, 2, none⟩ (.bool true)).setCell ⟨w.heap.size, 0, none⟩ (.int .i64 0)).setCell ⟨w.heap.size, 1, none⟩ (.int .i64 0)).setCell ⟨w.heap.size, 2, none⟩ (.int .i64 0)).setCell ⟨w.heap.size, 3, none⟩ (.int .i64 0)).setCell ⟨w.heap.size, 4, none⟩ (.slice (some ⟨G, 0, none⟩) 8 cc)).setCell ⟨w.heap.size, 5, none⟩ (.bool false)).frozen? ⟨B, j, none⟩ = ((w2.alloc (.cells #[.int .i64 0, .int .i64 0, .int .i64 0, .int .i64 0, .slice (some ⟨G, 0, none⟩) 8 cc, .bool false] 33)).setCell ⟨B, 2, none⟩ (.bool true)).frozen? ⟨B, j, none⟩ := fun j => World.frozen?_of_block (w := ((w2.alloc (.cells #[.int .i64 0, .int .i64 0, .int .i64 0, .int .i64 0, .slice (some ⟨G, 0, none⟩) 8 cc, .bool false] 33)).setCell ⟨B, 2, none⟩ (.bool true))) (a := ⟨B, j, none⟩) (Ot8.block B (by omega))
        exact ⟨by rw [Ot8.size]; exact B4.lt, (cl _).trans B4.c0, (cl _).trans B4.c1, (cl _).trans B4.c2, fun j => (fl' j).trans (B4.fz j)⟩
      obtain ⟨_, x0, x1, x2, x3, x4, x5⟩ := X4
      obtain ⟨_, r0, r1, r2, r3, r4, r5⟩ := R4
      obtain ⟨_, d0, d1, d2, dz⟩ := B3
      clear R3 X3 hB3 O4 B4 B2
      go_wp2
      show bodyPost Tryz.prog Tryz.f130 (fun e w' => AggR f B bb bo n cap q t m w e w') _ _ ((((((((w2.alloc (.cells #[.int .i64 0, .int .i64 0, .int .i64 0, .int .i64 0, .slice (some ⟨G, 0, none⟩) 8 cc, .bool false] 33)).setCell ⟨B, 2, none⟩ (.bool true)).setCell ⟨w.heap.size, 0, none⟩ (.int .i64 0)).setCell ⟨w.heap.size, 1, none⟩ (.int .i64 0)).setCell ⟨w.heap.size, 2, none⟩ (.int .i64 0)).setCell ⟨w.heap.size, 3, none⟩ (.int .i64 0)).setCell ⟨w.heap.size, 4, none⟩ (.slice (some ⟨G, 0, none⟩) 8 cc)).setCell ⟨w.heap.size, 5, none⟩ (.bool false))
      clear Ot8
      generalize ((((((((w2.alloc (.cells #[.int .i64 0, .int .i64 0, .int .i64 0, .int .i64 0, .slice (some ⟨G, 0, none⟩) 8 cc, .bool false] 33)).setCell ⟨B, 2, none⟩ (.bool true)).setCell ⟨w.heap.size, 0, none⟩ (.int .i64 0)).setCell ⟨w.heap.size, 1, none⟩ (.int .i64 0)).setCell ⟨w.heap.size, 2, none⟩ (.int .i64 0)).setCell ⟨w.heap.size, 3, none⟩ (.int .i64 0)).setCell ⟨w.heap.size, 4, none⟩ (.slice (some ⟨G, 0, none⟩) 8 cc)).setCell ⟨w.heap.size, 5, none⟩ (.bool false)) = wF at *
      obtain ⟨_, t0, t1, t2, t3, t4, t5⟩ := OB8.A
      refine bodyPost_ret (v := .agg #[.int .i64 0, .int .i64 0, .int .i64 0, .int .i64 0, .slice (some ⟨G, 0, none⟩) 8 cc, .bool false]) (by simp [results, Tryz.results130, go_sem, t0, t1, t2, t3, t4, t5]) rfl ⟨.inr (.inr ⟨hm1, HNo.out, ⟨G, cc, rfl⟩, qq, hqq, BF⟩), NF⟩
end Go.Proofs.YtohjjigkfdhklaaGreat
namespace Go.Proofs.YtohjjigkfdhklaaGreat
set_option maxRecDepth 100000
open Go.RowKit
set_option linter.unusedSimpArgs false
set_option linter.unusedVariables false

theorem pv_nat (n k : Nat) : pv (n : Int) k = ((n / 128 ^ k : Nat) : Int) := by
  induction k with
  | zero => simp [pv]
  | succ k ih =>
    simp only [pv, ih]
    rw [Nat.pow_succ, ← Nat.div_div_eq_div_mul]
    exact (Int.natCast_ediv _ _).symm

theorem low_or : ∀ m, m < 256 → (m ||| 128) &&& 127 = m % 128 := by decide +kernel
theorem low_and : ∀ m, m < 128 → m &&& 127 = m := by decide +kernel

theorem or_add {a c i : Nat} (h : c < 2 ^ i) : c ||| a * 2 ^ i = c + a * 2 ^ i := by
  have := Nat.two_pow_add_eq_or_of_lt h a
  rw [Nat.or_comm, Nat.mul_comm a, ← this, Nat.add_comm]

/-- A group put on top. -/
theorem step_nat {c y k : Nat} {x : Int} (hx : bits .and .u8 x 127 = (y : Int)) (hc : c < 2 ^ (7 * k)) (hs : y * 2 ^ (7 * k) < 18446744073709551616) (hk : c < 18446744073709551616) (hy : y ≤ 127) :
    rvStep (c : Int) x k = ((c + y * 2 ^ (7 * k) : Nat) : Int) := by
  unfold rvStep
  rw [hx]
  have e1 : IntKind.u64.wrap (y : Int) = (y : Int) := by rw [IntKind.wrap_u64]; omega
  have e2 : IntKind.u64.wrap ((y : Int) * 2 ^ (7 * k)) = ((y * 2 ^ (7 * k) : Nat) : Int) := by
    rw [IntKind.wrap_u64, show (y : Int) * 2 ^ (7 * k) = ((y * 2 ^ (7 * k) : Nat) : Int) from by push_cast; rfl]
    omega
  rw [e1, e2, u64_or_nat _ _ (by omega) (by omega), or_add hc]

theorem pow128 (k : Nat) : 128 ^ k = 2 ^ (7 * k) := by rw [Nat.pow_mul]

theorem pg_nat (N j : Nat) : ∃ m, m < 256 ∧ m % 128 = N / 2 ^ (7 * j) % 128 ∧ pg (N : Int) j = ((m ||| 128 : Nat) : Int) := by
  refine ⟨N / 2 ^ (7 * j) % 256, by omega, by omega, ?_⟩
  unfold pg
  rw [pv_nat, pow128]
  have e : ((N / 2 ^ (7 * j) : Nat) : Int) % 256 = ((N / 2 ^ (7 * j) % 256 : Nat) : Int) := by omega
  rw [e, show (128 : Int) = ((128 : Nat) : Int) from rfl, u8_or_nat _ _ (by omega) (by omega)]
theorem or128 : ∀ m, m < 256 → 128 ≤ m ||| 128 ∧ m ||| 128 < 256 := by decide +kernel

/-- PutVar's bytes at q are read back as the number. -/
theorem rv_back {N k n q : Nat} {f : Nat → Int} (hN : N < 18446744073709551616) (hp : PLen (N : Int) k) (hf : ∀ i, i ≤ k → f (q + i) = pb (N : Int) k i) (hq : q + k < n) :
    ∀ t j, j + t = k → rv f n q (10 - j) j ((N % 2 ^ (7 * j) : Nat) : Int) = ((N : Int), (q : Int) + k + 1) := by
  obtain ⟨hk9, hgt, hle⟩ := hp
  intro t
  induction t with
  | zero =>
    intro j hj
    obtain rfl : j = k := by omega
    have hfj : f (q + j) = ((N / 2 ^ (7 * j) : Nat) : Int) := by
      rw [hf j (Nat.le_refl _)]
      unfold pb
      rw [if_neg (by omega), pv_nat, pow128]
    have hle' : N / 2 ^ (7 * j) ≤ 127 := by
      rw [pv_nat, pow128] at hle
      omega
    have hb : bits .and .u8 (f (q + j)) 127 = ((N / 2 ^ (7 * j) : Nat) : Int) := by
      rw [hfj, show (127 : Int) = ((127 : Nat) : Int) from rfl, u8_and_nat _ _ (by omega) (by omega), low_and _ (by omega)]
    have hmod := Nat.mod_lt N (Nat.two_pow_pos (7 * j))
    have hdm := Nat.div_add_mod N (2 ^ (7 * j))
    have hsm : N / 2 ^ (7 * j) * 2 ^ (7 * j) ≤ N := Nat.div_mul_le_self _ _
    rw [rv_last f n q j _ (by omega) hq ?_ (by rw [hfj]; omega) ?_]
    · rw [step_nat hb hmod (by omega) (by have := Nat.mod_le N (2 ^ (7 * j)); omega) hle']
      rw [show N % 2 ^ (7 * j) + N / 2 ^ (7 * j) * 2 ^ (7 * j) = N from by
        rw [Nat.mul_comm] at hdm ⊢
        first | omega | (rw [Nat.mul_comm]; omega)]
    · rintro ⟨rfl, h1⟩
      rw [hfj] at h1
      have h63 : (2 : Nat) ^ (7 * 9) = 9223372036854775808 := by decide
      rw [h63] at h1
      omega
    · rintro ⟨h0, h1⟩
      rw [hfj] at h1
      have h2 := hgt (j - 1) (by omega)
      rw [pv_nat, pow128] at h2
      have e : N / 2 ^ (7 * j) = N / 2 ^ (7 * (j - 1)) / 128 := by
        rw [Nat.div_div_eq_div_mul, show 2 ^ (7 * (j - 1)) * 128 = 2 ^ (7 * j) from by rw [show (128 : Nat) = 2 ^ 7 from rfl, ← Nat.pow_add]; congr 1; omega]
      omega
  | succ t ih =>
    intro j hj
    obtain ⟨m, hm, hm2, hpg⟩ := pg_nat N j
    have ho := or128 m hm
    have hfj : f (q + j) = ((m ||| 128 : Nat) : Int) := by
      rw [hf j (by omega)]
      unfold pb
      rw [if_pos (by omega), hpg]
    have hb : bits .and .u8 (f (q + j)) 127 = ((N / 2 ^ (7 * j) % 128 : Nat) : Int) := by
      rw [hfj, show (127 : Int) = ((127 : Nat) : Int) from rfl, u8_and_nat _ _ (by omega) (by omega), low_or m hm, hm2]
    have hmod := Nat.mod_lt N (Nat.two_pow_pos (7 * j))
    have hsm : N / 2 ^ (7 * j) * 2 ^ (7 * j) ≤ N := Nat.div_mul_le_self _ _
    have hsm2 : N / 2 ^ (7 * j) % 128 * 2 ^ (7 * j) ≤ N / 2 ^ (7 * j) * 2 ^ (7 * j) := Nat.mul_le_mul_right _ (Nat.mod_le _ _)
    rw [rv_more f n q j _ (by omega) (by omega) (by omega) (by rw [hfj]; omega)]
    rw [step_nat hb hmod (by omega) (by have := Nat.mod_le N (2 ^ (7 * j)); omega) (by omega)]
    rw [show N % 2 ^ (7 * j) + N / 2 ^ (7 * j) % 128 * 2 ^ (7 * j) = N % 2 ^ (7 * (j + 1)) from by
      rw [show 7 * (j + 1) = 7 * j + 7 by omega, Nat.pow_add, Nat.mod_mul, Nat.mul_comm (2 ^ (7 * j))]]
    exact ih (j + 1) (by omega)
theorem rvAll_back {N k n q : Nat} {f : Nat → Int} (hN : N < 18446744073709551616) (hp : PLen (N : Int) k) (hf : ∀ i, i ≤ k → f (q + i) = pb (N : Int) k i) (hq : q + k < n) : rvAll f n q = ((N : Int), (q : Int) + k + 1) := by
  have := rv_back hN hp hf hq k 0 (by omega)
  simpa [rvAll, Nat.mod_one] using this
end Go.Proofs.YtohjjigkfdhklaaGreat
namespace Go.Proofs.YtohjjigkfdhklaaGreat
set_option maxRecDepth 100000
open Go.RowKit
set_option linter.unusedSimpArgs false
set_option linter.unusedVariables false

/-- The bytes L lie in f from q on. -/
def Seg (f : Nat → Int) (q : Nat) (L : List Int) : Prop := ∀ i, i < L.length → f (q + i) = fl L i
theorem Seg.left {f : Nat → Int} {q : Nat} {L M : List Int} (h : Seg f q (L ++ M)) : Seg f q L := fun i hi => by
  rw [h i (by rw [List.length_append]; omega)]
  simp [fl, List.getElem?_append_left hi]
theorem Seg.right {f : Nat → Int} {q : Nat} {L M : List Int} (h : Seg f q (L ++ M)) : Seg f (q + L.length) M := fun i hi => by
  rw [Nat.add_assoc, h (L.length + i) (by rw [List.length_append]; omega)]
  simp [fl, List.getElem?_append_right]
theorem Seg.shift {f : Nat → Int} {q : Nat} {L : List Int} (h : Seg f q L) : Seg (fun i => f (q + i)) 0 L := fun i hi => by
  have := h i hi
  simpa using this
theorem plen_of {u : Int} (h : 0 ≤ u ∧ u ≤ 18446744073709551615) : PLen u (pk u) := by
  have h9 : pv u 9 ≤ 127 := by
    obtain ⟨N, rfl⟩ := Int.eq_ofNat_of_zero_le h.1
    rw [pv_nat]
    have : N / 128 ^ 9 ≤ 127 := by
      have : N / 128 ^ 9 < 128 := Nat.div_lt_of_lt_mul (by omega)
      omega
    omega
  unfold pk
  repeat' split
  all_goals
    refine ⟨by omega, fun j hj => ?_, by assumption⟩
    have hc : j = 0 ∨ j = 1 ∨ j = 2 ∨ j = 3 ∨ j = 4 ∨ j = 5 ∨ j = 6 ∨ j = 7 ∨ j = 8 := by omega
    rcases hc with rfl | rfl | rfl | rfl | rfl | rfl | rfl | rfl | rfl <;> omega
theorem rvAll_pvL {f : Nat → Int} {n q : Nat} {u : Int} (h : 0 ≤ u ∧ u ≤ 18446744073709551615) (hs : Seg f q (pvL u)) (hq : q + (pvL u).length ≤ n) : rvAll f n q = (u, ((q + (pvL u).length : Nat) : Int)) := by
  have hp := plen_of h
  obtain ⟨N, rfl⟩ := Int.eq_ofNat_of_zero_le h.1
  have hl := pvL_length (N : Int)
  rw [rvAll_back (by omega) hp (fun i hi => ?_) (by omega), hl]
  · congr 1
  · rw [hs i (by omega)]
    simp only [fl, pvL]
    simp [show i < pk (N : Int) + 1 by omega]
theorem rdVar_pvL {f : Nat → Int} {n q : Nat} {u : Int} (h : 0 ≤ u ∧ u ≤ 18446744073709551615) (hs : Seg f q (pvL u)) (hq : q + (pvL u).length ≤ n) : rdVar f n (q : Int) = (u, ((q + (pvL u).length : Nat) : Int), true) := by
  have hl := pvL_length u
  unfold rdVar
  rw [if_pos (by omega), Int.toNat_natCast, rvAll_pvL h hs hq]
  simp
  omega
theorem rdNum_pvL {f : Nat → Int} {n q : Nat} {u : Int} (h : 0 ≤ u ∧ u ≤ 9223372036854775807) (hs : Seg f q (pvL u)) (hq : q + (pvL u).length ≤ n) : rdNum f n q = some (u, q + (pvL u).length) := by
  unfold rdNum
  rw [rdVar_pvL (by omega) hs hq]
  rw [if_pos ⟨rfl, h.2⟩]
  simp only [Int.toNat_natCast]
theorem unf_fold {v : Int} : unfI (foldI v) = v := by unfold unfI foldI; repeat' split <;> omega

theorem sumF_same {f g : Nat → Int} : ∀ {k : Nat}, (∀ i, i < k → f i = g i) → sumF f k = sumF g k
  | 0, _ => rfl
  | k + 1, h => by
    have := sumF_same (f := f) (g := g) (k := k) fun i hi => h i (by omega)
    have h2 := h k (by omega)
    simp only [sumF, this, h2]
theorem bl_byt0 (fu : Bool) (N : Nat → Int) (k : Nat) : fl (bl fu N k) 0 = if fu = true then 1 else 0 := by
  induction k with
  | zero => simp [bl, fl]
  | succ k ih =>
    have := (bl_len fu N k).1
    rw [← ih, bl]
    simp [fl, List.getElem?_append_left (show 0 < (bl fu N k).length by omega)]
theorem rdNs_bl {f : Nat → Int} {n : Nat} {fu : Bool} {N : Nat → Int} (hN : ∀ i, i < 12 → -1000000000000000000 ≤ N i ∧ N i ≤ 1000000000000000000) :
    ∀ k, k ≤ 12 → Seg f 0 (bl fu N k) → (bl fu N k).length ≤ n → rdNs f n k = some ((List.range k).map N, (((bl fu N k).length : Nat) : Int))
  | 0, _, _, _ => by simp [rdNs, bl]
  | k + 1, hk, hs, hn => by
    have eb : bl fu N (k + 1) = bl fu N k ++ pvL (foldI (N k)) := rfl
    rw [eb] at hs hn ⊢
    rw [List.length_append] at hn
    have ih := rdNs_bl (f := f) (n := n) (fu := fu) (N := N) hN k (by omega) hs.left (by omega)
    have hr := hs.right
    rw [Nat.zero_add] at hr
    have hv := rdVar_pvL (foldI_bd (hN k (by omega))) hr hn
    rw [rdNs, ih]
    simp only [hv]
    rw [if_pos trivial, unf_fold, List.range_succ, List.map_append, List.length_append]
    rfl
theorem rag_bl {f : Nat → Int} {n : Nat} {c s lo hi : Int} {h : Nat → Int} {fu : Bool} (hg : GoodA c s lo hi 8 h fu) (hs : Seg f 0 (bl fu (nm c s lo hi h) 12)) (hn : (bl fu (nm c s lo hi h) 12).length = n) :
    RAg f n ((List.range 12).map (nm c s lo hi h)) := by
  have h0 := hs 0 (by have := (bl_len fu (nm c s lo hi h) 12).1; omega)
  rw [bl_byt0] at h0
  have hf : ∀ i, i < 12 → fi ((List.range 12).map (nm c s lo hi h)) i = nm c s lo hi h i := fun i hi12 => by simp [fi, hi12]
  refine ⟨by rw [rdNs_bl hg.nums 12 (Nat.le_refl _) hs (by omega), hn], ?_, ?_⟩
  · rw [show f 0 = f (0 + 0) from rfl, h0]; split <;> omega
  · have e : (f 0 == 1) = fu := by
      rw [show f 0 = f (0 + 0) from rfl, h0]
      cases fu <;> simp
    rw [e, hf 0 (by omega), hf 1 (by omega), hf 2 (by omega), hf 3 (by omega)]
    obtain ⟨g1, g2, g3, g4, g5, g6, g7⟩ := hg
    have hh : ∀ i, i < 8 → fi ((List.range 12).map (nm c s lo hi h)) (i + 4) = h i := fun i hi8 => by
      rw [hf (i + 4) (by omega)]
      unfold nm
      rw [if_neg (by omega), if_neg (by omega), if_neg (by omega), if_neg (by omega)]
      congr 1
    refine ⟨g1, g2, fun i hi8 => ?_, fun hfu => ?_, g5, g6, g7⟩
    · show isC (fi ((List.range 12).map (nm c s lo hi h)) (i + 4)) = true
      rw [hh i hi8]; exact g3 i hi8
    · refine ⟨?_, (g4 hfu).2⟩
      refine Eq.trans ?_ (g4 hfu).1
      exact sumF_same fun i hi8 => hh i hi8
end Go.Proofs.YtohjjigkfdhklaaGreat
namespace Go.Proofs.YtohjjigkfdhklaaGreat
set_option maxRecDepth 100000
open Go.RowKit
set_option linter.unusedSimpArgs false
set_option linter.unusedVariables false

/-- The number of the k bytes from q on. -/
def num (f : Nat → Int) (q : Nat) : Nat → Int
  | 0 => 0
  | k + 1 => num f q k * 256 + f (q + k)
theorem num_bd (f : Nat → Int) (hf : ∀ i, 0 ≤ f i ∧ f i ≤ 255) (q k : Nat) : 0 ≤ num f q k ∧ num f q k < 256 ^ k := by
  induction k with
  | zero => simp [num]
  | succ k ih =>
    have := hf (q + k)
    simp only [num, Int.pow_succ]
    omega
theorem pow256 {k e : Nat} (h : k ≤ e) : (256 : Int) ^ k ≤ 256 ^ e := by
  have h1 : (256 : Nat) ^ k ≤ 256 ^ e := Nat.pow_le_pow_right (by omega) h
  have h2 : ((256 ^ k : Nat) : Int) ≤ ((256 ^ e : Nat) : Int) := Int.ofNat_le.2 h1
  rw [Int.natCast_pow, Int.natCast_pow] at h2
  exact h2
theorem num_bd7 (f : Nat → Int) (hf : ∀ i, 0 ≤ f i ∧ f i ≤ 255) (q k : Nat) (hk : k ≤ 7) : 0 ≤ num f q k ∧ num f q k < 72057594037927936 := by
  have h := num_bd f hf q k
  have h2 : (256 : Int) ^ k ≤ 256 ^ 7 := by
    exact pow256 hk
  have h3 : (256 : Int) ^ 7 = 72057594037927936 := by decide
  omega
theorem num_bd8 (f : Nat → Int) (hf : ∀ i, 0 ≤ f i ∧ f i ≤ 255) (q k : Nat) (hk : k ≤ 8) : 0 ≤ num f q k ∧ num f q k < 18446744073709551616 := by
  have h := num_bd f hf q k
  have h2 : (256 : Int) ^ k ≤ 256 ^ 8 := by
    exact pow256 hk
  have h3 : (256 : Int) ^ 8 = 18446744073709551616 := by decide
  omega

theorem or_step_i (N x : Int) (h : 0 ≤ N ∧ N < 72057594037927936) (hx : 0 ≤ x ∧ x ≤ 255) : bits .or .i64 (wrap64 (wrap64 N * 256)) x = wrap64 (N * 256 + x) := by
  obtain ⟨M, rfl⟩ := Int.eq_ofNat_of_zero_le h.1
  obtain ⟨y, rfl⟩ := Int.eq_ofNat_of_zero_le hx.1
  have e1 : wrap64 (M : Int) = M := by unfold wrap64; omega
  rw [e1]
  show IntKind.i64.wrap ((BitVec.ofInt 64 (wrap64 ((M : Int) * 256)) ||| BitVec.ofInt 64 (y : Int)).toNat : Int) = _
  rw [BitVec.toNat_or, BitVec.toNat_ofInt, BitVec.toNat_ofInt]
  have e2 : (wrap64 ((M : Int) * 256) % ((2 ^ 64 : Nat) : Int)).toNat = M * 256 := by
    rw [show ((2 ^ 64 : Nat) : Int) = 18446744073709551616 by decide]
    unfold wrap64; omega
  have e3 : ((y : Int) % ((2 ^ 64 : Nat) : Int)).toNat = y := by
    rw [show ((2 ^ 64 : Nat) : Int) = 18446744073709551616 by decide]; omega
  rw [e2, e3, nat_join 8 (M * 256) y (by omega) (by omega), IntKind.wrap_i64]
  unfold wrap64
  omega
theorem or_step_u (N x : Int) (h : 0 ≤ N ∧ N < 72057594037927936) (hx : 0 ≤ x ∧ x ≤ 255) : bits .or .u64 (N * 256) x = N * 256 + x := by
  obtain ⟨M, rfl⟩ := Int.eq_ofNat_of_zero_le h.1
  obtain ⟨y, rfl⟩ := Int.eq_ofNat_of_zero_le hx.1
  rw [show (M : Int) * 256 = ((M * 256 : Nat) : Int) from by omega, u64_or_nat _ _ (by omega) (by omega), nat_join 8 (M * 256) y (by omega) (by omega)]
  omega

/-- What ReadFixed takes, and what it answers. -/
def RFGood (n : Nat) (a m : Int) : Prop := 1 ≤ m ∧ m ≤ 8 ∧ 0 ≤ a ∧ a ≤ (n : Int) - m
def rfAns (N : Int) : Int × Bool := if N < 9223372036854775808 then (N, true) else (0, false)

theorem rfAns_yes {N : Int} (h : N < 9223372036854775808) : rfAns N = (N, true) := by unfold rfAns; rw [if_pos h]
theorem rfAns_no {N : Int} (h : ¬ N < 9223372036854775808) : rfAns N = (0, false) := by unfold rfAns; rw [if_neg h]

set_option maxHeartbeats 1000000 in
theorem readFixed_impl_yes (ao : Option Addr) (n cap : Nat) (f : Nat → Int) (q m : Nat) (w : World) (hr : Row w ao n f) (hn : n ≤ 1048576) (hcap : n ≤ cap) (hm1 : 1 ≤ m) (hm : m ≤ 8) (hq : q + m ≤ n) :
    Calls Tryz.prog 86 #[.slice ao n cap, .int .i64 q, .int .i64 m] w fun e w' => e = .returned (.tuple #[.int .i64 (rfAns (num f q m)).1, .bool (rfAns (num f q m)).2]) ∧ Below w.heap.size w w' := by
  obtain ⟨hbd, hl⟩ := hr
  obtain ⟨b, off, rfl, hblt, hc⟩ := hl.resolve_left (by omega)
  have hd1 : decide ((m : Int) < 1) = false := by simp; omega
  have hd2 : decide ((8 : Int) < (m : Int)) = false := by simp; omega
  have hd3 : decide ((q : Int) < 0) = false := by simp
  have hd4 : decide ((n : Int) - (m : Int) < (q : Int)) = false := by simp; omega
  generalize hA : rfAns (num f q m) = A
  have HA : Hid (rfAns (num f q m) = A) := hA
  clear hA
  go_enter Tryz.func86, Tryz.ntmps86
  go_wp2
  go_loopw [8, 39] (fun s i wr => ∃ k : Nat, ∃ c : Int, k ≤ m ∧ i = .int .i64 k ∧ s = .int .u64 c ∧ Hid (c = num f q k) ∧ Below w.heap.size w wr) (fun _ i _ => m - (intOf i).toNat)
  case atStart => exact ⟨0, 0, by omega, rfl, rfl, rfl, Below.refl _ _⟩
  case round =>
    obtain ⟨k, c, hk, rfl, rfl, HC, hbk⟩ := hrel
    by_cases hlt : k < m
    · have h1 : wr.cell? ⟨b, off + q + k, none⟩ = some (.int .u8 (f (q + k))) := by rw [Nat.add_assoc]; exact (hbk.cell (p := ⟨b, off + (q + k), none⟩) hblt).trans (hc _ (by omega))
      have hb := hbd (q + k)
      have hcb : 0 ≤ c ∧ c < 72057594037927936 := by rw [HC.out]; exact num_bd7 f hbd q k (by omega)
      have HS : Hid (bits .or .u64 (c * 256) (f (q + k)) = num f q (k + 1)) := by
        unfold Hid; rw [or_step_u _ _ hcb hb, HC.out]; rfl
      clear hc
      go_wp2
      go_roundw
      case rel => exact ⟨k + 1, _, by omega, by go_num, rfl, HS, hbk⟩
      case measure => simp [intOf]; omega
    · have e : k = m := by omega
      subst e
      have hcb : 0 ≤ c ∧ c < 18446744073709551616 := by rw [HC.out]; exact num_bd8 f hbd q k (by omega)
      by_cases h63 : c < 9223372036854775808
      · have HB : Hid (A = (c, true)) := by unfold Hid; rw [← HA.out, ← HC.out, rfAns_yes h63]
        have h63' : ¬ 9223372036854775807 < c := by omega
        go_wp2
        go_ret2
        rw [HB.out]
        exact ⟨rfl, hbk⟩
      · have HB : Hid (A = (0, false)) := by unfold Hid; rw [← HA.out, ← HC.out, rfAns_no h63]
        have h63' : 9223372036854775807 < c := by omega
        go_wp2
        go_ret2
        rw [HB.out]
        exact ⟨rfl, hbk⟩

set_option maxHeartbeats 1000000 in
theorem readFixed_impl_no (ao : Option Addr) (n cap : Nat) (a m : Int) (w : World) (hn : n ≤ 1048576) (ha : -9223372036854775808 ≤ a ∧ a ≤ 9223372036854775807) (hm : -9223372036854775808 ≤ m ∧ m ≤ 9223372036854775807) (h : ¬ RFGood n a m) :
    Calls Tryz.prog 86 #[.slice ao n cap, .int .i64 a, .int .i64 m] w fun e w' => e = .returned (.tuple #[.int .i64 0, .bool false]) ∧ w' = w := by
  by_cases h1 : m < 1
  · clear h
    go_enter Tryz.func86, Tryz.ntmps86
    go_wp2
    go_ret2
    exact ⟨rfl, rfl⟩
  · have hd1 : decide (m < 1) = false := by simp; omega
    by_cases h2 : 8 < m
    · clear h
      go_enter Tryz.func86, Tryz.ntmps86
      go_wp2
      go_ret2
      exact ⟨rfl, rfl⟩
    · have hd2 : decide (8 < m) = false := by simp; omega
      by_cases h3 : a < 0
      · clear h
        go_enter Tryz.func86, Tryz.ntmps86
        go_wp2
        go_ret2
        exact ⟨rfl, rfl⟩
      · have hd3 : decide (a < 0) = false := by simp; omega
        have h4 : (n : Int) - m < a := by
          rcases Int.lt_or_le ((n : Int) - m) a with h3 | h3
          · exact h3
          · exact absurd ⟨by omega, by omega, by omega, h3⟩ h
        clear h
        go_enter Tryz.func86, Tryz.ntmps86
        go_wp2
        go_ret2
        exact ⟨rfl, rfl⟩

/-- What ReadFixed answers. -/
def rdFix (f : Nat → Int) (n : Nat) (a m : Int) : Int × Bool :=
  if 1 ≤ m ∧ m ≤ 8 ∧ 0 ≤ a ∧ a ≤ (n : Int) - m then rfAns (num f a.toNat m.toNat) else (0, false)

end Go.Proofs.YtohjjigkfdhklaaGreat
namespace Go.Proofs.YtohjjigkfdhklaaGreat
set_option maxRecDepth 100000
open Go.RowKit

theorem num_back {n : Int} {m q : Nat} {f : Nat → Int} (h : n / 2 ^ (8 * m) = 0) (hf : ∀ i, i < m → f (q + i) = pf n m i) : ∀ k, k ≤ m → num f q k = n / 2 ^ (8 * (m - k)) := by
  intro k
  induction k with
  | zero => intro _; simp [num, h]
  | succ k ih =>
    intro hk
    rw [num, ih (by omega), hf k (by omega), pf]
    have e : n / 2 ^ (8 * (m - k)) = n / 2 ^ (8 * (m - (k + 1))) / 256 := by
      rw [Int.ediv_ediv_of_nonneg (Int.pow_nonneg (by omega)), show (2 : Int) ^ (8 * (m - (k + 1))) * 256 = 2 ^ (8 * (m - k)) from by
        rw [show (256 : Int) = 2 ^ 8 from by decide, ← Int.pow_add]
        congr 1
        omega]
    rw [e, show m - 1 - k = m - (k + 1) by omega]
    omega
theorem num_all {n : Int} {m q : Nat} {f : Nat → Int} (h : n / 2 ^ (8 * m) = 0) (hf : ∀ i, i < m → f (q + i) = pf n m i) : num f q m = n := by
  have := num_back h hf m (Nat.le_refl _)
  simpa using this
end Go.Proofs.YtohjjigkfdhklaaGreat
