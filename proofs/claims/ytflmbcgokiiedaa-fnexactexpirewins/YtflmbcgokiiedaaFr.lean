/- Some of the windows at work put into rows of their own: those that stay as windows, those that go as keys; their lists stay where they are. / Frames: all blocks but those of a set are as they were. -/
import Derived.Test.YtflmbcgokiiedaaBa
import Derived.Test.YtflmbcgokiiedaaKr
import Derived.Test.YtflmbcgokiiedaaMs
namespace Go.Proofs.Ytflmbcgokiiedaa
open Go.RowKit
set_option linter.unusedSimpArgs false
set_option linter.unusedVariables false

/-- Which of the first k are told by b. -/
def stL (b : Nat → Bool) (k : Nat) : List Nat := (List.range k).filter b
theorem stL_yes {b : Nat → Bool} {k : Nat} (h : b k = true) : stL b (k + 1) = stL b k ++ [k] := by simp [stL, List.range_succ, h]
theorem stL_no {b : Nat → Bool} {k : Nat} (h : b k = false) : stL b (k + 1) = stL b k := by simp [stL, List.range_succ, h]
theorem stL_mem {b : Nat → Bool} {k i : Nat} : i ∈ stL b k ↔ i < k ∧ b i = true := by simp [stL]
theorem stL_nodup (b : Nat → Bool) (k : Nat) : (stL b k).Nodup := List.Pairwise.filter _ List.nodup_range
theorem nodup_inj {L : List Nat} (h : L.Nodup) {i j : Nat} (hi : i < L.length) (hj : j < L.length) (e : L[i] = L[j]) : i = j := by
  have hp := List.pairwise_iff_getElem.1 h
  rcases Nat.lt_trichotomy i j with h1 | h1 | h1
  · exact absurd e (hp i j hi hj h1)
  · exact h1
  · exact absurd e.symm (hp j i hj hi h1)
theorem stL_len (b : Nat → Bool) (k : Nat) : (stL b k).length ≤ k := by
  have := List.length_filter_le b (List.range k)
  simpa [stL] using this
/-- A key's cells, its list told. -/
def kcells (x : Wn) (h0 : Value) : List Value := [.string x.m, h0, .int .i64 x.st]
theorem Try.infoKe : (Try.prog.info? 49).map (fun i => (i.zero, i.size, i.bytes)) = some (some (.agg #[.string ByteArray.empty, .slice none 0 0, .int .i64 0]), 3, 48) := by kernel_rfl
/-- A row of the windows L. -/
def RW (w : World) (base : Nat) (v : Value) (X : Nat → Wn) (V : Nat → Value) (L : List Nat) : Prop := w.ownsRow base 54 11 v L.length (L.flatMap fun i => wcells (X i) (V (i * 2 + 0)) (V (i * 2 + 1)))
/-- A row of the keys L. -/
def RK (w : World) (base : Nat) (v : Value) (X : Nat → Wn) (V : Nat → Value) (L : List Nat) : Prop := w.ownsRow base 49 3 v L.length (L.flatMap fun i => kcells (X i) (V (i * 2 + 0)))
theorem rw_nil (w : World) (base : Nat) (X : Nat → Wn) (V : Nat → Value) : RW w base (.slice none 0 0) X V [] := World.ownsRow_nil _ _ _ _
theorem rk_nil (w : World) (base : Nat) (X : Nat → Wn) (V : Nat → Value) : RK w base (.slice none 0 0) X V [] := World.ownsRow_nil _ _ _ _
theorem RW.push {w : World} {base : Nat} {v : Value} {X : Nat → Wn} {V : Nat → Value} {L : List Nat} (h : RW w base v X V L) (i : Nat) (a0 a1 : Option Addr) (c0 c1 : Nat) (e0 : V (i * 2 + 0) = .slice a0 (X i).tn c0) (e1 : V (i * 2 + 1) = .slice a1 (X i).n c1) (hn : L.length ≤ 1048576) (hbase : base ≤ w.heap.size) (ty : TypeId) :
    ∃ vb vd w', (Builtin.append_ #[26, 26] ty #[v, .slice (some ⟨w.heap.size, 0, none⟩) 1 1]).run Try.prog (w.alloc (.cells #[.string (X i).m, .slice a0 (X i).tn c0, .int .i64 (X i).st, .int .i64 (X i).c, .int .i64 (X i).s, .int .i64 (X i).lo, .int .i64 (X i).hi, .slice a1 (X i).n c1, .bool (X i).fu, .int .i64 (X i).ver, .bool (X i).di] 54)) = .ok (.slice vb (L.length + 1) vd) w' ∧ RW w' base (.slice vb (L.length + 1) vd) X V (L ++ [i]) ∧ (w.alloc (.cells #[.string (X i).m, .slice a0 (X i).tn c0, .int .i64 (X i).st, .int .i64 (X i).c, .int .i64 (X i).s, .int .i64 (X i).lo, .int .i64 (X i).hi, .slice a1 (X i).n c1, .bool (X i).fu, .int .i64 (X i).ver, .bool (X i).di] 54)).grownBy w' v.ownBlock ∧ ((Value.slice vb (L.length + 1) vd).ownBlock = v.ownBlock ∨ (Value.slice vb (L.length + 1) vd).ownBlock = some (w.heap.size + 1)) := by
  obtain ⟨i0, hi, hz0, hz1, hz2⟩ := info_parts Try.infoWi
  have hB := below_new w (.cells #[.string (X i).m, .slice a0 (X i).tn c0, .int .i64 (X i).st, .int .i64 (X i).c, .int .i64 (X i).s, .int .i64 (X i).lo, .int .i64 (X i).hi, .slice a1 (X i).n c1, .bool (X i).fu, .int .i64 (X i).ver, .bool (X i).di] 54)
  obtain ⟨v', w', hr, ho, hg, _, hb⟩ := run_append_own_at (P := Try.prog) (w.alloc (.cells #[.string (X i).m, .slice a0 (X i).tn c0, .int .i64 (X i).st, .int .i64 (X i).c, .int .i64 (X i).s, .int .i64 (X i).lo, .int .i64 (X i).hi, .slice a1 (X i).n c1, .bool (X i).fu, .int .i64 (X i).ver, .bool (X i).di] 54)) base 26 ty 54 i0 _ 11 128 Try.underlying26 hi hz0 hz1 hz2 rfl (by decide) v L.length _ (ownsRow_keep h hB) ⟨w.heap.size, 0, none⟩ 1 1 (wcells (X i) (.slice a0 (X i).tn c0) (.slice a1 (X i).n c1)) rfl (eleven_new _ _ _ _ _) (fun u hu => by
    simp only [wcells, List.mem_cons, List.not_mem_nil, or_false] at hu
    rcases hu with rfl | rfl | rfl | rfl | rfl | rfl | rfl | rfl | rfl | rfl | rfl <;> rfl) (by unfold maxLen; omega) (by omega) (by simp; omega)
  have ho' : RW w' base v' X V (L ++ [i]) := by
    unfold RW
    rw [List.flatMap_append, List.length_append]
    simp only [List.flatMap_cons, List.flatMap_nil, List.append_nil, e0, e1]
    exact ho
  obtain ⟨vb, vd, rfl⟩ := ownsRow_form ho
  exact ⟨vb, vd, w', hr, ho', hg, hb.imp id (fun e => by rw [e]; simp)⟩
theorem three_new' (w : World) (x : Wn) (h0 : Value) (T : Nat) : ∀ j u, (kcells x h0)[j]? = some u → (w.alloc (.cells #[.string x.m, h0, .int .i64 x.st] T)).cell? ((⟨w.heap.size, 0, none⟩ : Addr).add j) = some u := by
  intro j u hj
  have hlt : j < 3 := by
    have := (List.getElem?_eq_some_iff.1 hj).1
    simpa [kcells] using this
  rw [show (⟨w.heap.size, 0, none⟩ : Addr).add j = ⟨w.heap.size, j, none⟩ from by unfold Addr.add; split <;> simp_all]
  rw [← hj]
  simp [go_sem, kcells]
theorem RK.push {w : World} {base : Nat} {v : Value} {X : Nat → Wn} {V : Nat → Value} {L : List Nat} (h : RK w base v X V L) (i : Nat) (a0 : Option Addr) (c0 : Nat) (e0 : V (i * 2 + 0) = .slice a0 (X i).tn c0) (hn : L.length ≤ 1048576) (hbase : base ≤ w.heap.size) (ty : TypeId) :
    ∃ vb vd w', (Builtin.append_ #[38, 38] ty #[v, .slice (some ⟨w.heap.size, 0, none⟩) 1 1]).run Try.prog (w.alloc (.cells #[.string (X i).m, .slice a0 (X i).tn c0, .int .i64 (X i).st] 49)) = .ok (.slice vb (L.length + 1) vd) w' ∧ RK w' base (.slice vb (L.length + 1) vd) X V (L ++ [i]) ∧ (w.alloc (.cells #[.string (X i).m, .slice a0 (X i).tn c0, .int .i64 (X i).st] 49)).grownBy w' v.ownBlock ∧ ((Value.slice vb (L.length + 1) vd).ownBlock = v.ownBlock ∨ (Value.slice vb (L.length + 1) vd).ownBlock = some (w.heap.size + 1)) := by
  obtain ⟨i0, hi, hz0, hz1, hz2⟩ := info_parts Try.infoKe
  have hB := below_new w (.cells #[.string (X i).m, .slice a0 (X i).tn c0, .int .i64 (X i).st] 49)
  obtain ⟨v', w', hr, ho, hg, _, hb⟩ := run_append_own_at (P := Try.prog) (w.alloc (.cells #[.string (X i).m, .slice a0 (X i).tn c0, .int .i64 (X i).st] 49)) base 38 ty 49 i0 _ 3 48 Try.underlying38 hi hz0 hz1 hz2 rfl (by decide) v L.length _ (ownsRow_keep h hB) ⟨w.heap.size, 0, none⟩ 1 1 (kcells (X i) (.slice a0 (X i).tn c0)) rfl (three_new' _ _ _ _) (fun u hu => by
    simp only [kcells, List.mem_cons, List.not_mem_nil, or_false] at hu
    rcases hu with rfl | rfl | rfl <;> rfl) (by unfold maxLen; omega) (by omega) (by simp; omega)
  have ho' : RK w' base v' X V (L ++ [i]) := by
    unfold RK
    rw [List.flatMap_append, List.length_append]
    simp only [List.flatMap_cons, List.flatMap_nil, List.append_nil, e0]
    exact ho
  obtain ⟨vb, vd, rfl⟩ := ownsRow_form ho
  exact ⟨vb, vd, w', hr, ho', hg, hb.imp id (fun e => by rw [e]; simp)⟩

theorem flat_range {α : Type} (f : Nat → List α) : ∀ (L : List Nat), L.flatMap f = (List.range L.length).flatMap fun j => f (L.getD j 0)
  | [] => rfl
  | a :: L => by
    rw [List.length_cons, List.range_succ_eq_map, List.flatMap_cons, List.flatMap_cons, flat_range f L, List.flatMap_map]
    rfl
/-- What stays, as windows of the call's own. -/
theorem RW.sub {w : World} {base b2 n : Nat} {v v0 : Value} {X : Nat → Wn} {V : Nat → Value} {L : List Nat} (h : RW w b2 v X V L) (hO : OutW w base v0 n X V) (hL : ∀ i ∈ L, i < n) (hd : L.Nodup) (hb : base ≤ b2) (hl : ∀ p k, p < n * 2 → (V p).ownBlock = some k → k < b2) :
    OutW w base v L.length (fun j => X (L.getD j 0)) (fun p => V (L.getD (p / 2) 0 * 2 + p % 2)) := by
  have hi : ∀ j, j < L.length → L.getD j 0 < n := fun j hj => hL _ (by
    rw [List.getD_eq_getElem?_getD, List.getElem?_eq_getElem hj]
    exact List.getElem_mem hj)
  have hinj : ∀ j j', j < L.length → j' < L.length → L.getD j 0 = L.getD j' 0 → j = j' := fun j j' hj hj' e => by
    rw [List.getD_eq_getElem?_getD, List.getD_eq_getElem?_getD, List.getElem?_eq_getElem hj, List.getElem?_eq_getElem hj'] at e
    exact nodup_inj hd hj hj' (by simpa using e)
  refine ⟨?_, fun i h1 => ?_, fun i h1 => ?_, fun p p' hp hp' hne k h1 h2 => ?_, fun p hp k h1 h2 => ?_⟩
  · have h' := ownsRow_mono (h : w.ownsRow b2 54 11 v L.length (L.flatMap fun i => wcells (X i) (V (i * 2 + 0)) (V (i * 2 + 1)))) hb
    rw [flat_range] at h'
    have e : (fun j => wcells (X (L.getD j 0)) (V (L.getD j 0 * 2 + 0)) (V (L.getD j 0 * 2 + 1))) = (fun i => wcells (X (L.getD i 0)) (V (L.getD ((i * 2 + 0) / 2) 0 * 2 + (i * 2 + 0) % 2)) (V (L.getD ((i * 2 + 1) / 2) 0 * 2 + (i * 2 + 1) % 2))) := by
      funext j
      rw [show (j * 2 + 0) / 2 = j by omega, show (j * 2 + 0) % 2 = 0 by omega, show (j * 2 + 1) / 2 = j by omega, show (j * 2 + 1) % 2 = 1 by omega]
    rw [e] at h'
    exact h'
  · show TV w base (V (L.getD ((i * 2 + 0) / 2) 0 * 2 + (i * 2 + 0) % 2)) _
    rw [show (i * 2 + 0) / 2 = i by omega, show (i * 2 + 0) % 2 = 0 by omega]
    exact hO.r0 _ (hi i h1)
  · show HV w base (V (L.getD ((i * 2 + 1) / 2) 0 * 2 + (i * 2 + 1) % 2)) _
    rw [show (i * 2 + 1) / 2 = i by omega, show (i * 2 + 1) % 2 = 1 by omega]
    exact hO.r1 _ (hi i h1)
  · have q1 := hi (p / 2) (by omega)
    have q2 := hi (p' / 2) (by omega)
    refine hO.dis _ _ (by omega) (by omega) (fun e => hne ?_) k h1 h2
    have e1 : L.getD (p / 2) 0 = L.getD (p' / 2) 0 := by omega
    have e2 := hinj _ _ (by omega) (by omega) e1
    omega
  · have q1 := hi (p / 2) (by omega)
    have h3 := hl _ _ (by omega) h1
    have h4 := (World.ownsRow.lt h k h2).1
    omega
end Go.Proofs.Ytflmbcgokiiedaa
namespace Go.Proofs.Ytflmbcgokiiedaa
open Go.RowKit
set_option linter.unusedSimpArgs false
set_option linter.unusedVariables false

/-- All blocks but those of P are as they were. -/
structure Frm (P : Nat → Prop) (w w' : World) : Prop where
  os : w'.os = w.os
  tape : w'.tape = w.tape
  output : w'.output = w.output
  size : w.heap.size ≤ w'.heap.size
  block : ∀ c, c < w.heap.size → ¬ P c → w'.heap[c]? = w.heap[c]?
section
variable {P : Nat → Prop} {u v w w' : World}
theorem Frm.refl (P : Nat → Prop) (w : World) : Frm P w w := ⟨rfl, rfl, rfl, Nat.le_refl _, fun _ _ _ => rfl⟩
theorem Frm.trans (h : Frm P u v) (k : Frm P v w) : Frm P u w :=
  ⟨k.os.trans h.os, k.tape.trans h.tape, k.output.trans h.output, Nat.le_trans h.size k.size, fun c hc hd => (k.block c (Nat.lt_of_lt_of_le hc h.size) hd).trans (h.block c hc hd)⟩
theorem Frm.of_below (h : Below w.heap.size w w') : Frm P w w' := ⟨h.os, h.tape, h.output, h.size, fun c hc _ => h.block c hc⟩
theorem Thru.frm {g : Nat} (h : Thru g w w') (hg : P g) : Frm P w w' := ⟨h.os, h.tape, h.output, h.size, fun c hc hd => h.block c hc (fun e => hd (e ▸ hg))⟩
theorem Frm.of_set {b : Nat} {w : World} (h : P b) (o : Nat) (x : Value) : Frm P w (w.setCell ⟨b, o, none⟩ x) := (Thru.of_others (Others.setCell w b o x)).frm h
theorem Frm.below {B : Nat} (h : Frm P w w') (hB : ∀ c, P c → B ≤ c) (hs : B ≤ w.heap.size) : Below B w w' :=
  ⟨h.os, h.tape, h.output, h.size, fun c hc => h.block c (by omega) (fun hp => by have := hB c hp; omega)⟩
end
end Go.Proofs.Ytflmbcgokiiedaa
