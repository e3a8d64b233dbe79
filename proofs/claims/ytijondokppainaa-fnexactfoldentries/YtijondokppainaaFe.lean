/- FoldEntries, in the program: wholly. -/
import Derived.Test.YtijondokppainaaFi
namespace Go.Proofs.Ytijondokppainaa
open Go.RowKit Go.Shelf
set_option linter.unusedSimpArgs false
set_option linter.unusedVariables false
attribute [local go_sem] Oper.semAt_some

theorem jf_congr {Y Z : Nat → Ent} : ∀ {k : Nat}, (∀ i, i < k → Y i = Z i) → jf Y k = jf Z k
  | 0, _ => rfl
  | k + 1, h => by
    unfold jf
    rw [jf_congr (k := k) (fun i hi => h i (by omega)), h k (by omega)]
theorem jf_nd (X : Nat → Ent) (m : Nat) : ∀ k, jf (fun i => X ((nd X (bL m k)).getD i 0)) (nd X (bL m k)).length = fdn X m k
  | 0 => rfl
  | k + 1 => by
    have ih := jf_nd X m k
    rw [bL]
    by_cases h : (X (m - 1 - k)).kind = 2
    · rw [nd_no h, ih, fdn, if_pos h]
    · rw [nd_yes h, List.length_append, List.length_singleton, fdn, if_neg h, ← ih]
      show jn (jf _ _) _ = _
      congr 1
      · exact jf_congr fun i hi => by
          rw [List.getD_eq_getElem?_getD, List.getD_eq_getElem?_getD, List.getElem?_append_left hi]
      · show X ((nd X (bL m k) ++ [m - 1 - k]).getD (nd X (bL m k)).length 0) = _
        rw [List.getD_eq_getElem?_getD, List.getElem?_append_right (Nat.le_refl _)]
        simp
/-- What FoldEntries leaves. -/
def FeO (X : Nat → Ent) (n : Nat) (w : World) (e : Ending) (w' : World) : Prop :=
  (¬ (GoodL X n ∧ OneK X n) → FeA dE false false w e w') ∧ (GoodL X n ∧ OneK X n → NoF X n → FeA dE false true w e w') ∧ (GoodL X n ∧ OneK X n → ¬ NoF X n → FeA (fdA X n) true true w e w')
theorem fea_no {h g : Bool} {w w' : World} (hb : Below w.heap.size w w') : FeA dE h g w (.returned (.tuple #[.agg #[.int .i64 0, .int .i64 0, .int .i64 0, .int .i64 0, .slice none 0 0, .bool false], .bool h, .bool g])) w' := ⟨none, 0, rfl, .inl rfl, hb⟩

set_option maxRecDepth 100000 in
set_option maxHeartbeats 4000000 in
theorem foldEntries_impl (b off n : Nat) (X : Nat → Ent) (w : World) (hr : ERow w (some ⟨b, off, none⟩) n X) (hn : n ≤ 1048576) (hz : ESize n X) :
    Calls Try.prog 23 #[.slice (some ⟨b, off, none⟩) n n] w fun e w' => FeO X n w e w' := by
  have hB := below_new w (.cells #[.int .i64 0, .int .i64 0, .int .i64 0, .int .i64 0, .slice none 0 0, .bool false] 37)
  have R0 := AAt.new w 0 0 0 0 (.slice none 0 0) false 37
  have F0 : ∀ j, (w.alloc (.cells #[.int .i64 0, .int .i64 0, .int .i64 0, .int .i64 0, .slice none 0 0, .bool false] 37)).frozen? ⟨w.heap.size, j, none⟩ = false := fun j => by simp [go_sem]
  by_cases hG : GoodL X n
  rotate_left
  · have H : Hid (∀ W, Below w.heap.size w W → FeO X n w (.returned (.tuple #[.agg #[.int .i64 0, .int .i64 0, .int .i64 0, .int .i64 0, .slice none 0 0, .bool false], .bool false, .bool false])) W) := fun W hb => ⟨fun _ => fea_no hb, fun h => absurd h.1 hG, fun h => absurd h.1 hG⟩
    refine (callsIn_wide (n := 4)).1 ?_
    refine callsIn_of_wp_marks Try.func23 rfl trivial ?_ rfl
    simp only [Try.ntmps23, List.size_toArray, List.length_cons, List.length_nil, Nat.reduceAdd, Nat.reduceSub, Array.replicate_succ, Array.replicate_zero, List.push_toArray, List.append_toArray, List.nil_append, List.cons_append]
    gi_wp2_with (refine ⟨trivial, ?_⟩; gi_at_call 10; refine (callsIn_wide.2 (goodEntries_impl (some ⟨b, off, none⟩) n n X _ (hr.keep hB) hn hz)).mono ?_; rintro e w1 ⟨b1, rfl, h1, q1⟩; obtain rfl : b1 = false := (by cases b1; rfl; exact absurd (h1.1 rfl) hG); have bw1 := hB.trans (q1.mono hB.size); have R1 := R0.keep q1; have Z1 : ∀ j, w1.frozen? ⟨w.heap.size, j, none⟩ = false := (fun j => (q1.frozen (p := ⟨w.heap.size, j, none⟩) R0.lt).trans (F0 j)); obtain ⟨_, r0, r1, r2, r3, r4, r5⟩ := (id R1); clear h1)
    refine ⟨trivial, ?_⟩
    gi_wp2
    refine ⟨.tuple #[.agg #[.int .i64 0, .int .i64 0, .int .i64 0, .int .i64 0, .slice none 0 0, .bool false], .bool false, .bool false], ?_, H.out _ ?_⟩
    · simp [results, Try.results23, go_sem, r0, r1, r2, r3, r4, r5]
    · repeat' refine Below.setCell ?_ (by first | (simp; done) | (simp; omega)) _
      exact bw1
  by_cases hO : OneK X n
  rotate_left
  · have H : Hid (∀ W, Below w.heap.size w W → FeO X n w (.returned (.tuple #[.agg #[.int .i64 0, .int .i64 0, .int .i64 0, .int .i64 0, .slice none 0 0, .bool false], .bool false, .bool false])) W) := fun W hb => ⟨fun _ => fea_no hb, fun h => absurd h.2 hO, fun h => absurd h.2 hO⟩
    refine (callsIn_wide (n := 4)).1 ?_
    refine callsIn_of_wp_marks Try.func23 rfl trivial ?_ rfl
    simp only [Try.ntmps23, List.size_toArray, List.length_cons, List.length_nil, Nat.reduceAdd, Nat.reduceSub, Array.replicate_succ, Array.replicate_zero, List.push_toArray, List.append_toArray, List.nil_append, List.cons_append]
    gi_wp2_with (first | (refine ⟨trivial, ?_⟩; gi_at_call 10; refine (callsIn_wide.2 (goodEntries_impl (some ⟨b, off, none⟩) n n X _ (hr.keep hB) hn hz)).mono ?_; rintro e w1 ⟨b1, rfl, h1, q1⟩; obtain rfl : b1 = true := (h1.2 hG); have bw1 := hB.trans (q1.mono hB.size); have R1 := R0.keep q1; have Z1 : ∀ j, w1.frozen? ⟨w.heap.size, j, none⟩ = false := (fun j => (q1.frozen (p := ⟨w.heap.size, j, none⟩) R0.lt).trans (F0 j)); obtain ⟨_, r0, r1, r2, r3, r4, r5⟩ := (id R1); clear h1) | (refine ⟨trivial, ?_⟩; gi_at_call 45; refine (callsIn_wide.2 (haveOneKey_any (some ⟨b, off, none⟩) n X _ (hr.keep bw1) hn)).mono ?_; rintro e w2 ⟨b2, rfl, h2, q2⟩; obtain rfl : b2 = false := (by cases b2; rfl; exact absurd (h2.1 rfl) hO); have bw2 := bw1.trans (q2.mono bw1.size); have R2 := R1.keep q2; have Z2 : ∀ j, w2.frozen? ⟨w.heap.size, j, none⟩ = false := (fun j => (q2.frozen (p := ⟨w.heap.size, j, none⟩) R1.lt).trans (Z1 j)); clear r0 r1 r2 r3 r4 r5; obtain ⟨_, r0, r1, r2, r3, r4, r5⟩ := (id R2); clear h2))
    refine ⟨.tuple #[.agg #[.int .i64 0, .int .i64 0, .int .i64 0, .int .i64 0, .slice none 0 0, .bool false], .bool false, .bool false], ?_, H.out _ ?_⟩
    · simp [results, Try.results23, go_sem, r0, r1, r2, r3, r4, r5]
    · repeat' refine Below.setCell ?_ (by first | (simp; done) | (simp; omega)) _
      exact bw2
  by_cases hN : NoF X n
  · have H : Hid (∀ W, Below w.heap.size w W → FeO X n w (.returned (.tuple #[.agg #[.int .i64 0, .int .i64 0, .int .i64 0, .int .i64 0, .slice none 0 0, .bool false], .bool false, .bool true])) W) := fun W hb => ⟨fun h => absurd ⟨hG, hO⟩ h, fun _ _ => fea_no hb, fun _ h => absurd hN h⟩
    by_cases h0 : n = 0
    · subst h0
      refine (callsIn_wide (n := 4)).1 ?_
      refine callsIn_of_wp_marks Try.func23 rfl trivial ?_ rfl
      simp only [Try.ntmps23, List.size_toArray, List.length_cons, List.length_nil, Nat.reduceAdd, Nat.reduceSub, Array.replicate_succ, Array.replicate_zero, List.push_toArray, List.append_toArray, List.nil_append, List.cons_append]
      gi_wp2_with (first | (refine ⟨trivial, ?_⟩; gi_at_call 10; refine (callsIn_wide.2 (goodEntries_impl (some ⟨b, off, none⟩) 0 0 X _ (hr.keep hB) hn hz)).mono ?_; rintro e w1 ⟨b1, rfl, h1, q1⟩; obtain rfl : b1 = true := (h1.2 hG); have bw1 := hB.trans (q1.mono hB.size); have R1 := R0.keep q1; have Z1 : ∀ j, w1.frozen? ⟨w.heap.size, j, none⟩ = false := (fun j => (q1.frozen (p := ⟨w.heap.size, j, none⟩) R0.lt).trans (F0 j)); obtain ⟨_, r0, r1, r2, r3, r4, r5⟩ := (id R1); clear h1) | (refine ⟨trivial, ?_⟩; gi_at_call 45; refine (callsIn_wide.2 (haveOneKey_any (some ⟨b, off, none⟩) 0 X _ (hr.keep bw1) hn)).mono ?_; rintro e w2 ⟨b2, rfl, h2, q2⟩; obtain rfl : b2 = true := (h2.2 hO); have bw2 := bw1.trans (q2.mono bw1.size); have R2 := R1.keep q2; have Z2 : ∀ j, w2.frozen? ⟨w.heap.size, j, none⟩ = false := (fun j => (q2.frozen (p := ⟨w.heap.size, j, none⟩) R1.lt).trans (Z1 j)); clear r0 r1 r2 r3 r4 r5; obtain ⟨_, r0, r1, r2, r3, r4, r5⟩ := (id R2); clear h2))
      refine ⟨.tuple #[.agg #[.int .i64 0, .int .i64 0, .int .i64 0, .int .i64 0, .slice none 0 0, .bool false], .bool false, .bool true], ?_, H.out _ ?_⟩
      · simp [results, Try.results23, go_sem, r0, r1, r2, r3, r4, r5]
      · repeat' refine Below.setCell ?_ (by first | (simp; done) | (simp; omega)) _
        exact bw2
    · have hk2 : (X 0).kind = 2 := hN.resolve_left h0
      have hnd : ((n : Int) == 0) = false := by simp; omega
      have hpi : (0 : Int) < (n : Int) := by omega
      have h0n : 0 < n := by omega
      have hkd : ((X 0).kind == 2) = true := by simp [hk2]
      obtain ⟨b', off', e, hblt, hc⟩ := hr.lies.resolve_left h0
      injection e with e
      injection e with e1 e2 _
      subst e1 e2
      obtain ⟨d0, e0, ea0, _⟩ := hc 0 h0n
      refine (callsIn_wide (n := 4)).1 ?_
      refine callsIn_of_wp_marks Try.func23 rfl trivial ?_ rfl
      simp only [Try.ntmps23, List.size_toArray, List.length_cons, List.length_nil, Nat.reduceAdd, Nat.reduceSub, Array.replicate_succ, Array.replicate_zero, List.push_toArray, List.append_toArray, List.nil_append, List.cons_append]
      gi_wp2_with (first | (refine ⟨trivial, ?_⟩; gi_at_call 10; refine (callsIn_wide.2 (goodEntries_impl (some ⟨b, off, none⟩) n n X _ (hr.keep hB) hn hz)).mono ?_; rintro e w1 ⟨b1, rfl, h1, q1⟩; obtain rfl : b1 = true := (h1.2 hG); have bw1 := hB.trans (q1.mono hB.size); have R1 := R0.keep q1; have Z1 : ∀ j, w1.frozen? ⟨w.heap.size, j, none⟩ = false := (fun j => (q1.frozen (p := ⟨w.heap.size, j, none⟩) R0.lt).trans (F0 j)); obtain ⟨_, r0, r1, r2, r3, r4, r5⟩ := (id R1); clear h1) | (refine ⟨trivial, ?_⟩; gi_at_call 45; refine (callsIn_wide.2 (haveOneKey_any (some ⟨b, off, none⟩) n X _ (hr.keep bw1) hn)).mono ?_; rintro e w2 ⟨b2, rfl, h2, q2⟩; obtain rfl : b2 = true := (h2.2 hO); have bw2 := bw1.trans (q2.mono bw1.size); have R2 := R1.keep q2; have Z2 : ∀ j, w2.frozen? ⟨w.heap.size, j, none⟩ = false := (fun j => (q2.frozen (p := ⟨w.heap.size, j, none⟩) R1.lt).trans (Z1 j)); clear r0 r1 r2 r3 r4 r5; obtain ⟨_, r0, r1, r2, r3, r4, r5⟩ := (id R2); have q0 := (ea0.keep bw2).c2; rw [Nat.zero_mul, Nat.add_zero, hk2] at q0; clear h2))
      refine ⟨.tuple #[.agg #[.int .i64 0, .int .i64 0, .int .i64 0, .int .i64 0, .slice none 0 0, .bool false], .bool false, .bool true], ?_, H.out _ ?_⟩
      · simp [results, Try.results23, go_sem, r0, r1, r2, r3, r4, r5]
      · repeat' refine Below.setCell ?_ (by first | (simp; done) | (simp; omega)) _
        exact bw2
  · refine (fold_some b off n X w hr hn hz hG hO hN (fdA X n) (fun m hm => by subst hm; exact jf_nd X _ _)).mono ?_
    intro e w' h
    exact ⟨fun h' => absurd ⟨hG, hO⟩ h', fun _ h' => absurd h' hN, fun _ _ => h⟩
end Go.Proofs.Ytijondokppainaa
