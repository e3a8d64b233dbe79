/- FoldEntries, in the program: wholly. / FoldEntries, in the model. / The law of FoldEntries, walked. / The law of FoldEntries, walked. -/
import Derived.Test.YtijondokppainaaFi
import Derived.Test.YtijondokppainaaGoS
import Derived.Test.YtijondokppainaaEoLaw
namespace Go.Proofs.Ytijondokppainaa
open Go.RowKit Go.Shelf
set_option linter.unusedSimpArgs false
set_option linter.unusedVariables false
attribute [local go_sem] Oper.semAt_some

theorem jf_congr {Y Z : Nat → Ent} : ∀ {k : Nat}, (∀ i, i < k → Y i = Z i) → jf Y k = jf Z k
  | 0, _ => rfl
  | k + 1, h => by
    unfold jf
    rw [jf_congr (k := k) (fun i hi => h i (by omega)), h k (by omega)]
theorem jf_nd (X : Nat → Ent) (m : Nat) : ∀ k, jf (fun i => X ((nd X (bL m k)).getD i 0)) (nd X (bL m k)).length = fdn X m k
  | 0 => rfl
  | k + 1 => by
    have ih := jf_nd X m k
    rw [bL]
    by_cases h : (X (m - 1 - k)).kind = 2
    · rw [nd_no h, ih, fdn, if_pos h]
    · rw [nd_yes h, List.length_append, List.length_singleton, fdn, if_neg h, ← ih]
      show jn (jf _ _) _ = _
      congr 1
      · exact jf_congr fun i hi => by
          rw [List.getD_eq_getElem?_getD, List.getD_eq_getElem?_getD, List.getElem?_append_left hi]
      · show X ((nd X (bL m k) ++ [m - 1 - k]).getD (nd X (bL m k)).length 0) = _
        rw [List.getD_eq_getElem?_getD, List.getElem?_append_right (Nat.le_refl _)]
        simp
/-- What FoldEntries leaves. -/
def FeO (X : Nat → Ent) (n : Nat) (w : World) (e : Ending) (w' : World) : Prop :=
  (¬ (GoodL X n ∧ OneK X n) → FeA dE false false w e w') ∧ (GoodL X n ∧ OneK X n → NoF X n → FeA dE false true w e w') ∧ (GoodL X n ∧ OneK X n → ¬ NoF X n → FeA (fdA X n) true true w e w')
theorem fea_no {h g : Bool} {w w' : World} (hb : Below w.heap.size w w') : FeA dE h g w (.returned (.tuple #[.agg #[.int .i64 0, .int .i64 0, .int .i64 0, .int .i64 0, .slice none 0 0, .bool false], .bool h, .bool g])) w' := ⟨none, 0, rfl, .inl rfl, hb⟩

set_option maxRecDepth 100000 in
set_option maxHeartbeats 4000000 in
theorem foldEntries_impl (b off n : Nat) (X : Nat → Ent) (w : World) (hr : ERow w (some ⟨b, off, none⟩) n X) (hn : n ≤ 1048576) (hz : ESize n X) :
    Calls Try.prog 23 #[.slice (some ⟨b, off, none⟩) n n] w fun e w' => FeO X n w e w' := by
  have hB := below_new w (.cells #[.int .i64 0, .int .i64 0, .int .i64 0, .int .i64 0, .slice none 0 0, .bool false] 37)
  have R0 := AAt.new w 0 0 0 0 (.slice none 0 0) false 37
  have F0 : ∀ j, (w.alloc (.cells #[.int .i64 0, .int .i64 0, .int .i64 0, .int .i64 0, .slice none 0 0, .bool false] 37)).frozen? ⟨w.heap.size, j, none⟩ = false := fun j => by simp [go_sem]
  by_cases hG : GoodL X n
  rotate_left
  · have H : Hid (∀ W, Below w.heap.size w W → FeO X n w (.returned (.tuple #[.agg #[.int .i64 0, .int .i64 0, .int .i64 0, .int .i64 0, .slice none 0 0, .bool false], .bool false, .bool false])) W) := fun W hb => ⟨fun _ => fea_no hb, fun h => absurd h.1 hG, fun h => absurd h.1 hG⟩
    refine (callsIn_wide (n := 4)).1 ?_
    refine callsIn_of_wp_marks Try.func23 rfl trivial ?_ rfl
    simp only [Try.ntmps23, List.size_toArray, List.length_cons, List.length_nil, Nat.reduceAdd, Nat.reduceSub, Array.replicate_succ, Array.replicate_zero, List.push_toArray, List.append_toArray, List.nil_append, List.cons_append]
    gi_wp2_with (refine ⟨trivial, ?_⟩; gi_at_call 10; refine (callsIn_wide.2 (goodEntries_impl (some ⟨b, off, none⟩) n n X _ (hr.keep hB) hn hz)).mono ?_; rintro e w1 ⟨b1, rfl, h1, q1⟩; obtain rfl : b1 = false := (by cases b1; rfl; exact absurd (h1.1 rfl) hG); have bw1 := hB.trans (q1.mono hB.size); have R1 := R0.keep q1; have Z1 : ∀ j, w1.frozen? ⟨w.heap.size, j, none⟩ = false := (fun j => (q1.frozen (p := ⟨w.heap.size, j, none⟩) R0.lt).trans (F0 j)); obtain ⟨_, r0, r1, r2, r3, r4, r5⟩ := (id R1); clear h1)
    refine ⟨trivial, ?_⟩
    gi_wp2
    refine ⟨.tuple #[.agg #[.int .i64 0, .int .i64 0, .int .i64 0, .int .i64 0, .slice none 0 0, .bool false], .bool false, .bool false], ?_, H.out _ ?_⟩
    · simp [results, Try.results23, go_sem, r0, r1, r2, r3, r4, r5]
    · repeat' refine Below.setCell ?_ (by first | (simp; done) | (simp; omega)) _
      exact bw1
  by_cases hO : OneK X n
  rotate_left
  · have H : Hid (∀ W, Below w.heap.size w W → FeO X n w (.returned (.tuple #[.agg #[.int .i64 0, .int .i64 0, .int .i64 0, .int .i64 0, .slice none 0 0, .bool false], .bool false, .bool false])) W) := fun W hb => ⟨fun _ => fea_no hb, fun h => absurd h.2 hO, fun h => absurd h.2 hO⟩
    refine (callsIn_wide (n := 4)).1 ?_
    refine callsIn_of_wp_marks Try.func23 rfl trivial ?_ rfl
    simp only [Try.ntmps23, List.size_toArray, List.length_cons, List.length_nil, Nat.reduceAdd, Nat.reduceSub, Array.replicate_succ, Array.replicate_zero, List.push_toArray, List.append_toArray, List.nil_append, List.cons_append]
    gi_wp2_with (first | (refine ⟨trivial, ?_⟩; gi_at_call 10; refine (callsIn_wide.2 (goodEntries_impl (some ⟨b, off, none⟩) n n X _ (hr.keep hB) hn hz)).mono ?_; rintro e w1 ⟨b1, rfl, h1, q1⟩; obtain rfl : b1 = true := (h1.2 hG); have bw1 := hB.trans (q1.mono hB.size); have R1 := R0.keep q1; have Z1 : ∀ j, w1.frozen? ⟨w.heap.size, j, none⟩ = false := (fun j => (q1.frozen (p := ⟨w.heap.size, j, none⟩) R0.lt).trans (F0 j)); obtain ⟨_, r0, r1, r2, r3, r4, r5⟩ := (id R1); clear h1) | (refine ⟨trivial, ?_⟩; gi_at_call 45; refine (callsIn_wide.2 (haveOneKey_any (some ⟨b, off, none⟩) n X _ (hr.keep bw1) hn)).mono ?_; rintro e w2 ⟨b2, rfl, h2, q2⟩; obtain rfl : b2 = false := (by cases b2; rfl; exact absurd (h2.1 rfl) hO); have bw2 := bw1.trans (q2.mono bw1.size); have R2 := R1.keep q2; have Z2 : ∀ j, w2.frozen? ⟨w.heap.size, j, none⟩ = false := (fun j => (q2.frozen (p := ⟨w.heap.size, j, none⟩) R1.lt).trans (Z1 j)); clear r0 r1 r2 r3 r4 r5; obtain ⟨_, r0, r1, r2, r3, r4, r5⟩ := (id R2); clear h2))
    refine ⟨.tuple #[.agg #[.int .i64 0, .int .i64 0, .int .i64 0, .int .i64 0, .slice none 0 0, .bool false], .bool false, .bool false], ?_, H.out _ ?_⟩
    · simp [results, Try.results23, go_sem, r0, r1, r2, r3, r4, r5]
    · repeat' refine Below.setCell ?_ (by first | (simp; done) | (simp; omega)) _
      exact bw2
  by_cases hN : NoF X n
  · have H : Hid (∀ W, Below w.heap.size w W → FeO X n w (.returned (.tuple #[.agg #[.int .i64 0, .int .i64 0, .int .i64 0, .int .i64 0, .slice none 0 0, .bool false], .bool false, .bool true])) W) := fun W hb => ⟨fun h => absurd ⟨hG, hO⟩ h, fun _ _ => fea_no hb, fun _ h => absurd hN h⟩
    by_cases h0 : n = 0
    · subst h0
      refine (callsIn_wide (n := 4)).1 ?_
      refine callsIn_of_wp_marks Try.func23 rfl trivial ?_ rfl
      simp only [Try.ntmps23, List.size_toArray, List.length_cons, List.length_nil, Nat.reduceAdd, Nat.reduceSub, Array.replicate_succ, Array.replicate_zero, List.push_toArray, List.append_toArray, List.nil_append, List.cons_append]
      gi_wp2_with (first | (refine ⟨trivial, ?_⟩; gi_at_call 10; refine (callsIn_wide.2 (goodEntries_impl (some ⟨b, off, none⟩) 0 0 X _ (hr.keep hB) hn hz)).mono ?_; rintro e w1 ⟨b1, rfl, h1, q1⟩; obtain rfl : b1 = true := (h1.2 hG); have bw1 := hB.trans (q1.mono hB.size); have R1 := R0.keep q1; have Z1 : ∀ j, w1.frozen? ⟨w.heap.size, j, none⟩ = false := (fun j => (q1.frozen (p := ⟨w.heap.size, j, none⟩) R0.lt).trans (F0 j)); obtain ⟨_, r0, r1, r2, r3, r4, r5⟩ := (id R1); clear h1) | (refine ⟨trivial, ?_⟩; gi_at_call 45; refine (callsIn_wide.2 (haveOneKey_any (some ⟨b, off, none⟩) 0 X _ (hr.keep bw1) hn)).mono ?_; rintro e w2 ⟨b2, rfl, h2, q2⟩; obtain rfl : b2 = true := (h2.2 hO); have bw2 := bw1.trans (q2.mono bw1.size); have R2 := R1.keep q2; have Z2 : ∀ j, w2.frozen? ⟨w.heap.size, j, none⟩ = false := (fun j => (q2.frozen (p := ⟨w.heap.size, j, none⟩) R1.lt).trans (Z1 j)); clear r0 r1 r2 r3 r4 r5; obtain ⟨_, r0, r1, r2, r3, r4, r5⟩ := (id R2); clear h2))
      refine ⟨.tuple #[.agg #[.int .i64 0, .int .i64 0, .int .i64 0, .int .i64 0, .slice none 0 0, .bool false], .bool false, .bool true], ?_, H.out _ ?_⟩
      · simp [results, Try.results23, go_sem, r0, r1, r2, r3, r4, r5]
      · repeat' refine Below.setCell ?_ (by first | (simp; done) | (simp; omega)) _
        exact bw2
    · have hk2 : (X 0).kind = 2 := hN.resolve_left h0
      have hnd : ((n : Int) == 0) = false := by simp; omega
      have hpi : (0 : Int) < (n : Int) := by omega
      have h0n : 0 < n := by omega
      have hkd : ((X 0).kind == 2) = true := by simp [hk2]
      obtain ⟨b', off', e, hblt, hc⟩ := hr.lies.resolve_left h0
      injection e with e
      injection e with e1 e2 _
      subst e1 e2
      obtain ⟨d0, e0, ea0, _⟩ := hc 0 h0n
      refine (callsIn_wide (n := 4)).1 ?_
      refine callsIn_of_wp_marks Try.func23 rfl trivial ?_ rfl
      simp only [Try.ntmps23, List.size_toArray, List.length_cons, List.length_nil, Nat.reduceAdd, Nat.reduceSub, Array.replicate_succ, Array.replicate_zero, List.push_toArray, List.append_toArray, List.nil_append, List.cons_append]
      gi_wp2_with (first | (refine ⟨trivial, ?_⟩; gi_at_call 10; refine (callsIn_wide.2 (goodEntries_impl (some ⟨b, off, none⟩) n n X _ (hr.keep hB) hn hz)).mono ?_; rintro e w1 ⟨b1, rfl, h1, q1⟩; obtain rfl : b1 = true := (h1.2 hG); have bw1 := hB.trans (q1.mono hB.size); have R1 := R0.keep q1; have Z1 : ∀ j, w1.frozen? ⟨w.heap.size, j, none⟩ = false := (fun j => (q1.frozen (p := ⟨w.heap.size, j, none⟩) R0.lt).trans (F0 j)); obtain ⟨_, r0, r1, r2, r3, r4, r5⟩ := (id R1); clear h1) | (refine ⟨trivial, ?_⟩; gi_at_call 45; refine (callsIn_wide.2 (haveOneKey_any (some ⟨b, off, none⟩) n X _ (hr.keep bw1) hn)).mono ?_; rintro e w2 ⟨b2, rfl, h2, q2⟩; obtain rfl : b2 = true := (h2.2 hO); have bw2 := bw1.trans (q2.mono bw1.size); have R2 := R1.keep q2; have Z2 : ∀ j, w2.frozen? ⟨w.heap.size, j, none⟩ = false := (fun j => (q2.frozen (p := ⟨w.heap.size, j, none⟩) R1.lt).trans (Z1 j)); clear r0 r1 r2 r3 r4 r5; obtain ⟨_, r0, r1, r2, r3, r4, r5⟩ := (id R2); have q0 := (ea0.keep bw2).c2; rw [Nat.zero_mul, Nat.add_zero, hk2] at q0; clear h2))
      refine ⟨.tuple #[.agg #[.int .i64 0, .int .i64 0, .int .i64 0, .int .i64 0, .slice none 0 0, .bool false], .bool false, .bool true], ?_, H.out _ ?_⟩
      · simp [results, Try.results23, go_sem, r0, r1, r2, r3, r4, r5]
      · repeat' refine Below.setCell ?_ (by first | (simp; done) | (simp; omega)) _
        exact bw2
  · refine (fold_some b off n X w hr hn hz hG hO hN (fdA X n) (fun m hm => by subst hm; exact jf_nd X _ _)).mono ?_
    intro e w' h
    exact ⟨fun h' => absurd ⟨hG, hO⟩ h', fun _ h' => absurd h' hN, fun _ _ => h⟩
end Go.Proofs.Ytijondokppainaa

namespace Go.Proofs.Ytijondokppainaa
open Go.RowKit
set_option linter.unusedSimpArgs false
set_option linter.unusedVariables false

theorem bl_trans : ∀ a b c : List UInt8, Op.bytesLess a b = true → Op.bytesLess b c = true → Op.bytesLess a c = true
  | _, [], _, h, _ => by simp [Op.bytesLess] at h
  | _, _ :: _, [], _, h => by simp [Op.bytesLess] at h
  | [], _ :: _, _ :: _, _, _ => by simp [Op.bytesLess]
  | x :: a, y :: b, z :: c, h, g => by
    have ih := bl_trans a b c
    simp only [Op.bytesLess, Bool.or_eq_true, Bool.and_eq_true, decide_eq_true_eq, beq_iff_eq] at h g ⊢
    rcases h with h | ⟨rfl, h⟩ <;> rcases g with g | ⟨rfl, g⟩
    · exact .inl (UInt8.lt_trans h g)
    · exact .inl h
    · exact .inl g
    · exact .inr ⟨rfl, ih h g⟩
/-- All have the first one's key. -/
def AllK (X : Nat → Ent) (n : Nat) : Prop := ∀ i, i < n → (X i).key.toList = (X 0).key.toList
theorem rise_key {X : Nat → Ent} {n : Nat} (h : RiseE X n) (i : Nat) : ∀ d, i + d < n → Op.bytesLess (X i).key.toList (X (i + d)).key.toList = true ∨ (X i).key.toList = (X (i + d)).key.toList
  | 0, _ => .inr rfl
  | d + 1, hd => by
    have h1 := rise_key h i d (by omega)
    have h2 := h (i + d) (by omega)
    rcases h1 with h1 | h1
    · rcases h2 with h2 | ⟨h2, _⟩
      · exact .inl (bl_trans _ _ _ h1 h2)
      · exact .inl (by rw [show i + (d + 1) = i + d + 1 by omega, ← h2]; exact h1)
    · rcases h2 with h2 | ⟨h2, _⟩
      · exact .inl (by rw [h1]; exact h2)
      · exact .inr (h1.trans h2)
theorem allK_iff {X : Nat → Ent} {n : Nat} (h : GoodL X n) : OneK X n ↔ AllK X n := by
  constructor
  · rintro (rfl | h1) i hi
    · omega
    · have a := rise_key h.2.1 0 i (by omega)
      have b := rise_key h.2.1 i (n - 1 - i) (by omega)
      rw [Nat.zero_add] at a
      rw [show i + (n - 1 - i) = n - 1 by omega] at b
      rcases a with a | a
      · rw [← h1] at b
        rcases b with b | b
        · have := bl_trans _ _ _ a b
          rw [bl_self] at this; cases this
        · exact b
      · exact a.symm
  · intro h1
    by_cases h0 : n = 0
    · exact .inl h0
    · exact .inr (h1 (n - 1) (by omega)).symm

set_option maxRecDepth 100000 in
set_option maxHeartbeats 4000000 in
theorem foldEntries_spec (b off n : Nat) (X : Nat → Ent) (w : World) (hr : ERow w (some ⟨b, off, none⟩) n X) (hn : n ≤ 1048576) (hz : ESize n X) :
    Calls Try.prog 22 #[.slice (some ⟨b, off, none⟩) n n] w fun e w' => FeO X n w e w' := by
  have hB := below_new w (.cells #[.int .i64 0, .int .i64 0, .int .i64 0, .int .i64 0, .slice none 0 0, .bool false] 37)
  have R0 := AAt.new w 0 0 0 0 (.slice none 0 0) false 37
  have F0 : ∀ j, (w.alloc (.cells #[.int .i64 0, .int .i64 0, .int .i64 0, .int .i64 0, .slice none 0 0, .bool false] 37)).frozen? ⟨w.heap.size, j, none⟩ = false := fun j => by simp [go_sem]
  have hs0 : w.heap.size < (w.alloc (.cells #[.int .i64 0, .int .i64 0, .int .i64 0, .int .i64 0, .slice none 0 0, .bool false] 37)).heap.size := by simp
  go_enter Try.func22, Try.ntmps22
  go_wp2_with fail
  generalize w.alloc (.cells #[.int .i64 0, .int .i64 0, .int .i64 0, .int .i64 0, .slice none 0 0, .bool false] 37) = w0 at hB R0 F0 hs0 ⊢
  refine (goodEntries_spec _ n n X _ (hr.keep hB) hn hz).mono ?_
  rintro e w1 ⟨b1, rfl, h1, q1⟩
  have bw1 := hB.trans (q1.mono hB.size)
  cases b1
  · have hG : ¬ GoodL X n := fun h => by
      have := h1.2 h
      cases this
    have H : Hid (∀ W, Below w.heap.size w W → FeO X n w (.returned (.tuple #[.agg #[.int .i64 0, .int .i64 0, .int .i64 0, .int .i64 0, .slice none 0 0, .bool false], .bool false, .bool false])) W) := fun W hb => ⟨fun _ => fea_no hb, fun h => absurd h.1 hG, fun h => absurd h.1 hG⟩
    have R1 := R0.keep q1
    have Z1 : ∀ j, w1.frozen? ⟨w.heap.size, j, none⟩ = false := fun j => (q1.frozen (p := ⟨w.heap.size, j, none⟩) R0.lt).trans (F0 j)
    obtain ⟨_, r0, r1, r2, r3, r4, r5⟩ := R1
    clear h1
    go_wp2
    refine bodyPost_ret (v := .tuple #[.agg #[.int .i64 0, .int .i64 0, .int .i64 0, .int .i64 0, .slice none 0 0, .bool false], .bool false, .bool false]) (by simp [results, Try.results22, go_sem, r0, r1, r2, r3, r4, r5]) rfl (H.out _ ?_)
    repeat' refine Below.setCell ?_ (by first | (simp; done) | (simp; omega)) _
    exact bw1
  have hG : GoodL X n := h1.1 rfl
  clear h1
  have hlies := hr.lies
  go_wp2
  go_loopw [15] (fun i wr => ∃ k : Nat, k ≤ n ∧ i = .int .i64 k ∧ Hid (∀ i, i < k → (X i).key.toList = (X 0).key.toList) ∧ Below w0.heap.size w0 wr) (fun i _ => n - (intOf i).toNat)
  case atStart => exact ⟨0, Nat.zero_le _, rfl, fun i h => by omega, q1⟩
  case round =>
    obtain ⟨k, hk, rfl, HA, hbk⟩ := hrel
    have bwk := hB.trans (hbk.mono hB.size)
    have Rk := R0.keep hbk
    have Zk : ∀ j, wr.frozen? ⟨w.heap.size, j, none⟩ = false := fun j => (hbk.frozen (p := ⟨w.heap.size, j, none⟩) hs0).trans (F0 j)
    by_cases hlt : k < n
    · obtain ⟨b', off', e, hblt, hc⟩ := hlies.resolve_left (by omega)
      injection e with e
      injection e with e1 e2 _
      subst e1 e2
      obtain ⟨da, dc, ea, _⟩ := hc k hlt
      obtain ⟨db, dd, eb, _⟩ := hc 0 (by omega)
      obtain ⟨_, a0, a1, a2, a3, a4, a5, a6, a7, a8⟩ := ea.keep bwk
      have hbn := below_new wr (.cells #[.string (X k).key, .int .i64 (X k).seq, .int .i64 (X k).kind, .int .i64 (X k).c, .int .i64 (X k).s, .int .i64 (X k).lo, .int .i64 (X k).hi, .slice da (X k).n dc, .bool (X k).fu] 39)
      have bkn := hbk.trans (hbn.mono hbk.size)
      have bwn := bwk.trans (hbn.mono bwk.size)
      have c0 := (eb.keep bwn).c0
      rw [Nat.zero_mul, Nat.add_zero] at c0
      have nk := (EAt.new wr (X k) da dc 39).c0
      have hpi : (0 : Int) < (n : Int) := by omega
      have h0n : 0 < n := by omega
      have Rn := Rk.keep hbn
      have Zn : ∀ j, (wr.alloc (.cells #[.string (X k).key, .int .i64 (X k).seq, .int .i64 (X k).kind, .int .i64 (X k).c, .int .i64 (X k).s, .int .i64 (X k).lo, .int .i64 (X k).hi, .slice da (X k).n dc, .bool (X k).fu] 39)).frozen? ⟨w.heap.size, j, none⟩ = false := fun j => (hbn.frozen (p := ⟨w.heap.size, j, none⟩) Rk.lt).trans (Zk j)
      clear hc hlies ea eb
      by_cases he : (X k).key.toList = (X 0).key.toList
      · have HH : Hid (∀ i, i < k + 1 → (X i).key.toList = (X 0).key.toList) := fun i hi => by
          rcases Nat.lt_succ_iff_lt_or_eq.1 hi with h | rfl
          · exact HA.out i h
          · exact he
        have hne : ((X k).key.toList == (X 0).key.toList) = true := by simp [he]
        have hneb : ((X k).key.toList != (X 0).key.toList) = false := by simp [he]
        clear he
        go_wp2
        go_quiet (fail)
        go_wp2
        go_roundw
        case rel => exact ⟨k + 1, by omega, by go_num, HH, below_drewN bkn _⟩
        case measure => simp [intOf]; omega
      · have hO : ¬ OneK X n := fun h => he ((allK_iff hG).1 h k hlt)
        have H : Hid (∀ W, Below w.heap.size w W → FeO X n w (.returned (.tuple #[.agg #[.int .i64 0, .int .i64 0, .int .i64 0, .int .i64 0, .slice none 0 0, .bool false], .bool false, .bool false])) W) := fun W hb => ⟨fun _ => fea_no hb, fun h => absurd h.2 hO, fun h => absurd h.2 hO⟩
        have hne : ((X k).key.toList == (X 0).key.toList) = false := by simp [he]
        have hneb : ((X k).key.toList != (X 0).key.toList) = true := by simp [he]
        clear he
        go_wp2
        go_quiet (fail)
        have hdq := below_drewN (Below.refl (wr.alloc (.cells #[.string (X k).key, .int .i64 (X k).seq, .int .i64 (X k).kind, .int .i64 (X k).c, .int .i64 (X k).s, .int .i64 (X k).lo, .int .i64 (X k).hi, .slice da (X k).n dc, .bool (X k).fu] 39)).heap.size (wr.alloc (.cells #[.string (X k).key, .int .i64 (X k).seq, .int .i64 (X k).kind, .int .i64 (X k).c, .int .i64 (X k).s, .int .i64 (X k).lo, .int .i64 (X k).hi, .slice da (X k).n dc, .bool (X k).fu] 39))) nq
        have Rq := Rn.keep hdq
        have Zq : ∀ j, ((wr.alloc (.cells #[.string (X k).key, .int .i64 (X k).seq, .int .i64 (X k).kind, .int .i64 (X k).c, .int .i64 (X k).s, .int .i64 (X k).lo, .int .i64 (X k).hi, .slice da (X k).n dc, .bool (X k).fu] 39)).drewN nq).frozen? ⟨w.heap.size, j, none⟩ = false := fun j => (hdq.frozen (p := ⟨w.heap.size, j, none⟩) Rn.lt).trans (Zn j)
        have bwq := bwn.trans (hdq.mono bwn.size)
        obtain ⟨_, r0, r1, r2, r3, r4, r5⟩ := Rq
        clear Rn Zn hdq a0 a1 a2 a3 a4 a5 a6 a7 a8 nk c0 hbn
        generalize (wr.alloc (.cells #[.string (X k).key, .int .i64 (X k).seq, .int .i64 (X k).kind, .int .i64 (X k).c, .int .i64 (X k).s, .int .i64 (X k).lo, .int .i64 (X k).hi, .slice da (X k).n dc, .bool (X k).fu] 39)).drewN nq = wq at *
        go_wp2
        refine bodyPost_ret (v := .tuple #[.agg #[.int .i64 0, .int .i64 0, .int .i64 0, .int .i64 0, .slice none 0 0, .bool false], .bool false, .bool false]) (by simp [results, Try.results22, go_sem, r0, r1, r2, r3, r4, r5]) rfl (H.out _ ?_)
        repeat' refine Below.setCell ?_ (by first | (simp; done) | (simp; omega)) _
        exact bwq
    · have hkn : k = n := by omega
      have hO : OneK X n := (allK_iff hG).2 (by rw [← hkn]; exact HA.out)
      have hdk : decide ((k : Int) < (n : Int)) = false := by simp; omega
      clear hkn HA hlies
      have hL := l5Fold_any b off n X wr (hr.keep bwk) hG.1 hn
      go_wp2_with fail
      refine hL.mono ?_
      rintro e w5 hL5
      obtain ⟨y, hh, lo, lc, rfl, ho, hb5, HF⟩ : ∃ (y : Ent) (hh : Bool) (lo : Option Addr) (lc : Nat), e = .returned (.tuple #[.agg #[.int .i64 y.c, .int .i64 y.s, .int .i64 y.lo, .int .i64 y.hi, .slice lo y.n lc, .bool y.fu], .bool hh]) ∧ (y.n = 0 ∨ ∃ q, lo = some ⟨q, 0, none⟩ ∧ wr.heap.size ≤ q ∧ IOwn w5 q 0 y.n y.f) ∧ Below wr.heap.size wr w5 ∧ Hid (∀ W, (y.n = 0 ∨ ∃ q, lo = some ⟨q, 0, none⟩ ∧ w.heap.size ≤ q ∧ IOwn W q 0 y.n y.f) → Below w.heap.size w W → FeO X n w (.returned (.tuple #[.agg #[.int .i64 y.c, .int .i64 y.s, .int .i64 y.lo, .int .i64 y.hi, .slice lo y.n lc, .bool y.fu], .bool hh, .bool true])) W) := by
        by_cases hN : NoF X n
        · obtain ⟨lo, lc, he, ho, hb5⟩ := hL5.1 hN
          exact ⟨dE, false, lo, lc, he, ho, hb5, fun W h1 h2 => ⟨fun h => absurd ⟨hG, hO⟩ h, fun _ _ => ⟨lo, lc, rfl, h1, h2⟩, fun _ h => absurd hN h⟩⟩
        · obtain ⟨lo, lc, he, ho, hb5⟩ := hL5.2 hN
          exact ⟨fdA X n, true, lo, lc, he, ho, hb5, fun W h1 h2 => ⟨fun h => absurd ⟨hG, hO⟩ h, fun _ h => absurd h hN, fun _ _ => ⟨lo, lc, rfl, h1, h2⟩⟩⟩
      have hb6 := below_new w5 (.cells #[.int .i64 y.c, .int .i64 y.s, .int .i64 y.lo, .int .i64 y.hi, .slice lo y.n lc, .bool y.fu] 37)
      have R5 := Rk.keep hb5
      have R6 := R5.keep hb6
      have Z5 : ∀ j, w5.frozen? ⟨w.heap.size, j, none⟩ = false := fun j => (hb5.frozen (p := ⟨w.heap.size, j, none⟩) Rk.lt).trans (Zk j)
      have Z6 : ∀ j, (w5.alloc (.cells #[.int .i64 y.c, .int .i64 y.s, .int .i64 y.lo, .int .i64 y.hi, .slice lo y.n lc, .bool y.fu] 37)).frozen? ⟨w.heap.size, j, none⟩ = false := fun j => (hb6.frozen (p := ⟨w.heap.size, j, none⟩) R5.lt).trans (Z5 j)
      have bw6 := (bwk.trans (hb5.mono bwk.size)).trans (hb6.mono (Nat.le_trans bwk.size hb5.size))
      have hRl := R5.lt
      have hRk := Rk.lt
      have hs5 := hb5.size
      obtain ⟨_, r0, r1, r2, r3, r4, r5⟩ := id R5
      obtain ⟨_, x0, x1, x2, x3, x4, x5⟩ := id R6
      have hne : w5.heap.size ≠ w.heap.size := by omega
      clear hL hL5
      have bw5 := bwk.trans (hb5.mono bwk.size)
      have ot : Others w.heap.size w5 ((((((w5.setCell ⟨w.heap.size, 0, none⟩ (.int .i64 y.c)).setCell ⟨w.heap.size, 1, none⟩ (.int .i64 y.s)).setCell ⟨w.heap.size, 2, none⟩ (.int .i64 y.lo)).setCell ⟨w.heap.size, 3, none⟩ (.int .i64 y.hi)).setCell ⟨w.heap.size, 4, none⟩ (.slice lo y.n lc)).setCell ⟨w.heap.size, 5, none⟩ (.bool y.fu)) := (((((Others.setCell _ _ _ _).trans (Others.setCell _ _ _ _)).trans (Others.setCell _ _ _ _)).trans (Others.setCell _ _ _ _)).trans (Others.setCell _ _ _ _)).trans (Others.setCell _ _ _ _)
      have hfinb := bw5.trans (ot.below (Nat.le_refl _))
      have OB5 : OB w5 w5 w.heap.size 0 0 0 0 (.slice none 0 0) false := ⟨R5, Z5, Below.refl _ _⟩
      have OB7 := (((((OB5.set0 y.c).set1 y.s).set2 y.lo).set3 y.hi).set4 (.slice lo y.n lc)).set5 y.fu
      go_wp2
      have A8 := OB7.A.keep (below_new ((((((w5.setCell ⟨w.heap.size, 0, none⟩ (.int .i64 y.c)).setCell ⟨w.heap.size, 1, none⟩ (.int .i64 y.s)).setCell ⟨w.heap.size, 2, none⟩ (.int .i64 y.lo)).setCell ⟨w.heap.size, 3, none⟩ (.int .i64 y.hi)).setCell ⟨w.heap.size, 4, none⟩ (.slice lo y.n lc)).setCell ⟨w.heap.size, 5, none⟩ (.bool y.fu)) (.cells #[.int .i64 y.c, .int .i64 y.s, .int .i64 y.lo, .int .i64 y.hi, .slice lo y.n lc, .bool y.fu] 37))
      have hfinb2 := hfinb.trans ((below_new ((((((w5.setCell ⟨w.heap.size, 0, none⟩ (.int .i64 y.c)).setCell ⟨w.heap.size, 1, none⟩ (.int .i64 y.s)).setCell ⟨w.heap.size, 2, none⟩ (.int .i64 y.lo)).setCell ⟨w.heap.size, 3, none⟩ (.int .i64 y.hi)).setCell ⟨w.heap.size, 4, none⟩ (.slice lo y.n lc)).setCell ⟨w.heap.size, 5, none⟩ (.bool y.fu)) (.cells #[.int .i64 y.c, .int .i64 y.s, .int .i64 y.lo, .int .i64 y.hi, .slice lo y.n lc, .bool y.fu] 37)).mono hfinb.size)
      have hfino : y.n = 0 ∨ ∃ q, lo = some ⟨q, 0, none⟩ ∧ w.heap.size ≤ q ∧ IOwn (World.alloc ((((((w5.setCell ⟨w.heap.size, 0, none⟩ (.int .i64 y.c)).setCell ⟨w.heap.size, 1, none⟩ (.int .i64 y.s)).setCell ⟨w.heap.size, 2, none⟩ (.int .i64 y.lo)).setCell ⟨w.heap.size, 3, none⟩ (.int .i64 y.hi)).setCell ⟨w.heap.size, 4, none⟩ (.slice lo y.n lc)).setCell ⟨w.heap.size, 5, none⟩ (.bool y.fu)) (.cells #[.int .i64 y.c, .int .i64 y.s, .int .i64 y.lo, .int .i64 y.hi, .slice lo y.n lc, .bool y.fu] 37)) q 0 y.n y.f := by
        rcases ho with h0 | ⟨q, e, hq, oq⟩
        · exact .inl h0
        · exact .inr ⟨q, e, by omega, (iown_others oq ot (by omega)).keep (below_new _ _)⟩
      generalize World.alloc ((((((w5.setCell ⟨w.heap.size, 0, none⟩ (.int .i64 y.c)).setCell ⟨w.heap.size, 1, none⟩ (.int .i64 y.s)).setCell ⟨w.heap.size, 2, none⟩ (.int .i64 y.lo)).setCell ⟨w.heap.size, 3, none⟩ (.int .i64 y.hi)).setCell ⟨w.heap.size, 4, none⟩ (.slice lo y.n lc)).setCell ⟨w.heap.size, 5, none⟩ (.bool y.fu)) (.cells #[.int .i64 y.c, .int .i64 y.s, .int .i64 y.lo, .int .i64 y.hi, .slice lo y.n lc, .bool y.fu] 37) = wF at A8 hfinb2 hfino ⊢
      obtain ⟨_, t0, t1, t2, t3, t4, t5⟩ := A8
      refine bodyPost_ret (v := .tuple #[.agg #[.int .i64 y.c, .int .i64 y.s, .int .i64 y.lo, .int .i64 y.hi, .slice lo y.n lc, .bool y.fu], .bool hh, .bool true]) (by simp [results, Try.results22, go_sem, t0, t1, t2, t3, t4, t5]) rfl (HF.out _ hfino hfinb2)
end Go.Proofs.Ytijondokppainaa

namespace Go.Proofs.Ytijondokppainaa
open Go.RowKit
set_option linter.unusedSimpArgs false
set_option linter.unusedVariables false

theorem fea_of {X : Nat → Ent} {n : Nat} : ∃ (y : Ent) (h g : Bool), y.n ≤ 8 ∧ (∀ i, -9223372036854775808 ≤ y.f i ∧ y.f i ≤ 9223372036854775807) ∧ ∀ w e w', FeO X n w e w' → FeA y h g w e w' := by
  by_cases h1 : GoodL X n ∧ OneK X n
  · by_cases h2 : NoF X n
    · exact ⟨dE, false, true, by simp [dE], fun i => by simp [dE], fun w e w' h => h.2.1 h1 h2⟩
    · have hm : mN X n ≤ n := by
        have := en_le (X := X) (n := n) (q := 0) (Nat.zero_le _)
        unfold mN
        split <;> omega
      have hAI : AI (fdA X n) := fdn_ai h1.1.1 hm _ (Nat.le_refl _)
      refine ⟨fdA X n, true, true, ?_, fun i => ?_, fun w e w' h => h.2.2 h1 h2⟩
      · have := congrArg Ent.n hAI.can
        rw [← this]
        exact Nat.le_refl 8
      · have := hAI.f i
        omega
  · exact ⟨dE, false, false, by simp [dE], fun i => by simp [dE], fun w e w' h => h.1 h1⟩
theorem irow_blocks {W W' : World} {ao : Option Addr} {n : Nat} {f : Nat → Int} (h : IRow W ao n f) (hs : W.heap.size ≤ W'.heap.size) (hb : ∀ g off p, ao = some ⟨g, off, p⟩ → n ≠ 0 → W'.heap[g]? = W.heap[g]?) : IRow W' ao n f := by
  obtain ⟨h1, h2⟩ := h
  by_cases h0 : n = 0
  · exact ⟨h1, .inl h0⟩
  · obtain ⟨g, off, rfl, hlt, hc⟩ := h2.resolve_left h0
    exact ⟨h1, .inr ⟨g, off, rfl, Nat.lt_of_lt_of_le hlt hs, fun i hi => (World.cell?_of_block (w := W) (a := ⟨g, off + i, none⟩) (hb _ _ _ rfl h0)).trans (hc i hi)⟩⟩
theorem AAt.same {W W' : World} {b : Nat} {c s lo hi : Int} {hv : Value} {fu : Bool} (h : AAt W b c s lo hi hv fu) (hs : W.heap.size ≤ W'.heap.size) (hb : W'.heap[b]? = W.heap[b]?) : AAt W' b c s lo hi hv fu :=
  have k : ∀ j, W'.cell? ⟨b, j, none⟩ = W.cell? ⟨b, j, none⟩ := fun j => World.cell?_of_block (w := W) (a := ⟨b, j, none⟩) hb
  ⟨Nat.lt_of_lt_of_le h.lt hs, (k _).trans h.c0, (k _).trans h.c1, (k _).trans h.c2, (k _).trans h.c3, (k _).trans h.c4, (k _).trans h.c5⟩

set_option maxHeartbeats 800000 in
theorem heldAggO (y : Ent) (go : Option Addr) (gc : Nat) (f : Nat → Int) (W : World) (hn : y.n ≤ 8) (hr : IRow W go y.n f) (hf : ∀ i, i < y.n → f i = ((1 + i : Nat) : Int)) :
    Calls Try.prog 26 #[.agg #[.int .i64 y.c, .int .i64 y.s, .int .i64 y.lo, .int .i64 y.hi, .slice go y.n gc, .bool y.fu], .int .i64 1] W fun e w' => e = .returned (.int .i64 ((1 + y.n : Nat) : Int)) ∧ Below W.heap.size W w' := by
  have hB := below_new W (.cells #[.int .i64 y.c, .int .i64 y.s, .int .i64 y.lo, .int .i64 y.hi, .slice go y.n gc, .bool y.fu] 37)
  have hH := heldI_yes go y.n gc f (W.alloc (.cells #[.int .i64 y.c, .int .i64 y.s, .int .i64 y.lo, .int .i64 y.hi, .slice go y.n gc, .bool y.fu] 37)) (hr.keep hB) hf (by omega)
  have hp : ¬ ((1 + y.n : Nat) : Int) < 0 := by omega
  have hpd : decide (((1 + y.n : Nat) : Int) < 0) = false := decide_eq_false hp
  generalize ((1 + y.n : Nat) : Int) = kk at hH hp hpd ⊢
  go_enter Try.func26, Try.ntmps26
  go_wp2_with fail
  refine hH.mono ?_
  rintro e w1 ⟨rfl, hb⟩
  have bw := hB.trans (hb.mono hB.size)
  clear hH hb
  go_wp2
  go_ret
  exact ⟨rfl, bw⟩
/-- What a mark leaves: the list's block alone is written. -/
def MkL (go : Option Addr) (n : Nat) (W w' : World) : Prop := w'.os = W.os ∧ w'.tape = W.tape ∧ w'.output = W.output ∧ W.heap.size ≤ w'.heap.size ∧ ∀ c, c < W.heap.size → (∀ q, go = some ⟨q, 0, none⟩ → n ≠ 0 → c ≠ q) → w'.heap[c]? = W.heap[c]?
set_option maxHeartbeats 800000 in
theorem markAggO (y : Ent) (go : Option Addr) (gc : Nat) (W : World) (hn : y.n ≤ 8) (h : y.n = 0 ∨ ∃ q, go = some ⟨q, 0, none⟩ ∧ IOwn W q 0 y.n y.f) :
    Calls Try.prog 25 #[.agg #[.int .i64 y.c, .int .i64 y.s, .int .i64 y.lo, .int .i64 y.hi, .slice go y.n gc, .bool y.fu], .int .i64 1] W fun e w' => e = .returned (.int .i64 ((1 + y.n : Nat) : Int)) ∧ (∃ f, IRow w' go y.n f ∧ ∀ i, i < y.n → f i = ((1 + i : Nat) : Int)) ∧ MkL go y.n W w' := by
  have hB := below_new W (.cells #[.int .i64 y.c, .int .i64 y.s, .int .i64 y.lo, .int .i64 y.hi, .slice go y.n gc, .bool y.fu] 37)
  have hM : Calls Try.prog 41 #[.slice go y.n gc, .int .i64 1] (W.alloc (.cells #[.int .i64 y.c, .int .i64 y.s, .int .i64 y.lo, .int .i64 y.hi, .slice go y.n gc, .bool y.fu] 37)) fun e w' => e = .returned (.int .i64 ((1 + y.n : Nat) : Int)) ∧ (∃ f, IRow w' go y.n f ∧ ∀ i, i < y.n → f i = ((1 + i : Nat) : Int)) ∧ MkL go y.n W w' := by
    by_cases h0 : y.n = 0
    · rw [h0] at hB ⊢
      refine (markI_zero go gc 1 _).mono ?_
      rintro e w' ⟨rfl, rfl⟩
      exact ⟨rfl, ⟨fun _ => 0, ⟨fun i => by simp, .inl rfl⟩, fun i hi => by omega⟩, hB.os, hB.tape, hB.output, hB.size, fun c hc _ => hB.block c hc⟩
    · obtain ⟨q, rfl, ho⟩ := h.resolve_left h0
      refine (markI_any q 0 y.n gc y.f 1 _ (ho.keep hB) (by omega) (by omega)).mono ?_
      rintro e w' ⟨rfl, ⟨fy, hfy, hfe⟩, ot⟩
      refine ⟨rfl, ⟨fy, hfy.row, hfe⟩, ot.os.trans hB.os, ot.tape.trans hB.tape, ot.output.trans hB.output, by rw [ot.size]; exact hB.size, fun c hc hne => ?_⟩
      exact (ot.block c (hne q rfl h0)).trans (hB.block c hc)
  generalize ((1 + y.n : Nat) : Int) = kk at hM ⊢
  go_enter Try.func25, Try.ntmps25
  go_wp2_with fail
  refine hM.mono ?_
  rintro e w1 ⟨rfl, H1, H2⟩
  have H : Hid ((∃ f, IRow w1 go y.n f ∧ ∀ i, i < y.n → f i = ((1 + i : Nat) : Int)) ∧ MkL go y.n W w1) := ⟨H1, H2⟩
  clear hM H1 H2
  go_wp2
  go_ret
  exact ⟨rfl, H.out.1, H.out.2⟩
end Go.Proofs.Ytijondokppainaa

namespace Go.Proofs.Ytijondokppainaa
open Go.RowKit
set_option linter.unusedSimpArgs false
set_option linter.unusedVariables false

set_option maxRecDepth 100000 in
set_option maxHeartbeats 8000000 in
theorem foldEntries_law (ao : Option Addr) (n cap : Nat) (X : Nat → Ent) (w : World) (hr : ERow w ao n X) (hnx : n ≤ 9223372036854775807) :
    Calls Try.prog 6 #[.slice ao n cap] w fun e w' => e = .returned (.bool true) ∧ Below w.heap.size w w' := by
  obtain ⟨y, hh, gg, hy8, hyb, hA⟩ := fea_of (X := X) (n := n)
  have hbd := hr.bd
  have hy1 : y.n ≤ 1048576 := by omega
  have row : ∀ {W : World} {base : Nat} {lo : Option Addr}, (y.n = 0 ∨ ∃ q, lo = some ⟨q, 0, none⟩ ∧ base ≤ q ∧ IOwn W q 0 y.n y.f) → IRow W lo y.n y.f := fun {W base lo} h => by
    rcases h with h | ⟨q, rfl, _, ho⟩
    · exact ⟨hyb, .inl h⟩
    · exact ho.row
  go_enter Try.func6, Try.ntmps6
  go_wp2_with fail
  refine (szEntryS_tot ao n cap X 1048576 _ hr (by omega) hnx).mono ?_
  rintro e w1 ⟨v, rfl, hv1, hv2, hv3, bw1⟩
  by_cases hv : v < 0
  · clear hv3
    go_wp2
    go_ret
    exact ⟨rfl, bw1⟩
  have htot := hv3 (by omega)
  have hn : n ≤ 1048576 := by omega
  have hz : ESize n X := tot_size (by omega)
  have hkX := kOf_tot X n
  clear hv3 hnx
  have hS : ∀ W b, ERow W (some ⟨b, 0, none⟩) n X → Calls Try.prog 22 #[.slice (some ⟨b, 0, none⟩) n n] W fun e w' => FeA y hh gg W e w' := fun W b h => (foldEntries_spec b 0 n X W h hn hz).mono (hA W)
  have hI : ∀ W b, ERow W (some ⟨b, 0, none⟩) n X → Calls Try.prog 23 #[.slice (some ⟨b, 0, none⟩) n n] W fun e w' => FeA y hh gg W e w' := fun W b h => (foldEntries_impl b 0 n X W h hn hz).mono (hA W)
  clear hA
  go_wp2_with fail
  refine (toEntryS_any ao n cap X _ (hr.keep bw1) hn hz).mono ?_
  rintro e w2 ⟨G2, rfl, o2, hb2⟩
  have bw2 := bw1.trans (hb2.mono bw1.size)
  go_wp2_with fail
  refine (hS _ _ (o2.row hbd)).mono ?_
  rintro e w3 ⟨wo, wc, rfl, hw3, hb3⟩
  have bw3 := bw2.trans (hb3.mono bw2.size)
  have iw3 : IRow w3 wo y.n y.f := row hw3
  have ltw : ∀ q off p, wo = some ⟨q, off, p⟩ → y.n ≠ 0 → q < w3.heap.size := fun q off p e h0 => by
    obtain ⟨q', e', _, ho⟩ := hw3.resolve_left h0
    rw [e] at e'
    injection e' with e'
    injection e' with e1 _ _
    rw [e1]; exact ho.lt
  have hb4 := below_new w3 (.cells #[.int .i64 y.c, .int .i64 y.s, .int .i64 y.lo, .int .i64 y.hi, .slice wo y.n wc, .bool y.fu] 37)
  have P4 := AAt.new w3 y.c y.s y.lo y.hi (.slice wo y.n wc) y.fu 37
  have iw4 := iw3.keep hb4
  have bw4 := bw3.trans (hb4.mono bw3.size)
  have s34 : w3.heap.size < (w3.alloc (.cells #[.int .i64 y.c, .int .i64 y.s, .int .i64 y.lo, .int .i64 y.hi, .slice wo y.n wc, .bool y.fu] 37)).heap.size := P4.lt
  have hto5 := toEntryS_any ao n cap X (w3.alloc (.cells #[.int .i64 y.c, .int .i64 y.s, .int .i64 y.lo, .int .i64 y.hi, .slice wo y.n wc, .bool y.fu] 37)) (hr.keep bw4) hn hz
  clear hb2 hb3 o2 hw3 iw3 hS
  go_wp2_with fail
  generalize w3.alloc (.cells #[.int .i64 y.c, .int .i64 y.s, .int .i64 y.lo, .int .i64 y.hi, .slice wo y.n wc, .bool y.fu] 37) = w4 at hb4 P4 iw4 bw4 s34 hto5 ⊢
  refine hto5.mono ?_
  rintro e w5 ⟨G5, rfl, o5, hb5⟩
  have bw5 := bw4.trans (hb5.mono bw4.size)
  have P5 := P4.keep hb5
  have iw5 := iw4.keep hb5
  have ltG5 := fun i hi => (o5.data i hi).2.lt
  have l45 := o5.lt
  clear hto5 P4 iw4 hb5
  go_wp2_with fail
  refine (hI _ _ (o5.row hbd)).mono ?_
  rintro e w6 ⟨go, gc, rfl, hg6, hb6⟩
  have bw6 := bw5.trans (hb6.mono bw5.size)
  have s56 := hb6.size
  have hb7 := below_new w6 (.cells #[.int .i64 y.c, .int .i64 y.s, .int .i64 y.lo, .int .i64 y.hi, .slice go y.n gc, .bool y.fu] 37)
  have Q7 := AAt.new w6 y.c y.s y.lo y.hi (.slice go y.n gc) y.fu 37
  have P7 := (P5.keep hb6).keep hb7
  have iw7 := (iw5.keep hb6).keep hb7
  have x7 := (o5.keep hb6).keep hb7
  have bw7 := bw6.trans (hb7.mono bw6.size)
  have ltg : ∀ q, go = some ⟨q, 0, none⟩ → y.n ≠ 0 → w5.heap.size ≤ q ∧ q < w6.heap.size := fun q e h0 => by
    obtain ⟨q', e', h1, ho⟩ := hg6.resolve_left h0
    rw [e] at e'
    injection e' with e'
    injection e' with e1 _ _
    rw [e1]; exact ⟨h1, ho.lt⟩
  have hg7 : y.n = 0 ∨ ∃ q, go = some ⟨q, 0, none⟩ ∧ w5.heap.size ≤ q ∧ IOwn (w6.alloc (.cells #[.int .i64 y.c, .int .i64 y.s, .int .i64 y.lo, .int .i64 y.hi, .slice go y.n gc, .bool y.fu] 37)) q 0 y.n y.f := hg6.imp id (fun ⟨q, e, h1, ho⟩ => ⟨q, e, h1, ho.keep hb7⟩)
  have s67 : w6.heap.size < (w6.alloc (.cells #[.int .i64 y.c, .int .i64 y.s, .int .i64 y.lo, .int .i64 y.hi, .slice go y.n gc, .bool y.fu] 37)).heap.size := Q7.lt
  clear P5 iw5 o5 hb6 hg6 hb7 bw5 bw6
  obtain ⟨_, p0, p1, p2, p3, p4, p5⟩ := id P7
  obtain ⟨_, q0, q1, q2, q3, q4, q5⟩ := id Q7
  go_wp2_with fail
  generalize w6.alloc (.cells #[.int .i64 y.c, .int .i64 y.s, .int .i64 y.lo, .int .i64 y.hi, .slice go y.n gc, .bool y.fu] 37) = w7 at *
  refine (eqAgg_same _ _ _ _ go wo y.n gc wc y.f _ _ (row hg7) iw7 hy1).mono ?_
  rintro e w8 ⟨rfl, hb8⟩
  have bw8 := bw7.trans (hb8.mono bw7.size)
  have P8 := P7.keep hb8
  have Q8 := Q7.keep hb8
  have iw8 := iw7.keep hb8
  have x8 := x7.keep hb8
  have hg8 : y.n = 0 ∨ ∃ q, go = some ⟨q, 0, none⟩ ∧ w5.heap.size ≤ q ∧ IOwn w8 q 0 y.n y.f := hg7.imp id (fun ⟨q, e, h1, ho⟩ => ⟨q, e, h1, ho.keep hb8⟩)
  have s78 := hb8.size
  clear P7 Q7 iw7 x7 hg7 hb8 bw7 p0 p1 p2 p3 p4 p5 q0 q1 q2 q3 q4 q5
  go_wp2_with fail
  refine (toEntryS_any ao n cap X _ (hr.keep bw8) hn hz).mono ?_
  rintro e w9 ⟨G9, rfl, o9, hb9⟩
  have bw9 := bw8.trans (hb9.mono bw8.size)
  have P9 := P8.keep hb9
  have Q9 := Q8.keep hb9
  have iw9 := iw8.keep hb9
  have x9 := x8.keep hb9
  have hg9 : y.n = 0 ∨ ∃ q, go = some ⟨q, 0, none⟩ ∧ w5.heap.size ≤ q ∧ IOwn w9 q 0 y.n y.f := hg8.imp id (fun ⟨q, e, h1, ho⟩ => ⟨q, e, h1, ho.keep hb9⟩)
  have s89 := hb9.size
  clear P8 Q8 iw8 x8 hg8 hb9 bw8
  go_wp2_with fail
  refine (eqEntryS_same _ _ n n n X _ (x9.row hbd) (o9.row hbd) hn hz).mono ?_
  rintro e w10 ⟨rfl, hb10⟩
  have bw10 := bw9.trans (hb10.mono bw9.size)
  have P10 := P9.keep hb10
  have Q10 := Q9.keep hb10
  have iw10 := iw9.keep hb10
  have x10 := x9.keep hb10
  have hg10 : y.n = 0 ∨ ∃ q, go = some ⟨q, 0, none⟩ ∧ w5.heap.size ≤ q ∧ IOwn w10 q 0 y.n y.f := hg9.imp id (fun ⟨q, e, h1, ho⟩ => ⟨q, e, h1, ho.keep hb10⟩)
  have s910 := hb10.size
  clear P9 Q9 iw9 x9 hg9 hb10 bw9 o9
  have hmx := markEntryS_any _ n n 1 X _ _ _ x10.ce (by omega) (fun i hi => (hz i hi).2) hn (by omega)
  go_wp2_with fail
  refine hmx.mono ?_
  rintro e w11 ⟨rfl, _, hco⟩
  have hkeep : ∀ q, (q < w4.heap.size ∨ w5.heap.size ≤ q) → q < w10.heap.size → w11.heap[q]? = w10.heap[q]? := fun q hq hlt => hco.block q hlt (by omega) (fun i hi _ e => by have h1 := (x10.data i hi).1; have h2 := ltG5 i hi; injection e with e; injection e with e _ _; omega)
  have s11 := hco.size
  have bw11 : Below w.heap.size w w11 := bw10.trans ⟨hco.os, hco.tape, hco.output, s11, fun q hq => hkeep q (by have := bw4.size; omega) (by have := bw10.size; omega)⟩
  have P11 := P10.same s11 (hkeep _ (by omega) (by omega))
  have Q11 := Q10.same s11 (hkeep _ (by omega) (by omega))
  have iw11 : IRow w11 wo y.n y.f := irow_blocks iw10 s11 (fun q off p e h0 => hkeep q (by have := ltw q off p e h0; omega) (by have := ltw q off p e h0; omega))
  have hg11 : y.n = 0 ∨ ∃ q, go = some ⟨q, 0, none⟩ ∧ w5.heap.size ≤ q ∧ IOwn w11 q 0 y.n y.f := by
    by_cases h0 : y.n = 0
    · exact .inl h0
    · obtain ⟨q, e, h1, ho⟩ := hg10.resolve_left h0
      have h2 := ho.lt
      exact .inr ⟨q, e, h1, ho.bd, by omega, fun i hi => (World.cell?_of_block (w := w10) (a := ⟨q, 0 + i, none⟩) (hkeep q (.inr h1) h2)).trans (ho.cell i hi), fun i hi => (World.frozen?_of_block (w := w10) (a := ⟨q, 0 + i, none⟩) (hkeep q (.inr h1) h2)).trans (ho.free i hi)⟩
  have hpos : ¬ ((kOf X 1 n : Nat) : Int) < 0 := by omega
  have hposd : decide (((kOf X 1 n : Nat) : Int) < 0) = false := decide_eq_false hpos
  generalize ((kOf X 1 n : Nat) : Int) = kk at hpos hposd ⊢
  clear P10 Q10 iw10 x10 hg10 hco hkeep hmx bw10
  obtain ⟨_, p0, p1, p2, p3, p4, p5⟩ := id P11
  obtain ⟨_, q0, q1, q2, q3, q4, q5⟩ := id Q11
  go_wp2_with fail
  refine (eqAgg_same _ _ _ _ go wo y.n gc wc y.f _ _ (row hg11) iw11 hy1).mono ?_
  rintro e w12 ⟨rfl, hb12⟩
  have bw12 := bw11.trans (hb12.mono bw11.size)
  have P12 := P11.keep hb12
  have Q12 := Q11.keep hb12
  have iw12 := iw11.keep hb12
  have hg12 : y.n = 0 ∨ ∃ q, go = some ⟨q, 0, none⟩ ∧ IOwn w12 q 0 y.n y.f := hg11.imp id (fun ⟨q, e, h1, ho⟩ => ⟨q, e, ho.keep hb12⟩)
  have s12 := hb12.size
  clear P11 Q11 iw11 hg11 hb12 bw11 p0 p1 p2 p3 p4 p5 q0 q1 q2 q3 q4 q5
  obtain ⟨_, q0, q1, q2, q3, q4, q5⟩ := id Q12
  have hmk := markAggO y go gc w12 hy8 hg12
  go_wp2_with fail
  refine hmk.mono ?_
  rintro e w13 ⟨rfl, ⟨ff, hff, hfe⟩, m1, m2, m3, m4, m5⟩
  have bw13 : Below w.heap.size w w13 := bw12.trans ⟨m1, m2, m3, m4, fun c hc => m5 c (by have := bw12.size; omega) (fun q e h0 => by have := ltg q e h0; have := bw4.size; omega)⟩
  have P13 := P12.same m4 (m5 _ (by omega) (fun q e h0 => by have := ltg q e h0; omega))
  have Q13 := Q12.same m4 (m5 _ (by omega) (fun q e h0 => by have := ltg q e h0; omega))
  have iw13 : IRow w13 wo y.n y.f := irow_blocks iw12 m4 (fun q off p e h0 => m5 q (by have := ltw q off p e h0; omega) (fun q' e' h0' => by have := ltw q off p e h0; have := ltg q' e' h0'; omega))
  have hqp : ¬ ((1 + y.n : Nat) : Int) < 0 := by omega
  have hqd : decide (((1 + y.n : Nat) : Int) < 0) = false := decide_eq_false hqp
  have hheld : ∀ W, Below w13.heap.size w13 W → Calls Try.prog 26 #[.agg #[.int .i64 y.c, .int .i64 y.s, .int .i64 y.lo, .int .i64 y.hi, .slice go y.n gc, .bool y.fu], .int .i64 1] W fun e w' => e = .returned (.int .i64 ((1 + y.n : Nat) : Int)) ∧ Below W.heap.size W w' := fun W hb => heldAggO y go gc ff W hy8 (hff.keep hb) hfe
  generalize ((1 + y.n : Nat) : Int) = qq at hqp hqd hheld ⊢
  clear P12 Q12 iw12 hg12 hmk m1 m2 m3 m5 bw12 q0 q1 q2 q3 q4 q5 hff hfe
  obtain ⟨_, q0, q1, q2, q3, q4, q5⟩ := id Q13
  go_wp2_with fail
  refine (hheld _ (Below.refl _ _)).mono ?_
  rintro e w14 ⟨rfl, hb14⟩
  have bw14 := bw13.trans (hb14.mono bw13.size)
  have s14 := hb14.size
  clear q0 q1 q2 q3 q4 q5
  go_wp2_with fail
  refine (toEntryS_any ao n cap X _ (hr.keep bw14) hn hz).mono ?_
  rintro e w15 ⟨G15, rfl, o15, hb15⟩
  have bw15 := bw14.trans (hb15.mono bw14.size)
  have h15 : Below w13.heap.size w13 w15 := hb14.trans (hb15.mono s14)
  go_wp2_with fail
  refine (hI _ _ (o15.row hbd)).mono ?_
  rintro e w16 ⟨ho, hc, rfl, hh16, hb16⟩
  have bw16 := bw15.trans (hb16.mono bw15.size)
  have h16 : Below w13.heap.size w13 w16 := h15.trans (hb16.mono h15.size)
  have hb17 := below_new w16 (.cells #[.int .i64 y.c, .int .i64 y.s, .int .i64 y.lo, .int .i64 y.hi, .slice ho y.n hc, .bool y.fu] 37)
  have h17 := h16.trans (hb17.mono h16.size)
  have bw17 := bw16.trans (hb17.mono bw16.size)
  have P17 := P13.keep h17
  have Q17 := Q13.keep h17
  have iw17 := iw13.keep h17
  have ih17 := (row hh16).keep hb17
  have T17 := AAt.new w16 y.c y.s y.lo y.hi (.slice ho y.n hc) y.fu 37
  clear hb14 hb15 hb16 h15 h16 o15 hh16 hb17 P13 iw13
  obtain ⟨_, p0, p1, p2, p3, p4, p5⟩ := id P17
  obtain ⟨_, t0, t1, t2, t3, t4, t5⟩ := id T17
  go_wp2_with fail
  generalize w16.alloc (.cells #[.int .i64 y.c, .int .i64 y.s, .int .i64 y.lo, .int .i64 y.hi, .slice ho y.n hc, .bool y.fu] 37) = w17 at *
  refine (eqAgg_same _ _ _ _ ho wo y.n hc wc y.f _ _ ih17 iw17 hy1).mono ?_
  rintro e w18 ⟨rfl, hb18⟩
  have bw18 := bw17.trans (hb18.mono bw17.size)
  have h18 := h17.trans (hb18.mono h17.size)
  have Q18 := Q17.keep hb18
  clear p0 p1 p2 p3 p4 p5 t0 t1 t2 t3 t4 t5 P17 T17 iw17 ih17 Q17 hb18
  obtain ⟨_, q0, q1, q2, q3, q4, q5⟩ := id Q18
  go_wp2_with fail
  refine (hheld _ h18).mono ?_
  rintro e w19 ⟨rfl, hb19⟩
  have bw19 := bw18.trans (hb19.mono bw18.size)
  clear hb19
  go_wp2
  go_ret
  exact ⟨rfl, bw19⟩
end Go.Proofs.Ytijondokppainaa
