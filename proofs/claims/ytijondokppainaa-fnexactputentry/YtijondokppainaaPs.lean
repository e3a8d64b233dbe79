/- PutEntry, in the model. -/
import Derived.Test.YtijondokppainaaPp
import Derived.Test.YtijondokppainaaOf
namespace Go.Proofs.Ytijondokppainaa
open Go.RowKit
set_option linter.unusedSimpArgs false
set_option linter.unusedVariables false

theorem OutE.base {w : World} {base base' : Nat} {v : Value} {n : Nat} {X : Nat → Ent} {V : Nat → Value} (h : OutE w base v n X V) (hb : base' ≤ base) : OutE w base' v n X V := ⟨ownsRow_mono h.own hb, fun i hi => (h.row i hi).mono hb, h.dis, h.apart⟩
theorem pX_all {X : Nat → Ent} {x : Ent} {n P : Nat} {Q : Ent → Prop} (hX : ∀ i, i < n → Q (X i)) (hx : Q x) (hP : P ≤ n) : ∀ i, i < n + 1 → Q (pX X x P i) := by
  intro i hi
  unfold pX
  split
  · exact hX _ (by omega)
  · split
    · exact hx
    · exact hX _ (by omega)

set_option maxRecDepth 100000 in
set_option maxHeartbeats 4000000 in
theorem putEntry_spec (b off n : Nat) (X : Nat → Ent) (x : Ent) (xo : Option Addr) (xc : Nat) (w : World) (hr : ERow w (some ⟨b, off, none⟩) n X) (hx : IRow w xo x.n x.f) (hxb : EB x) (hn : n ≤ 1048576) (hz : ESize n X) (hzx : x.key.size ≤ 1048576 ∧ x.n ≤ 1048576) :
    Calls Try.prog 13 #[.slice (some ⟨b, off, none⟩) n n, .agg #[.string x.key, .int .i64 x.seq, .int .i64 x.kind, .int .i64 x.c, .int .i64 x.s, .int .i64 x.lo, .int .i64 x.hi, .slice xo x.n xc, .bool x.fu]] w fun e w' => EoO (GoodP X n x) (pE X n x (pc X n x 0)) w e w' := by
  have hB := below_new w (.cells #[.string x.key, .int .i64 x.seq, .int .i64 x.kind, .int .i64 x.c, .int .i64 x.s, .int .i64 x.lo, .int .i64 x.hi, .slice xo x.n xc, .bool x.fu] 39)
  have EX := EAt.new w x xo xc 39
  by_cases h60 : n < 60
  rotate_left
  · have H : Hid (¬ GoodP X n x) := fun g => h60 g.1
    have hd60 : decide ((60 : Int) ≤ (n : Int)) = true := by simp; omega
    clear EX
    go_enter Try.func13, Try.ntmps13
    go_wp2
    exact bodyPost_ret (v := .tuple #[.slice none 0 0, .bool false]) (by simp [results, Try.results13, go_sem]) rfl (.inl ⟨H.out, _, _, rfl, outE_nil _ _ _, hB⟩)
  have hd60 : decide ((60 : Int) ≤ (n : Int)) = false := by simp; omega
  have hP := (pc_le (X := X) (n := n) (e := x) (q := 0) (Nat.zero_le _)).2
  obtain ⟨P, hPe⟩ : ∃ P, pc X n x 0 = P := ⟨_, rfl⟩
  have HP : Hid (pc X n x 0 = P) := hPe
  rw [hPe] at hP ⊢
  clear hPe
  go_enter Try.func13, Try.ntmps13
  go_wp2_with fail
  generalize w.alloc (.cells #[.string x.key, .int .i64 x.seq, .int .i64 x.kind, .int .i64 x.c, .int .i64 x.s, .int .i64 x.lo, .int .i64 x.hi, .slice xo x.n xc, .bool x.fu] 39) = w0 at hB EX ⊢
  refine (goodEntries_spec _ n n X _ (hr.keep hB) (by omega) hz).mono ?_
  rintro e w1 ⟨b1, rfl, h1, q1⟩
  have bw1 := hB.trans (q1.mono hB.size)
  have EX1 := EX.keep q1
  clear EX q1
  cases b1
  · have H : Hid (¬ GoodP X n x) := fun h => by
      have := h1.2 h.2.1
      cases this
    clear h1
    go_wp2
    exact bodyPost_ret (v := .tuple #[.slice none 0 0, .bool false]) (by simp [results, Try.results13, go_sem]) rfl (.inl ⟨H.out, _, _, rfl, outE_nil _ _ _, bw1⟩)
  have HL : Hid (GoodL X n) := h1.1 rfl
  clear h1
  have EXc := EX1
  obtain ⟨_, a0, a1, a2, a3, a4, a5, a6, a7, a8⟩ := EXc
  simp only [Nat.zero_add] at a1 a2 a3 a4 a5 a6 a7 a8
  go_wp2_with fail
  refine (goodEntry_spec x xo xc _ (hx.keep bw1) hzx.2 hxb.s).mono ?_
  rintro e w2 ⟨b2, rfl, h2, q2⟩
  have bw2 := bw1.trans (q2.mono bw1.size)
  have EX2 := EX1.keep q2
  clear EX1 q2 a0 a1 a2 a3 a4 a5 a6 a7 a8
  cases b2
  · have H : Hid (¬ GoodP X n x) := fun h => by
      have := h2.2 h.2.2.1
      cases this
    clear h2
    go_wp2
    exact bodyPost_ret (v := .tuple #[.slice none 0 0, .bool false]) (by simp [results, Try.results13, go_sem]) rfl (.inl ⟨H.out, _, _, rfl, outE_nil _ _ _, bw2⟩)
  have HE : Hid (GoodE x) := h2.1 rfl
  clear h2
  have hr2 := hr.keep bw2
  have hx2 := hx.keep bw2
  obtain ⟨hbd, hlies⟩ := hr2
  have hbd' := hbd
  go_wp2
  go_loopw [23] (fun i wr => ∃ k : Nat, k ≤ n ∧ i = .int .i64 k ∧ Hid (∀ i, i < k → (X i).seq ≠ x.seq) ∧ Below w2.heap.size w2 wr) (fun i _ => n - (intOf i).toNat)
  case atStart => exact ⟨0, Nat.zero_le _, rfl, fun i h => by omega, Below.refl _ _⟩
  case round =>
    obtain ⟨k, hk, rfl, HA, hbk⟩ := hrel
    have eb := EX2.keep hbk
    have eb' := eb
    obtain ⟨_, b0, b1, b2, b3, b4, b5, b6, b7, b8⟩ := eb'
    simp only [Nat.zero_add] at b1 b2 b3 b4 b5 b6 b7 b8
    by_cases hlt : k < n
    · obtain ⟨b', off', e, hblt, hc⟩ := hlies.resolve_left (by omega)
      injection e with e
      injection e with e1 e2 _
      subst e1 e2
      obtain ⟨da, dc, ea0, _⟩ := hc k hlt
      obtain ⟨_, a0, a1, a2, a3, a4, a5, a6, a7, a8⟩ := ea0.keep hbk
      have hbn := below_new wr (.cells #[.string (X k).key, .int .i64 (X k).seq, .int .i64 (X k).kind, .int .i64 (X k).c, .int .i64 (X k).s, .int .i64 (X k).lo, .int .i64 (X k).hi, .slice da (X k).n dc, .bool (X k).fu] 39)
      have ebn := eb.keep hbn
      obtain ⟨_, d0, d1, d2, d3, d4, d5, d6, d7, d8⟩ := ebn
      simp only [Nat.zero_add] at d1 d2 d3 d4 d5 d6 d7 d8
      have bkn := hbk.trans (hbn.mono hbk.size)
      have bwn := bw2.trans (bkn.mono bw2.size)
      clear ea0 hc hlies hbn eb
      by_cases he : (X k).seq = x.seq
      · have hbq : ((X k).seq == x.seq) = true := by simp [he]
        have H : Hid (¬ GoodP X n x) := fun g => g.2.2.2 ⟨k, hlt, he⟩
        clear he
        go_wp2
        exact bodyPost_ret (v := .tuple #[.slice none 0 0, .bool false]) (by simp [results, Try.results13, go_sem]) rfl (.inl ⟨H.out, _, _, rfl, outE_nil _ _ _, bwn⟩)
      · have hbq : ((X k).seq == x.seq) = false := by simp [he]
        have HH : Hid (∀ i, i < k + 1 → (X i).seq ≠ x.seq) := fun i hi => by
          rcases Nat.lt_succ_iff_lt_or_eq.1 hi with h | rfl
          · exact HA.out i h
          · exact he
        clear he
        go_wp2
        go_roundw
        case rel => exact ⟨k + 1, by omega, by go_num, HH, bkn⟩
        case measure => simp [intOf]; omega
    · obtain rfl : k = n := by omega
      have HG : Hid (GoodP X k x) := ⟨h60, HL.out, HE.out, fun ⟨i, hi, h⟩ => HA.out i hi h⟩
      have bwk := bw2.trans (hbk.mono bw2.size)
      clear hlies HA
      go_wp2_with fail
      refine (l5Put_any b off k X x xo xc _ (hr.keep bwk) (hx.keep bwk) hxb (by omega)).mono ?_
      rintro e w5 ⟨lo, lc, rfl, hE, hb5⟩
      rw [HP.out] at hE
      have bw5 := bwk.trans (hb5.mono bwk.size)
      clear hb5 b0 b1 b2 b3 b4 b5 b6 b7 b8 eb
      go_wp2_with fail
      refine (l5Own_any lo _ lc _ _ hE (by omega) (pX_all (Q := fun x => x.key.size ≤ 1048576 ∧ x.n ≤ 1048576) hz hzx hP)).mono ?_
      rintro e w6 ⟨v, V, rfl, hO, hb6⟩
      have bw6 := bw5.trans (hb6.mono bw5.size)
      have O6 := hO.base bw5.size
      obtain ⟨go, gc, rfl⟩ := ownsRow_form O6.own
      have OF : OutE w6 w.heap.size (.slice go (k + 1) gc) (pE X k x P).length (eL (pE X k x P)) V := by
        rw [pE_len]
        exact O6.congr (fun i hi => (pE_at X k x P hi).symm)
      clear hO hb6 O6
      go_wp2
      exact bodyPost_ret (v := .tuple #[.slice go (k + 1) gc, .bool true]) (by simp [results, Try.results13, go_sem]) rfl (.inr ⟨HG.out, _, _, rfl, OF, bw6⟩)
end Go.Proofs.Ytijondokppainaa
