/- FoldEntries, in the model. -/
import Derived.Test.YtijondokppainaaFe
import Derived.Test.YtijondokppainaaGoS
namespace Go.Proofs.Ytijondokppainaa
open Go.RowKit
set_option linter.unusedSimpArgs false
set_option linter.unusedVariables false

theorem bl_trans : ∀ a b c : List UInt8, Op.bytesLess a b = true → Op.bytesLess b c = true → Op.bytesLess a c = true
  | _, [], _, h, _ => by simp [Op.bytesLess] at h
  | _, _ :: _, [], _, h => by simp [Op.bytesLess] at h
  | [], _ :: _, _ :: _, _, _ => by simp [Op.bytesLess]
  | x :: a, y :: b, z :: c, h, g => by
    have ih := bl_trans a b c
    simp only [Op.bytesLess, Bool.or_eq_true, Bool.and_eq_true, decide_eq_true_eq, beq_iff_eq] at h g ⊢
    rcases h with h | ⟨rfl, h⟩ <;> rcases g with g | ⟨rfl, g⟩
    · exact .inl (UInt8.lt_trans h g)
    · exact .inl h
    · exact .inl g
    · exact .inr ⟨rfl, ih h g⟩
/-- All have the first one's key. -/
def AllK (X : Nat → Ent) (n : Nat) : Prop := ∀ i, i < n → (X i).key.toList = (X 0).key.toList
theorem rise_key {X : Nat → Ent} {n : Nat} (h : RiseE X n) (i : Nat) : ∀ d, i + d < n → Op.bytesLess (X i).key.toList (X (i + d)).key.toList = true ∨ (X i).key.toList = (X (i + d)).key.toList
  | 0, _ => .inr rfl
  | d + 1, hd => by
    have h1 := rise_key h i d (by omega)
    have h2 := h (i + d) (by omega)
    rcases h1 with h1 | h1
    · rcases h2 with h2 | ⟨h2, _⟩
      · exact .inl (bl_trans _ _ _ h1 h2)
      · exact .inl (by rw [show i + (d + 1) = i + d + 1 by omega, ← h2]; exact h1)
    · rcases h2 with h2 | ⟨h2, _⟩
      · exact .inl (by rw [h1]; exact h2)
      · exact .inr (h1.trans h2)
theorem allK_iff {X : Nat → Ent} {n : Nat} (h : GoodL X n) : OneK X n ↔ AllK X n := by
  constructor
  · rintro (rfl | h1) i hi
    · omega
    · have a := rise_key h.2.1 0 i (by omega)
      have b := rise_key h.2.1 i (n - 1 - i) (by omega)
      rw [Nat.zero_add] at a
      rw [show i + (n - 1 - i) = n - 1 by omega] at b
      rcases a with a | a
      · rw [← h1] at b
        rcases b with b | b
        · have := bl_trans _ _ _ a b
          rw [bl_self] at this; cases this
        · exact b
      · exact a.symm
  · intro h1
    by_cases h0 : n = 0
    · exact .inl h0
    · exact .inr (h1 (n - 1) (by omega)).symm

set_option maxRecDepth 100000 in
set_option maxHeartbeats 4000000 in
theorem foldEntries_spec (b off n : Nat) (X : Nat → Ent) (w : World) (hr : ERow w (some ⟨b, off, none⟩) n X) (hn : n ≤ 1048576) (hz : ESize n X) :
    Calls Try.prog 22 #[.slice (some ⟨b, off, none⟩) n n] w fun e w' => FeO X n w e w' := by
  have hB := below_new w (.cells #[.int .i64 0, .int .i64 0, .int .i64 0, .int .i64 0, .slice none 0 0, .bool false] 37)
  have R0 := AAt.new w 0 0 0 0 (.slice none 0 0) false 37
  have F0 : ∀ j, (w.alloc (.cells #[.int .i64 0, .int .i64 0, .int .i64 0, .int .i64 0, .slice none 0 0, .bool false] 37)).frozen? ⟨w.heap.size, j, none⟩ = false := fun j => by simp [go_sem]
  have hs0 : w.heap.size < (w.alloc (.cells #[.int .i64 0, .int .i64 0, .int .i64 0, .int .i64 0, .slice none 0 0, .bool false] 37)).heap.size := by simp
  go_enter Try.func22, Try.ntmps22
  go_wp2_with fail
  generalize w.alloc (.cells #[.int .i64 0, .int .i64 0, .int .i64 0, .int .i64 0, .slice none 0 0, .bool false] 37) = w0 at hB R0 F0 hs0 ⊢
  refine (goodEntries_spec _ n n X _ (hr.keep hB) hn hz).mono ?_
  rintro e w1 ⟨b1, rfl, h1, q1⟩
  have bw1 := hB.trans (q1.mono hB.size)
  cases b1
  · have hG : ¬ GoodL X n := fun h => by
      have := h1.2 h
      cases this
    have H : Hid (∀ W, Below w.heap.size w W → FeO X n w (.returned (.tuple #[.agg #[.int .i64 0, .int .i64 0, .int .i64 0, .int .i64 0, .slice none 0 0, .bool false], .bool false, .bool false])) W) := fun W hb => ⟨fun _ => fea_no hb, fun h => absurd h.1 hG, fun h => absurd h.1 hG⟩
    have R1 := R0.keep q1
    have Z1 : ∀ j, w1.frozen? ⟨w.heap.size, j, none⟩ = false := fun j => (q1.frozen (p := ⟨w.heap.size, j, none⟩) R0.lt).trans (F0 j)
    obtain ⟨_, r0, r1, r2, r3, r4, r5⟩ := R1
    clear h1
    go_wp2
    refine bodyPost_ret (v := .tuple #[.agg #[.int .i64 0, .int .i64 0, .int .i64 0, .int .i64 0, .slice none 0 0, .bool false], .bool false, .bool false]) (by simp [results, Try.results22, go_sem, r0, r1, r2, r3, r4, r5]) rfl (H.out _ ?_)
    repeat' refine Below.setCell ?_ (by first | (simp; done) | (simp; omega)) _
    exact bw1
  have hG : GoodL X n := h1.1 rfl
  clear h1
  have hlies := hr.lies
  go_wp2
  go_loopw [15] (fun i wr => ∃ k : Nat, k ≤ n ∧ i = .int .i64 k ∧ Hid (∀ i, i < k → (X i).key.toList = (X 0).key.toList) ∧ Below w0.heap.size w0 wr) (fun i _ => n - (intOf i).toNat)
  case atStart => exact ⟨0, Nat.zero_le _, rfl, fun i h => by omega, q1⟩
  case round =>
    obtain ⟨k, hk, rfl, HA, hbk⟩ := hrel
    have bwk := hB.trans (hbk.mono hB.size)
    have Rk := R0.keep hbk
    have Zk : ∀ j, wr.frozen? ⟨w.heap.size, j, none⟩ = false := fun j => (hbk.frozen (p := ⟨w.heap.size, j, none⟩) hs0).trans (F0 j)
    by_cases hlt : k < n
    · obtain ⟨b', off', e, hblt, hc⟩ := hlies.resolve_left (by omega)
      injection e with e
      injection e with e1 e2 _
      subst e1 e2
      obtain ⟨da, dc, ea, _⟩ := hc k hlt
      obtain ⟨db, dd, eb, _⟩ := hc 0 (by omega)
      obtain ⟨_, a0, a1, a2, a3, a4, a5, a6, a7, a8⟩ := ea.keep bwk
      have hbn := below_new wr (.cells #[.string (X k).key, .int .i64 (X k).seq, .int .i64 (X k).kind, .int .i64 (X k).c, .int .i64 (X k).s, .int .i64 (X k).lo, .int .i64 (X k).hi, .slice da (X k).n dc, .bool (X k).fu] 39)
      have bkn := hbk.trans (hbn.mono hbk.size)
      have bwn := bwk.trans (hbn.mono bwk.size)
      have c0 := (eb.keep bwn).c0
      rw [Nat.zero_mul, Nat.add_zero] at c0
      have nk := (EAt.new wr (X k) da dc 39).c0
      have hpi : (0 : Int) < (n : Int) := by omega
      have h0n : 0 < n := by omega
      have Rn := Rk.keep hbn
      have Zn : ∀ j, (wr.alloc (.cells #[.string (X k).key, .int .i64 (X k).seq, .int .i64 (X k).kind, .int .i64 (X k).c, .int .i64 (X k).s, .int .i64 (X k).lo, .int .i64 (X k).hi, .slice da (X k).n dc, .bool (X k).fu] 39)).frozen? ⟨w.heap.size, j, none⟩ = false := fun j => (hbn.frozen (p := ⟨w.heap.size, j, none⟩) Rk.lt).trans (Zk j)
      clear hc hlies ea eb
      by_cases he : (X k).key.toList = (X 0).key.toList
      · have HH : Hid (∀ i, i < k + 1 → (X i).key.toList = (X 0).key.toList) := fun i hi => by
          rcases Nat.lt_succ_iff_lt_or_eq.1 hi with h | rfl
          · exact HA.out i h
          · exact he
        have hne : ((X k).key.toList == (X 0).key.toList) = true := by simp [he]
        have hneb : ((X k).key.toList != (X 0).key.toList) = false := by simp [he]
        clear he
        go_wp2
        go_quiet (fail)
        go_wp2
        go_roundw
        case rel => exact ⟨k + 1, by omega, by go_num, HH, below_drewN bkn _⟩
        case measure => simp [intOf]; omega
      · have hO : ¬ OneK X n := fun h => he ((allK_iff hG).1 h k hlt)
        have H : Hid (∀ W, Below w.heap.size w W → FeO X n w (.returned (.tuple #[.agg #[.int .i64 0, .int .i64 0, .int .i64 0, .int .i64 0, .slice none 0 0, .bool false], .bool false, .bool false])) W) := fun W hb => ⟨fun _ => fea_no hb, fun h => absurd h.2 hO, fun h => absurd h.2 hO⟩
        have hne : ((X k).key.toList == (X 0).key.toList) = false := by simp [he]
        have hneb : ((X k).key.toList != (X 0).key.toList) = true := by simp [he]
        clear he
        go_wp2
        go_quiet (fail)
        have hdq := below_drewN (Below.refl (wr.alloc (.cells #[.string (X k).key, .int .i64 (X k).seq, .int .i64 (X k).kind, .int .i64 (X k).c, .int .i64 (X k).s, .int .i64 (X k).lo, .int .i64 (X k).hi, .slice da (X k).n dc, .bool (X k).fu] 39)).heap.size (wr.alloc (.cells #[.string (X k).key, .int .i64 (X k).seq, .int .i64 (X k).kind, .int .i64 (X k).c, .int .i64 (X k).s, .int .i64 (X k).lo, .int .i64 (X k).hi, .slice da (X k).n dc, .bool (X k).fu] 39))) nq
        have Rq := Rn.keep hdq
        have Zq : ∀ j, ((wr.alloc (.cells #[.string (X k).key, .int .i64 (X k).seq, .int .i64 (X k).kind, .int .i64 (X k).c, .int .i64 (X k).s, .int .i64 (X k).lo, .int .i64 (X k).hi, .slice da (X k).n dc, .bool (X k).fu] 39)).drewN nq).frozen? ⟨w.heap.size, j, none⟩ = false := fun j => (hdq.frozen (p := ⟨w.heap.size, j, none⟩) Rn.lt).trans (Zn j)
        have bwq := bwn.trans (hdq.mono bwn.size)
        obtain ⟨_, r0, r1, r2, r3, r4, r5⟩ := Rq
        clear Rn Zn hdq a0 a1 a2 a3 a4 a5 a6 a7 a8 nk c0 hbn
        generalize (wr.alloc (.cells #[.string (X k).key, .int .i64 (X k).seq, .int .i64 (X k).kind, .int .i64 (X k).c, .int .i64 (X k).s, .int .i64 (X k).lo, .int .i64 (X k).hi, .slice da (X k).n dc, .bool (X k).fu] 39)).drewN nq = wq at *
        go_wp2
        refine bodyPost_ret (v := .tuple #[.agg #[.int .i64 0, .int .i64 0, .int .i64 0, .int .i64 0, .slice none 0 0, .bool false], .bool false, .bool false]) (by simp [results, Try.results22, go_sem, r0, r1, r2, r3, r4, r5]) rfl (H.out _ ?_)
        repeat' refine Below.setCell ?_ (by first | (simp; done) | (simp; omega)) _
        exact bwq
    · have hkn : k = n := by omega
      have hO : OneK X n := (allK_iff hG).2 (by rw [← hkn]; exact HA.out)
      have hdk : decide ((k : Int) < (n : Int)) = false := by simp; omega
      clear hkn HA hlies
      have hL := l5Fold_any b off n X wr (hr.keep bwk) hG.1 hn
      go_wp2_with fail
      refine hL.mono ?_
      rintro e w5 hL5
      obtain ⟨y, hh, lo, lc, rfl, ho, hb5, HF⟩ : ∃ (y : Ent) (hh : Bool) (lo : Option Addr) (lc : Nat), e = .returned (.tuple #[.agg #[.int .i64 y.c, .int .i64 y.s, .int .i64 y.lo, .int .i64 y.hi, .slice lo y.n lc, .bool y.fu], .bool hh]) ∧ (y.n = 0 ∨ ∃ q, lo = some ⟨q, 0, none⟩ ∧ wr.heap.size ≤ q ∧ IOwn w5 q 0 y.n y.f) ∧ Below wr.heap.size wr w5 ∧ Hid (∀ W, (y.n = 0 ∨ ∃ q, lo = some ⟨q, 0, none⟩ ∧ w.heap.size ≤ q ∧ IOwn W q 0 y.n y.f) → Below w.heap.size w W → FeO X n w (.returned (.tuple #[.agg #[.int .i64 y.c, .int .i64 y.s, .int .i64 y.lo, .int .i64 y.hi, .slice lo y.n lc, .bool y.fu], .bool hh, .bool true])) W) := by
        by_cases hN : NoF X n
        · obtain ⟨lo, lc, he, ho, hb5⟩ := hL5.1 hN
          exact ⟨dE, false, lo, lc, he, ho, hb5, fun W h1 h2 => ⟨fun h => absurd ⟨hG, hO⟩ h, fun _ _ => ⟨lo, lc, rfl, h1, h2⟩, fun _ h => absurd hN h⟩⟩
        · obtain ⟨lo, lc, he, ho, hb5⟩ := hL5.2 hN
          exact ⟨fdA X n, true, lo, lc, he, ho, hb5, fun W h1 h2 => ⟨fun h => absurd ⟨hG, hO⟩ h, fun _ h => absurd h hN, fun _ _ => ⟨lo, lc, rfl, h1, h2⟩⟩⟩
      have hb6 := below_new w5 (.cells #[.int .i64 y.c, .int .i64 y.s, .int .i64 y.lo, .int .i64 y.hi, .slice lo y.n lc, .bool y.fu] 37)
      have R5 := Rk.keep hb5
      have R6 := R5.keep hb6
      have Z5 : ∀ j, w5.frozen? ⟨w.heap.size, j, none⟩ = false := fun j => (hb5.frozen (p := ⟨w.heap.size, j, none⟩) Rk.lt).trans (Zk j)
      have Z6 : ∀ j, (w5.alloc (.cells #[.int .i64 y.c, .int .i64 y.s, .int .i64 y.lo, .int .i64 y.hi, .slice lo y.n lc, .bool y.fu] 37)).frozen? ⟨w.heap.size, j, none⟩ = false := fun j => (hb6.frozen (p := ⟨w.heap.size, j, none⟩) R5.lt).trans (Z5 j)
      have bw6 := (bwk.trans (hb5.mono bwk.size)).trans (hb6.mono (Nat.le_trans bwk.size hb5.size))
      have hRl := R5.lt
      have hRk := Rk.lt
      have hs5 := hb5.size
      obtain ⟨_, r0, r1, r2, r3, r4, r5⟩ := id R5
      obtain ⟨_, x0, x1, x2, x3, x4, x5⟩ := id R6
      have hne : w5.heap.size ≠ w.heap.size := by omega
      clear hL hL5
      have bw5 := bwk.trans (hb5.mono bwk.size)
      have ot : Others w.heap.size w5 ((((((w5.setCell ⟨w.heap.size, 0, none⟩ (.int .i64 y.c)).setCell ⟨w.heap.size, 1, none⟩ (.int .i64 y.s)).setCell ⟨w.heap.size, 2, none⟩ (.int .i64 y.lo)).setCell ⟨w.heap.size, 3, none⟩ (.int .i64 y.hi)).setCell ⟨w.heap.size, 4, none⟩ (.slice lo y.n lc)).setCell ⟨w.heap.size, 5, none⟩ (.bool y.fu)) := (((((Others.setCell _ _ _ _).trans (Others.setCell _ _ _ _)).trans (Others.setCell _ _ _ _)).trans (Others.setCell _ _ _ _)).trans (Others.setCell _ _ _ _)).trans (Others.setCell _ _ _ _)
      have hfinb := bw5.trans (ot.below (Nat.le_refl _))
      have OB5 : OB w5 w5 w.heap.size 0 0 0 0 (.slice none 0 0) false := ⟨R5, Z5, Below.refl _ _⟩
      have OB7 := (((((OB5.set0 y.c).set1 y.s).set2 y.lo).set3 y.hi).set4 (.slice lo y.n lc)).set5 y.fu
      go_wp2
      have A8 := OB7.A.keep (below_new ((((((w5.setCell ⟨w.heap.size, 0, none⟩ (.int .i64 y.c)).setCell ⟨w.heap.size, 1, none⟩ (.int .i64 y.s)).setCell ⟨w.heap.size, 2, none⟩ (.int .i64 y.lo)).setCell ⟨w.heap.size, 3, none⟩ (.int .i64 y.hi)).setCell ⟨w.heap.size, 4, none⟩ (.slice lo y.n lc)).setCell ⟨w.heap.size, 5, none⟩ (.bool y.fu)) (.cells #[.int .i64 y.c, .int .i64 y.s, .int .i64 y.lo, .int .i64 y.hi, .slice lo y.n lc, .bool y.fu] 37))
      have hfinb2 := hfinb.trans ((below_new ((((((w5.setCell ⟨w.heap.size, 0, none⟩ (.int .i64 y.c)).setCell ⟨w.heap.size, 1, none⟩ (.int .i64 y.s)).setCell ⟨w.heap.size, 2, none⟩ (.int .i64 y.lo)).setCell ⟨w.heap.size, 3, none⟩ (.int .i64 y.hi)).setCell ⟨w.heap.size, 4, none⟩ (.slice lo y.n lc)).setCell ⟨w.heap.size, 5, none⟩ (.bool y.fu)) (.cells #[.int .i64 y.c, .int .i64 y.s, .int .i64 y.lo, .int .i64 y.hi, .slice lo y.n lc, .bool y.fu] 37)).mono hfinb.size)
      have hfino : y.n = 0 ∨ ∃ q, lo = some ⟨q, 0, none⟩ ∧ w.heap.size ≤ q ∧ IOwn (World.alloc ((((((w5.setCell ⟨w.heap.size, 0, none⟩ (.int .i64 y.c)).setCell ⟨w.heap.size, 1, none⟩ (.int .i64 y.s)).setCell ⟨w.heap.size, 2, none⟩ (.int .i64 y.lo)).setCell ⟨w.heap.size, 3, none⟩ (.int .i64 y.hi)).setCell ⟨w.heap.size, 4, none⟩ (.slice lo y.n lc)).setCell ⟨w.heap.size, 5, none⟩ (.bool y.fu)) (.cells #[.int .i64 y.c, .int .i64 y.s, .int .i64 y.lo, .int .i64 y.hi, .slice lo y.n lc, .bool y.fu] 37)) q 0 y.n y.f := by
        rcases ho with h0 | ⟨q, e, hq, oq⟩
        · exact .inl h0
        · exact .inr ⟨q, e, by omega, (iown_others oq ot (by omega)).keep (below_new _ _)⟩
      generalize World.alloc ((((((w5.setCell ⟨w.heap.size, 0, none⟩ (.int .i64 y.c)).setCell ⟨w.heap.size, 1, none⟩ (.int .i64 y.s)).setCell ⟨w.heap.size, 2, none⟩ (.int .i64 y.lo)).setCell ⟨w.heap.size, 3, none⟩ (.int .i64 y.hi)).setCell ⟨w.heap.size, 4, none⟩ (.slice lo y.n lc)).setCell ⟨w.heap.size, 5, none⟩ (.bool y.fu)) (.cells #[.int .i64 y.c, .int .i64 y.s, .int .i64 y.lo, .int .i64 y.hi, .slice lo y.n lc, .bool y.fu] 37) = wF at A8 hfinb2 hfino ⊢
      obtain ⟨_, t0, t1, t2, t3, t4, t5⟩ := A8
      refine bodyPost_ret (v := .tuple #[.agg #[.int .i64 y.c, .int .i64 y.s, .int .i64 y.lo, .int .i64 y.hi, .slice lo y.n lc, .bool y.fu], .bool hh, .bool true]) (by simp [results, Try.results22, go_sem, t0, t1, t2, t3, t4, t5]) rfl (HF.out _ hfino hfinb2)
end Go.Proofs.Ytijondokppainaa
