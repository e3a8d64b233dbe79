/- PutEntry, in the model. / Entries, drawn. -/
import Derived.Test.YtiigpmhaicfocaaPp
import Derived.Test.YtiigpmhaicfocaaCeO
import Derived.Test.YtiigpmhaicfocaaDf
namespace Go.Proofs.Ytiigpmhaicfocaa
open Go.RowKit
set_option linter.unusedSimpArgs false
set_option linter.unusedVariables false

theorem OutE.base {w : World} {base base' : Nat} {v : Value} {n : Nat} {X : Nat → Ent} {V : Nat → Value} (h : OutE w base v n X V) (hb : base' ≤ base) : OutE w base' v n X V := ⟨ownsRow_mono h.own hb, fun i hi => (h.row i hi).mono hb, h.dis, h.apart⟩
theorem pX_all {X : Nat → Ent} {x : Ent} {n P : Nat} {Q : Ent → Prop} (hX : ∀ i, i < n → Q (X i)) (hx : Q x) (hP : P ≤ n) : ∀ i, i < n + 1 → Q (pX X x P i) := by
  intro i hi
  unfold pX
  split
  · exact hX _ (by omega)
  · split
    · exact hx
    · exact hX _ (by omega)

set_option maxRecDepth 100000 in
set_option maxHeartbeats 4000000 in
theorem putEntry_spec (ao : Option Addr) (n cap : Nat) (hcap : n ≤ cap) (hl : Nls ao n cap) (X : Nat → Ent) (x : Ent) (xo : Option Addr) (xc : Nat) (w : World) (hr : ERow w ao n X) (hx : IRow w xo x.n x.f) (hxb : EB x) (hn : n ≤ 1048576) (hz : ESize n X) (hzx : x.key.size ≤ 1048576 ∧ x.n ≤ 1048576) :
    Calls Try.prog 6 #[.slice ao n cap, .agg #[.string x.key, .int .i64 x.seq, .int .i64 x.kind, .int .i64 x.c, .int .i64 x.s, .int .i64 x.lo, .int .i64 x.hi, .slice xo x.n xc, .bool x.fu]] w fun e w' => EoO (GoodP X n x) (pE X n x (pc X n x 0)) w e w' := by
  have hB := below_new w (.cells #[.string x.key, .int .i64 x.seq, .int .i64 x.kind, .int .i64 x.c, .int .i64 x.s, .int .i64 x.lo, .int .i64 x.hi, .slice xo x.n xc, .bool x.fu] 28)
  have EX := EAt.new w x xo xc 28
  by_cases h60 : n < 60
  rotate_left
  · have H : Hid (¬ GoodP X n x) := fun g => h60 g.1
    have hd60 : decide ((60 : Int) ≤ (n : Int)) = true := by simp; omega
    clear EX
    go_enter Try.func6, Try.ntmps6
    go_wp2
    exact bodyPost_ret (v := .tuple #[.slice none 0 0, .bool false]) (by simp [results, Try.results6, go_sem]) rfl (.inl ⟨H.out, _, _, rfl, outE_nil _ _ _, hB⟩)
  have hd60 : decide ((60 : Int) ≤ (n : Int)) = false := by simp; omega
  have hP := (pc_le (X := X) (n := n) (e := x) (q := 0) (Nat.zero_le _)).2
  obtain ⟨P, hPe⟩ : ∃ P, pc X n x 0 = P := ⟨_, rfl⟩
  have HP : Hid (pc X n x 0 = P) := hPe
  rw [hPe] at hP ⊢
  clear hPe
  go_enter Try.func6, Try.ntmps6
  go_wp2_with fail
  generalize w.alloc (.cells #[.string x.key, .int .i64 x.seq, .int .i64 x.kind, .int .i64 x.c, .int .i64 x.s, .int .i64 x.lo, .int .i64 x.hi, .slice xo x.n xc, .bool x.fu] 28) = w0 at hB EX ⊢
  refine (goodEntries_spec _ n cap X _ (hr.keep hB) (by omega) hz).mono ?_
  rintro e w1 ⟨b1, rfl, h1, q1⟩
  have bw1 := hB.trans (q1.mono hB.size)
  have EX1 := EX.keep q1
  clear EX q1
  cases b1
  · have H : Hid (¬ GoodP X n x) := fun h => by
      have := h1.2 h.2.1
      cases this
    clear h1
    go_wp2
    exact bodyPost_ret (v := .tuple #[.slice none 0 0, .bool false]) (by simp [results, Try.results6, go_sem]) rfl (.inl ⟨H.out, _, _, rfl, outE_nil _ _ _, bw1⟩)
  have HL : Hid (GoodL X n) := h1.1 rfl
  clear h1
  have EXc := EX1
  obtain ⟨_, a0, a1, a2, a3, a4, a5, a6, a7, a8⟩ := EXc
  simp only [Nat.zero_add] at a1 a2 a3 a4 a5 a6 a7 a8
  go_wp2_with fail
  refine (goodEntry_spec x xo xc _ (hx.keep bw1) hzx.2 hxb.s).mono ?_
  rintro e w2 ⟨b2, rfl, h2, q2⟩
  have bw2 := bw1.trans (q2.mono bw1.size)
  have EX2 := EX1.keep q2
  clear EX1 q2 a0 a1 a2 a3 a4 a5 a6 a7 a8
  cases b2
  · have H : Hid (¬ GoodP X n x) := fun h => by
      have := h2.2 h.2.2.1
      cases this
    clear h2
    go_wp2
    exact bodyPost_ret (v := .tuple #[.slice none 0 0, .bool false]) (by simp [results, Try.results6, go_sem]) rfl (.inl ⟨H.out, _, _, rfl, outE_nil _ _ _, bw2⟩)
  have HE : Hid (GoodE x) := h2.1 rfl
  clear h2
  have hr2 := hr.keep bw2
  have hx2 := hx.keep bw2
  obtain ⟨hbd, hlies⟩ := hr2
  have hbd' := hbd
  go_wp2
  go_loopw [23] (fun i wr => ∃ k : Nat, k ≤ n ∧ i = .int .i64 k ∧ Hid (∀ i, i < k → (X i).seq ≠ x.seq) ∧ Below w2.heap.size w2 wr) (fun i _ => n - (intOf i).toNat)
  case atStart => exact ⟨0, Nat.zero_le _, rfl, fun i h => by omega, Below.refl _ _⟩
  case round =>
    obtain ⟨k, hk, rfl, HA, hbk⟩ := hrel
    have eb := EX2.keep hbk
    have eb' := eb
    obtain ⟨_, b0, b1, b2, b3, b4, b5, b6, b7, b8⟩ := eb'
    simp only [Nat.zero_add] at b1 b2 b3 b4 b5 b6 b7 b8
    by_cases hlt : k < n
    · obtain ⟨b, off, rfl, hblt, hc⟩ := hlies.resolve_left (by omega)
      obtain ⟨da, dc, ea0, _⟩ := hc k hlt
      obtain ⟨_, a0, a1, a2, a3, a4, a5, a6, a7, a8⟩ := ea0.keep hbk
      have hbn := below_new wr (.cells #[.string (X k).key, .int .i64 (X k).seq, .int .i64 (X k).kind, .int .i64 (X k).c, .int .i64 (X k).s, .int .i64 (X k).lo, .int .i64 (X k).hi, .slice da (X k).n dc, .bool (X k).fu] 28)
      have ebn := eb.keep hbn
      obtain ⟨_, d0, d1, d2, d3, d4, d5, d6, d7, d8⟩ := ebn
      simp only [Nat.zero_add] at d1 d2 d3 d4 d5 d6 d7 d8
      have bkn := hbk.trans (hbn.mono hbk.size)
      have bwn := bw2.trans (bkn.mono bw2.size)
      clear ea0 hc hlies hbn eb
      by_cases he : (X k).seq = x.seq
      · have hbq : ((X k).seq == x.seq) = true := by simp [he]
        have H : Hid (¬ GoodP X n x) := fun g => g.2.2.2 ⟨k, hlt, he⟩
        clear he
        go_wp2
        exact bodyPost_ret (v := .tuple #[.slice none 0 0, .bool false]) (by simp [results, Try.results6, go_sem]) rfl (.inl ⟨H.out, _, _, rfl, outE_nil _ _ _, bwn⟩)
      · have hbq : ((X k).seq == x.seq) = false := by simp [he]
        have HH : Hid (∀ i, i < k + 1 → (X i).seq ≠ x.seq) := fun i hi => by
          rcases Nat.lt_succ_iff_lt_or_eq.1 hi with h | rfl
          · exact HA.out i h
          · exact he
        clear he
        go_wp2
        go_roundw
        case rel => exact ⟨k + 1, by omega, by go_num, HH, bkn⟩
        case measure => simp [intOf]; omega
    · obtain rfl : k = n := by omega
      have HG : Hid (GoodP X k x) := ⟨h60, HL.out, HE.out, fun ⟨i, hi, h⟩ => HA.out i hi h⟩
      have bwk := bw2.trans (hbk.mono bw2.size)
      clear hlies HA
      go_wp2_with fail
      refine (l5Put_any ao k cap hcap hl X x xo xc _ (hr.keep bwk) (hx.keep bwk) hxb (by omega)).mono ?_
      rintro e w5 ⟨lo, lc, rfl, hE, hb5⟩
      rw [HP.out] at hE
      have bw5 := bwk.trans (hb5.mono bwk.size)
      clear hb5 b0 b1 b2 b3 b4 b5 b6 b7 b8 eb
      go_wp2_with fail
      refine (l5Own_any lo _ lc _ _ hE (by omega) (pX_all (Q := fun x => x.key.size ≤ 1048576 ∧ x.n ≤ 1048576) hz hzx hP)).mono ?_
      rintro e w6 ⟨v, V, rfl, hO, hb6⟩
      have bw6 := bw5.trans (hb6.mono bw5.size)
      have O6 := hO.base bw5.size
      obtain ⟨go, gc, rfl⟩ := ownsRow_form O6.own
      have OF : OutE w6 w.heap.size (.slice go (k + 1) gc) (pE X k x P).length (eL (pE X k x P)) V := by
        rw [pE_len]
        exact O6.congr (fun i hi => (pE_at X k x P hi).symm)
      clear hO hb6 O6
      go_wp2
      exact bodyPost_ret (v := .tuple #[.slice go (k + 1) gc, .bool true]) (by simp [results, Try.results6, go_sem]) rfl (.inr ⟨HG.out, _, _, rfl, OF, bw6⟩)
end Go.Proofs.Ytiigpmhaicfocaa
namespace Go.Proofs.Ytiigpmhaicfocaa
open Go.RowKit
set_option linter.unusedSimpArgs false
set_option linter.unusedVariables false

/-- What is told of a drawn entry. -/
def Sm (x : Ent) : Prop := EB x ∧ x.key.size ≤ 200 ∧ x.n ≤ 8
/-- A list of entries of the call's own; their lists lie from base on, apart from it. -/
structure GL (w : World) (base : Nat) (v : Value) (n : Nat) (X : Nat → Ent) (V : Nat → Value) : Prop where
  own : w.ownsRow base 28 9 v n ((List.range n).flatMap fun i => ecells (X i) (V i))
  row : ∀ i, i < n → ∃ lo lc, V i = .slice lo (X i).n lc ∧ HR w base lo (X i).n (X i).f ∧ ∀ g off, lo = some ⟨g, off, none⟩ → (X i).n ≠ 0 → v.ownBlock ≠ some g
  bd : ∀ i, i < n → Sm (X i)
section
variable {w w' : World} {base : Nat} {v : Value} {n : Nat} {X : Nat → Ent} {V : Nat → Value}
theorem gl_nil (w : World) (base : Nat) (X : Nat → Ent) : GL w base (.slice none 0 0) 0 X (fun _ => .slice none 0 0) :=
  ⟨World.ownsRow_nil _ _ _ _, fun i hi => absurd hi (Nat.not_lt_zero _), fun i hi => absurd hi (Nat.not_lt_zero _)⟩
theorem GL.keep (h : GL w base v n X V) (hb : Below w.heap.size w w') : GL w' base v n X V :=
  ⟨ownsRow_keep h.own hb, fun i hi => by obtain ⟨lo, lc, e, h1, h2⟩ := h.row i hi; exact ⟨lo, lc, e, h1.keep hb, h2⟩, h.bd⟩
theorem GL.grown {row : Option Nat} (h : GL w base v n X V) (g : w.grownBy w' row) (hr : ∀ k, row = some k → k < base) : GL w' base v n X V :=
  ⟨ownsRow_kept h.own g (fun k e h2 => by have := (h.own.lt k h2).1; have := hr k e; omega), fun i hi => by
    obtain ⟨lo, lc, e, h1, h2⟩ := h.row i hi
    exact ⟨lo, lc, e, h1.grown g (fun b off e1 h0 e2 => by have := hr b e2; have := h1.at' b off e1 h0; omega), h2⟩, h.bd⟩
theorem GL.erow (h : GL w base v n X V) : ∃ ao cap, v = .slice ao n cap ∧ ERow w ao n X ∧ n ≤ cap ∧ Nls ao n cap := by
  obtain ⟨ao, cap, e, hE⟩ := erow_of h.own (fun i hi => by obtain ⟨lo, lc, e, h1, _⟩ := h.row i hi; exact ⟨lo, lc, e, h1.row⟩) (fun i hi => (h.bd i hi).1)
  subst e
  refine ⟨ao, cap, rfl, hE, own_cap h.own, ?_⟩
  rcases h.own.2 with ⟨e, h0⟩ | ⟨g, cap', cur, e, _⟩
  · injection e with e1 e2 e3
    exact .inl ⟨e1, e2, e3⟩
  · injection e with e1 _ _
    exact .inr ⟨g, 0, e1⟩
theorem GL.sz (h : GL w base v n X V) : ESize n X := fun i hi => by
  have := h.bd i hi
  exact ⟨by have := this.2.1; omega, by have := this.2.2; omega⟩
theorem OutE.gl (h : OutE w base v n X V) (hb : ∀ i, i < n → Sm (X i)) : GL w base v n X V :=
  ⟨h.own, fun i hi => by
    obtain ⟨lo, lc, e, hI⟩ := (h.row i hi).row
    refine ⟨lo, lc, e, ⟨hI, fun g off e1 h0 => ?_⟩, fun g off e1 h0 => ?_⟩
    · exact ((h.row i hi).own.lt g (by rw [e, e1]; rfl)).1
    · exact h.apart i hi g (by rw [e, e1]; rfl), hb⟩
set_option maxRecDepth 100000 in
theorem GL.push (h : GL w base v n X V) (x : Ent) (xo : Option Addr) (xc : Nat) (hH : HR w base xo x.n x.f) (hfar : ∀ g off, xo = some ⟨g, off, none⟩ → x.n ≠ 0 → v.ownBlock ≠ some g) (hb : Sm x) (hn : n ≤ 1000) (hbase : base ≤ w.heap.size) (ty : TypeId) :
    ∃ v' w', (Builtin.append_ #[23, 23] ty #[v, .slice (some ⟨w.heap.size, 0, none⟩) 1 1]).run Try.prog (w.alloc (.cells #[.string x.key, .int .i64 x.seq, .int .i64 x.kind, .int .i64 x.c, .int .i64 x.s, .int .i64 x.lo, .int .i64 x.hi, .slice xo x.n xc, .bool x.fu] 28)) = .ok v' w' ∧ GL w' base v' (n + 1) (fun i => if i = n then x else X i) (fun i => if i = n then .slice xo x.n xc else V i) ∧ (w.alloc (.cells #[.string x.key, .int .i64 x.seq, .int .i64 x.kind, .int .i64 x.c, .int .i64 x.s, .int .i64 x.lo, .int .i64 x.hi, .slice xo x.n xc, .bool x.fu] 28)).grownBy w' v.ownBlock := by
  obtain ⟨i0, hi, hz0, hz1, hz2⟩ := info_parts Try.infoEnt
  have hB := below_new w (.cells #[.string x.key, .int .i64 x.seq, .int .i64 x.kind, .int .i64 x.c, .int .i64 x.s, .int .i64 x.lo, .int .i64 x.hi, .slice xo x.n xc, .bool x.fu] 28)
  have h' := h.keep hB
  have hH' := hH.keep hB
  obtain ⟨v', w', hrun, hown, hg, _, ha⟩ := run_append_own_at (P := Try.prog) (w.alloc (.cells #[.string x.key, .int .i64 x.seq, .int .i64 x.kind, .int .i64 x.c, .int .i64 x.s, .int .i64 x.lo, .int .i64 x.hi, .slice xo x.n xc, .bool x.fu] 28)) base 23 ty 28 i0 _ 9 96 Try.underlying23 hi hz0 hz1 hz2 rfl (by decide) v n _ h'.own ⟨w.heap.size, 0, none⟩ 1 1 (ecells x (.slice xo x.n xc)) rfl (nine_new w x _ 28) (ecells_one rfl) (by unfold maxLen; omega) (by omega) (by simp; omega)
  have lt' : ∀ {ao : Option Addr} {m : Nat} {f : Nat → Int} {b off : Nat}, IRow (w.alloc (.cells #[.string x.key, .int .i64 x.seq, .int .i64 x.kind, .int .i64 x.c, .int .i64 x.s, .int .i64 x.lo, .int .i64 x.hi, .slice xo x.n xc, .bool x.fu] 28)) ao m f → ao = some ⟨b, off, none⟩ → m ≠ 0 → b < (w.alloc (.cells #[.string x.key, .int .i64 x.seq, .int .i64 x.kind, .int .i64 x.c, .int .i64 x.s, .int .i64 x.lo, .int .i64 x.hi, .slice xo x.n xc, .bool x.fu] 28)).heap.size := by
    intro ao m f b off hI e h0
    obtain ⟨b', off', e', hlt, _⟩ := hI.lies.resolve_left h0
    rw [e] at e'
    injection e' with e'
    injection e' with e1 _ _
    omega
  refine ⟨v', w', hrun, ⟨?_, fun i hi => ?_, fun i hi => ?_⟩, hg⟩
  · have e : ((List.range (n + 1)).flatMap fun i => ecells (if i = n then x else X i) (if i = n then .slice xo x.n xc else V i)) = ((List.range n).flatMap fun i => ecells (X i) (V i)) ++ ecells x (.slice xo x.n xc) := by
      rw [List.range_succ, List.flatMap_append]
      congr 1
      · unfold List.flatMap
        congr 1
        refine List.map_congr_left fun i hi => ?_
        have := List.mem_range.1 hi
        rw [if_neg (by omega), if_neg (by omega)]
      · simp
    rw [e]; exact hown
  · have far2 : ∀ (b : Nat), b < (w.alloc (.cells #[.string x.key, .int .i64 x.seq, .int .i64 x.kind, .int .i64 x.c, .int .i64 x.s, .int .i64 x.lo, .int .i64 x.hi, .slice xo x.n xc, .bool x.fu] 28)).heap.size → v.ownBlock ≠ some b → v'.ownBlock ≠ some b := fun b hlt hne => by
      rcases ha with ha | ha
      · rw [ha]; exact hne
      · rw [ha]; intro e; injection e with e; omega
    by_cases e : i = n
    · simp only [e, if_true]
      exact ⟨xo, xc, rfl, hH'.grown hg (fun g off e1 h0 e2 => hfar g off e1 h0 e2), fun g off e1 h0 => far2 g (lt' hH'.row e1 h0) (hfar g off e1 h0)⟩
    · simp only [e, if_false]
      obtain ⟨lo, lc, e1, h1, h2⟩ := h'.row i (by omega)
      exact ⟨lo, lc, e1, h1.grown hg (fun g off e1 h0 e2 => h2 g off e1 h0 e2), fun g off e3 h0 => far2 g (lt' h1.row e3 h0) (h2 g off e3 h0)⟩
  · by_cases e : i = n
    · simp only [e, if_true]; exact hb
    · simp only [e, if_false]; exact h.bd i (by omega)
end
/-- Drawn entries. -/
def EsO (CB : Nat) (ao : Option Addr) (n cap : Nat) (f : Nat → Int) (A : Nat) (w : World) (e : Ending) (w' : World) : Prop :=
  ∃ (m : Nat) (lo : Option Addr) (lc : Nat) (X : Nat → Ent) (V : Nat → Value), e = .returned (.slice lo m lc) ∧ m ≤ 10 ∧ GL w' w.heap.size (.slice lo m lc) m X V ∧ CS w w' CB ao n cap f (A + 400)
theorem fresh_far {w w' : World} {base : Nat} {v : Value} {n e s : Nat} {xs : List Value} {xo : Option Addr} {m : Nat} {f : Nat → Int} (h : w.ownsRow base e s v n xs) (hH : HR w' w.heap.size xo m f) : ∀ g off, xo = some ⟨g, off, none⟩ → m ≠ 0 → v.ownBlock ≠ some g :=
  fun g off e1 h0 e2 => by have := (h.lt g e2).2; have := hH.at' g off e1 h0; omega

set_option maxRecDepth 100000 in
set_option maxHeartbeats 8000000 in
theorem entries_any {w : World} {CB : Nat} {ao : Option Addr} {n cap : Nat} {f : Nat → Int} {A : Nat} (h : CS w w CB ao n cap f A) (hA : A ≤ 80000) :
    Calls Try.prog 14 #[.pointer (some ⟨CB, 0, none⟩), .int .i64 9] w fun e w' => EsO CB ao n cap f A w e w' := by
  have hl0 := h.lt
  go_enter Try.func14, Try.ntmps14
  go_wp2_with fail
  refine (pick_s 10 (by omega) h.self (by omega)).mono ?_
  rintro e w1 ⟨x, rfl, x0, x1, C1⟩
  obtain ⟨k0, rfl⟩ := Int.eq_ofNat_of_zero_le x0
  go_wp2
  go_loopw [5, 6] (fun u q wr => ∃ (k B m : Nat) (lo : Option Addr) (lc : Nat) (X : Nat → Ent) (V : Nat → Value), u = .slice lo m lc ∧ q = .int .i64 k ∧ m + k ≤ 9 ∧ B + 30 * k ≤ A + 271 ∧ GL wr w.heap.size (.slice lo m lc) m X V ∧ CS w wr CB ao n cap f B) (fun _ q _ => (intOf q).toNat)
  case atStart => exact ⟨k0, A + 1, 0, none, 0, fun _ => dE, _, rfl, by go_num, by omega, by omega, gl_nil _ _ _, C1⟩
  case round =>
    clear C1
    obtain ⟨k, B, m, lo, lc, X, V, rfl, rfl, hmk, hBk, G, C⟩ := hrel
    by_cases hk0 : k = 0
    · subst hk0
      go_wp2_with fail
      refine (one_s 40 (by omega) C.self (by omega)).mono ?_
      rintro e w2 ⟨b2, rfl, K2⟩
      have C2 := C.trans K2
      have G2 := G.grown K2.gr (fun k e => by injection e with e; omega)
      clear C G K2
      cases b2
      · go_wp2
        go_ret
        exact ⟨m, lo, lc, X, V, rfl, by omega, G2, C2.mono (by omega)⟩
      · go_wp2_with fail
        refine (entry_any C2.self (by omega)).mono ?_
        rintro e w3 ⟨x, xo, xc, rfl, H3, S3, K3⟩
        have C3 := C2.trans K3
        have G3 := G2.grown K3.gr (fun k e => by injection e with e; omega)
        have hs2 := C2.gr.size
        have hs3 := C3.gr.size
        have hfar := fresh_far G2.own H3
        have H3' := H3.mono hs2
        obtain ⟨v4, w4, hrun, G4, g4⟩ := G3.push x xo xc H3' hfar S3 (by omega) hs3 23
        obtain ⟨lo4, lc4, rfl⟩ := ownsRow_form G4.own
        have C4 := (C3.keep (below_new w3 (.cells #[.string x.key, .int .i64 x.seq, .int .i64 x.kind, .int .i64 x.c, .int .i64 x.s, .int .i64 x.lo, .int .i64 x.hi, .slice xo x.n xc, .bool x.fu] 28))).far g4 (fun k e => (G3.own.lt k e).1)
        clear hfar G2 G3 C2 C3 K3 H3 H3'
        go_wp2_with (at_builtin; refine wpList_append_eq _ rfl (.tmp 28) (.tmp 31) 23 23 rfl rfl (.slice lo m lc) (.slice (some ⟨w3.heap.size, 0, none⟩) 1 1) (.slice lo4 (m + 1) lc4) rfl rfl w4 hrun ?_)
        go_ret
        exact ⟨m + 1, lo4, lc4, _, _, rfl, by omega, G4, C4.mono (by omega)⟩
    · have hkp : (0 : Int) < (k : Int) := by omega
      have hkd : decide ((0 : Int) < (k : Int)) = true := decide_eq_true hkp
      go_wp2_with fail
      refine (entry_any C.self (by omega)).mono ?_
      rintro e w3 ⟨x, xo, xc, rfl, H3, S3, K3⟩
      have C3 := C.trans K3
      have G3 := G.grown K3.gr (fun k e => by injection e with e; omega)
      obtain ⟨_, _, e3, E3, hcap, hnls⟩ := G3.erow
      injection e3 with e31 _ e33
      subst e31 e33
      have hs3 := C3.gr.size
      have hput := putEntry_spec lo m lc hcap hnls X x xo xc w3 E3 H3.row S3.1 (by omega) G3.sz ⟨by have := S3.2.1; omega, by have := S3.2.2; omega⟩
      have HSm : Hid (∀ i, i < m → Sm (X i)) := G3.bd
      have HSx : Hid (Sm x) := S3
      clear G C K3 H3 E3 hcap hnls S3
      go_wp2_with fail
      refine hput.mono ?_
      rintro e w4 (⟨_, v4, V4, rfl, O4, q4⟩ | ⟨_, v4, V4, rfl, O4, q4⟩)
      · have C4 := C3.keep q4
        have G4 := G3.keep q4
        clear C3 G3 hput O4 q4
        go_wp2
        go_roundw
        case rel => exact ⟨k - 1, B + 30, m, lo, lc, X, V, rfl, by go_num, by omega, by omega, G4, C4⟩
        case measure => simp [intOf]; omega
      · have C4 := C3.keep q4
        rw [pE_len] at O4
        have G4 : GL w4 w.heap.size v4 (m + 1) (eL (pE X m x (pc X m x 0))) V4 := (O4.base hs3).gl (fun i hi => by
          rw [pE_at X m x _ hi]
          exact pX_all HSm.out HSx.out (pc_le (Nat.zero_le _)).2 i hi)
        obtain ⟨lo4, lc4, rfl⟩ := ownsRow_form G4.own
        clear C3 G3 hput O4 q4 HSm HSx
        go_wp2
        go_roundw
        case rel => exact ⟨k - 1, B + 30, m + 1, lo4, lc4, _, V4, rfl, by go_num, by omega, by omega, G4, C4⟩
        case measure => simp [intOf]; omega
end Go.Proofs.Ytiigpmhaicfocaa
