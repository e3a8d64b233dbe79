/- What is needed of entries of one key, packed. / PackKey, in both texts. / PackKey, in the program. / What PackKey answers can be held by a law. -/
import Derived.Test.YtmeckcaekkangaaGreatFlLaw
import Derived.Test.YtmeckcaekkangaaGreatLw
import Derived.Test.YtmeckcaekkangaaGreatLo
import Derived.Deep.RegionHeld3
namespace Go.Proofs.YtmeckcaekkangaaGreat
set_option maxRecDepth 100000
open Go.RowKit
set_option linter.unusedSimpArgs false
set_option linter.unusedVariables false

/-- All are joins. -/
def allJ (X : Nat → Ent) : Nat → Bool
  | 0 => true
  | k + 1 => allJ X k && ((X k).kind == 3)
theorem allJ_iff (X : Nat → Ent) : ∀ n, allJ X n = true ↔ ∀ i, i < n → (X i).kind = 3
  | 0 => by simp [allJ]
  | n + 1 => by
    unfold allJ
    rw [Bool.and_eq_true, allJ_iff X n, beq_iff_eq]
    constructor
    · rintro ⟨h1, h2⟩ i hi
      rcases Nat.lt_succ_iff_lt_or_eq.1 hi with h | rfl
      · exact h1 i h
      · exact h2
    · intro h
      exact ⟨fun i hi => h i (by omega), h n (by omega)⟩
theorem enF_at (X : Nat → Ent) (n : Nat) : ∀ f q, n ≤ q + f → enF X n f q < n → (X (enF X n f q)).kind ≠ 3
  | 0, q, h, h2 => by unfold enF at h2; omega
  | f + 1, q, h, h2 => by
    unfold enF at h2 ⊢
    split at h2
    · rename_i hc
      rw [if_pos hc]
      exact enF_at X n f (q + 1) (by omega) h2
    · rename_i hc
      rw [if_neg hc]
      intro e
      exact hc ⟨h2, e⟩
theorem need_all {X : Nat → Ent} {n : Nat} (h : 0 < n) : ((X (mN X n - 1)).kind == 3) = allJ X n := by
  have h1 := en_le (X := X) (n := n) (q := 0) (Nat.zero_le _)
  unfold mN
  by_cases hc : en X n 0 < n
  · rw [if_pos hc, Nat.add_sub_cancel]
    have h2 : (X (en X n 0)).kind ≠ 3 := enF_at X n _ 0 (by omega) hc
    have h3 : allJ X n = false := by
      cases hj : allJ X n
      · rfl
      · exact absurd ((allJ_iff X n).1 hj _ hc) h2
    rw [h3]
    simpa using h2
  · rw [if_neg hc]
    have e : en X n 0 = n := by omega
    have h3 : allJ X n = true := (allJ_iff X n).2 (fun i hi => h1.2.2 i (by omega) (by omega))
    rw [h3]
    have := (allJ_iff X n).1 h3 (n - 1) (by omega)
    simpa using this
/-- The one that is packed. -/
def pk1 (X : Nat → Ent) (n : Nat) (b : Bool) : Ent :=
  ⟨(X 0).key, (X 0).seq, if b = false ∧ allJ X n = true then 3 else 1, (fdA X n).c, (fdA X n).s, (fdA X n).lo, (fdA X n).hi, (fdA X n).n, (fdA X n).f, (fdA X n).fu⟩
/-- What is packed of entries of one key. -/
def pkX (X : Nat → Ent) (n : Nat) (b : Bool) : List Ent :=
  if n = 0 ∨ (X 0).kind = 2 then (if n = 0 ∨ b = true then [] else [X 0]) else [pk1 X n b]
theorem ERow.front {w : World} {ao : Option Addr} {n m : Nat} {X : Nat → Ent} (h : ERow w ao n X) (hm : m ≤ n) : ERow w ao m X :=
  ⟨fun i hi => h.bd i (by omega), h.lies.elim (fun h0 => .inl (by omega)) fun ⟨b, off, e, hlt, hc⟩ => .inr ⟨b, off, e, hlt, fun i hi => hc i (by omega)⟩⟩
theorem ans_of_outE {w w' : World} {v : Value} {E : List Ent} {V : Nat → Value} {n : Nat} {X : Nat → Ent} (h : OutE w' w.heap.size v n X V) (hn : n = E.length) (hX : ∀ i, i < n → X i = eL E i) (hb : Below w.heap.size w w') : AnS E w (.returned v) w' := by
  subst hn
  exact ⟨v, rfl, ca_of_outE (h.congr hX), hb⟩

/-- One entry in a new box is answered. -/
theorem one_end {w w3 : World} {x : Ent} {lo : Option Addr} {lc g : Nat} (hg : w3.heap.size = g) (bw3 : Below w.heap.size w w3) (hh : x.n = 0 ∨ ∃ q, lo = some ⟨q, 0, none⟩ ∧ w.heap.size ≤ q ∧ IOwn w3 q 0 x.n x.f) :
    CA (w3.alloc (.cells #[.string x.key, .int .i64 x.seq, .int .i64 x.kind, .int .i64 x.c, .int .i64 x.s, .int .i64 x.lo, .int .i64 x.hi, .slice lo x.n lc, .bool x.fu] 48)) w.heap.size (w3.alloc (.cells #[.string x.key, .int .i64 x.seq, .int .i64 x.kind, .int .i64 x.c, .int .i64 x.s, .int .i64 x.lo, .int .i64 x.hi, .slice lo x.n lc, .bool x.fu] 48)).heap.size (.slice (some ⟨g, 0, none⟩) 1 1) [x] ∧ Below w.heap.size w (w3.alloc (.cells #[.string x.key, .int .i64 x.seq, .int .i64 x.kind, .int .i64 x.c, .int .i64 x.s, .int .i64 x.lo, .int .i64 x.hi, .slice lo x.n lc, .bool x.fu] 48)) := by
  subst hg
  have hB := below_new w3 (.cells #[.string x.key, .int .i64 x.seq, .int .i64 x.kind, .int .i64 x.c, .int .i64 x.s, .int .i64 x.lo, .int .i64 x.hi, .slice lo x.n lc, .bool x.fu] 48)
  refine ⟨ca_one bw3.size (EAt.new w3 x lo lc 48) (fun j _ => by simp [go_sem]) ?_, bw3.trans (hB.mono bw3.size)⟩
  rcases hh with h0 | ⟨q, h1, h2, h3⟩
  · exact .inl h0
  · exact .inr ⟨q, h1, h2, by have := h3.lt; omega, h3.keep hB⟩
theorem CA.drew {w : World} {base : Nat} {v : Value} {E : List Ent} (h : CA w base w.heap.size v E) : CA w.drew base w.drew.heap.size v E := h.keep (Below.refl _ _).drew

set_option maxRecDepth 100000 in
set_option maxHeartbeats 4000000 in
theorem l8Pack_any (b off n cap : Nat) (X : Nat → Ent) (bt : Bool) (w : World) (hr : ERow w (some ⟨b, off, none⟩) n X) (hg : ∀ i, i < n → GoodE (X i)) (hn : n ≤ 1048576) (hz : ESize n X) (hcap : n ≤ cap) :
    Calls Tryz.prog 37 #[.slice (some ⟨b, off, none⟩) n cap, .bool bt] w fun e w' => AnS (pkX X n bt) w e w' := by
  by_cases h0 : n = 0
  · have e : pkX X n bt = [] := by simp [pkX, h0]
    have hnd : ((n : Int) == 0) = true := by simp [h0]
    rw [e]
    clear e h0
    go_enter Tryz.func37, Tryz.ntmps37
    go_wp2
    go_ret
    exact ⟨_, rfl, ca_nil _ _ _ _, Below.refl _ _⟩
  have hnd : ((n : Int) == 0) = false := by simp; omega
  obtain ⟨b', off', e, hblt, hc⟩ := hr.lies.resolve_left h0
  injection e with e
  injection e with e1 e2 _
  subst e1 e2
  obtain ⟨d0, c0, ea0, ir0⟩ := hc 0 (by omega)
  have k2 := ea0.c2
  rw [Nat.zero_mul, Nat.add_zero] at k2
  have h0n : 0 < n := by omega
  have hpi : (0 : Int) < (n : Int) := by omega
  by_cases hk : (X 0).kind = 2
  · have hkd : ((X 0).kind == 2) = true := by simp [hk]
    cases bt
    · have e : pkX X n false = [X 0] := by simp [pkX, hk, h0]
      rw [e]
      have hcp : 1 ≤ cap := by omega
      have hci : (1 : Int) ≤ (cap : Int) := by omega
      clear e hc
      go_enter Tryz.func37, Tryz.ntmps37
      go_wp2_with fail
      refine (l5Own_any (some ⟨b, off, none⟩) 1 cap X _ (hr.front h0n) (by omega) (fun i hi => hz i (by omega))).mono ?_
      rintro e w1 ⟨v, V, rfl, hO, hb⟩
      obtain ⟨lo, lc, rfl⟩ := ownsRow_form hO.own
      go_wp2
      go_ret
      exact ans_of_outE hO rfl (fun i hi => by rw [show i = 0 by omega]; rfl) hb
    · have e : pkX X n true = [] := by simp [pkX, hk]
      rw [e]
      clear e hc
      go_enter Tryz.func37, Tryz.ntmps37
      go_wp2
      go_ret
      exact ⟨_, rfl, ca_nil _ _ _ _, Below.refl _ _⟩
  have hkd : ((X 0).kind == 2) = false := by simp [hk]
  have hNF : ¬ NoF X n := fun h => h.elim h0 hk
  have e : pkX X n bt = [pk1 X n bt] := by unfold pkX; rw [if_neg (fun h => h.elim h0 hk)]
  rw [e]
  clear e
  obtain ⟨x, hx⟩ : ∃ x, pk1 X n bt = x := ⟨_, rfl⟩
  have HX : Hid (pk1 X n bt = x) := hx
  rw [hx]
  clear hx
  go_enter Tryz.func37, Tryz.ntmps37
  go_wp2
  go_loopw [6, 25] (fun u i wr => ∃ k : Nat, k ≤ n ∧ i = .int .i64 k ∧ u = .bool (!allJ X k) ∧ Below w.heap.size w wr) (fun _ i _ => n - (intOf i).toNat)
  case atStart => exact ⟨0, Nat.zero_le _, rfl, rfl, Below.refl _ _⟩
  case round =>
    obtain ⟨k, hk1, rfl, rfl, hbk⟩ := hrel
    by_cases hlt : k < n
    · obtain ⟨da, dc, ea, _⟩ := hc k hlt
      obtain ⟨_, a0, a1, a2, a3, a4, a5, a6, a7, a8⟩ := ea.keep hbk
      have bwn := hbk.alloc hbk.size (.cells #[.string (X k).key, .int .i64 (X k).seq, .int .i64 (X k).kind, .int .i64 (X k).c, .int .i64 (X k).s, .int .i64 (X k).lo, .int .i64 (X k).hi, .slice da (X k).n dc, .bool (X k).fu] 48)
      have HJ : Hid (allJ X (k + 1) = (allJ X k && ((X k).kind == 3))) := rfl
      clear hc ea HX hz hg hr
      cases hj : allJ X k
      · have HJ2 : Hid (allJ X (k + 1) = false) := by have := HJ.out; rw [hj] at this; exact this
        clear HJ hj
        go_wp2
        go_roundw
        case rel => exact ⟨k + 1, by omega, by go_num, by rw [HJ2.out]; rfl, bwn⟩
        case measure => simp [intOf]; omega
      · cases hk3 : ((X k).kind == 3)
        · have hk4 : ((X k).kind != 3) = true := by rw [bne, hk3]; rfl
          have HJ2 : Hid (allJ X (k + 1) = false) := by have := HJ.out; rw [hj, hk3] at this; exact this
          clear HJ hj hk3
          go_wp2
          go_roundw
          case rel => exact ⟨k + 1, by omega, by go_num, by rw [HJ2.out]; rfl, bwn⟩
          case measure => simp [intOf]; omega
        · have hk4 : ((X k).kind != 3) = false := by rw [bne, hk3]; rfl
          have HJ2 : Hid (allJ X (k + 1) = true) := by have := HJ.out; rw [hj, hk3] at this; exact this
          clear HJ hj hk3
          go_wp2
          go_roundw
          case rel => exact ⟨k + 1, by omega, by go_num, by rw [HJ2.out]; rfl, bwn⟩
          case measure => simp [intOf]; omega
    · obtain rfl : k = n := by omega
      have hrk := hr.keep hbk
      clear hc
      have hfold := l5Fold_any b off k cap X wr hrk hg hn
      have hfold2 : Calls Tryz.prog 58 #[.slice (some ⟨b, off, none⟩) k cap] wr fun e w' => FlO (fdA X k) true wr e w' := hfold.mono (fun e w' h => h.2 hNF)
      have HX2 : Hid (∀ kd : Int, (if bt = false ∧ allJ X k = true then (3 : Int) else 1) = kd → x = ⟨(X 0).key, (X 0).seq, kd, (fdA X k).c, (fdA X k).s, (fdA X k).lo, (fdA X k).hi, (fdA X k).n, (fdA X k).f, (fdA X k).fu⟩) := fun kd hkd => by rw [← HX.out, ← hkd]; rfl
      have q0 := (ea0.keep hbk).c0
      have q1 := (ea0.keep hbk).c1
      rw [Nat.zero_mul, Nat.add_zero] at q0 q1
      clear hfold HX hz hg hr hrk k2 ir0
      generalize fdA X k = y at *
      cases hj : allJ X k <;> cases bt
      all_goals
        have HX3 := HX2.out _ rfl
        simp only [hj] at HX3
        have HX4 : Hid _ := HX3
        clear HX2 HX3 hj
        go_wp2_with fail
        refine hfold2.mono ?_
        rintro e w2 ⟨lo, lc, rfl, hh, hb2⟩
        have bw2 := hbk.trans (hb2.mono hbk.size)
        have hB3 := below_new w2 (.cells #[.int .i64 y.c, .int .i64 y.s, .int .i64 y.lo, .int .i64 y.hi, .slice lo y.n lc, .bool y.fu] 46)
        have hA3 := AAt.new w2 y.c y.s y.lo y.hi (.slice lo y.n lc) y.fu 46
        have s3 : (w2.alloc (.cells #[.int .i64 y.c, .int .i64 y.s, .int .i64 y.lo, .int .i64 y.hi, .slice lo y.n lc, .bool y.fu] 46)).heap.size = w2.heap.size + 1 := by simp
        go_wp2
        generalize w2.alloc (.cells #[.int .i64 y.c, .int .i64 y.s, .int .i64 y.lo, .int .i64 y.hi, .slice lo y.n lc, .bool y.fu] 46) = w3 at *
        have bw3 := bw2.trans (hB3.mono bw2.size)
        obtain ⟨_, z0, z1, z2, z3, z4, z5⟩ := hA3
        have p0 := (hb2.trans (hB3.mono hb2.size)).cell (p := ⟨b, off, none⟩) (Nat.lt_of_lt_of_le hblt hbk.size)
        have p1 := (hb2.trans (hB3.mono hb2.size)).cell (p := ⟨b, off + 1, none⟩) (Nat.lt_of_lt_of_le hblt hbk.size)
        rw [q0] at p0
        rw [q1] at p1
        clear q0 q1 hfold2
        go_region
        go_wp2
        go_ret
        rw [HX4.out]
        obtain ⟨r1, r2⟩ := one_end (x := ⟨(X 0).key, (X 0).seq, _, y.c, y.s, y.lo, y.hi, y.n, y.f, y.fu⟩) (lo := lo) (lc := lc) s3 bw3 (hh.elim .inl fun ⟨q, g1, g2, g3⟩ => .inr ⟨q, g1, Nat.le_trans hbk.size g2, g3.keep hB3⟩)
        exact ⟨_, rfl, r1.drew, r2.drew⟩
end Go.Proofs.YtmeckcaekkangaaGreat

namespace Go.Proofs.YtmeckcaekkangaaGreat
set_option maxRecDepth 100000
open Go.RowKit
set_option linter.unusedSimpArgs false
set_option linter.unusedVariables false

/-- What PackKey leaves. -/
def PkO (X : Nat → Ent) (n : Nat) (b : Bool) (w : World) (e : Ending) (w' : World) : Prop :=
  (GoodL X n ∧ OneK X n ∧ n ≤ 300 → AnE (pkX X n b) true w e w') ∧ (¬ (GoodL X n ∧ OneK X n ∧ n ≤ 300) → AnE [] false w e w')
theorem ane_nil {w w' : World} (hb : Below w.heap.size w w') : AnE [] false w (.returned (.tuple #[.slice none 0 0, .bool false])) w' := ⟨_, rfl, ca_nil _ _ _ _, hb⟩

set_option maxHeartbeats 4000000 in
theorem packDrop_any (b off n cap : Nat) (X : Nat → Ent) (bt : Bool) (w : World) (hr : ERow w (some ⟨b, off, none⟩) n X) (hn : n ≤ 1048576) (hz : ESize n X) :
    Calls Tryz.prog 32 #[.slice (some ⟨b, off, none⟩) n cap, .bool bt] w fun e w' => AnS (if n = 0 ∨ bt = true then [] else [X 0]) w e w' := by
  by_cases h0 : n = 0
  · rw [if_pos (.inl h0)]
    have hnd : ((n : Int) == 0) = true := by simp [h0]
    clear h0
    go_enter Tryz.func32, Tryz.ntmps32
    go_wp2
    go_ret
    exact ⟨_, rfl, ca_nil _ _ _ _, Below.refl _ _⟩
  have hnd : ((n : Int) == 0) = false := by simp; omega
  cases bt
  rotate_left
  · rw [if_pos (.inr rfl)]
    go_enter Tryz.func32, Tryz.ntmps32
    go_wp2
    go_ret
    exact ⟨_, rfl, ca_nil _ _ _ _, Below.refl _ _⟩
  rw [if_neg (by simp [h0])]
  obtain ⟨b', off', e, hblt, hc⟩ := hr.lies.resolve_left h0
  injection e with e
  injection e with e1 e2 _
  subst e1 e2
  obtain ⟨d0, c0, ea0, ir0⟩ := hc 0 (by omega)
  have h0n : 0 < n := by omega
  have hpi : (0 : Int) < (n : Int) := by omega
  rw [Nat.zero_mul, Nat.add_zero] at ea0
  obtain ⟨_, a0, a1, a2, a3, a4, a5, a6, a7, a8⟩ := id ea0
  have hB := below_new w (.cells #[.string (X 0).key, .int .i64 (X 0).seq, .int .i64 (X 0).kind, .int .i64 (X 0).c, .int .i64 (X 0).s, .int .i64 (X 0).lo, .int .i64 (X 0).hi, .slice d0 (X 0).n c0, .bool (X 0).fu] 48)
  have N1 := EAt.new w (X 0) d0 c0 48
  have hx := (hz 0 h0n).2
  have ad := addOne_any none 0 w.heap.size 0 X (fun _ => .slice none 0 0) w.heap.size 0 1 (X 0) d0 c0 (w.alloc (.cells #[.string (X 0).key, .int .i64 (X 0).seq, .int .i64 (X 0).kind, .int .i64 (X 0).c, .int .i64 (X 0).s, .int .i64 (X 0).lo, .int .i64 (X 0).hi, .slice d0 (X 0).n c0, .bool (X 0).fu] 48)) (outE_nil _ _ _) N1 (ir0.keep hB) hx (by omega) hB.size
  clear hc hr hz
  go_enter Tryz.func32, Tryz.ntmps32
  go_wp2_with fail
  refine ad.mono ?_
  rintro e w2 ⟨v, V, rfl, hO, hb2⟩
  obtain ⟨lo, lc, rfl⟩ := ownsRow_form hO.own
  have bw2 := hB.trans hb2
  go_wp2
  go_ret
  exact ans_of_outE hO rfl (fun i hi => by rw [show i = 0 by omega]; rfl) bw2

set_option maxHeartbeats 4000000 in
theorem joinsAlone_any (b off n cap : Nat) (X : Nat → Ent) (w : World) (hr : ERow w (some ⟨b, off, none⟩) n X) (hn : n ≤ 1048576) (hcap : n ≤ cap) (h0 : 0 < n) :
    Calls Tryz.prog 33 #[.slice (some ⟨b, off, none⟩) n cap] w fun e w' => e = .returned (.bool (allJ X n)) ∧ Below w.heap.size w w' := by
  rw [← need_all h0]
  have hm : 0 < mN X n ∧ mN X n ≤ n := by
    have := en_le (X := X) (n := n) (q := 0) (Nat.zero_le _)
    unfold mN
    split <;> omega
  have hnd := neededOf_any (some ⟨b, off, none⟩) n cap X w hr hn hcap
  obtain ⟨b', off', e, hblt, hc⟩ := hr.lies.resolve_left (by omega)
  injection e with e
  injection e with e1 e2 _
  subst e1 e2
  obtain ⟨d0, c0, ea0, _⟩ := hc (mN X n - 1) (by omega)
  generalize mN X n = m at *
  obtain ⟨j, hj⟩ : ∃ j, m = j + 1 := ⟨m - 1, by omega⟩
  have ej : m - 1 = j := by omega
  rw [ej] at ea0 ⊢
  have hw : IntKind.i64.wrap ((m : Int) - 1) = (j : Int) := by rw [IntKind.wrap_i64]; omega
  have hjm : j < m := by omega
  clear hc ej hj hr
  go_enter Tryz.func33, Tryz.ntmps33
  go_wp2_with fail
  refine hnd.mono ?_
  rintro e w1 ⟨rfl, hb1⟩
  have k2 := (ea0.keep hb1).c2
  go_wp2
  go_ret
  exact ⟨rfl, hb1⟩
end Go.Proofs.YtmeckcaekkangaaGreat

namespace Go.Proofs.YtmeckcaekkangaaGreat
set_option maxRecDepth 100000
open Go.RowKit
set_option linter.unusedSimpArgs false
set_option linter.unusedVariables false

set_option maxRecDepth 100000 in
set_option maxHeartbeats 4000000 in
theorem packKey_impl (b off n cap : Nat) (X : Nat → Ent) (bt : Bool) (w : World) (hr : ERow w (some ⟨b, off, none⟩) n X) (hn : n ≤ 1048576) (hz : ESize n X) (hcap : n ≤ cap) :
    Calls Tryz.prog 15 #[.slice (some ⟨b, off, none⟩) n cap, .bool bt] w fun e w' => PkO X n bt w e w' := by
  have hfe := foldEntries_impl b off n cap X w hr hn hcap hz
  by_cases hOK : GoodL X n ∧ OneK X n
  rotate_left
  · have H : Hid (∀ W, Below w.heap.size w W → PkO X n bt w (.returned (.tuple #[.slice none 0 0, .bool false])) W) := fun W hb => ⟨fun h => absurd ⟨h.1, h.2.1⟩ hOK, fun _ => ane_nil hb⟩
    have hf2 : Calls Tryz.prog 31 #[.slice (some ⟨b, off, none⟩) n cap] w fun e w' => FeA dE false false w e w' := hfe.mono fun e w' h => h.1 hOK
    generalize dE = y at hf2
    clear hfe
    go_enter Tryz.func15, Tryz.ntmps15
    go_wp2_with fail
    refine hf2.mono ?_
    rintro e w1 ⟨lo, lc, rfl, hh, hb1⟩
    have bw1 := hb1.trans ((below_new w1 (.cells #[.int .i64 y.c, .int .i64 y.s, .int .i64 y.lo, .int .i64 y.hi, .slice lo y.n lc, .bool y.fu] 46)).mono hb1.size)
    go_wp2
    exact bodyPost_ret (v := .tuple #[.slice none 0 0, .bool false]) (by simp [results, Tryz.results15, go_sem]) rfl (H.out _ bw1)
  by_cases h3 : 300 < n
  · have H : Hid (∀ W, Below w.heap.size w W → PkO X n bt w (.returned (.tuple #[.slice none 0 0, .bool false])) W) := fun W hb => ⟨fun h => by have := h.2.2; omega, fun _ => ane_nil hb⟩
    have hd : decide ((300 : Int) < (n : Int)) = true := by simp; omega
    obtain ⟨y, hs, hf2⟩ : ∃ y hs, Calls Tryz.prog 31 #[.slice (some ⟨b, off, none⟩) n cap] w fun e w' => FeA y hs true w e w' := by
      by_cases hN : NoF X n
      · exact ⟨_, _, hfe.mono fun e w' h => h.2.1 hOK hN⟩
      · exact ⟨_, _, hfe.mono fun e w' h => h.2.2 hOK hN⟩
    clear hfe
    go_enter Tryz.func15, Tryz.ntmps15
    go_wp2_with fail
    refine hf2.mono ?_
    rintro e w1 ⟨lo, lc, rfl, hh, hb1⟩
    have bw1 := hb1.trans ((below_new w1 (.cells #[.int .i64 y.c, .int .i64 y.s, .int .i64 y.lo, .int .i64 y.hi, .slice lo y.n lc, .bool y.fu] 46)).mono hb1.size)
    go_wp2
    exact bodyPost_ret (v := .tuple #[.slice none 0 0, .bool false]) (by simp [results, Tryz.results15, go_sem]) rfl (H.out _ bw1)
  have hd : decide ((300 : Int) < (n : Int)) = false := by simp; omega
  have HY : Hid (∀ e W, AnE (pkX X n bt) true w e W → PkO X n bt w e W) := fun e W he => ⟨fun _ => he, fun h => absurd ⟨hOK.1, hOK.2, by omega⟩ h⟩
  by_cases hN : NoF X n
  · have hf2 : Calls Tryz.prog 31 #[.slice (some ⟨b, off, none⟩) n cap] w fun e w' => FeA dE false true w e w' := hfe.mono fun e w' h => h.2.1 hOK hN
    have e : pkX X n bt = (if n = 0 ∨ bt = true then [] else [X 0]) := by unfold pkX; exact if_pos hN
    have hpd := fun W hW => packDrop_any b off n cap X bt W hW hn hz
    rw [← e] at hpd
    generalize pkX X n bt = P at *
    generalize dE = y at hf2
    clear hfe e
    go_enter Tryz.func15, Tryz.ntmps15
    go_wp2_with fail
    refine hf2.mono ?_
    rintro e w1 ⟨lo, lc, rfl, hh, hb1⟩
    have bw1 := hb1.trans ((below_new w1 (.cells #[.int .i64 y.c, .int .i64 y.s, .int .i64 y.lo, .int .i64 y.hi, .slice lo y.n lc, .bool y.fu] 46)).mono hb1.size)
    go_wp2_with fail
    refine (hpd _ (hr.keep bw1)).mono ?_
    rintro e w2 ⟨v, rfl, hv, hb2⟩
    obtain ⟨po, pc, rfl⟩ := hv.form
    have bw2 := bw1.trans (hb2.mono bw1.size)
    go_wp2
    exact bodyPost_ret (v := .tuple #[.slice po P.length pc, .bool true]) (by simp [results, Tryz.results15, go_sem]) rfl (HY.out _ _ ⟨_, rfl, hv.mono bw1.size (Nat.le_refl _) (Nat.le_refl _), bw2⟩)
  have hf2 : Calls Tryz.prog 31 #[.slice (some ⟨b, off, none⟩) n cap] w fun e w' => FeA (fdA X n) true true w e w' := hfe.mono fun e w' h => h.2.2 hOK hN
  have h0 : ¬ n = 0 := fun h => hN (.inl h)
  have e : pkX X n bt = [pk1 X n bt] := by unfold pkX; exact if_neg hN
  rw [e] at HY
  have HX : Hid (∀ kd : Int, (if bt = false ∧ allJ X n = true then (3 : Int) else 1) = kd → pk1 X n bt = ⟨(X 0).key, (X 0).seq, kd, (fdA X n).c, (fdA X n).s, (fdA X n).lo, (fdA X n).hi, (fdA X n).n, (fdA X n).f, (fdA X n).fu⟩) := fun kd hkd => by rw [← hkd]; rfl
  obtain ⟨b', off', e', hblt, hc⟩ := hr.lies.resolve_left h0
  injection e' with e'
  injection e' with e1 e2 _
  subst e1 e2
  obtain ⟨d0, c0, ea0, _⟩ := hc 0 (by omega)
  rw [Nat.zero_mul, Nat.add_zero] at ea0
  have h0n : 0 < n := by omega
  have hpi : (0 : Int) < (n : Int) := by omega
  have hja := fun W hW => joinsAlone_any b off n cap X W hW hn hcap h0n
  generalize pk1 X n bt = x at *
  generalize fdA X n = y at *
  clear hfe e hc
  cases bt
  · cases hj : allJ X n
    · rw [hj] at hja
      have HX3 : Hid (x = ⟨(X 0).key, (X 0).seq, 1, y.c, y.s, y.lo, y.hi, y.n, y.f, y.fu⟩) := HX.out _ (by simp [hj])
      clear HX
      clear hj
      go_enter Tryz.func15, Tryz.ntmps15
      go_wp2_with fail
      refine hf2.mono ?_
      rintro e w1 ⟨lo, lc, rfl, hh, hb1⟩
      have hB2 := below_new w1 (.cells #[.int .i64 y.c, .int .i64 y.s, .int .i64 y.lo, .int .i64 y.hi, .slice lo y.n lc, .bool y.fu] 46)
      have hA2 := AAt.new w1 y.c y.s y.lo y.hi (.slice lo y.n lc) y.fu 46
      have s2 : (w1.alloc (.cells #[.int .i64 y.c, .int .i64 y.s, .int .i64 y.lo, .int .i64 y.hi, .slice lo y.n lc, .bool y.fu] 46)).heap.size = w1.heap.size + 1 := by simp
      go_wp2
      generalize w1.alloc (.cells #[.int .i64 y.c, .int .i64 y.s, .int .i64 y.lo, .int .i64 y.hi, .slice lo y.n lc, .bool y.fu] 46) = w2 at *
      have bw2 := hb1.trans (hB2.mono hb1.size)
      obtain ⟨_, z0, z1, z2, z3, z4, z5⟩ := hA2
      have p0 := (ea0.keep bw2).c0
      have p1 := (ea0.keep bw2).c1
      have hl1 : b < w2.heap.size := Nat.lt_of_lt_of_le hblt bw2.size
      have hl2 : w1.heap.size < w2.heap.size := by omega
      have hne : ¬ b = w2.heap.size := by omega
      have hne2 : ¬ b = w1.heap.size + 1 := by omega
      have hB3 := below_new w2 (.cells #[.string ⟨#[]⟩, .int .i64 0, .int .i64 0, .int .i64 0, .int .i64 0, .int .i64 0, .int .i64 0, .slice none 0 0, .bool false] 48)
      have g0 := (hB3.cell (p := ⟨b, off, none⟩) hl1).trans p0
      have g1 := (hB3.cell (p := ⟨b, off + 1, none⟩) hl1).trans p1
      have f0 := (hB3.cell (p := ⟨w1.heap.size, 0, none⟩) hl2).trans z0
      have f1 := (hB3.cell (p := ⟨w1.heap.size, 1, none⟩) hl2).trans z1
      have f2 := (hB3.cell (p := ⟨w1.heap.size, 2, none⟩) hl2).trans z2
      have f3 := (hB3.cell (p := ⟨w1.heap.size, 3, none⟩) hl2).trans z3
      have f4 := (hB3.cell (p := ⟨w1.heap.size, 4, none⟩) hl2).trans z4
      have f5 := (hB3.cell (p := ⟨w1.heap.size, 5, none⟩) hl2).trans z5
      clear hB3
      go_region
      have hN3 : EAt (w2.alloc (.cells #[.string (X 0).key, .int .i64 (X 0).seq, .int .i64 1, .int .i64 y.c, .int .i64 y.s, .int .i64 y.lo, .int .i64 y.hi, .slice lo y.n lc, .bool y.fu] 48)).drew w2.heap.size 0 ⟨(X 0).key, (X 0).seq, 1, y.c, y.s, y.lo, y.hi, y.n, y.f, y.fu⟩ lo lc := (EAt.new w2 ⟨(X 0).key, (X 0).seq, 1, y.c, y.s, y.lo, y.hi, y.n, y.f, y.fu⟩ lo lc 48).keep (Below.refl _ _).drew
      have fz3 : ∀ j, (w2.alloc (.cells #[.string (X 0).key, .int .i64 (X 0).seq, .int .i64 1, .int .i64 y.c, .int .i64 y.s, .int .i64 y.lo, .int .i64 y.hi, .slice lo y.n lc, .bool y.fu] 48)).drew.frozen? ⟨w2.heap.size, j, none⟩ = false := fun j => by simp [go_sem]
      have hB4 : Below w2.heap.size w2 (w2.alloc (.cells #[.string (X 0).key, .int .i64 (X 0).seq, .int .i64 1, .int .i64 y.c, .int .i64 y.s, .int .i64 y.lo, .int .i64 y.hi, .slice lo y.n lc, .bool y.fu] 48)).drew := (below_new w2 _).drew
      have s3 : (w2.alloc (.cells #[.string (X 0).key, .int .i64 (X 0).seq, .int .i64 1, .int .i64 y.c, .int .i64 y.s, .int .i64 y.lo, .int .i64 y.hi, .slice lo y.n lc, .bool y.fu] 48)).drew.heap.size = w1.heap.size + 1 + 1 := by simp [s2]
      generalize (w2.alloc (.cells #[.string (X 0).key, .int .i64 (X 0).seq, .int .i64 1, .int .i64 y.c, .int .i64 y.s, .int .i64 y.lo, .int .i64 y.hi, .slice lo y.n lc, .bool y.fu] 48)).drew = w3 at *
      rw [s2] at hN3 fz3
      have bw3 := bw2.trans (hB4.mono bw2.size)
      clear g0 g1 f0 f1 f2 f3 f4 f5 z0 z1 z2 z3 z4 z5 p0 p1
      go_wp2_with fail
      refine (hja _ (hr.keep bw3)).mono ?_
      rintro e w4 ⟨rfl, hb4⟩
      have bw4 := bw3.trans (hb4.mono bw3.size)
      obtain ⟨k, c0', c1', c2', c3', c4', c5', c6', c7', c8'⟩ := (hN3.keep hb4).z
      have fz4 : ∀ j, w4.frozen? ⟨w1.heap.size + 1, j, none⟩ = false := fun j => (hb4.frozen (p := ⟨w1.heap.size + 1, j, none⟩) hN3.lt).trans (fz3 j)
      have s4 := hb4.size
      have hh4 : y.n = 0 ∨ ∃ q, lo = some ⟨q, 0, none⟩ ∧ w.heap.size ≤ q ∧ q ≤ w1.heap.size ∧ IOwn w4 q 0 y.n y.f := hh.elim .inl fun ⟨q, t1, t2, t3⟩ => .inr ⟨q, t1, t2, by have := t3.lt; omega, ((t3.keep hB2).keep hB4).keep hb4⟩
      clear hja hB4 hB2 hN3 hb4 hh fz3 hr hz
      go_wp2
      obtain ⟨r1, r2⟩ := one_end (w := w) (w3 := w4) (x := ⟨(X 0).key, (X 0).seq, 1, y.c, y.s, y.lo, y.hi, y.n, y.f, y.fu⟩) (lo := lo) (lc := lc) (g := w4.heap.size) (by simp) bw4 (hh4.elim .inl fun ⟨q, t1, t2, t3, t4⟩ => .inr ⟨q, t1, t2, t4⟩)
      exact bodyPost_ret (v := .tuple #[.slice (some ⟨w4.heap.size, 0, none⟩) 1 1, .bool true]) (by simp [results, Tryz.results15, go_sem]) rfl (HY.out _ _ (by rw [HX3.out]; exact ⟨_, rfl, r1, r2⟩))
    · rw [hj] at hja
      have HX3 : Hid (x = ⟨(X 0).key, (X 0).seq, 3, y.c, y.s, y.lo, y.hi, y.n, y.f, y.fu⟩) := HX.out _ (by simp [hj])
      clear HX
      clear hj
      go_enter Tryz.func15, Tryz.ntmps15
      go_wp2_with fail
      refine hf2.mono ?_
      rintro e w1 ⟨lo, lc, rfl, hh, hb1⟩
      have hB2 := below_new w1 (.cells #[.int .i64 y.c, .int .i64 y.s, .int .i64 y.lo, .int .i64 y.hi, .slice lo y.n lc, .bool y.fu] 46)
      have hA2 := AAt.new w1 y.c y.s y.lo y.hi (.slice lo y.n lc) y.fu 46
      have s2 : (w1.alloc (.cells #[.int .i64 y.c, .int .i64 y.s, .int .i64 y.lo, .int .i64 y.hi, .slice lo y.n lc, .bool y.fu] 46)).heap.size = w1.heap.size + 1 := by simp
      go_wp2
      generalize w1.alloc (.cells #[.int .i64 y.c, .int .i64 y.s, .int .i64 y.lo, .int .i64 y.hi, .slice lo y.n lc, .bool y.fu] 46) = w2 at *
      have bw2 := hb1.trans (hB2.mono hb1.size)
      obtain ⟨_, z0, z1, z2, z3, z4, z5⟩ := hA2
      have p0 := (ea0.keep bw2).c0
      have p1 := (ea0.keep bw2).c1
      have hl1 : b < w2.heap.size := Nat.lt_of_lt_of_le hblt bw2.size
      have hl2 : w1.heap.size < w2.heap.size := by omega
      have hne : ¬ b = w2.heap.size := by omega
      have hne2 : ¬ b = w1.heap.size + 1 := by omega
      have hB3 := below_new w2 (.cells #[.string ⟨#[]⟩, .int .i64 0, .int .i64 0, .int .i64 0, .int .i64 0, .int .i64 0, .int .i64 0, .slice none 0 0, .bool false] 48)
      have g0 := (hB3.cell (p := ⟨b, off, none⟩) hl1).trans p0
      have g1 := (hB3.cell (p := ⟨b, off + 1, none⟩) hl1).trans p1
      have f0 := (hB3.cell (p := ⟨w1.heap.size, 0, none⟩) hl2).trans z0
      have f1 := (hB3.cell (p := ⟨w1.heap.size, 1, none⟩) hl2).trans z1
      have f2 := (hB3.cell (p := ⟨w1.heap.size, 2, none⟩) hl2).trans z2
      have f3 := (hB3.cell (p := ⟨w1.heap.size, 3, none⟩) hl2).trans z3
      have f4 := (hB3.cell (p := ⟨w1.heap.size, 4, none⟩) hl2).trans z4
      have f5 := (hB3.cell (p := ⟨w1.heap.size, 5, none⟩) hl2).trans z5
      clear hB3
      go_region
      have hN3 : EAt (w2.alloc (.cells #[.string (X 0).key, .int .i64 (X 0).seq, .int .i64 1, .int .i64 y.c, .int .i64 y.s, .int .i64 y.lo, .int .i64 y.hi, .slice lo y.n lc, .bool y.fu] 48)).drew w2.heap.size 0 ⟨(X 0).key, (X 0).seq, 1, y.c, y.s, y.lo, y.hi, y.n, y.f, y.fu⟩ lo lc := (EAt.new w2 ⟨(X 0).key, (X 0).seq, 1, y.c, y.s, y.lo, y.hi, y.n, y.f, y.fu⟩ lo lc 48).keep (Below.refl _ _).drew
      have fz3 : ∀ j, (w2.alloc (.cells #[.string (X 0).key, .int .i64 (X 0).seq, .int .i64 1, .int .i64 y.c, .int .i64 y.s, .int .i64 y.lo, .int .i64 y.hi, .slice lo y.n lc, .bool y.fu] 48)).drew.frozen? ⟨w2.heap.size, j, none⟩ = false := fun j => by simp [go_sem]
      have hB4 : Below w2.heap.size w2 (w2.alloc (.cells #[.string (X 0).key, .int .i64 (X 0).seq, .int .i64 1, .int .i64 y.c, .int .i64 y.s, .int .i64 y.lo, .int .i64 y.hi, .slice lo y.n lc, .bool y.fu] 48)).drew := (below_new w2 _).drew
      have s3 : (w2.alloc (.cells #[.string (X 0).key, .int .i64 (X 0).seq, .int .i64 1, .int .i64 y.c, .int .i64 y.s, .int .i64 y.lo, .int .i64 y.hi, .slice lo y.n lc, .bool y.fu] 48)).drew.heap.size = w1.heap.size + 1 + 1 := by simp [s2]
      generalize (w2.alloc (.cells #[.string (X 0).key, .int .i64 (X 0).seq, .int .i64 1, .int .i64 y.c, .int .i64 y.s, .int .i64 y.lo, .int .i64 y.hi, .slice lo y.n lc, .bool y.fu] 48)).drew = w3 at *
      rw [s2] at hN3 fz3
      have bw3 := bw2.trans (hB4.mono bw2.size)
      clear g0 g1 f0 f1 f2 f3 f4 f5 z0 z1 z2 z3 z4 z5 p0 p1
      go_wp2_with fail
      refine (hja _ (hr.keep bw3)).mono ?_
      rintro e w4 ⟨rfl, hb4⟩
      have bw4 := bw3.trans (hb4.mono bw3.size)
      obtain ⟨k, c0', c1', c2', c3', c4', c5', c6', c7', c8'⟩ := (hN3.keep hb4).z
      have fz4 : ∀ j, w4.frozen? ⟨w1.heap.size + 1, j, none⟩ = false := fun j => (hb4.frozen (p := ⟨w1.heap.size + 1, j, none⟩) hN3.lt).trans (fz3 j)
      have s4 := hb4.size
      have hh4 : y.n = 0 ∨ ∃ q, lo = some ⟨q, 0, none⟩ ∧ w.heap.size ≤ q ∧ q ≤ w1.heap.size ∧ IOwn w4 q 0 y.n y.f := hh.elim .inl fun ⟨q, t1, t2, t3⟩ => .inr ⟨q, t1, t2, by have := t3.lt; omega, ((t3.keep hB2).keep hB4).keep hb4⟩
      clear hja hB4 hB2 hN3 hb4 hh fz3 hr hz
      go_wp2
      obtain ⟨r1, r2⟩ := one_end (w := w) (w3 := w4.setCell ⟨w1.heap.size + 1, 2, none⟩ (.int .i64 3)) (x := ⟨(X 0).key, (X 0).seq, 3, y.c, y.s, y.lo, y.hi, y.n, y.f, y.fu⟩) (lo := lo) (lc := lc) (g := w4.heap.size) (by simp) (bw4.setCell (p := ⟨w1.heap.size + 1, 2, none⟩) (by have := hb1.size; show w.heap.size ≤ w1.heap.size + 1; omega) _) (hh4.elim .inl fun ⟨q, t1, t2, t3, t4⟩ => .inr ⟨q, t1, t2, (Others.setCell _ _ _ _).irow t4 (by omega)⟩)
      exact bodyPost_ret (v := .tuple #[.slice (some ⟨w4.heap.size, 0, none⟩) 1 1, .bool true]) (by simp [results, Tryz.results15, go_sem]) rfl (HY.out _ _ (by rw [HX3.out]; exact ⟨_, rfl, r1, r2⟩))
  · clear hja
    have HX3 : Hid (x = ⟨(X 0).key, (X 0).seq, 1, y.c, y.s, y.lo, y.hi, y.n, y.f, y.fu⟩) := HX.out _ (by simp)
    clear HX
    go_enter Tryz.func15, Tryz.ntmps15
    go_wp2_with fail
    refine hf2.mono ?_
    rintro e w1 ⟨lo, lc, rfl, hh, hb1⟩
    have hB2 := below_new w1 (.cells #[.int .i64 y.c, .int .i64 y.s, .int .i64 y.lo, .int .i64 y.hi, .slice lo y.n lc, .bool y.fu] 46)
    have hA2 := AAt.new w1 y.c y.s y.lo y.hi (.slice lo y.n lc) y.fu 46
    have s2 : (w1.alloc (.cells #[.int .i64 y.c, .int .i64 y.s, .int .i64 y.lo, .int .i64 y.hi, .slice lo y.n lc, .bool y.fu] 46)).heap.size = w1.heap.size + 1 := by simp
    go_wp2
    generalize w1.alloc (.cells #[.int .i64 y.c, .int .i64 y.s, .int .i64 y.lo, .int .i64 y.hi, .slice lo y.n lc, .bool y.fu] 46) = w2 at *
    have bw2 := hb1.trans (hB2.mono hb1.size)
    obtain ⟨_, z0, z1, z2, z3, z4, z5⟩ := hA2
    have p0 := (ea0.keep bw2).c0
    have p1 := (ea0.keep bw2).c1
    have hl1 : b < w2.heap.size := Nat.lt_of_lt_of_le hblt bw2.size
    have hl2 : w1.heap.size < w2.heap.size := by omega
    have hne : ¬ b = w2.heap.size := by omega
    have hne2 : ¬ b = w1.heap.size + 1 := by omega
    have hB3 := below_new w2 (.cells #[.string ⟨#[]⟩, .int .i64 0, .int .i64 0, .int .i64 0, .int .i64 0, .int .i64 0, .int .i64 0, .slice none 0 0, .bool false] 48)
    have g0 := (hB3.cell (p := ⟨b, off, none⟩) hl1).trans p0
    have g1 := (hB3.cell (p := ⟨b, off + 1, none⟩) hl1).trans p1
    have f0 := (hB3.cell (p := ⟨w1.heap.size, 0, none⟩) hl2).trans z0
    have f1 := (hB3.cell (p := ⟨w1.heap.size, 1, none⟩) hl2).trans z1
    have f2 := (hB3.cell (p := ⟨w1.heap.size, 2, none⟩) hl2).trans z2
    have f3 := (hB3.cell (p := ⟨w1.heap.size, 3, none⟩) hl2).trans z3
    have f4 := (hB3.cell (p := ⟨w1.heap.size, 4, none⟩) hl2).trans z4
    have f5 := (hB3.cell (p := ⟨w1.heap.size, 5, none⟩) hl2).trans z5
    clear hB3
    go_region
    have hN3 : EAt (w2.alloc (.cells #[.string (X 0).key, .int .i64 (X 0).seq, .int .i64 1, .int .i64 y.c, .int .i64 y.s, .int .i64 y.lo, .int .i64 y.hi, .slice lo y.n lc, .bool y.fu] 48)).drew w2.heap.size 0 ⟨(X 0).key, (X 0).seq, 1, y.c, y.s, y.lo, y.hi, y.n, y.f, y.fu⟩ lo lc := (EAt.new w2 ⟨(X 0).key, (X 0).seq, 1, y.c, y.s, y.lo, y.hi, y.n, y.f, y.fu⟩ lo lc 48).keep (Below.refl _ _).drew
    have fz3 : ∀ j, (w2.alloc (.cells #[.string (X 0).key, .int .i64 (X 0).seq, .int .i64 1, .int .i64 y.c, .int .i64 y.s, .int .i64 y.lo, .int .i64 y.hi, .slice lo y.n lc, .bool y.fu] 48)).drew.frozen? ⟨w2.heap.size, j, none⟩ = false := fun j => by simp [go_sem]
    have hB4 : Below w2.heap.size w2 (w2.alloc (.cells #[.string (X 0).key, .int .i64 (X 0).seq, .int .i64 1, .int .i64 y.c, .int .i64 y.s, .int .i64 y.lo, .int .i64 y.hi, .slice lo y.n lc, .bool y.fu] 48)).drew := (below_new w2 _).drew
    have s3 : (w2.alloc (.cells #[.string (X 0).key, .int .i64 (X 0).seq, .int .i64 1, .int .i64 y.c, .int .i64 y.s, .int .i64 y.lo, .int .i64 y.hi, .slice lo y.n lc, .bool y.fu] 48)).drew.heap.size = w1.heap.size + 1 + 1 := by simp [s2]
    generalize (w2.alloc (.cells #[.string (X 0).key, .int .i64 (X 0).seq, .int .i64 1, .int .i64 y.c, .int .i64 y.s, .int .i64 y.lo, .int .i64 y.hi, .slice lo y.n lc, .bool y.fu] 48)).drew = w3 at *
    rw [s2] at hN3 fz3
    have bw3 := bw2.trans (hB4.mono bw2.size)
    clear g0 g1 f0 f1 f2 f3 f4 f5 z0 z1 z2 z3 z4 z5 p0 p1
    obtain ⟨w4, hw4⟩ : ∃ w4, w4 = w3 := ⟨_, rfl⟩
    have bw4 : Below w.heap.size w w4 := by rw [hw4]; exact bw3
    have hb4 : Below w3.heap.size w3 w4 := by rw [hw4]; exact Below.refl _ _
    obtain ⟨k, c0', c1', c2', c3', c4', c5', c6', c7', c8'⟩ := (hN3.keep hb4).z
    have fz4 : ∀ j, w4.frozen? ⟨w1.heap.size + 1, j, none⟩ = false := fun j => (hb4.frozen (p := ⟨w1.heap.size + 1, j, none⟩) hN3.lt).trans (fz3 j)
    have s4 := hb4.size
    rw [← hw4]
    clear hw4
    have hh4 : y.n = 0 ∨ ∃ q, lo = some ⟨q, 0, none⟩ ∧ w.heap.size ≤ q ∧ q ≤ w1.heap.size ∧ IOwn w4 q 0 y.n y.f := hh.elim .inl fun ⟨q, t1, t2, t3⟩ => .inr ⟨q, t1, t2, by have := t3.lt; omega, ((t3.keep hB2).keep hB4).keep hb4⟩
    clear hB4 hB2 hN3 hb4 hh fz3 hr hz
    go_wp2
    obtain ⟨r1, r2⟩ := one_end (w := w) (w3 := w4) (x := ⟨(X 0).key, (X 0).seq, 1, y.c, y.s, y.lo, y.hi, y.n, y.f, y.fu⟩) (lo := lo) (lc := lc) (g := w4.heap.size) (by simp) bw4 (hh4.elim .inl fun ⟨q, t1, t2, t3, t4⟩ => .inr ⟨q, t1, t2, t4⟩)
    exact bodyPost_ret (v := .tuple #[.slice (some ⟨w4.heap.size, 0, none⟩) 1 1, .bool true]) (by simp [results, Tryz.results15, go_sem]) rfl (HY.out _ _ (by rw [HX3.out]; exact ⟨_, rfl, r1, r2⟩))
end Go.Proofs.YtmeckcaekkangaaGreat

namespace Go.Proofs.YtmeckcaekkangaaGreat
set_option maxRecDepth 100000
open Go.RowKit
set_option linter.unusedSimpArgs false
set_option linter.unusedVariables false

theorem fdA_ai {X : Nat → Ent} {n : Nat} (hg : ∀ i, i < n → GoodE (X i)) : AI (fdA X n) := by
  have h1 := en_le (X := X) (n := n) (q := 0) (Nat.zero_le _)
  have hm : mN X n ≤ n := by unfold mN; split <;> omega
  exact fdn_ai hg hm _ (Nat.le_refl _)
theorem AI.n8 {a : Ent} (h : AI a) : a.n = 8 := by rw [← h.can]; rfl
theorem pkX_sm {X : Nat → Ent} {n : Nat} {bt : Bool} (hg : ∀ i, i < n → GoodE (X i)) (he : ∀ i, i < n → EB (X i)) (hf : ∀ i, i < n → ∀ j, -9223372036854775808 ≤ (X i).f j ∧ (X i).f j ≤ 9223372036854775807) : SmL (pkX X n bt) := by
  intro x hx
  unfold pkX at hx
  split at hx
  · split at hx
    · cases hx
    · rename_i h
      rw [List.mem_singleton.1 hx]
      have h0 : 0 < n := by omega
      exact (hg 0 h0).sm (he 0 h0) (hf 0 h0)
  · rename_i h
    rw [List.mem_singleton.1 hx]
    have h0 : 0 < n := by omega
    have ha := fdA_ai hg
    have hs := (hg 0 h0).sm (he 0 h0) (hf 0 h0)
    exact ⟨hs.key, by show (fdA X n).n ≤ 8; rw [ha.n8]; omega, ⟨hs.eb.seq, ha.s, hs.eb.key, by show (fdA X n).n ≤ _; rw [ha.n8]; omega⟩, fun j => by have := ha.f j; show _ ≤ (fdA X n).f j ∧ (fdA X n).f j ≤ _; omega⟩
theorem pkX_len (X : Nat → Ent) (n : Nat) (bt : Bool) : (pkX X n bt).length ≤ 1 := by
  unfold pkX
  split
  · split <;> simp
  · simp
theorem pko_of {w : World} {ao : Option Addr} {X : Nat → Ent} {n : Nat} {bt : Bool} (hr : ERow w ao n X) : ∃ (E : List Ent) (c : Bool), SmL E ∧ E.length ≤ 1000 ∧ ∀ w e w', PkO X n bt w e w' → AnE E c w e w' := by
  by_cases h : GoodL X n ∧ OneK X n ∧ n ≤ 300
  · exact ⟨pkX X n bt, true, pkX_sm h.1.1 hr.bd hr.fb, by have := pkX_len X n bt; omega, fun w e w' hp => hp.1 h⟩
  · exact ⟨[], false, (fun x hx => nomatch hx), by simp, fun w e w' hp => hp.2 h⟩
end Go.Proofs.YtmeckcaekkangaaGreat
