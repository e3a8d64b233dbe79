/- The order of the sort; what the comparison is asked is what it says; the sort as it is called. -/
import Derived.Test.YtjdijikmdlklkaaYk
import Derived.Test.YtjdijikmdlklkaaYe
namespace Go.Proofs.Ytjdijikmdlklkaa
open Go.RowKit
set_option linter.unusedSimpArgs false
set_option linter.unusedVariables false

theorem ltL_tot : ∀ a b, a ≠ b → ltL a b ∨ ltL b a
  | [], [], h => absurd rfl h
  | [], _ :: _, _ => .inl trivial
  | _ :: _, [], _ => .inr trivial
  | x :: a, y :: b, h => by
    rcases Int.lt_trichotomy x y with k | k | k
    · exact .inl (.inl k)
    · subst k
      rcases ltL_tot a b (fun e => h (by rw [e])) with q | q
      · exact .inl (.inr ⟨rfl, q⟩)
      · exact .inr (.inr ⟨rfl, q⟩)
    · exact .inr (.inl k)
/-- The order of the sort: by keys, by versions, as at first. -/
def RT (X : Nat → Wn) (i j : Nat) : Prop := ltL (kbW (X i)) (kbW (X j)) ∨ (kbW (X i) = kbW (X j) ∧ ((X i).ver < (X j).ver ∨ ((X i).ver = (X j).ver ∧ i < j)))
theorem RT_ord (X : Nat → Wn) : TOrd (RT X) := by
  refine ⟨?_, ?_, ?_⟩
  · intro i j k h g
    rcases h with h | ⟨h1, h⟩
    · rcases g with g | ⟨g1, g⟩
      · exact .inl (ltL_trans _ _ _ h g)
      · exact .inl (g1 ▸ h)
    · rcases g with g | ⟨g1, g⟩
      · exact .inl (h1 ▸ g)
      · exact .inr ⟨h1.trans g1, by omega⟩
  · intro i h
    rcases h with h | ⟨_, h | ⟨_, h⟩⟩
    · exact ltL_irr _ h
    · omega
    · omega
  · intro i j h
    by_cases e : kbW (X i) = kbW (X j)
    · by_cases e2 : (X i).ver < (X j).ver
      · exact .inl (.inr ⟨e, .inl e2⟩)
      · by_cases e3 : (X j).ver < (X i).ver
        · exact .inr (.inr ⟨e.symm, .inl e3⟩)
        · rcases Nat.lt_or_gt_of_ne h with k | k
          · exact .inl (.inr ⟨e, .inr ⟨by omega, k⟩⟩)
          · exact .inr (.inr ⟨e.symm, .inr ⟨by omega, k⟩⟩)
    · rcases ltL_tot _ _ e with k | k
      · exact .inl (.inl k)
      · exact .inr (.inl k)
theorem kc_kb {x y : Wn} (hx : gK x = true) (hy : gK y = true) : kc x y = 0 ↔ kbW x = kbW y := by
  refine ⟨kb_eq, fun h => ?_⟩
  rcases kc_three x y with e | e | e
  · have := (kc_iff hx hy).1 (by omega)
    rw [h] at this
    exact (ltL_irr _ this).elim
  · exact e
  · have := (kc_iff hy hx).1 (by rw [kc_swap]; omega)
    rw [h] at this
    exact (ltL_irr _ this).elim
theorem tk_neg {x y : Wn} (hx : gK x = true) (hy : gK y = true) : tk x y < 0 ↔ ltL (kbW x) (kbW y) ∨ (kbW x = kbW y ∧ x.ver < y.ver) := by
  have e : tk x y = if kc x y = 0 then cmpI x.ver y.ver else kc x y := by
    have t0 : tkC x y 0 = kc x y := rfl
    have t1 : tkC x y (0 + 1) = cmpI x.ver y.ver := rfl
    unfold tk tc
    rw [t0]
    by_cases h : kc x y = 0
    · rw [if_pos h, if_pos h]
      unfold tc
      rw [t1]
      split
      · rename_i k; rw [k]; rfl
      · rfl
    · rw [if_neg h, if_neg h]
  rw [e]
  by_cases h : kc x y = 0
  · rw [if_pos h]
    have hk := (kc_kb hx hy).1 h
    constructor
    · intro k
      refine .inr ⟨hk, ?_⟩
      unfold cmpI at k
      split at k <;> (try split at k) <;> omega
    · rintro (k | ⟨_, k⟩)
      · rw [hk] at k; exact (ltL_irr _ k).elim
      · unfold cmpI; rw [if_pos k]; omega
  · rw [if_neg h, kc_iff hx hy]
    refine ⟨.inl, ?_⟩
    rintro (k | ⟨k, _⟩)
    · exact k
    · exact absurd ((kc_kb hx hy).2 k) h
/-- A told one's ten cells. -/
def tC (x : Wn) (a0 : Option Addr) (c0 : Nat) (a1 : Option Addr) (c1 : Nat) (j : Nat) : Value := #[.string x.m, .slice a0 x.tn c0, .int .i64 x.st, .int .i64 x.ver, .int .i64 x.c, .int .i64 x.s, .int .i64 x.lo, .int .i64 x.hi, .slice a1 x.n c1, .bool x.fu].getD j undef
theorem tv_tC (x : Wn) (a0 : Option Addr) (c0 : Nat) (a1 : Option Addr) (c1 : Nat) : tv (tC x a0 c0 a1 c1) = .agg #[.string x.m, .slice a0 x.tn c0, .int .i64 x.st, .int .i64 x.ver, .int .i64 x.c, .int .i64 x.s, .int .i64 x.lo, .int .i64 x.hi, .slice a1 x.n c1, .bool x.fu] := rfl
theorem tC_one (x : Wn) (a0 : Option Addr) (c0 : Nat) (a1 : Option Addr) (c1 : Nat) : ∀ j, j < 10 → (tC x a0 c0 a1 c1 j).oneCell' = true := by
  intro j hj
  rcases (show j = 0 ∨ j = 1 ∨ j = 2 ∨ j = 3 ∨ j = 4 ∨ j = 5 ∨ j = 6 ∨ j = 7 ∨ j = 8 ∨ j = 9 by omega) with rfl | rfl | rfl | rfl | rfl | rfl | rfl | rfl | rfl | rfl <;> rfl
/-- Tags and values lie outside block B. -/
structure Far (w : World) (B : Nat) (x : Wn) (a0 a1 : Option Addr) : Prop where
  tr : x.tn = 0 ∨ ∃ b off, a0 = some ⟨b, off, none⟩ ∧ b < w.heap.size ∧ b ≠ B ∧ ∀ i, i < x.tn → w.cell? ⟨b, off + i * 2, none⟩ = some (.string (x.nm i)) ∧ w.cell? ⟨b, off + i * 2 + 1, none⟩ = some (.string (x.vl i))
  ir : x.n = 0 ∨ ∃ b off, a1 = some ⟨b, off, none⟩ ∧ b < w.heap.size ∧ b ≠ B ∧ ∀ i, i < x.n → w.cell? ⟨b, off + i, none⟩ = some (.int .i64 (x.f i))
  bd : ∀ i, -9223372036854775808 ≤ x.f i ∧ x.f i ≤ 9223372036854775807
theorem Far.irow {w : World} {B : Nat} {x : Wn} {a0 a1 : Option Addr} (h : Far w B x a0 a1) : IRow w a1 x.n x.f := ⟨h.bd, h.ir.elim .inl fun ⟨b, off, e, h1, _, h3⟩ => .inr ⟨b, off, e, h1, h3⟩⟩
theorem Far.trow {w : World} {B : Nat} {x : Wn} {a0 a1 : Option Addr} (h : Far w B x a0 a1) : TRow w a0 x.tn x.nm x.vl := ⟨h.tr.elim .inl fun ⟨b, off, e, h1, _, h3⟩ => .inr ⟨b, off, e, h1, h3⟩⟩
theorem Far.wr {w w' : World} {B : Nat} {x : Wn} {a0 a1 : Option Addr} (h : Far w B x a0 a1) (hw : WrB B w w') : Far w' B x a0 a1 := by
  refine ⟨h.tr.elim .inl fun ⟨b, off, e, h1, h2, h3⟩ => .inr ⟨b, off, e, Nat.lt_of_lt_of_le h1 hw.size, h2, fun i hi => ?_⟩, h.ir.elim .inl fun ⟨b, off, e, h1, h2, h3⟩ => .inr ⟨b, off, e, Nat.lt_of_lt_of_le h1 hw.size, h2, fun i hi => ?_⟩, h.bd⟩
  · exact ⟨(World.cell?_of_block (w := w) (a := ⟨b, off + i * 2, none⟩) (hw.block b h1 h2)).trans (h3 i hi).1, (World.cell?_of_block (w := w) (a := ⟨b, off + i * 2 + 1, none⟩) (hw.block b h1 h2)).trans (h3 i hi).2⟩
  · exact (World.cell?_of_block (w := w) (a := ⟨b, off + i, none⟩) (hw.block b h1 h2)).trans (h3 i hi)
/-- All of them do. -/
def FarA (B : Nat) (X : Nat → Wn) (A0 A1 : Nat → Option Addr) (w : World) : Prop := ∀ v, Far w B (X v) (A0 v) (A1 v)
theorem cmp_ok (B : Nat) (X : Nat → Wn) (A0 A1 : Nat → Option Addr) (K0 K1 : Nat → Nat) (hg : ∀ v, gK (X v) = true) (hS : ∀ v, WiS (X v)) : CmpOk B (fun v => tC (X v) (A0 v) (K0 v) (A1 v) (K1 v)) (RT X) (FarA B X A0 A1) := by
  refine ⟨fun w w' h hw v => (h v).wr hw, fun j i W hW hij => ?_⟩
  have h := compareTolds_any (X j) (X i) (A0 j) (A1 j) (A0 i) (A1 i) (K0 j) (K1 j) (K0 i) (K1 i) W (hW j).trow (hW i).trow (hS j) (hS i) (hg j) (hg i)
  refine h.mono ?_
  rintro e w' ⟨rfl, hb⟩
  refine ⟨_, rfl, ?_, hb⟩
  rw [tk_neg (hg j) (hg i)]
  constructor
  · rintro (k | ⟨k, k2⟩)
    · exact .inl k
    · exact .inr ⟨k, .inl k2⟩
  · rintro (k | ⟨k, k2 | ⟨_, k2⟩⟩)
    · exact .inl k
    · exact .inr ⟨k, k2⟩
    · omega

set_option maxHeartbeats 2000000 in
theorem sortStable_any (B n cap : Nat) (C : Nat → Nat → Value) (R : Nat → Nat → Prop) (G : World → Prop) (hR : TOrd R) (hC : CmpOk B C R G) (h1 : ∀ v j, j < 10 → (C v j).oneCell' = true) (hn : n ≤ 1000) (hcap : n ≤ cap) (w : World) (h : AR w B n C (fun i => i)) (hG : G w) :
    Calls Try.prog 18 #[.slice (some ⟨B, 0, none⟩) n cap, .func (.func 19) #[] #[]] w fun e w' => MgO B n C R (fun i => i) 0 n w e w' := by
  have hro := stable_any B n cap C R G hR hC h1 hn hcap (fun i => i) w h hG (fun i j _ h _ => h)
  clear h hG
  go_enter Try.func18, Try.ntmps18
  go_wp2_with fail
  refine hro.mono ?_
  rintro e w' ⟨⟨u, rfl⟩, y, q1, q2, q3, q4⟩
  clear hro
  go_wp2
  go_end0
  exact ⟨⟨_, rfl⟩, y, q1, q2, q3, q4⟩
end Go.Proofs.Ytjdijikmdlklkaa
