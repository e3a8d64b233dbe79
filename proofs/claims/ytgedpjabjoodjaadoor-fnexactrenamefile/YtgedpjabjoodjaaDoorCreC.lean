/- l2Create. -/
import Derived.Test.YtgedpjabjoodjaaDoorCreS
namespace Go.Proofs.YtgedpjabjoodjaaDoor
open Go.RowKit
set_option linter.unusedSimpArgs false
set_option linter.unusedVariables false

theorem l2Insert_any (Q : Int) (fb : Nat) (p : Option Addr) (n c base : Nat) (F : Nat → Fil) (nm : ByteArray) (da : Option Addr) (dl dc : Nat) (sy : Int) (y : Fil) (k : Nat) (HR : Rank F n nm k) (w : World) (hq : QAt w fb Q (.slice p n c)) (hfb : fb < base) (hbs : base ≤ w.heap.size) (hr : SRow w base (.slice p n c) n F) (hx : FTis w base (Value.slice p n c).ownBlock (nm, (da, dl, dc), sy) y) (hff : ∀ j, w.frozen? ⟨fb, j, none⟩ = false) (hn : n < 1048576) :
    Calls Tryd.prog 54 #[.pointer (some ⟨fb, 0, none⟩), .agg #[.string nm, .slice da dl dc, .int .i64 sy]] w fun e w' => InsOut Q (n + 1) (insG F y k) fb base w e w' := by
  have hp : (p = none ∧ n = 0 ∧ c = 0) ∨ ∃ g, p = some ⟨g, 0, none⟩ := by
    obtain ⟨xs, hxl, hown, hdat⟩ := id hr
    rcases hown.2 with ⟨e, h0⟩ | ⟨g', cap, cur, e, _⟩
    · injection e with e1 e2 e3
      exact .inl ⟨e1, h0, e3⟩
    · injection e with e1 _ _
      exact .inr ⟨g', e1⟩
  rcases hp with ⟨rfl, rfl, rfl⟩ | ⟨g, rfl⟩
  · obtain rfl : k = 0 := by have := HR.le; omega
    exact l2Insert_nil Q fb base F nm da dl dc sy y w hq hfb hbs hr hx hff
  · exact l2Insert_some Q fb g n c base F nm da dl dc sy y k HR HR.le w hq hfb hbs hr hx hff hn

set_option maxHeartbeats 1000000 in
theorem l2Create_twice (Q : Int) (fb : Nat) (p : Option Addr) (n c base : Nat) (F : Nat → Fil) (s : ByteArray) (hat : ∀ v, AtN F n s v → 0 ≤ v) (w : World) (hq : QAt w fb Q (.slice p n c)) (hr : SRow w base (.slice p n c) n F) (hn : n ≤ 1048576) :
    Calls Tryd.prog 40 #[.pointer (some ⟨fb, 0, none⟩), .string s] w fun e w' => LOut Q 3 n F fb base w e w' := by
  obtain ⟨l1, x0, x1⟩ := id hq
  go_enter Tryd.func40, Tryd.ntmps40
  go_wp2_with fail
  refine (l2At_any Q p n c F s _ hr.row hn).mono ?_
  rintro e w1 ⟨v, rfl, hv, hb1⟩
  have hv0 := hat v hv
  clear x0 x1
  go_wp2
  go_ret
  exact ⟨p, c, rfl, hq.keep hb1, (hr.keep hb1).flow, hb1.size, hb1.mono (Nat.le_of_lt l1), fun k _ _ hk => hb1.block k hk⟩

set_option maxHeartbeats 1000000 in
theorem l2Create_full (Q : Int) (fb : Nat) (p : Option Addr) (c base : Nat) (F : Nat → Fil) (s : ByteArray) (hat : ∀ v, AtN F 40 s v → v < 0) (w : World) (hq : QAt w fb Q (.slice p 40 c)) (hr : SRow w base (.slice p 40 c) 40 F) :
    Calls Tryd.prog 40 #[.pointer (some ⟨fb, 0, none⟩), .string s] w fun e w' => LOut Q 4 40 F fb base w e w' := by
  obtain ⟨l1, x0, x1⟩ := id hq
  go_enter Tryd.func40, Tryd.ntmps40
  go_wp2_with fail
  refine (l2At_any Q p 40 c F s _ hr.row (by omega)).mono ?_
  rintro e w1 ⟨v, rfl, hv, hb1⟩
  have hv0 := hat v hv
  have hv1 : ¬ 0 ≤ v := by omega
  obtain ⟨_, y0, y1⟩ := hq.keep hb1
  clear x0 x1
  go_wp2
  go_ret
  exact ⟨p, c, rfl, hq.keep hb1, (hr.keep hb1).flow, hb1.size, hb1.mono (Nat.le_of_lt l1), fun k _ _ hk => hb1.block k hk⟩

set_option maxHeartbeats 1000000 in
theorem l2Create_new (Q : Int) (fb : Nat) (p : Option Addr) (n c base : Nat) (F : Nat → Fil) (s : ByteArray) (k : Nat) (HR : Hid (Rank F n s k)) (h40 : n < 40) (hat : ∀ v, AtN F n s v → v < 0) (w : World) (hq : QAt w fb Q (.slice p n c)) (hfb : fb < base) (hbs : base ≤ w.heap.size) (hr : SRow w base (.slice p n c) n F) (hff : ∀ j, w.frozen? ⟨fb, j, none⟩ = false) :
    Calls Tryd.prog 40 #[.pointer (some ⟨fb, 0, none⟩), .string s] w fun e w' => LOut Q 0 (n + 1) (insF F s k) fb base w e w' := by
  obtain ⟨l1, x0, x1⟩ := id hq
  go_enter Tryd.func40, Tryd.ntmps40
  go_wp2_with fail
  refine (l2At_any Q p n c F s _ hr.row (by omega)).mono ?_
  rintro e w1 ⟨v, rfl, hv, hb1⟩
  have hv0 := hat v hv
  have hv1 : ¬ 0 ≤ v := by omega
  have hq1 := hq.keep hb1
  have hr1 := hr.keep hb1
  have hff1 : ∀ j, w1.frozen? ⟨fb, j, none⟩ = false := fun j => (hb1.frozen (p := ⟨fb, j, none⟩) l1).trans (hff j)
  obtain ⟨l1', y0, y1⟩ := id hq1
  have h40' : ¬ (n : Int) = 40 := by omega
  clear x0 x1 hv
  go_wp2_with fail
  refine (l2Insert_any Q fb p n c base F s none 0 0 0 ⟨s, 0, fun _ => 0, 0⟩ k HR.out w1 hq1 hfb (Nat.le_trans hbs hb1.size) hr1 ⟨rfl, rfl, rfl, ⟨fun i => ⟨by show (0 : Int) ≤ 0; decide, by show (0 : Int) ≤ 255; decide⟩, .inl rfl⟩, fun b off e h0 => absurd rfl h0⟩ hff1 (by omega)).mono ?_
  rintro e w2 ⟨p', c', rfl, q2, s2, z2, b2, o2⟩
  clear y0 y1
  go_wp2
  go_ret
  exact ⟨p', c', rfl, q2, s2.flow, Nat.le_trans hb1.size z2, (hb1.mono (Nat.le_of_lt l1)).trans b2, fun k _ h1 h2 => (o2 k h1 (Nat.lt_of_lt_of_le h2 hb1.size)).trans (hb1.block k h2)⟩
end Go.Proofs.YtgedpjabjoodjaaDoor
