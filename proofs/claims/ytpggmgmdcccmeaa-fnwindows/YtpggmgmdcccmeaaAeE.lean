/- What is read of a window and written into it. / An event: its key in a box, its agg in another. -/
import Derived.Test.YtpggmgmdcccmeaaAeS
namespace Go.Proofs.Ytpggmgmdcccmeaa
open Go.RowKit
set_option linter.unusedSimpArgs false
set_option linter.unusedVariables false

/-- The six cells of a window's agg written. -/
def setAgC (w : World) (b k : Nat) (c s lo hi : Int) (g cp : Nat) (fu : Bool) : World :=
  (((((w.setCell ⟨b, k * 11 + 3, none⟩ (.int .i64 c)).setCell ⟨b, k * 11 + 4, none⟩ (.int .i64 s)).setCell ⟨b, k * 11 + 5, none⟩ (.int .i64 lo)).setCell ⟨b, k * 11 + 6, none⟩ (.int .i64 hi)).setCell ⟨b, k * 11 + 7, none⟩ (.slice (some ⟨g, 0, none⟩) 8 cp)).setCell ⟨b, k * 11 + 8, none⟩ (.bool fu)
theorem OutW.aggC {w0 w : World} {base n k g : Nat} {v : Value} {X : Nat → Wn} {V : Nat → Value} (h : OutW w0 base v n X V) (hb : Below w0.heap.size w0 w) (hF : FBw n X) (hk : k < n) (hgs : w0.heap.size ≤ g) (hbs : base ≤ w0.heap.size) (f' : Nat → Int) (hI : IOwn w g 0 8 f') (c s lo hi : Int) (cp : Nat) (fu : Bool) :
    ∃ gv vc a0 a1 k0 k1, v = .slice (some ⟨gv, 0, none⟩) n vc ∧ base ≤ gv ∧ gv < w0.heap.size ∧ WiAt w gv (k * 11) (X k) a0 a1 k0 k1 ∧ (∀ j, j < n * 11 → w.frozen? ⟨gv, j, none⟩ = false) ∧
      BA (setAgC w gv k c s lo hi g cp fu) base w.heap.size v n (upWi X k (agW (X k) c s lo hi f' fu)) := by
  obtain ⟨gv, cap, e, hnc, h1, h2, C, l0, l1⟩ := (h.keep hb).wic hF (by omega)
  have hgv : gv < w0.heap.size := (h.own.lt gv (by rw [e]; rfl)).2
  have hgl := hI.lt
  have hne : g ≠ gv := by omega
  have hG : ∀ p, p < n * 2 → p ≠ k * 2 + 1 → gOf w.heap.size V p ≠ g := fun p hp _ hh => by
    unfold gOf at hh
    cases eo : (V p).ownBlock with
    | none => rw [eo] at hh; simp at hh; omega
    | some q => rw [eo] at hh; simp at hh; have := (h.lt hp eo).2; omega
  have C1 := C
  rw [← upWi_same X k] at C1
  have C2 := (((C1.set3 hk c).set4 hk s).set5 hk lo).set6 hk hi
  have hI2 : IOwn ((((w.setCell ⟨gv, k * 11 + 3, none⟩ (.int .i64 c)).setCell ⟨gv, k * 11 + 4, none⟩ (.int .i64 s)).setCell ⟨gv, k * 11 + 5, none⟩ (.int .i64 lo)).setCell ⟨gv, k * 11 + 6, none⟩ (.int .i64 hi)) g 0 8 f' := by
    repeat' refine iown_others ?_ (Others.setCell _ _ _ _) hne
    exact hI
  have C4 := (C2.set7 hk g 8 cp f' hne hG hI2).set8 hk fu
  refine ⟨gv, cap, _, _, _, _, e, h1, hgv, C.ent k hk, C.free, by simp [setAgC], .inr ⟨gv, cap, _, _, _, _, _, e, h1, by omega, C4, fun i hi hp => ?_, fun i hi hp => ?_⟩⟩
  · rw [upA_ne _ _ _ (show i * 2 + 0 ≠ k * 2 + 1 by omega)]
    refine l0 i hi ?_
    by_cases e' : i = k
    · subst e'; rw [upWi_at] at hp; exact hp
    · rw [upWi_ne _ _ _ e'] at hp; exact hp
  · by_cases e' : i = k
    · subst e'; rw [upA_at]; omega
    · rw [upA_ne _ _ _ (show i * 2 + 1 ≠ k * 2 + 1 by omega)]
      refine l1 i hi ?_
      rw [upWi_ne _ _ _ e'] at hp; exact hp
theorem slice_same {g g' n m c c' : Nat} (h : Value.slice (some ⟨g, 0, none⟩) n c = .slice (some ⟨g', 0, none⟩) m c') : g = g' := by
  injection h with h _ _
  injection h with h
  injection h
theorem slice_form {va : Option Addr} {g n m c c' : Nat} (h : Value.slice va n c = .slice (some ⟨g, 0, none⟩) m c') : va = some ⟨g, 0, none⟩ := by injection h
/-- The windows behind it. -/
def AgB (W : World) (base n q gv g cp : Nat) (va : Option Addr) (vc : Nat) (Y : Nat → Wn) (y : Ent) : Prop := BA (setAgC W gv q y.c y.s y.lo y.hi g cp y.fu) base W.heap.size (.slice va n vc) n (upWi Y q (agY (Y q) y))
set_option maxHeartbeats 400000 in
/-- What is read of the q-th window, and what is then written into it. -/
theorem agPrep {u : World} {base n q : Nat} {va : Option Addr} {vc : Nat} {Y : Nat → Wn} {V : Nat → Value} (h : OutW u base (.slice va n vc) n Y V) (hF : FBw n Y) (hq : q < n) (hbs : base ≤ u.heap.size) :
    ∃ gv a0 a1 k0 k1, va = some ⟨gv, 0, none⟩ ∧ base ≤ gv ∧ gv < u.heap.size ∧ WiAt u gv (q * 11) (Y q) a0 a1 k0 k1 ∧ IRow u a1 (Y q).n (Y q).f ∧ (∀ j, j < n * 11 → u.frozen? ⟨gv, j, none⟩ = false) ∧
      ∀ (W : World) (g cp : Nat) (y : Ent), Below u.heap.size u W → u.heap.size ≤ g → IOwn W g 0 8 y.f → AgB W base n q gv g cp va vc Y y := by
  obtain ⟨gv, cap, e, hnc, h1, h2, C, l0, l1⟩ := h.wic hF (by omega)
  have e1 := slice_form e
  have hI : IRow u (adOf (V (q * 2 + 1))) (Y q).n (Y q).f := by
    by_cases h0 : (Y q).n = 0
    · exact ⟨hF q hq, .inl h0⟩
    · obtain ⟨q1, _, q3⟩ := C.l1 q hq (by omega)
      have q1' : adOf (V (q * 2 + 1)) = _ := q1
      rw [q1']; exact q3.row
  have hw := C.ent q hq
  have hf := C.free
  refine ⟨gv, adOf (V (q * 2 + 0)), adOf (V (q * 2 + 1)), cpOf (V (q * 2 + 0)), cpOf (V (q * 2 + 1)), e1, h1, h2, hw, hI, hf, ?_⟩
  clear hw hf hI C l0 l1
  intro W g cp y hb hg hI
  obtain ⟨gv', vc', _, _, _, _, e', _, _, _, _, hBA⟩ := h.aggC hb hF hq hg hbs y.f hI y.c y.s y.lo y.hi cp y.fu
  have e1' : gv = gv' := slice_same (e.symm.trans e')
  unfold AgB agY
  rw [e1']
  exact hBA
/-- Two aggs in a row. -/
theorem arow_two {u : World} {x y : Ent} {a0 a1 : Option Addr} {c0 c1 : Nat} (hx : IRow u a0 x.n x.f) (hy : IRow u a1 y.n y.f) : ARow (u.alloc (.cells #[.int .i64 x.c, .int .i64 x.s, .int .i64 x.lo, .int .i64 x.hi, .slice a0 x.n c0, .bool x.fu, .int .i64 y.c, .int .i64 y.s, .int .i64 y.lo, .int .i64 y.hi, .slice a1 y.n c1, .bool y.fu] 35)) (some ⟨u.heap.size, 0, none⟩) 2 (fun i => if i = 0 then x else y) := by
  have hb := below_new u (.cells #[.int .i64 x.c, .int .i64 x.s, .int .i64 x.lo, .int .i64 x.hi, .slice a0 x.n c0, .bool x.fu, .int .i64 y.c, .int .i64 y.s, .int .i64 y.lo, .int .i64 y.hi, .slice a1 y.n c1, .bool y.fu] 35)
  refine .inr ⟨u.heap.size, 0, rfl, by simp, fun i hi => ?_⟩
  have : i = 0 ∨ i = 1 := by omega
  rcases this with rfl | rfl
  · exact ⟨a0, c0, ⟨by simp, by simp [go_sem], by simp [go_sem], by simp [go_sem], by simp [go_sem], by simp [go_sem], by simp [go_sem]⟩, hx.keep hb⟩
  · exact ⟨a1, c1, ⟨by simp, by simp [go_sem], by simp [go_sem], by simp [go_sem], by simp [go_sem], by simp [go_sem], by simp [go_sem]⟩, hy.keep hb⟩
/-- The set is written, other blocks are kept. -/
theorem WSb.thru {w w' : World} {base top p r n : Nat} {z h mk : Int} {v : Value} {Y : Nat → Wn} {S S' : ByteArray → Prop} (H : WSb w base top p r z h mk v n Y S) (ht : Thru r w w') (hs : KSet w' r S') : WSb w' base top p r z h mk v n Y S' := by
  have rb := H.rb
  have hb := ht.block p H.box.lt H.pr
  have kc : ∀ j, w'.cell? ⟨p, j, none⟩ = w.cell? ⟨p, j, none⟩ := fun j => World.cell?_of_block (w := w) (a := ⟨p, j, none⟩) hb
  exact ⟨⟨Nat.lt_of_lt_of_le H.box.lt ht.size, (kc _).trans H.box.c0, (kc _).trans H.box.c1, (kc _).trans H.box.c2, (kc _).trans H.box.c3⟩, (kc _).trans H.c4, fun j => (World.frozen?_of_block (w := w) (a := ⟨p, j, none⟩) hb).trans (H.fz j), hs, H.out.same ht.size (fun c h1 h2 => ht.block c (by have := H.out.1; omega) (by omega)), H.pr, H.pb, H.rb⟩
/-- A window's agg written in its block. -/
theorem setAg_oth (w : World) (b k : Nat) (c s lo hi : Int) (g cp : Nat) (fu : Bool) : Others b w (setAgC w b k c s lo hi g cp fu) :=
  (((((Others.setCell _ _ _ _).trans (Others.setCell _ _ _ _)).trans (Others.setCell _ _ _ _)).trans (Others.setCell _ _ _ _)).trans (Others.setCell _ _ _ _)).trans (Others.setCell _ _ _ _)
/-- The windows told by BA where one's agg is written. -/
theorem WSt.agg {u W W' : World} {base p r n gv : Nat} {z h mk : Int} {v : Value} {Y Y' : Nat → Wn} {V : Nat → Value} {S : ByteArray → Prop} (H : WSt u base p r z h mk v n Y V S) (hb : Below u.heap.size u W) (ho : Others gv W W') (hg : base ≤ gv) (hA : BA W' base W.heap.size v n Y') : WSb W' base W.heap.size p r z h mk v n Y' S := by
  have H1 := H.keep hb
  have pb := H.pb
  have rb := H.rb
  have kb := ho.block p (by omega)
  have kc : ∀ j, W'.cell? ⟨p, j, none⟩ = W.cell? ⟨p, j, none⟩ := fun j => World.cell?_of_block (w := W) (a := ⟨p, j, none⟩) kb
  exact ⟨⟨by rw [ho.size]; exact H1.box.lt, (kc _).trans H1.box.c0, (kc _).trans H1.box.c1, (kc _).trans H1.box.c2, (kc _).trans H1.box.c3⟩, (kc _).trans H1.c4, fun j => (World.frozen?_of_block (w := W) (a := ⟨p, j, none⟩) kb).trans (H1.fz j), H1.set.same (ho.block r (by omega)), hA, H.pr, pb, rb⟩
/-- What addEvent leaves. -/
def AdO (base p r lo : Nat) (z h mk : Int) (n : Nat) (Y : Nat → Wn) (S : ByteArray → Prop) (w : World) (e : Ending) (w' : World) : Prop :=
  ∃ top v, e = .returned (.int .i64 0) ∧ WSb w' base top p r z h mk v n Y S ∧ Below lo w w'
end Go.Proofs.Ytpggmgmdcccmeaa
namespace Go.Proofs.Ytpggmgmdcccmeaa
open Go.RowKit
set_option linter.unusedSimpArgs false
set_option linter.unusedVariables false

/-- A key in the box D, the agg of v in the box B, its list in G; all else below D being kept. -/
structure EvB (w W : World) (D B G : Nat) (m : ByteArray) (sv : Value) (st v : Int) : Prop where
  K : KBx w W D m sv st
  A : AAt W B 1 v v v (.slice (some ⟨G, 0, none⟩) 8 8) false
  I : IOwn W G 0 8 (oA v).f
  hB : D < B
  hG : D < G
section
variable {w W W' : World} {D B G : Nat} {m : ByteArray} {sv : Value} {st v : Int}
/-- The same, without what is kept. -/
structure EvT (W : World) (D B G : Nat) (m : ByteArray) (sv : Value) (st v : Int) : Prop where
  K : KAt W D m sv st
  A : AAt W B 1 v v v (.slice (some ⟨G, 0, none⟩) 8 8) false
  I : IOwn W G 0 8 (oA v).f
theorem EvT.keep (h : EvT W D B G m sv st v) (hb : Below W.heap.size W W') : EvT W' D B G m sv st v := ⟨h.K.keep hb, h.A.keep hb, h.I.keep hb⟩
theorem EvB.t (h : EvB w W D B G m sv st v) : EvT W D B G m sv st v := ⟨h.K.A, h.A, h.I⟩
theorem EvB.keep (h : EvB w W D B G m sv st v) (hb : Below W.heap.size W W') : EvB w W' D B G m sv st v := ⟨h.K.keep hb, h.A.keep hb, h.I.keep hb, h.hB, h.hG⟩
theorem EvB.put (h : EvB w W D B G m sv st v) (m' : ByteArray) (sv' : Value) (st' : Int) : EvB w (((W.setCell ⟨D, 0, none⟩ (.string m')).setCell ⟨D, 1, none⟩ sv').setCell ⟨D, 2, none⟩ (.int .i64 st')) D B G m' sv' st' v := by
  have oth : Others D W (((W.setCell ⟨D, 0, none⟩ (.string m')).setCell ⟨D, 1, none⟩ sv').setCell ⟨D, 2, none⟩ (.int .i64 st')) := ((Others.setCell _ _ _ _).trans (Others.setCell _ _ _ _)).trans (Others.setCell _ _ _ _)
  have h1 := h.hB
  have h2 := h.hG
  exact ⟨h.K.put m' sv' st', h.A.others oth (by omega), iown_others h.I oth (by omega), h1, h2⟩
theorem EvB.set2 (h : EvB w W D B G m sv st v) (st' : Int) : EvB w (W.setCell ⟨D, 2, none⟩ (.int .i64 st')) D B G m sv st' v := by
  have oth : Others D W (W.setCell ⟨D, 2, none⟩ (.int .i64 st')) := Others.setCell _ _ _ _
  have h1 := h.hB
  have h2 := h.hG
  exact ⟨h.K.set2 st', h.A.others oth (by omega), iown_others h.I oth (by omega), h1, h2⟩
end
end Go.Proofs.Ytpggmgmdcccmeaa
