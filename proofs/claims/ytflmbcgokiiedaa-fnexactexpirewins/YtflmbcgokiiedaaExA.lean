/- ExpireWins: both texts' outcome in one form; boards marked by their sets of blocks. -/
import Derived.Test.YtflmbcgokiiedaaEy
namespace Go.Proofs.Ytflmbcgokiiedaa
open Go.RowKit
set_option linter.unusedSimpArgs false
set_option linter.unusedVariables false

theorem BdAt.rngE {w w' : World} {b lo hi : Nat} {z h mk : Int} {sv : Value} (H : BdAt w b z h mk sv) (hr : Rng lo hi w w') (hb : b < lo ∨ hi ≤ b) : BdAt w' b z h mk sv :=
  have k : ∀ j, w'.cell? ⟨b, j, none⟩ = w.cell? ⟨b, j, none⟩ := fun j => World.cell?_of_block (w := w) (a := ⟨b, j, none⟩) (hr.block b H.lt hb)
  ⟨Nat.lt_of_lt_of_le H.lt hr.size, (k _).trans H.c0, (k _).trans H.c1, (k _).trans H.c2, (k _).trans H.c3⟩
theorem BdAt.frm {w w' : World} {b : Nat} {P : Nat → Prop} {z h mk : Int} {sv : Value} (H : BdAt w b z h mk sv) (hr : Frm P w w') (hb : ¬ P b) : BdAt w' b z h mk sv :=
  have k : ∀ j, w'.cell? ⟨b, j, none⟩ = w.cell? ⟨b, j, none⟩ := fun j => World.cell?_of_block (w := w) (a := ⟨b, j, none⟩) (hr.block b H.lt hb)
  ⟨Nat.lt_of_lt_of_le H.lt hr.size, (k _).trans H.c0, (k _).trans H.c1, (k _).trans H.c2, (k _).trans H.c3⟩
theorem BP.rng {w w' : World} {Q : Nat → Prop} {lo hi n : Nat} {v : Value} {X : Nat → Wn} (h : BP w Q v n X) (hr : Rng lo hi w w') (hd : ∀ c, Q c → c < lo ∨ hi ≤ c) : BP w' Q v n X :=
  h.same hr.size (fun c hc => hr.block c (h.1 c hc) (hd c hc))
theorem KP.rng {w w' : World} {Q : Nat → Prop} {lo hi n : Nat} {v : Value} {X : Nat → Wn} (h : KP w Q v n X) (hr : Rng lo hi w w') (hd : ∀ c, Q c → c < lo ∨ hi ≤ c) : KP w' Q v n X :=
  h.same hr.size (fun c hc => hr.block c (h.1 c hc) (hd c hc))
theorem KP.cln {w : World} {Q : Nat → Prop} {n : Nat} {v : Value} {X : Nat → Wn} {L : List Nat} (h : KP w Q v n (atL (cln X) L)) : KP w Q v n (atL X L) := by
  refine ⟨h.1, h.2.imp id ?_⟩
  rintro ⟨g, cap, A0, K0, G, e, q1, hC, q2⟩
  refine ⟨g, cap, A0, K0, G, e, q1, ⟨hC.lt, fun i hi => ?_, hC.free, fun i hi => hC.l0 i hi, hC.dis⟩, fun i hi => q2 i hi⟩
  obtain ⟨l, c0, c1, c2⟩ := hC.ent i hi
  exact ⟨l, c0, c1, c2⟩

set_option maxHeartbeats 800000 in
theorem markBoardP (z h mk : Int) (v : Value) (Q : Nat → Prop) (n k0 : Nat) (X : Nat → Wn) (w : World) (hA : BP w Q v n X) (hk0 : 1 ≤ k0) (hk1 : k0 ≤ 4398046511104) (hz : WiSize n X) (hn : n ≤ 1048576) :
    Calls Try.prog 12 #[.agg #[.int .i64 z, .int .i64 h, .int .i64 mk, v], .int .i64 k0] w fun e w' => e = .returned (.int .i64 (kOWi X k0 n : Int)) ∧ BP w' Q v n (mAWi X k0 n) ∧ Frm Q w w' := by
  have hB := below_new w (.cells #[.int .i64 z, .int .i64 h, .int .i64 mk, v] 28)
  have hm := markBP v Q n k0 X _ (hA.keep hB) hk0 hk1 hz hn
  obtain ⟨lo, lc, rfl⟩ := hA.form
  go_enter Try.func12, Try.ntmps12
  go_wp2_with fail
  refine hm.mono ?_
  rintro e w1 ⟨rfl, h1, h2⟩
  have H1 : Hid (BP w1 Q (.slice lo n lc) n (mAWi X k0 n)) := h1
  have h3 := (Frm.of_below (P := Q) hB).trans h2
  clear h1 h2 hm
  go_wp2
  go_ret
  exact ⟨rfl, H1.out, h3⟩
set_option maxHeartbeats 800000 in
theorem heldBoardP (z h mk : Int) (v : Value) (Q : Nat → Prop) (n k0 : Nat) (X : Nat → Wn) (W : World) (hA : BP W Q v n (mAWi X k0 n)) (hk0 : 1 ≤ k0) (hk1 : k0 ≤ 4398046511104) (hz : WiSize n X) (hn : n ≤ 1048576) :
    Calls Try.prog 14 #[.agg #[.int .i64 z, .int .i64 h, .int .i64 mk, v], .int .i64 k0] W fun e w' => e = .returned (.int .i64 (kOWi X k0 n : Int)) ∧ Below W.heap.size W w' := by
  have hB := below_new W (.cells #[.int .i64 z, .int .i64 h, .int .i64 mk, v] 28)
  have hh := heldBP v Q n k0 X _ (hA.keep hB) hk0 hk1 hz hn
  obtain ⟨lo, lc, rfl⟩ := hA.form
  have hneg : decide (((kOWi X k0 n : Nat) : Int) < 0) = false := decide_eq_false (by omega)
  generalize ((kOWi X k0 n : Nat) : Int) = q at *
  go_enter Try.func14, Try.ntmps14
  go_wp2_with fail
  refine hh.mono ?_
  rintro e w1 ⟨rfl, h1⟩
  have bw : Below W.heap.size W w1 := hB.trans (h1.mono (by simp))
  clear h1 hh
  go_wp2
  go_ret
  exact ⟨rfl, bw⟩

/-- What is answered is no greater than the board. -/
structure ExO (n' : Nat) (X' : Nat → Wn) (m' : Nat) (T' : Nat → Wn) : Prop where
  n1 : n' ≤ 1048576
  b1 : ∀ i, i < n' → WiB (X' i)
  f1 : FBw n' X'
  z1 : WiSize n' X'
  n2 : m' ≤ 1048576
  z2 : KeSize m' T'
theorem atL_lt {b : Nat → Bool} {n j : Nat} (hj : j < (stL b n).length) : (stL b n).getD j 0 < n := ((stL_mem (b := b)).1 (by
  rw [List.getD_eq_getElem?_getD, List.getElem?_eq_getElem hj]
  exact List.getElem_mem hj)).1
theorem ex_out (z h mk : Int) (n : Nat) (X : Nat → Wn) (hn : n ≤ 1048576) (hb : ∀ i, i < n → WiB (X i)) (hf : FBw n X) (hz : WiSize n X) : ∃ (z' h' mk' : Int) (n' : Nat) (X' : Nat → Wn) (m' : Nat) (T' : Nat → Wn) (c : Bool), ExO n' X' m' T' ∧
    (∀ (ao : Option Addr) (cap : Nat) (w : World), WiRow w ao n X → Calls Try.prog 16 #[.agg #[.int .i64 z, .int .i64 h, .int .i64 mk, .slice ao n cap]] w fun e w' => EAns z' h' mk' n' X' m' T' c w e w') ∧
    (∀ (ao : Option Addr) (cap : Nat) (w : World), WiRow w ao n X → Calls Try.prog 17 #[.agg #[.int .i64 z, .int .i64 h, .int .i64 mk, .slice ao n cap]] w fun e w' => EAns z' h' mk' n' X' m' T' c w e w') := by
  by_cases hG : GBd z h mk n X
  · refine ⟨z, h, mk, _, _, _, _, true, ⟨?_, fun j hj => ?_, fun j hj => ?_, fun j hj => ?_, ?_, fun j hj => ?_⟩, fun ao cap w hr => expireWins_spec_good z h mk ao n cap X w hr hn hz hG (stB z h mk X) rfl, fun ao cap w hr => (expireWins_impl_good z h mk ao n cap X w hr hn hz hG (stB z h mk X) rfl).mono ?_⟩
    · have := stL_len (stB z h mk X) n; omega
    · exact hb _ (atL_lt hj)
    · exact hf _ (atL_lt hj)
    · exact hz _ (atL_lt hj)
    · have := stL_len (fun i => !stB z h mk X i) n; omega
    · exact hz _ (atL_lt hj)
    · rintro e w' ⟨v, t, Q1, Q2, he, h1, h2, h3⟩
      exact ⟨v, t, Q1, Q2, he, h1, h2.cln, h3⟩
  · exact ⟨0, 0, 0, 0, X, 0, X, false, ⟨Nat.zero_le _, fun i hi => absurd hi (Nat.not_lt_zero _), fun i hi => absurd hi (Nat.not_lt_zero _), fun i hi => absurd hi (Nat.not_lt_zero _), Nat.zero_le _, fun i hi => absurd hi (Nat.not_lt_zero _)⟩, fun ao cap w hr => expireWins_spec_bad z h mk ao n cap X X w hr hn hz hG, fun ao cap w hr => expireWins_impl_bad z h mk ao n cap X X w hr hn hz hG⟩
end Go.Proofs.Ytflmbcgokiiedaa
