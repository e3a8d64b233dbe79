/- The agg of a window written anew, its list in another block (made by mkwp.py). / A key put into the set, whether it is there or not. -/
import Derived.Test.YtpggmgmdcccmeaaGoodKeys
import Derived.Test.YtpggmgmdcccmeaaOb
import Derived.Test.YtpggmgmdcccmeaaWb
namespace Go.Proofs.Ytpggmgmdcccmeaa
open Go.RowKit
set_option linter.unusedSimpArgs false
set_option linter.unusedVariables false

/-- One of many put otherwise. -/
def upA {α : Type} (A : Nat → α) (k : Nat) (x : α) : Nat → α := fun i => if i = k then x else A i
theorem upA_at {α : Type} (A : Nat → α) (k : Nat) (x : α) : upA A k x k = x := by simp [upA]
theorem upA_ne {α : Type} (A : Nat → α) (k : Nat) (x : α) {i : Nat} (h : i ≠ k) : upA A k x i = A i := by simp [upA, h]
/-- Another list. -/
def Wn.w_h (y : Wn) (m : Nat) (f' : Nat → Int) : Wn := { y with n := m, f := f' }

theorem WiC.set7 {w : World} {b n k : Nat} {X : Nat → Wn} {y : Wn} {A0 A1 : Nat → Option Addr} {K0 K1 G : Nat → Nat} (h : WiC w b n (upWi X k y) A0 A1 K0 K1 G) (hk : k < n) (g m c : Nat) (f' : Nat → Int) (hg : g ≠ b) (hG : ∀ p, p < n * 2 → p ≠ k * 2 + 1 → G p ≠ g) (hI : IOwn w g 0 m f') :
    WiC (w.setCell ⟨b, k * 11 + 7, none⟩ (.slice (some ⟨g, 0, none⟩) m c)) b n (upWi X k (y.w_h m f')) A0 (upA A1 k (some ⟨g, 0, none⟩)) K0 (upA K1 k c) (upA G (k * 2 + 1) g) := by
  have ho := Others.setCell w b (k * 11 + 7) (.slice (some ⟨g, 0, none⟩) m c)
  refine ⟨by simpa using h.lt, fun i hi => ?_, fun j hj => by rw [World.frozen?_setCell]; exact h.free j hj, fun i hi h0 => ?_, fun i hi h0 => ?_, fun p p' hp hp' hne => ?_⟩
  · have h0 := h.ent i hi
    by_cases e : i = k
    · subst e
      rw [upWi_at] at h0 ⊢
      rw [upA_at, upA_at]
      have c' : ∀ q, q ≠ i * 11 + 7 → (w.setCell ⟨b, i * 11 + 7, none⟩ (.slice (some ⟨g, 0, none⟩) m c)).cell? ⟨b, q, none⟩ = w.cell? ⟨b, q, none⟩ := fun q hq => World.cell?_setCell_other _ _ _ _ (by intro hh; injection hh with _ h2 _; omega)
      exact ⟨by simpa using h.lt, (c' _ (by omega)).trans h0.c0, (c' _ (by omega)).trans h0.c1, (c' _ (by omega)).trans h0.c2, (c' _ (by omega)).trans h0.c3, (c' _ (by omega)).trans h0.c4, (c' _ (by omega)).trans h0.c5, (c' _ (by omega)).trans h0.c6, World.cell?_setCell_same _ _ _ h0.c7, (c' _ (by omega)).trans h0.c8, (c' _ (by omega)).trans h0.c9, (c' _ (by omega)).trans h0.c10⟩
    · rw [upWi_ne _ _ _ e] at h0 ⊢
      rw [upA_ne _ _ _ e, upA_ne _ _ _ e]
      have c' : ∀ q, q < 11 → (w.setCell ⟨b, k * 11 + 7, none⟩ (.slice (some ⟨g, 0, none⟩) m c)).cell? ⟨b, i * 11 + q, none⟩ = w.cell? ⟨b, i * 11 + q, none⟩ := fun q hq => World.cell?_setCell_other _ _ _ _ (by intro hh; injection hh with _ h2 _; omega)
      exact ⟨by simpa using h.lt, (c' 0 (by omega)).trans h0.c0, (c' 1 (by omega)).trans h0.c1, (c' 2 (by omega)).trans h0.c2, (c' 3 (by omega)).trans h0.c3, (c' 4 (by omega)).trans h0.c4, (c' 5 (by omega)).trans h0.c5, (c' 6 (by omega)).trans h0.c6, (c' 7 (by omega)).trans h0.c7, (c' 8 (by omega)).trans h0.c8, (c' 9 (by omega)).trans h0.c9, (c' 10 (by omega)).trans h0.c10⟩
  · have hx : (upWi X k (y.w_h m f') i).tn = (upWi X k y i).tn := by unfold upWi; split <;> rfl
    rw [hx] at h0
    obtain ⟨e1, e2, e3⟩ := h.l0 i hi h0
    rw [upA_ne _ _ _ (show i * 2 + 0 ≠ k * 2 + 1 by omega)]
    refine ⟨e1, e2, ?_⟩
    have e4 := e3.blk (ho.block _ e2) (by rw [ho.size]; exact Nat.le_refl _)
    by_cases e : i = k
    · subst e
      rw [upWi_at] at e4 ⊢
      exact e4
    · rw [upWi_ne _ _ _ e] at e4 ⊢
      exact e4
  · by_cases e : i = k
    · subst e
      rw [upWi_at, upA_at, upA_at]
      exact ⟨rfl, hg, iown_others hI ho hg⟩
    · rw [upWi_ne _ _ _ e] at h0 ⊢
      have h1 := h.l1 i hi
      rw [upWi_ne _ _ _ e] at h1
      obtain ⟨e1, e2, e3⟩ := h1 h0
      rw [upA_ne _ _ _ e, upA_ne _ _ _ (show i * 2 + 1 ≠ k * 2 + 1 by omega)]
      exact ⟨e1, e2, e3.blk (ho.block _ e2) (by rw [ho.size]; exact Nat.le_refl _)⟩
  · by_cases e : p = k * 2 + 1
    · subst e
      rw [upA_at, upA_ne _ _ _ (Ne.symm hne)]
      exact Ne.symm (hG p' hp' (Ne.symm hne))
    · by_cases e' : p' = k * 2 + 1
      · subst e'
        rw [upA_at, upA_ne _ _ _ e]
        exact hG p hp e
      · rw [upA_ne _ _ _ e, upA_ne _ _ _ e']
        exact h.dis p p' hp hp' hne

/-- A window with another agg. -/
def agW (x : Wn) (c s lo hi : Int) (f : Nat → Int) (fu : Bool) : Wn := { x with c := c, s := s, lo := lo, hi := hi, n := 8, f := f, fu := fu }
/-- The six cells of a window's agg written. -/
def setAg (w : World) (b k : Nat) (c s lo hi : Int) (g : Nat) (fu : Bool) : World :=
  (((((w.setCell ⟨b, k * 11 + 3, none⟩ (.int .i64 c)).setCell ⟨b, k * 11 + 4, none⟩ (.int .i64 s)).setCell ⟨b, k * 11 + 5, none⟩ (.int .i64 lo)).setCell ⟨b, k * 11 + 6, none⟩ (.int .i64 hi)).setCell ⟨b, k * 11 + 7, none⟩ (.slice (some ⟨g, 0, none⟩) 8 8)).setCell ⟨b, k * 11 + 8, none⟩ (.bool fu)
theorem OutW.agg {w0 w : World} {base n k g : Nat} {v : Value} {X : Nat → Wn} {V : Nat → Value} (h : OutW w0 base v n X V) (hb : Below w0.heap.size w0 w) (hF : FBw n X) (hk : k < n) (hgs : w0.heap.size ≤ g) (hbs : base ≤ w0.heap.size) (f' : Nat → Int) (hI : IOwn w g 0 8 f') (c s lo hi : Int) (fu : Bool) :
    ∃ gv vc a0 a1 k0 k1, v = .slice (some ⟨gv, 0, none⟩) n vc ∧ base ≤ gv ∧ gv < w0.heap.size ∧ WiAt w gv (k * 11) (X k) a0 a1 k0 k1 ∧ (∀ j, j < n * 11 → w.frozen? ⟨gv, j, none⟩ = false) ∧
      BA (setAg w gv k c s lo hi g fu) base w.heap.size v n (upWi X k (agW (X k) c s lo hi f' fu)) := by
  obtain ⟨gv, cap, e, hnc, h1, h2, C, l0, l1⟩ := (h.keep hb).wic hF (by omega)
  have hgv : gv < w0.heap.size := (h.own.lt gv (by rw [e]; rfl)).2
  have hgl := hI.lt
  have hne : g ≠ gv := by omega
  have hG : ∀ p, p < n * 2 → p ≠ k * 2 + 1 → gOf w.heap.size V p ≠ g := fun p hp _ hh => by
    unfold gOf at hh
    cases eo : (V p).ownBlock with
    | none => rw [eo] at hh; simp at hh; omega
    | some q => rw [eo] at hh; simp at hh; have := (h.lt hp eo).2; omega
  have C1 := C
  rw [← upWi_same X k] at C1
  have C2 := (((C1.set3 hk c).set4 hk s).set5 hk lo).set6 hk hi
  have hI2 : IOwn ((((w.setCell ⟨gv, k * 11 + 3, none⟩ (.int .i64 c)).setCell ⟨gv, k * 11 + 4, none⟩ (.int .i64 s)).setCell ⟨gv, k * 11 + 5, none⟩ (.int .i64 lo)).setCell ⟨gv, k * 11 + 6, none⟩ (.int .i64 hi)) g 0 8 f' := by
    repeat' refine iown_others ?_ (Others.setCell _ _ _ _) hne
    exact hI
  have C4 := (C2.set7 hk g 8 8 f' hne hG hI2).set8 hk fu
  refine ⟨gv, cap, _, _, _, _, e, h1, hgv, C.ent k hk, C.free, by simp [setAg], .inr ⟨gv, cap, _, _, _, _, _, e, h1, by omega, C4, fun i hi hp => ?_, fun i hi hp => ?_⟩⟩
  · rw [upA_ne _ _ _ (show i * 2 + 0 ≠ k * 2 + 1 by omega)]
    refine l0 i hi ?_
    by_cases e' : i = k
    · subst e'; rw [upWi_at] at hp; exact hp
    · rw [upWi_ne _ _ _ e'] at hp; exact hp
  · by_cases e' : i = k
    · subst e'; rw [upA_at]; omega
    · rw [upA_ne _ _ _ (show i * 2 + 1 ≠ k * 2 + 1 by omega)]
      refine l1 i hi ?_
      rw [upWi_ne _ _ _ e'] at hp; exact hp
end Go.Proofs.Ytpggmgmdcccmeaa
namespace Go.Proofs.Ytpggmgmdcccmeaa
open Go.RowKit
open Go.ChangeMaps (setBlock)
set_option linter.unusedSimpArgs false
set_option linter.unusedVariables false

theorem KSet.set_run {w : World} {r : Nat} {S : ByteArray → Prop} (h : KSet w r S) (s : ByteArray) :
    ∃ w', (Instr.mapUpdate 56 (.map (some r)) (.string s) (.agg #[])).run Try.prog w = .ok () w' ∧ KSet w' r (fun t => S t ∨ t = s) ∧ Others r w w' := by
  by_cases hs : S s
  · obtain ⟨es, c, h1, h2, h3, h4⟩ := id h
    have hk : MapKept.IsKey .string (.string s) := by simp [MapKept.IsKey]
    have hlt := (Array.getElem?_eq_some_iff.1 h1).1
    rcases MapKept.findNow_spec hk es.toList 0 h2 with ⟨_, h6⟩ | ⟨j, e, h5, h6, h7⟩
    · obtain ⟨y, hy, he⟩ := (h4 s).2 hs
      exact absurd he (h6 y hy)
    · have hj : es[j]? = some e := by rw [← Array.getElem?_toList]; exact h6
      have hek : (es[j]?.map (·.key)).getD (.string s) = .string s := by rw [hj]; exact h7
      have hev : e.val = .agg #[] := h3 e (List.mem_of_getElem? h6)
      have hes : es.modify j (fun e => { e with key := .string s, val := .agg #[] }) = es := by
        apply Array.ext_getElem?
        intro i
        rw [Array.getElem?_modify]
        by_cases e1 : j = i
        · subst e1
          rw [hj]
          simp
          cases e
          simp_all
        · simp [e1]
      have hrun : (Instr.mapUpdate 56 (.map (some r)) (.string s) (.agg #[])).run Try.prog w = .ok () (setBlock w r (.map es c)) := by
        rw [Nat.zero_add] at h5
        simp [Instr.mapUpdate, run_underlying Try.underlying56, MapKept.run_getObj_map h1, MapKept.run_checkKey Try.underlying9 hk, MapKept.run_findKey Try.underlying9 h5, hek, MapKept.run_keyThatStays hk, MapKept.run_setObj_map _ h1, Result.andThen, setBlock, hes]
      refine ⟨_, hrun, ⟨es, c, by simp [setBlock, hlt], h2, h3, fun t => ?_⟩, setBlock_others _ _ _⟩
      constructor
      · intro hh; exact .inl ((h4 t).1 hh)
      · rintro (hh | rfl)
        · exact (h4 t).2 hh
        · exact (h4 t).2 hs
  · exact h.put_run s hs

set_option maxHeartbeats 1600000 in
theorem addW_any (x : Wn) (r : Nat) (S : ByteArray → Prop) (ao : Option Addr) (cap : Nat) (w : World) (hr : TRow w ao x.tn x.nm x.vl) (hG : Hid (gK x = true)) (hS : KSet w r S) :
    Calls Try.prog 42 #[.map (some r), .agg #[.string x.m, .slice ao x.tn cap, .int .i64 x.st]] w fun e w' => e = .returned (.tuple #[]) ∧ KSet w' r (fun t => S t ∨ t = kS x) ∧ Thru r w w' := by
  have hf := fun W h => setForm_any x ao cap W h hG
  obtain ⟨Z, HZ⟩ : ∃ Z, Hid (kS x = Z) := ⟨_, rfl⟩
  rw [HZ.out] at hf ⊢
  have hB := below_new w (.cells #[.string x.m, .slice ao x.tn cap, .int .i64 x.st] 32)
  go_enter Try.func42, Try.ntmps42
  go_wp2_with fail
  refine (hf _ (hr.keep hB)).mono ?_
  rintro e w1 ⟨rfl, hb⟩
  have bw : Below w.heap.size w w1 := hB.trans (hb.mono (by simp))
  obtain ⟨w2, hrun, hS2, ho⟩ := (hS.keep bw).set_run Z
  have ht := (Thru.of_below (g := r) bw).trans (Thru.of_others ho)
  clear hb ho hS hf
  go_wp2
  go_end0
  exact ⟨rfl, hS2, ht⟩
end Go.Proofs.Ytpggmgmdcccmeaa
