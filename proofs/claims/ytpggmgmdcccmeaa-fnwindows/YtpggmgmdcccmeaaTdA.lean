/- Told windows marked. / Marks of told windows looked for. / TellDirty: both texts' outcome in one form; boards and told windows marked, each by itself. -/
import Derived.Test.YtpggmgmdcccmeaaCx
import Derived.Test.YtpggmgmdcccmeaaOw
import Derived.Deep.RegionHeld3
import Derived.Test.YtpggmgmdcccmeaaTs
namespace Go.Proofs.Ytpggmgmdcccmeaa
open Go.RowKit
set_option linter.unusedSimpArgs false
set_option linter.unusedVariables false

theorem ToC.none0 {w : World} {b n k : Nat} {X : Nat → Wn} {y : Wn} {A0 A1 : Nat → Option Addr} {K0 K1 : Nat → Nat} {G : Nat → Nat} (h : ToC w b n (upTo X k y) A0 A1 K0 K1 G) (hz : y.tn = 0) (nm' : Nat → ByteArray) (vl' : Nat → ByteArray) : ToC w b n (upTo X k (y.wl_T nm' vl')) A0 A1 K0 K1 G := by
  refine ⟨h.lt, fun i hi => ?_, h.free, fun i hi h0 => ?_, fun i hi h0 => ?_, h.dis⟩
  · have h0 := h.ent i hi
    unfold upTo at h0 ⊢
    split
    · rename_i e
      subst e
      simp only [if_true] at h0
      exact ⟨h0.lt, h0.c0, h0.c1, h0.c2, h0.c3, h0.c4, h0.c5, h0.c6, h0.c7, h0.c8, h0.c9⟩
    · rename_i e
      simp only [e, if_false] at h0
      exact h0
  · have hx : (upTo X k (y.wl_T nm' vl') i).tn = (upTo X k y i).tn := by unfold upTo; split <;> rfl
    rw [hx] at h0
    obtain ⟨e1, e2, e3⟩ := h.l0 i hi h0
    refine ⟨e1, e2, ?_⟩
    by_cases e : i = k
    · subst e; rw [upTo_at] at h0; omega
    · rw [upTo_ne _ _ _ e] at e3 ⊢
      exact e3
  · have hx : (upTo X k (y.wl_T nm' vl') i).n = (upTo X k y i).n := by unfold upTo; split <;> rfl
    rw [hx] at h0
    obtain ⟨e1, e2, e3⟩ := h.l1 i hi h0
    refine ⟨e1, e2, ?_⟩
    by_cases e : i = k
    · subst e
      rw [upTo_at] at e3 ⊢
      exact e3
    · rw [upTo_ne _ _ _ e] at e3 ⊢
      exact e3
theorem ToC.none1 {w : World} {b n k : Nat} {X : Nat → Wn} {y : Wn} {A0 A1 : Nat → Option Addr} {K0 K1 : Nat → Nat} {G : Nat → Nat} (h : ToC w b n (upTo X k y) A0 A1 K0 K1 G) (hz : y.n = 0) (f' : Nat → Int) : ToC w b n (upTo X k (y.wl_N f')) A0 A1 K0 K1 G := by
  refine ⟨h.lt, fun i hi => ?_, h.free, fun i hi h0 => ?_, fun i hi h0 => ?_, h.dis⟩
  · have h0 := h.ent i hi
    unfold upTo at h0 ⊢
    split
    · rename_i e
      subst e
      simp only [if_true] at h0
      exact ⟨h0.lt, h0.c0, h0.c1, h0.c2, h0.c3, h0.c4, h0.c5, h0.c6, h0.c7, h0.c8, h0.c9⟩
    · rename_i e
      simp only [e, if_false] at h0
      exact h0
  · have hx : (upTo X k (y.wl_N f') i).tn = (upTo X k y i).tn := by unfold upTo; split <;> rfl
    rw [hx] at h0
    obtain ⟨e1, e2, e3⟩ := h.l0 i hi h0
    refine ⟨e1, e2, ?_⟩
    by_cases e : i = k
    · subst e
      rw [upTo_at] at e3 ⊢
      exact e3
    · rw [upTo_ne _ _ _ e] at e3 ⊢
      exact e3
  · have hx : (upTo X k (y.wl_N f') i).n = (upTo X k y i).n := by unfold upTo; split <;> rfl
    rw [hx] at h0
    obtain ⟨e1, e2, e3⟩ := h.l1 i hi h0
    refine ⟨e1, e2, ?_⟩
    by_cases e : i = k
    · subst e; rw [upTo_at] at h0; omega
    · rw [upTo_ne _ _ _ e] at e3 ⊢
      exact e3

end Go.Proofs.Ytpggmgmdcccmeaa
namespace Go.Proofs.Ytpggmgmdcccmeaa
open Go.RowKit
set_option linter.unusedSimpArgs false
set_option linter.unusedVariables false

end Go.Proofs.Ytpggmgmdcccmeaa
namespace Go.Proofs.Ytpggmgmdcccmeaa
open Go.RowKit
set_option linter.unusedSimpArgs false
set_option linter.unusedVariables false

theorem BdAt.rng {w w' : World} {b lo hi : Nat} {z h mk : Int} {sv : Value} (H : BdAt w b z h mk sv) (hr : Rng lo hi w w') (hb : b < lo ∨ hi ≤ b) : BdAt w' b z h mk sv :=
  have k : ∀ j, w'.cell? ⟨b, j, none⟩ = w.cell? ⟨b, j, none⟩ := fun j => World.cell?_of_block (w := w) (a := ⟨b, j, none⟩) (hr.block b H.lt hb)
  ⟨Nat.lt_of_lt_of_le H.lt hr.size, (k _).trans H.c0, (k _).trans H.c1, (k _).trans H.c2, (k _).trans H.c3⟩
theorem BA.rng {w w' : World} {base top lo hi n : Nat} {v : Value} {X : Nat → Wn} (h : BA w base top v n X) (hr : Rng lo hi w w') (hd : top ≤ lo ∨ hi ≤ base) : BA w' base top v n X :=
  h.same hr.size (fun c h1 h2 => hr.block c (by have := h.1; omega) (by omega))
theorem TA.rng {w w' : World} {base top lo hi n : Nat} {v : Value} {X : Nat → Wn} (h : TA w base top v n X) (hr : Rng lo hi w w') (hd : top ≤ lo ∨ hi ≤ base) : TA w' base top v n X :=
  h.same hr.size (fun c h1 h2 => hr.block c (by have := h.1; omega) (by omega))

theorem mAWi_len (X : Nat → Wn) (k0 m i : Nat) : (mAWi X k0 m i).tn = (X i).tn ∧ (mAWi X k0 m i).n = (X i).n := by unfold mAWi; split <;> exact ⟨rfl, rfl⟩
theorem mATo_len (X : Nat → Wn) (k0 m i : Nat) : (mATo X k0 m i).tn = (X i).tn ∧ (mATo X k0 m i).n = (X i).n := by unfold mATo; split <;> exact ⟨rfl, rfl⟩
/-- What is told and what tells it is no greater than the board. -/
structure TdO (n : Nat) (n' : Nat) (X' : Nat → Wn) (m' : Nat) (T' : Nat → Wn) : Prop where
  n1 : n' ≤ 1048576
  b1 : ∀ i, i < n' → WiB (X' i)
  f1 : FBw n' X'
  z1 : WiSize n' X'
  n2 : m' ≤ 1048576
  b2 : ∀ i, i < m' → TlB (T' i)
  f2 : FBw m' T'
  z2 : ToSize m' T'
theorem td_out (z h mk : Int) (n : Nat) (X : Nat → Wn) (hn : n ≤ 1048576) (hb : ∀ i, i < n → WiB (X i)) (hf : FBw n X) (hz : WiSize n X) : ∃ (z' h' mk' : Int) (n' : Nat) (X' : Nat → Wn) (m' : Nat) (T' : Nat → Wn) (c : Int), TdO n n' X' m' T' ∧
    (∀ (ao : Option Addr) (cap : Nat) (w : World), WiRow w ao n X → Calls Try.prog 6 #[.agg #[.int .i64 z, .int .i64 h, .int .i64 mk, .slice ao n cap]] w fun e w' => TAns z' h' mk' n' X' m' T' c w e w') ∧
    (∀ (ao : Option Addr) (cap : Nat) (w : World), WiRow w ao n X → Calls Try.prog 5 #[.agg #[.int .i64 z, .int .i64 h, .int .i64 mk, .slice ao n cap]] w fun e w' => TAns z' h' mk' n' X' m' T' c w e w') := by
  have nil : ∀ (Y : Nat → Wn), (∀ i, i < 0 → TlB (Y i)) ∧ FBw 0 Y ∧ ToSize 0 Y := fun Y => ⟨fun i hi => absurd hi (Nat.not_lt_zero _), fun i hi => absurd hi (Nat.not_lt_zero _), fun i hi => absurd hi (Nat.not_lt_zero _)⟩
  by_cases hG : GBd z h mk n X
  · by_cases hw : Worn (cln X) n (dS X n)
    · exact ⟨z, h, mk, n, X, 0, X, 1, ⟨hn, hb, hf, hz, Nat.zero_le _, (nil X).1, (nil X).2.1, (nil X).2.2⟩, fun ao cap w hr => (tellDirty_spec_good z h mk ao n cap X X w hr hn hz hG (fun i => (X i).di) rfl).mono (fun _ _ hh => hh.1 hw), fun ao cap w hr => tellDirty_impl_worn z h mk ao n cap X X w hr hn hz hG hw⟩
    · refine ⟨z, h, mk, n, tdX X, tN (fun i => (X i).di) n, tL (cln X) (fun i => (X i).di) n, 0, ⟨hn, fun i hi => ?_, fun i hi => ?_, fun i hi => ?_, by have := tN_le (fun i => (X i).di) n; omega, fun j hj => ?_, tL_fb (Y := cln X) hf (Nat.le_refl _), fun j hj => ?_⟩, fun ao cap w hr => (tellDirty_spec_good z h mk ao n cap X X w hr hn hz hG (fun i => (X i).di) rfl).mono (fun _ _ hh => hh.2 hw), fun ao cap w hr => tellDirty_impl_good z h mk ao n cap X w hr hn hz hG hw (fun i => (X i).di) rfl⟩
      · have hv : btw 0 (X i).ver 1000000 = true := (hG.wins.each i hi).ver
        have hv' : 0 ≤ (X i).ver ∧ (X i).ver ≤ 1000000 := by simpa [btw] using hv
        have h9 := hb i hi
        unfold tdX
        split
        · exact ⟨h9.st, h9.c, h9.s, by show _ ≤ (X i).ver + 1 ∧ (X i).ver + 1 ≤ _; omega, h9.m, h9.tn, h9.ts, h9.n⟩
        · exact h9
      · unfold tdX
        split
        · exact hf i hi
        · exact hf i hi
      · have h9 := hz i hi
        unfold tdX
        split
        · exact ⟨h9.m, h9.tn, h9.ts, h9.n⟩
        · exact h9
      · obtain ⟨i, h1, _, h3⟩ := tL_of (cln X) (fun i => (X i).di) n j hj
        rw [h3]
        have hv : btw 0 (X i).ver 1000000 = true := (hG.wins.each i h1).ver
        have hv' : 0 ≤ (X i).ver ∧ (X i).ver ≤ 1000000 := by simpa [btw] using hv
        have h9 := hb i h1
        show WiB (vInc (cln X i))
        exact ⟨h9.st, h9.c, h9.s, by show _ ≤ (X i).ver + 1 ∧ (X i).ver + 1 ≤ _; omega, h9.m, h9.tn, h9.ts, h9.n⟩
      · obtain ⟨i, h1, _, h3⟩ := tL_of (cln X) (fun i => (X i).di) n j hj
        rw [h3]
        have h9 := hz i h1
        show WiS (vInc (cln X i))
        exact ⟨h9.m, h9.tn, h9.ts, h9.n⟩
  · exact ⟨0, 0, 0, 0, X, 0, X, 1, ⟨Nat.zero_le _, fun i hi => absurd hi (Nat.not_lt_zero _), fun i hi => absurd hi (Nat.not_lt_zero _), fun i hi => absurd hi (Nat.not_lt_zero _), Nat.zero_le _, (nil X).1, (nil X).2.1, (nil X).2.2⟩, fun ao cap w hr => tellDirty_spec_bad z h mk ao n cap X X w hr hn hz hG, fun ao cap w hr => tellDirty_impl_bad z h mk ao n cap X X w hr hn hz hG⟩
end Go.Proofs.Ytpggmgmdcccmeaa
