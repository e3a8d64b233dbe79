/- Rows of edits marked. -/
import Derived.Test.YtofdhgffnkhdfaaEr
namespace Go.Proofs.Ytofdhgffnkhdfaa
open Go.RowKit
set_option linter.unusedSimpArgs false
set_option linter.unusedVariables false

theorem EA.markI2 (w : World) (lo hi : Nat) (da : Option Addr) (nd cd : Nat) (f : Nat → Int) (aa : Option Addr) (na : Nat) (Y : Nat → Adm) (k0 : Nat) (h : EA w lo hi da nd f aa na Y) (hk : k0 ≤ 6000000) (hd : nd ≤ 1048576) :
    Calls Try.prog 20 #[.slice da nd cd, .int .i64 k0] w fun e w' => e = .returned (.int .i64 ((k0 + nd : Nat) : Int)) ∧ (∃ f', EA w' lo hi da nd f' aa na Y) ∧ Rng lo hi w w' := by
  by_cases hn : nd = 0
  · subst hn
    refine (markI_zero da cd (k0 : Int) w).mono ?_
    rintro e w' ⟨rfl, rfl⟩
    exact ⟨by simp, ⟨f, h⟩, Rng.refl _ _ _⟩
  · obtain ⟨g, rfl, h1, h2, h3⟩ := h.dr.resolve_left hn
    refine (markI_any g 0 nd cd f k0 w h3 hd (by omega)).mono ?_
    rintro e w' ⟨rfl, ⟨fy, q1, _⟩, q3⟩
    have hs : w.heap.size ≤ w'.heap.size := by rw [q3.size]; exact Nat.le_refl _
    refine ⟨rfl, ⟨fy, ⟨Nat.le_trans h.top hs, q1.bd, .inr ⟨g, rfl, h1, h2, q1⟩, ?_, h.ne⟩⟩, Rng.of_only (Only.of_others q3) h1 h2⟩
    by_cases h0 : na = 0
    · exact .inl h0
    · obtain ⟨g2, e2, h5, h6, h7⟩ := h.ad.resolve_left h0
      exact .inr ⟨g2, e2, h5, h6, h7.same hs (q3.block g2 (fun e => h.ne (by omega) (by omega) (by rw [e2, e])))⟩

/-- Edits that are being marked: those from k on are as they were. -/
structure EdM (w : World) (b n k : Nat) (E : Nat → Edt) (G0 G1 H : Nat → Nat) : Prop where
  lt : b < w.heap.size
  c3 : ∀ i, i < n → w.cell? ⟨b, i * 5 + 3, none⟩ = some (.slice (some ⟨G0 i, 0, none⟩) (E i).D.length (E i).D.length)
  c4 : ∀ i, i < n → w.cell? ⟨b, i * 5 + 4, none⟩ = some (.slice (some ⟨G1 i, 0, none⟩) (E i).A.length (E i).A.length)
  data : ∀ i, k ≤ i → i < n → EA w (H i) (H (i + 1)) (some ⟨G0 i, 0, none⟩) (E i).D.length (fi (E i).D) (some ⟨G1 i, 0, none⟩) (E i).A.length (dL (E i).A)
  there : ∀ j, j < n * 5 → (w.cell? ⟨b, j, none⟩).isSome = true
  free : ∀ j, j < n * 5 → w.frozen? ⟨b, j, none⟩ = false
theorem EdOwn.m {w : World} {b n : Nat} {E : Nat → Edt} {G0 G1 H : Nat → Nat} (h : EdOwn w b n n E G0 G1 H) : EdM w b n 0 E G0 G1 H :=
  ⟨h.lt, fun i hi => (h.ent i hi).c3, fun i hi => (h.ent i hi).c4, fun i _ hi => h.data i hi, h.there, h.free⟩
theorem EdM.set {w : World} {b n k : Nat} {E : Nat → Edt} {G0 G1 H : Nat → Nat} (h : EdM w b n k E G0 G1 H) (hb : ∀ i, k ≤ i → i < n → b < H i) (i q : Nat) (hq : q < 3) (v : Value) : EdM (w.setCell ⟨b, i * 5 + q, none⟩ v) b n k E G0 G1 H := by
  have oth := Others.setCell w b (i * 5 + q) v
  refine ⟨by rw [oth.size]; exact h.lt, fun j hj => ?_, fun j hj => ?_, fun j h1 h2 => (h.data j h1 h2).same (by rw [oth.size]; exact Nat.le_refl _) (fun c h3 _ => oth.block c (by have := hb j h1 h2; omega)), fun j hj => ?_, fun j hj => by rw [World.frozen?_setCell]; exact h.free j hj⟩
  · rw [World.cell?_setCell_other _ _ _ _ (by intro hh; injection hh with _ h2 _; omega)]; exact h.c3 j hj
  · rw [World.cell?_setCell_other _ _ _ _ (by intro hh; injection hh with _ h2 _; omega)]; exact h.c4 j hj
  · by_cases e : j = i * 5 + q
    · subst e
      obtain ⟨u, hu⟩ := Option.isSome_iff_exists.1 (h.there _ hj)
      rw [World.cell?_setCell_same _ _ _ hu]; rfl
    · rw [World.cell?_setCell_other _ _ _ _ (by intro hh; injection hh with _ h2 _; omega)]; exact h.there j hj
theorem EdM.rng {w w' : World} {b n k : Nat} {E : Nat → Edt} {G0 G1 H : Nat → Nat} {lo hi : Nat} (h : EdM w b n k E G0 G1 H) (hr : Rng lo hi w w') (hb : b < lo) (k' : Nat) (hkk : k ≤ k') (hd : ∀ i, k' ≤ i → i < n → hi ≤ H i) : EdM w' b n k' E G0 G1 H := by
  have hbk := hr.block b h.lt (.inl hb)
  have c : ∀ j, w'.cell? ⟨b, j, none⟩ = w.cell? ⟨b, j, none⟩ := fun j => World.cell?_of_block (w := w) (a := ⟨b, j, none⟩) hbk
  exact ⟨Nat.lt_of_lt_of_le h.lt hr.size, fun i hi => (c _).trans (h.c3 i hi), fun i hi => (c _).trans (h.c4 i hi), fun i h1 h2 => (h.data i (by omega) h2).same hr.size (fun q h3 h4 => hr.block q (by have := (h.data i (by omega) h2).top; omega) (by have := hd i h1 h2; omega)), fun j hj => by rw [c]; exact h.there j hj, fun j hj => (World.frozen?_of_block (w := w) (a := ⟨b, j, none⟩) hbk).trans (h.free j hj)⟩
theorem Rng.set {b lo hi : Nat} (w : World) (h : lo ≤ b ∧ b < hi) (o : Nat) (v : Value) : Rng lo hi w (w.setCell ⟨b, o, none⟩ v) :=
  Rng.of_only (Only.of_others (Others.setCell w b o v)) h.1 h.2
theorem Rng.join {lo hi : Nat} {u v w : World} (h : Rng lo hi u v) (k : Rng lo hi v w) : Rng lo hi u w :=
  ⟨k.os.trans h.os, k.tape.trans h.tape, k.output.trans h.output, Nat.le_trans h.size k.size, fun c hc hd => (k.block c (Nat.lt_of_lt_of_le hc h.size) hd).trans (h.block c hc hd)⟩

set_option maxRecDepth 10000 in
set_option maxHeartbeats 3200000 in
theorem markEditS_any (b n cap k0 top : Nat) (E : Nat → Edt) (G0 G1 H : Nat → Nat) (w : World) (h : EdOwn w b n n E G0 G1 H) (ht : H n ≤ top) (hbt : b < top) (hn : n + etot E n ≤ 1048576) (hk0 : 1 ≤ k0) (hk1 : k0 ≤ 100) :
    Calls Try.prog 10 #[.slice (some ⟨b, 0, none⟩) n cap, .int .i64 k0] w fun e w' => e = .returned (.int .i64 (kOE E k0 n : Int)) ∧ Rng b top w w' := by
  have hz := edSize_of hn
  have hmo := fun {i j : Nat} (h1 : i ≤ j) (h2 : j ≤ n) => hmono (H := H) h.mono h1 h2
  have HM : Hid (∀ i j : Nat, i ≤ j → j ≤ n → H i ≤ H j) := fun i j h1 h2 => hmo h1 h2
  have hb0 : ∀ i, i ≤ n → b < H i := fun i hi => Nat.lt_of_lt_of_le h.h0 (hmo (Nat.zero_le i) hi)
  have HB : Hid (∀ i, i ≤ n → b < H i) := hb0
  have hM0 := h.m
  clear hmo hb0 h
  go_enter Try.func10, Try.ntmps10
  go_wp2
  go_loopw [1, 5] (fun q i wr => ∃ k : Nat, k ≤ n ∧ i = .int .i64 k ∧ q = .int .i64 (kOE E k0 k : Int) ∧ EdM wr b n k E G0 G1 H ∧ Rng b top w wr) (fun _ i _ => n - (intOf i).toNat)
  case atStart => exact ⟨0, Nat.zero_le _, rfl, rfl, hM0, Rng.refl _ _ _⟩
  case round =>
    obtain ⟨k, hk, rfl, rfl, hMk, hR⟩ := hrel
    by_cases hlt : k < n
    rotate_left
    · have e : k = n := by omega
      subst e
      go_wp2
      go_ret
      exact ⟨rfl, hR⟩
    have hks : kOE E k0 (k + 1) = kOE E k0 k + 3 + (E k).D.length + 5 * (E k).A.length := rfl
    have KS : Hid (kOE E k0 (k + 1) = kOE E k0 k + 3 + (E k).D.length + 5 * (E k).A.length) := hks
    have hkl := kOE_le E k0 (k + 1)
    have hke := etot_mono E (show k + 1 ≤ n by omega)
    have hkg := kOE_ge E k0 k
    have hzk := hz k hlt
    have hkb : kOE E k0 (k + 1) ≤ 5242980 := by omega
    rw [hks] at hkb
    generalize kOE E k0 k = kk at *
    have hHk := HB.out k (by omega)
    have hHm := HM.out k (k + 1) (by omega) (by omega)
    have hHt := HM.out (k + 1) n (by omega) (Nat.le_refl _)
    have hbs : ∀ i, k ≤ i → i < n → b < H i := fun i _ hi => HB.out i (by omega)
    have M1 := hMk.set hbs k 0 (by omega) (.int .i64 (kk : Int))
    have M2 := M1.set hbs k 1 (by omega) (.int .i64 ((kk : Int) + 1))
    have M3 := M2.set hbs k 2 (by omega) (.int .i64 ((kk : Int) + 1 + 1))
    have R3 := ((hR.join (Rng.set wr ⟨Nat.le_refl _, hbt⟩ (k * 5 + 0) (.int .i64 (kk : Int)))).join (Rng.set _ ⟨Nat.le_refl _, hbt⟩ (k * 5 + 1) (.int .i64 ((kk : Int) + 1)))).join (Rng.set _ ⟨Nat.le_refl _, hbt⟩ (k * 5 + 2) (.int .i64 ((kk : Int) + 1 + 1)))
    simp only [Nat.add_zero] at M1 M2 M3 R3
    obtain ⟨v0, hv0⟩ := Option.isSome_iff_exists.1 (hMk.there (k * 5) (by omega))
    obtain ⟨v1, hv1⟩ := Option.isSome_iff_exists.1 (M1.there (k * 5 + 1) (by omega))
    obtain ⟨v2, hv2⟩ := Option.isSome_iff_exists.1 (M2.there (k * 5 + 2) (by omega))
    have f0 := hMk.free (k * 5) (by omega)
    have f1 := M1.free (k * 5 + 1) (by omega)
    have f2 := M2.free (k * 5 + 2) (by omega)
    have c3 := M3.c3 k hlt
    have hq0 : (0 : Int) ≤ (k : Int) := by omega
    have hq1 : (k : Int) < (n : Int) := by omega
    have w1 : IntKind.i64.wrap ((kk : Int) + 1) = (kk : Int) + 1 := by rw [IntKind.wrap_i64] <;> omega
    have w2 : IntKind.i64.wrap ((kk : Int) + 1 + 1) = (kk : Int) + 1 + 1 := by rw [IntKind.wrap_i64] <;> omega
    have w3 : IntKind.i64.wrap ((kk : Int) + 1 + 1 + 1) = (kk : Int) + 1 + 1 + 1 := by rw [IntKind.wrap_i64] <;> omega
    obtain ⟨W, hW⟩ : ∃ W, W = ((wr.setCell ⟨b, k * 5, none⟩ (.int .i64 (kk : Int))).setCell ⟨b, k * 5 + 1, none⟩ (.int .i64 ((kk : Int) + 1))).setCell ⟨b, k * 5 + 2, none⟩ (.int .i64 ((kk : Int) + 1 + 1)) := ⟨_, rfl⟩
    rw [← hW] at M3 R3
    have hc := EA.markI2 W (H k) (H (k + 1)) (some ⟨G0 k, 0, none⟩) (E k).D.length (E k).D.length (fi (E k).D) (some ⟨G1 k, 0, none⟩) (E k).A.length (dL (E k).A) (kk + 3) (M3.data k (Nat.le_refl _) hlt) (by omega) hzk.1
    have hk3 : ((kk + 3 : Nat) : Int) = (kk : Int) + 1 + 1 + 1 := by omega
    rw [hk3] at hc
    have HC : Hid (Calls Try.prog 20 #[.slice (some ⟨G0 k, 0, none⟩) (E k).D.length (E k).D.length, .int .i64 ((kk : Int) + 1 + 1 + 1)] W fun e w' => e = .returned (.int .i64 ((kk + 3 + (E k).D.length : Nat) : Int)) ∧ (∃ f', EA w' (H k) (H (k + 1)) (some ⟨G0 k, 0, none⟩) (E k).D.length f' (some ⟨G1 k, 0, none⟩) (E k).A.length (dL (E k).A)) ∧ Rng (H k) (H (k + 1)) W w') := hc
    clear hc hk3 hMk M1 M2 hR hks hz
    go_wp2_with fail
    rw [← hW]
    clear hW hv0 hv1 hv2 f0 f1 f2
    refine HC.out.mono ?_
    rintro e u1 ⟨rfl, ⟨f', EA1⟩, R4⟩
    have M4 := M3.rng R4 hHk (k + 1) (by omega) (fun i h1 h2 => HM.out (k + 1) i h1 (by omega))
    have R5 := R3.join (R4.wide (by omega) (by omega))
    have c4 := M4.c4 k hlt
    clear HC M3 R3 R4 c3
    go_wp2_with fail
    refine (EA.markD u1 (H k) (H (k + 1)) (some ⟨G0 k, 0, none⟩) (E k).D.length f' (some ⟨G1 k, 0, none⟩) (E k).A.length (E k).A.length (dL (E k).A) (kk + 3 + (E k).D.length) EA1 ⟨by omega, by omega⟩ hzk.2).mono ?_
    rintro e u2 ⟨rfl, R6⟩
    have M5 := M4.rng R6 hHk (k + 1) (Nat.le_refl _) (fun i h1 h2 => HM.out (k + 1) i h1 (by omega))
    have R7 := R5.join (R6.wide (by omega) (by omega))
    have HE : Hid (((kk + 3 + (E k).D.length + 5 * (E k).A.length : Nat) : Int) = ((kOE E k0 (k + 1) : Nat) : Int)) := by have := KS.out; show _ = _; omega
    clear M4 R5 R6 EA1 c4
    go_wp2
    go_roundw
    case rel => exact ⟨k + 1, by omega, by go_num, by rw [← HE.out]; simp, M5, R7⟩
    case measure => simp [intOf]; omega
end Go.Proofs.Ytofdhgffnkhdfaa
