/- heldEntryS. / Answers of entries whose memory is their own: told by cells, kept, marked. -/
import Derived.Test.YtpfjflbbpecbkaaGreatDb
import Derived.Deep.RegionHeld3
import Derived.Test.YtpfjflbbpecbkaaGreatDg
namespace Go.Proofs.YtpfjflbbpecbkaaGreat
set_option maxRecDepth 100000
open Go.RowKit
set_option linter.unusedSimpArgs false
set_option linter.unusedVariables false

set_option maxHeartbeats 400000 in
theorem heldI_from (ao : Option Addr) (n cap : Nat) (q : Int) (f : Nat → Int) (w : World) (hr : IRow w ao n f) (hf : ∀ i, i < n → f i = q + i) (hn : n ≤ 1048576) (hq : 0 ≤ q ∧ q ≤ 16000000) :
    Calls Tryz.prog 26 #[.slice ao n cap, .int .i64 q] w fun e w' => e = .returned (.int .i64 (q + n)) ∧ Below w.heap.size w w' := by
  obtain ⟨hbd, hl⟩ := hr
  go_enter Tryz.func26, Tryz.ntmps26
  go_wp2
  go_loopw [1, 5] (fun p i wr => ∃ k : Nat, k ≤ n ∧ i = .int .i64 k ∧ p = .int .i64 (q + k) ∧ Below w.heap.size w wr) (fun _ i _ => n - (intOf i).toNat)
  case atStart => exact ⟨0, Nat.zero_le _, rfl, by simp, Below.refl _ _⟩
  case round =>
    obtain ⟨k, hk, rfl, rfl, hbk⟩ := hrel
    by_cases hlt : k < n
    · obtain ⟨b, off, rfl, hblt, hc⟩ := hl.resolve_left (by omega)
      have h1 : wr.cell? ⟨b, off + k, none⟩ = some (.int .i64 (q + k)) := by rw [← hf k hlt]; exact (hbk.cell (p := ⟨b, off + k, none⟩) hblt).trans (hc k hlt)
      have hw : IntKind.i64.wrap (q + (k : Int) + 1) = q + ((k + 1 : Nat) : Int) := by rw [IntKind.wrap_i64] <;> omega
      clear hc hl hbd hf
      go_wp2
      go_roundw
      case rel => exact ⟨k + 1, by omega, by go_num, by first | rfl | go_num, hbk⟩
      case measure => simp [intOf]; omega
    · have e : k = n := by omega
      subst e
      go_wp2
      go_ret
      exact ⟨rfl, hbk⟩

set_option maxRecDepth 100000 in
set_option maxHeartbeats 4000000 in
theorem heldEntryS_yes (b n cap k0 : Nat) (X : Nat → Ent) (L : Nat → Option Addr) (C : Nat → Nat) (w : World) (hE : ∀ i, i < n → EAt w b (i * 9) (mkE (kOf X k0 i) (X i)) (L i) (C i)) (hI : ∀ i, i < n → IRow w (L i) (X i).n (mkE (kOf X k0 i) (X i)).f) (hk0 : 1 ≤ k0) (hz : ∀ i, i < n → (X i).n ≤ 1048576) (hn : n ≤ 1048576) (hbd : kOf X k0 n ≤ 16000000) :
    Calls Tryz.prog 14 #[.slice (some ⟨b, 0, none⟩) n cap, .int .i64 k0] w fun e w' => e = .returned (.int .i64 (kOf X k0 n : Int)) ∧ Below w.heap.size w w' := by
  go_enter Tryz.func14, Tryz.ntmps14
  go_wp2
  go_loopw [1, 5] (fun q i wr => ∃ k : Nat, k ≤ n ∧ i = .int .i64 k ∧ q = .int .i64 (kOf X k0 k : Int) ∧ Below w.heap.size w wr) (fun _ i _ => n - (intOf i).toNat)
  case atStart => exact ⟨0, Nat.zero_le _, rfl, rfl, Below.refl _ _⟩
  case round =>
    obtain ⟨k, hk, rfl, rfl, hbk⟩ := hrel
    by_cases hlt : k < n
    · have hkb := kOf_mono X k0 (show k + 1 ≤ n by omega)
      have hkg := kOf_ge X k0 k
      have hks : kOf X k0 (k + 1) = kOf X k0 k + 8 + (X k).n := rfl
      have hzk := hz k hlt
      have ek := (hE k hlt).keep hbk
      have ik := (hI k hlt).keep hbk
      obtain ⟨kk, hkk⟩ : ∃ kk, kk = kOf X k0 k := ⟨_, rfl⟩
      rw [← hkk] at hkg hks ek ik ⊢
      have HKS : Hid (kOf X k0 (k + 1) = kk + 8 + (X k).n) := hks
      have hkt : kk + 8 + (X k).n ≤ 16000000 := by omega
      clear hkk hks hkb hE hI
      have hq0 : (0 : Int) ≤ (k : Int) := by omega
      have hq1 : (k : Int) < (n : Int) := by omega
      have hwn : IntKind.i64.wrap ((kk : Int) + 7 + ((X k).n : Int) + 1) = (kk : Int) + 7 + ((X k).n : Int) + 1 := by rw [IntKind.wrap_i64] <;> omega
      have hw1 : IntKind.i64.wrap ((kk : Int) + 1) = (kk : Int) + 1 := by rw [IntKind.wrap_i64] <;> omega
      have hw2 : IntKind.i64.wrap ((kk : Int) + 1 + 1) = (kk : Int) + 2 := by rw [IntKind.wrap_i64] <;> omega
      have hw3 : IntKind.i64.wrap ((kk : Int) + 2 + 1) = (kk : Int) + 3 := by rw [IntKind.wrap_i64] <;> omega
      have hw4 : IntKind.i64.wrap ((kk : Int) + 3 + 1) = (kk : Int) + 4 := by rw [IntKind.wrap_i64] <;> omega
      have hw5 : IntKind.i64.wrap ((kk : Int) + 4 + 1) = (kk : Int) + 5 := by rw [IntKind.wrap_i64] <;> omega
      have hw6 : IntKind.i64.wrap ((kk : Int) + 5 + 1) = (kk : Int) + 6 := by rw [IntKind.wrap_i64] <;> omega
      have hw7 : IntKind.i64.wrap ((kk : Int) + 6 + 1) = (kk : Int) + 7 := by rw [IntKind.wrap_i64] <;> omega
      have hneg : ¬ (kk : Int) + 7 + ((X k).n : Int) < 0 := by omega
      have hnegd : decide ((kk : Int) + 7 + ((X k).n : Int) < 0) = false := by simpa using hneg
      have hh := fun W h => heldI_from (L k) (X k).n (C k) ((kk : Int) + 7) (mkE (kk : Int) (X k)).f W h (fun i hi => by simp [mkE, hi]) hzk (by omega)
      obtain ⟨_, a0, a1, a2, a3, a4, a5, a6, a7, a8⟩ := id ek
      simp only [mkE] at a0 a1 a2 a3 a4 a5 a6 a7 a8
      go_wp2
      go_region_held3 (fun w' => w'.cell? ⟨b, k * 9, none⟩ = some (.string (mt (kk : Int)))) (go_keep) (first | (go_at_call 24; refine (markText_any (kk : Int) _ (by omega) (by omega)).mono ?_; rintro e w1 ⟨rfl, hb1⟩; have hb1' := (Below.refl _ wr).drew.trans hb1; have ek1 := ek.keep hb1'; have ik1 := ik.keep hb1'; obtain ⟨_, c0, c1, c2, c3, c4, c5, c6, c7, c8⟩ := id ek1; simp only [mkE] at c0 c1 c2 c3 c4 c5 c6 c7 c8; have bw1 := hbk.trans (hb1'.mono hbk.size); clear hb1 hb1'))
      go_wp2_with fail
      refine (hh _ ik1).mono ?_
      rintro e w2 ⟨rfl, hb2⟩
      have d8 := (ek1.keep hb2).c8
      simp only [mkE] at d8
      have bw2 := bw1.trans (hb2.mono bw1.size)
      clear hb2 hh
      go_wp2
      go_roundw
      case rel => exact ⟨k + 1, by omega, by go_num, by rw [HKS.out]; congr 1; omega, bw2⟩
      case measure => simp [intOf]; omega
    · have e : k = n := by omega
      subst e
      go_wp2
      go_ret
      exact ⟨rfl, hbk⟩
set_option maxHeartbeats 400000 in
theorem markE_zero (ao : Option Addr) (cap : Nat) (q : Int) (w : World) :
    Calls Tryz.prog 13 #[.slice ao 0 cap, .int .i64 q] w fun e w' => e = .returned (.int .i64 q) ∧ w' = w := by
  go_enter Tryz.func13, Tryz.ntmps13
  go_wp2
  go_loopw [1, 5] (fun p i wr => i = .int .i64 0 ∧ p = .int .i64 q ∧ wr = w) (fun _ _ _ => 0)
  case atStart => exact ⟨rfl, rfl, rfl⟩
  case round =>
    obtain ⟨rfl, rfl, rfl⟩ := hrel
    go_wp2
    go_ret
    exact ⟨rfl, rfl⟩

set_option maxHeartbeats 1000000 in
set_option maxHeartbeats 400000 in
theorem heldE_zero (ao : Option Addr) (cap : Nat) (q : Int) (w : World) :
    Calls Tryz.prog 14 #[.slice ao 0 cap, .int .i64 q] w fun e w' => e = .returned (.int .i64 q) ∧ w' = w := by
  go_enter Tryz.func14, Tryz.ntmps14
  go_wp2
  go_loopw [1, 5] (fun p i wr => i = .int .i64 0 ∧ p = .int .i64 q ∧ wr = w) (fun _ _ _ => 0)
  case atStart => exact ⟨rfl, rfl, rfl⟩
  case round =>
    obtain ⟨rfl, rfl, rfl⟩ := hrel
    go_wp2
    go_ret
    exact ⟨rfl, rfl⟩

end Go.Proofs.YtpfjflbbpecbkaaGreat
namespace Go.Proofs.YtpfjflbbpecbkaaGreat
set_option maxRecDepth 100000
open Go.RowKit
set_option linter.unusedSimpArgs false
set_option linter.unusedVariables false

/-- v is a list of m entries X, all of whose memory lies in blocks from base on and below top, and may be written. -/
def CX (w : World) (base top : Nat) (v : Value) (m : Nat) (X : Nat → Ent) : Prop :=
  top ≤ w.heap.size ∧ ((m = 0 ∧ ∃ lo lc, v = .slice lo 0 lc) ∨ ∃ g cap L C, v = .slice (some ⟨g, 0, none⟩) m cap ∧ m ≤ cap ∧ base ≤ g ∧ g < top ∧ CE w g m X L C ∧ ∀ i, i < m → 0 < (X i).n → ∀ c, L i = some ⟨c, 0, none⟩ → base ≤ c ∧ c < top)
/-- What the numbers of Hists are. -/
def FX (m : Nat) (X : Nat → Ent) : Prop := ∀ i, i < m → ∀ j, -9223372036854775808 ≤ (X i).f j ∧ (X i).f j ≤ 9223372036854775807
section
variable {w w' : World} {base base' top top' : Nat} {v : Value} {m : Nat} {X : Nat → Ent}
theorem cx_nil (w : World) (base : Nat) (lo : Option Addr) (lc : Nat) (X : Nat → Ent) : CX w base w.heap.size (.slice lo 0 lc) 0 X := ⟨Nat.le_refl _, .inl ⟨rfl, lo, lc, rfl⟩⟩
theorem CX.form (h : CX w base top v m X) : ∃ lo lc, v = .slice lo m lc := by
  rcases h.2 with ⟨rfl, lo, lc, e⟩ | ⟨g, cap, L, C, e, _⟩
  · exact ⟨lo, lc, e⟩
  · exact ⟨_, _, e⟩
theorem ce_same {b n : Nat} {X : Nat → Ent} {L : Nat → Option Addr} {C : Nat → Nat} (h : CE w b n X L C) (hs : w.heap.size ≤ w'.heap.size) (hb : w'.heap[b]? = w.heap[b]?) (hl : ∀ i, i < n → 0 < (X i).n → ∀ g, L i = some ⟨g, 0, none⟩ → w'.heap[g]? = w.heap[g]?) : CE w' b n X L C := by
  have k : ∀ j, w'.cell? ⟨b, j, none⟩ = w.cell? ⟨b, j, none⟩ := fun j => World.cell?_of_block (w := w) (a := ⟨b, j, none⟩) hb
  refine ⟨Nat.lt_of_lt_of_le h.lt hs, fun i hi => (h.ent i hi).move (Nat.lt_of_lt_of_le h.lt hs) k, fun j hj => (World.frozen?_of_block (w := w) (a := ⟨b, j, none⟩) hb).trans (h.free j hj), fun i hi => ?_, h.dis⟩
  rcases h.hist i hi with h0 | ⟨g, h1, h2, h3⟩
  · exact .inl h0
  · by_cases h0 : (X i).n = 0
    · exact .inl h0
    · have e := hl i hi (by omega) g h1
      exact .inr ⟨g, h1, h2, h3.bd, Nat.lt_of_lt_of_le h3.lt hs, fun j hj => (World.cell?_of_block (w := w) (a := ⟨g, 0 + j, none⟩) e).trans (h3.cell j hj), fun j hj => (World.frozen?_of_block (w := w) (a := ⟨g, 0 + j, none⟩) e).trans (h3.free j hj)⟩
theorem CX.same (h : CX w base top v m X) (hs : w.heap.size ≤ w'.heap.size) (hb : ∀ c, base ≤ c → c < top → w'.heap[c]? = w.heap[c]?) : CX w' base top v m X := by
  refine ⟨Nat.le_trans h.1 hs, ?_⟩
  rcases h.2 with h0 | ⟨g, cap, L, C, e, hcp, h1, h2, h3, h4⟩
  · exact .inl h0
  · exact .inr ⟨g, cap, L, C, e, hcp, h1, h2, ce_same h3 hs (hb g h1 h2) (fun i hi hp c hc => by have := h4 i hi hp c hc; exact hb c this.1 this.2), h4⟩
theorem CX.keep (h : CX w base top v m X) (hb : Below w.heap.size w w') : CX w' base top v m X :=
  h.same hb.size (fun c _ hc => hb.block c (Nat.lt_of_lt_of_le hc h.1))
theorem CX.erow {lo : Option Addr} {n lc : Nat} (h : CX w base top (.slice lo n lc) m X) (hbd : ∀ i, i < m → EB (X i)) (hf : FX m X) : n = m ∧ ERow w lo m X := by
  rcases h.2 with ⟨rfl, lo', lc', e⟩ | ⟨g, cap, L, C, e, hcp, h1, h2, h3, h4⟩
  · injection e with e1 e2 e3
    exact ⟨e2, hbd, .inl rfl⟩
  · injection e with e1 e2 e3
    subst e1 e2
    refine ⟨rfl, hbd, .inr ⟨g, 0, rfl, h3.lt, fun i hi => ⟨L i, C i, by rw [Nat.zero_add]; exact h3.ent i hi, ?_⟩⟩⟩
    rcases h3.hist i hi with h0 | ⟨q, h5, _, h6⟩
    · exact ⟨hf i hi, .inl h0⟩
    · rw [h5]; exact h6.row
theorem cx_of_outH {V : Nat → Value} (h : OutH w base v m X V) : CX w base w.heap.size v m X := by
  refine ⟨Nat.le_refl _, ?_⟩
  by_cases h0 : m = 0
  · obtain ⟨lo, lc, e⟩ := ownsRow_form h.own
    exact .inl ⟨h0, lo, lc, by rw [e, h0]⟩
  · obtain ⟨g, cap, L, C, e, hcp, hg, hce, hL⟩ := h.ce (by omega)
    refine .inr ⟨g, cap, L, C, e, hcp, hg, hce.lt, hce, fun i hi hp c hc => ⟨hL i hi hp c hc, ?_⟩⟩
    rcases hce.hist i hi with h0 | ⟨q, h1, _, h3⟩
    · omega
    · rw [hc] at h1
      injection h1 with h1
      injection h1 with h1 _ _
      rw [h1]; exact h3.lt
end
theorem markCX (v : Value) (base top m : Nat) (X : Nat → Ent) (w : World) (h : CX w base top v m X) (hz : ∀ i, i < m → (X i).n ≤ 1048576) (hn : m ≤ 1048576) (hbd : kOf X 1 m ≤ 16000000) :
    Calls Tryz.prog 13 #[v, .int .i64 1] w fun e w' => e = .returned (.int .i64 (kOf X 1 m : Int)) ∧ (∀ W, Below w'.heap.size w' W → Calls Tryz.prog 14 #[v, .int .i64 1] W fun e w'' => e = .returned (.int .i64 (kOf X 1 m : Int)) ∧ Below W.heap.size W w'') ∧ w'.os = w.os ∧ w'.tape = w.tape ∧ w'.output = w.output ∧ w.heap.size ≤ w'.heap.size ∧ ∀ c, c < w.heap.size → (c < base ∨ top ≤ c) → w'.heap[c]? = w.heap[c]? := by
  rcases h.2 with ⟨rfl, lo, lc, rfl⟩ | ⟨g, cap, L, C, rfl, _, h1, h2, h3, h4⟩
  · refine (markE_zero lo lc 1 w).mono ?_
    rintro e w' ⟨rfl, rfl⟩
    refine ⟨rfl, fun W hW => ?_, rfl, rfl, rfl, Nat.le_refl _, fun _ _ _ => rfl⟩
    refine (heldE_zero lo lc 1 W).mono ?_
    rintro e w'' ⟨rfl, rfl⟩
    exact ⟨rfl, Below.refl _ _⟩
  · refine (markEntryS_any g m cap 1 X L C w h3 (by omega) hz hn hbd).mono ?_
    rintro e w' ⟨rfl, hc', hco⟩
    refine ⟨rfl, fun W hW => ?_, hco.os, hco.tape, hco.output, hco.size, fun c hc hd => hco.block c hc (by omega) (fun i hi hp e => by have := h4 i hi hp c e; omega)⟩
    have hcW := hc'.keep hW
    refine heldEntryS_yes g m cap 1 X L C W (fun i hi => ?_) (fun i hi => ?_) (by omega) hz hn hbd
    · have := hcW.ent i hi
      simpa [hi] using this
    · have hh := hcW.hist i hi
      simp only [hi, if_true] at hh
      rcases hh with h0 | ⟨q, h1, _, h3⟩
      · have h0' : (X i).n = 0 := h0
        exact ⟨fun j => by simp [mkE, h0'], .inl h0'⟩
      · rw [h1]
        exact h3.row
/-- Rows of entries that hold the same are rows of one another. -/
theorem ERow.same {w : World} {ao : Option Addr} {n : Nat} {X Y : Nat → Ent} (h : ERow w ao n X) (hs : ∀ i, i < n → SameE (X i) (Y i)) (hb : ∀ i, i < n → EB (Y i)) (hf : FX n Y) : ERow w ao n Y := by
  refine ⟨hb, ?_⟩
  rcases h.lies with h0 | ⟨b, off, e, hl, hc⟩
  · exact .inl h0
  · refine .inr ⟨b, off, e, hl, fun i hi => ?_⟩
    obtain ⟨da, dc, hE, hI⟩ := hc i hi
    obtain ⟨s1, s2, s3, s4, s5, s6, s7, s8, s9, s10⟩ := hs i hi
    refine ⟨da, dc, ⟨hE.lt, ?_, ?_, ?_, ?_, ?_, ?_, ?_, ?_, ?_⟩, ⟨hf i hi, ?_⟩⟩
    · rw [← s1]; exact hE.c0
    · rw [← s2]; exact hE.c1
    · rw [← s3]; exact hE.c2
    · rw [← s4]; exact hE.c3
    · rw [← s5]; exact hE.c4
    · rw [← s6]; exact hE.c5
    · rw [← s7]; exact hE.c6
    · rw [← s8]; exact hE.c7
    · rw [← s10]; exact hE.c8
    · rw [← s8]
      rcases hI.lies with h0 | ⟨g, o, e2, hg, hcc⟩
      · exact .inl h0
      · exact .inr ⟨g, o, e2, hg, fun j hj => by rw [← s9 j hj]; exact hcc j hj⟩
theorem kOf_few {X : Nat → Ent} {m : Nat} (h : ∀ i, i < m → (X i).n ≤ 8) : ∀ k, k ≤ m → kOf X 1 k ≤ 1 + 16 * k
  | 0, _ => by simp [kOf]
  | k + 1, hk => by
    have := kOf_few h k (by omega)
    have h8 := h k (by omega)
    show kOf X 1 k + 8 + (X k).n ≤ _
    omega
end Go.Proofs.YtpfjflbbpecbkaaGreat
