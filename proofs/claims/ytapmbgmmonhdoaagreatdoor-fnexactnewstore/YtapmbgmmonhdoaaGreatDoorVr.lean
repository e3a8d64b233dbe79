/- Rows of metas, and versions: measured, copied, compared, marked, held. -/
import Derived.Test.YtapmbgmmonhdoaaGreatDoorMt
namespace Go.Proofs.YtapmbgmmonhdoaaGreatDoor
set_option maxRecDepth 100000
open Go.RowKit
set_option linter.unusedSimpArgs false
set_option linter.unusedVariables false

theorem Tryz.infoMS : (Tryz.prog.info? 84).map (fun i => (i.zero, i.size, i.bytes)) = some (some (.slice none 0 0), 1, 24) := by kernel_rfl

/-- N rows of metas lie at ao: the i-th has M i metas R i. -/
structure VRow (w : World) (ao : Option Addr) (N : Nat) (R : Nat → Nat → Met) (M : Nat → Nat) : Prop where
  bd : ∀ i, i < N → ∀ j, j < M i → MB (R i j)
  len : ∀ i, i < N → M i ≤ 9223372036854775807
  lies : N = 0 ∨ ∃ b off, ao = some ⟨b, off, none⟩ ∧ b < w.heap.size ∧ ∀ i, i < N → ∃ da dc, w.cell? ⟨b, off + i, none⟩ = some (.slice da (M i) dc) ∧ MRow w da (M i) (R i)
theorem VRow.keep {w w' : World} {ao : Option Addr} {N : Nat} {R : Nat → Nat → Met} {M : Nat → Nat} (h : VRow w ao N R M) (hb : Below w.heap.size w w') : VRow w' ao N R M :=
  ⟨h.bd, h.len, h.lies.elim .inl fun ⟨b, off, e, hlt, hc⟩ => .inr ⟨b, off, e, Nat.lt_of_lt_of_le hlt hb.size, fun i hi => by obtain ⟨da, dc, h1, h2⟩ := hc i hi; exact ⟨da, dc, (hb.cell (p := ⟨b, off + i, none⟩) hlt).trans h1, h2.keep hb⟩⟩⟩
/-- All together. -/
def totV (R : Nat → Nat → Met) (M : Nat → Nat) : Nat → Nat
  | 0 => 0
  | k + 1 => totV R M k + (M k + mtot (R k) (M k))
theorem totV_le {R : Nat → Nat → Met} {M : Nat → Nat} : ∀ {N i : Nat}, i < N → M i + mtot (R i) (M i) ≤ totV R M N
  | N + 1, i, h => by
    unfold totV
    rcases Nat.lt_succ_iff_lt_or_eq.1 h with h | rfl
    · have := totV_le (R := R) (M := M) h; omega
    · omega
/-- How many metas the first k rows have. -/
def sumM (M : Nat → Nat) : Nat → Nat
  | 0 => 0
  | k + 1 => sumM M k + M k
theorem sumM_tot (R : Nat → Nat → Met) (M : Nat → Nat) : ∀ N, sumM M N ≤ totV R M N
  | 0 => Nat.le_refl _
  | N + 1 => by have := sumM_tot R M N; unfold sumM totV; omega
theorem sumM_mono {M : Nat → Nat} : ∀ {N i : Nat}, i ≤ N → sumM M i ≤ sumM M N
  | 0, i, h => by obtain rfl : i = 0 := by omega
                  exact Nat.le_refl _
  | N + 1, i, h => by
    rcases Nat.lt_or_ge i (N + 1) with h1 | h1
    · have := sumM_mono (M := M) (show i ≤ N by omega)
      exact Nat.le_trans this (Nat.le_add_right _ _)
    · obtain rfl : i = N + 1 := by omega
      exact Nat.le_refl _

/-- N rows to be written in block b, the first k of them laid, each in a block of its own. -/
structure VO (w : World) (b N k : Nat) (R : Nat → Nat → Met) (M : Nat → Nat) (A : Nat → Option Addr) (C : Nat → Nat) : Prop where
  lt : b < w.heap.size
  cell : ∀ i, i < k → w.cell? ⟨b, i, none⟩ = some (.slice (A i) (M i) (C i))
  row : ∀ i, i < k → M i = 0 ∨ ∃ g, A i = some ⟨g, 0, none⟩ ∧ g ≠ b ∧ MOwn w g (M i) (R i)
  dis : ∀ i j, i < k → j < k → i ≠ j → 0 < M i → 0 < M j → A i ≠ A j
  there : ∀ j, j < N → (w.cell? ⟨b, j, none⟩).isSome = true
  free : ∀ j, j < N → w.frozen? ⟨b, j, none⟩ = false
section
variable {w w' : World} {b N k : Nat} {R R' : Nat → Nat → Met} {M : Nat → Nat} {A : Nat → Option Addr} {C : Nat → Nat}
theorem VO.same (h : VO w b N k R M A C) (hs : w.heap.size ≤ w'.heap.size) (hb : w'.heap[b]? = w.heap[b]?) (hg : ∀ i, i < k → 0 < M i → ∀ g, A i = some ⟨g, 0, none⟩ → w'.heap[g]? = w.heap[g]?) : VO w' b N k R M A C := by
  have c := fun j => World.cell?_of_block (w := w) (w' := w') (a := ⟨b, j, none⟩) hb
  refine ⟨Nat.lt_of_lt_of_le h.lt hs, fun i hi => (c i).trans (h.cell i hi), fun i hi => ?_, h.dis, fun j hj => by rw [c j]; exact h.there j hj, fun j hj => (World.frozen?_of_block (w := w) (a := ⟨b, j, none⟩) hb).trans (h.free j hj)⟩
  by_cases h0 : M i = 0
  · exact .inl h0
  · obtain ⟨g, e, hne, ho⟩ := (h.row i hi).resolve_left h0
    exact .inr ⟨g, e, hne, ho.same hs (hg i hi (by omega) g e)⟩
theorem VO.glt (h : VO w b N k R M A C) {i g : Nat} (hi : i < k) (h0 : 0 < M i) (e : A i = some ⟨g, 0, none⟩) : g < w.heap.size := by
  obtain ⟨g', e', _, ho⟩ := (h.row i hi).resolve_left (by omega)
  rw [e] at e'
  injection e' with e'
  injection e' with e' _ _
  rw [e']; exact ho.lt
theorem VO.keep (h : VO w b N k R M A C) (hb : Below w.heap.size w w') : VO w' b N k R M A C :=
  h.same hb.size (hb.block b h.lt) (fun i hi h0 g e => hb.block g (h.glt hi h0 e))
theorem VO.store {a : Option Addr} {c m : Nat} {X : Nat → Met} (h : VO w b N k R M A C) (hk : k < N) (hl : M k = 0 ∨ ∃ g, a = some ⟨g, 0, none⟩ ∧ g ≠ b ∧ MOwn w g (M k) (R k)) (hd : 0 < M k → ∀ i, i < k → 0 < M i → A i ≠ a) :
    VO (w.setCell ⟨b, k, none⟩ (.slice a (M k) c)) b N (k + 1) R M (fun i => if i = k then a else A i) (fun i => if i = k then c else C i) := by
  have hoth : Others b w (w.setCell ⟨b, k, none⟩ (.slice a (M k) c)) := Others.setCell _ _ _ _
  have hs : w.heap.size ≤ (w.setCell ⟨b, k, none⟩ (.slice a (M k) c)).heap.size := by rw [hoth.size]; exact Nat.le_refl _
  obtain ⟨v0, hv0⟩ := Option.isSome_iff_exists.1 (h.there k hk)
  have hsame : (w.setCell ⟨b, k, none⟩ (.slice a (M k) c)).cell? ⟨b, k, none⟩ = some (.slice a (M k) c) := World.cell?_setCell_same _ _ _ hv0
  have hother : ∀ j, j ≠ k → (w.setCell ⟨b, k, none⟩ (.slice a (M k) c)).cell? ⟨b, j, none⟩ = w.cell? ⟨b, j, none⟩ := fun j hj => World.cell?_setCell_other _ _ _ _ (by intro hh; injection hh with _ h2 _; omega)
  refine ⟨by rw [hoth.size]; exact h.lt, fun i hi => ?_, fun i hi => ?_, fun i j hi hj hij h1 h2 => ?_, fun j hj => ?_, fun j hj => by simpa using h.free j hj⟩
  · by_cases e : i = k
    · subst e; simp only [if_true]; exact hsame
    · simp only [e, if_false]; rw [hother i e]; exact h.cell i (by omega)
  · by_cases e : i = k
    · subst e; simp only [if_true]
      rcases hl with h0 | ⟨g, e1, hne, ho⟩
      · exact .inl h0
      · exact .inr ⟨g, e1, hne, ho.same hs (hoth.block g hne)⟩
    · simp only [e, if_false]
      rcases h.row i (by omega) with h0 | ⟨g, e1, hne, ho⟩
      · exact .inl h0
      · exact .inr ⟨g, e1, hne, ho.same hs (hoth.block g hne)⟩
  · by_cases e : i = k
    · subst e
      simp only [if_true, show ¬ j = i by omega, if_false]
      exact fun ee => hd h1 j (by omega) h2 ee.symm
    · by_cases e' : j = k
      · subst e'
        simp only [if_true, e, if_false]
        exact hd h2 i (by omega) h1
      · simp only [e, e', if_false]
        exact h.dis i j (by omega) (by omega) hij h1 h2
  · by_cases e : j = k
    · subst e; rw [hsame]; rfl
    · rw [hother j e]; exact h.there j hj
end

/-- Rows of metas, all of whose memory lies in blocks from lo on and below hi, and may be written. -/
def VA (w : World) (lo hi : Nat) (ao : Option Addr) (N : Nat) (R : Nat → Nat → Met) (M : Nat → Nat) : Prop :=
  hi ≤ w.heap.size ∧ (N = 0 ∨ ∃ b A C, ao = some ⟨b, 0, none⟩ ∧ lo ≤ b ∧ b < hi ∧ VO w b N N R M A C ∧ ∀ i, i < N → 0 < M i → ∀ g, A i = some ⟨g, 0, none⟩ → lo ≤ g ∧ g < hi)
section
variable {w w' : World} {lo hi lo' hi' N : Nat} {ao : Option Addr} {R : Nat → Nat → Met} {M : Nat → Nat}
theorem va_nil (w : World) (lo : Nat) (ao : Option Addr) (R : Nat → Nat → Met) (M : Nat → Nat) : VA w lo w.heap.size ao 0 R M := ⟨Nat.le_refl _, .inl rfl⟩
theorem VA.same (h : VA w lo hi ao N R M) (hs : w.heap.size ≤ w'.heap.size) (hb : ∀ c, lo ≤ c → c < hi → w'.heap[c]? = w.heap[c]?) : VA w' lo hi ao N R M := by
  refine ⟨Nat.le_trans h.1 hs, ?_⟩
  rcases h.2 with h0 | ⟨b, A, C, e, h1, h2, h3, h4⟩
  · exact .inl h0
  · exact .inr ⟨b, A, C, e, h1, h2, h3.same hs (hb b h1 h2) (fun i hi' h0 g eg => by have := h4 i hi' h0 g eg; exact hb g this.1 this.2), h4⟩
theorem VA.keep (h : VA w lo hi ao N R M) (hb : Below w.heap.size w w') : VA w' lo hi ao N R M :=
  h.same hb.size (fun c _ hc => hb.block c (Nat.lt_of_lt_of_le hc h.1))
theorem VA.mono (h : VA w lo hi ao N R M) (hb : lo' ≤ lo) (ht : hi ≤ hi') (ht2 : hi' ≤ w.heap.size) : VA w lo' hi' ao N R M := by
  refine ⟨ht2, ?_⟩
  rcases h.2 with h0 | ⟨b, A, C, e, h1, h2, h3, h4⟩
  · exact .inl h0
  · exact .inr ⟨b, A, C, e, by omega, by omega, h3, fun i hi h0 g eg => by have := h4 i hi h0 g eg; omega⟩
theorem VA.row (h : VA w lo hi ao N R M) (hbd : ∀ i, i < N → ∀ j, j < M i → MB (R i j)) (hlen : ∀ i, i < N → M i ≤ 9223372036854775807) : VRow w ao N R M := by
  refine ⟨hbd, hlen, ?_⟩
  rcases h.2 with h0 | ⟨b, A, C, e, h1, h2, h3, h4⟩
  · exact .inl h0
  · refine .inr ⟨b, 0, e, h3.lt, fun i hi => ⟨A i, C i, by rw [Nat.zero_add]; exact h3.cell i hi, ?_⟩⟩
    rcases h3.row i hi with h0 | ⟨g, eg, _, ho⟩
    · exact ⟨hbd i hi, .inl h0⟩
    · rw [eg]; exact ho.row (hbd i hi)
theorem VA.congr {R' : Nat → Nat → Met} {M' : Nat → Nat} (h : VA w lo hi ao N R M) (e : ∀ i, i < N → M i = M' i) (e2 : ∀ i, i < N → ∀ j, j < M i → R i j = R' i j) : VA w lo hi ao N R' M' := by
  refine ⟨h.1, ?_⟩
  rcases h.2 with h0 | ⟨b, A, C, e1, h1, h2, h3, h4⟩
  · exact .inl h0
  · refine .inr ⟨b, A, C, e1, h1, h2, ⟨h3.lt, fun i hi => by rw [← e i hi]; exact h3.cell i hi, fun i hi => ?_, fun i j hi hj => by rw [← e i hi, ← e j hj]; exact h3.dis i j hi hj, h3.there, h3.free⟩, fun i hi => by rw [← e i hi]; exact h4 i hi⟩
    rw [← e i hi]
    rcases h3.row i hi with h0 | ⟨g, eg, hne, ho⟩
    · exact .inl h0
    · exact .inr ⟨g, eg, hne, ho.congr (e2 i hi)⟩
end

set_option maxHeartbeats 1600000 in
theorem eqMetaSS_same (ao bo : Option Addr) (N ca cb : Nat) (R : Nat → Nat → Met) (M : Nat → Nat) (w : World) (hr : VRow w ao N R M) (hs : VRow w bo N R M) (hN : N ≤ 1048576) (ht : ∀ i, i < N → M i ≤ 1048576) :
    Calls Tryz.prog 28 #[.slice ao N ca, .slice bo N cb] w fun e w' => e = .returned (.bool true) ∧ Below w.heap.size w w' := by
  obtain ⟨_, _, hl⟩ := hr
  obtain ⟨_, _, hm⟩ := hs
  go_enter Tryz.func28, Tryz.ntmps28
  go_wp2
  go_loopw [5] (fun i wr => ∃ k : Nat, k ≤ N ∧ i = .int .i64 k ∧ Below w.heap.size w wr) (fun i _ => N - (intOf i).toNat)
  case atStart => exact ⟨0, Nat.zero_le _, rfl, Below.refl _ _⟩
  case round =>
    obtain ⟨k, hk, rfl, hbk⟩ := hrel
    by_cases hlt : k < N
    · obtain ⟨b, off, rfl, hblt, hc⟩ := hl.resolve_left (by omega)
      obtain ⟨b', off', rfl, hblt', hc'⟩ := hm.resolve_left (by omega)
      obtain ⟨da, dc, ea, ia⟩ := hc k hlt
      obtain ⟨db, ec, eb, ib⟩ := hc' k hlt
      have hmk := ht k hlt
      have a0 := (hbk.cell (p := ⟨b, off + k, none⟩) hblt).trans ea
      have b0 := (hbk.cell (p := ⟨b', off' + k, none⟩) hblt').trans eb
      have r1 := (ia.keep hbk).keep (Below.refl _ _).drew
      have r2 := (ib.keep hbk).keep (Below.refl _ _).drew
      have g1 : b < wr.heap.size := Nat.lt_of_lt_of_le hblt hbk.size
      have g2 : b' < wr.heap.size := Nat.lt_of_lt_of_le hblt' hbk.size
      clear hc hc' hl hm ea eb ia ib ht
      go_wp2
      go_region_held3 (fun w' => w'.cell? ⟨b, off + k, none⟩ = some (.slice da (M k) dc) ∧ w'.cell? ⟨b', off' + k, none⟩ = some (.slice db (M k) ec)) (go_keep) (first | (go_at_call 45; refine (eqMetaS_same _ _ (M k) _ _ (R k) _ r1 r2 hmk).mono ?_; rintro e w6 ⟨rfl, hb6⟩; have hb6' := (Below.refl _ wr).drew.trans hb6; have p0 := (hb6'.cell (p := ⟨b, off + k, none⟩) g1).trans a0; have q0 := (hb6'.cell (p := ⟨b', off' + k, none⟩) g2).trans b0; have bw6 := hbk.trans (hb6'.mono hbk.size); clear hb6 hb6'))
      go_wp2
      go_roundw
      case rel => exact ⟨k + 1, by omega, by go_num, bw6⟩
      case measure => simp [intOf]; omega
    · go_wp2
      go_ret
      exact ⟨rfl, hbk⟩

set_option maxHeartbeats 400000 in
theorem markMetaS_zero (ao : Option Addr) (cap : Nat) (q : Int) (w : World) :
    Calls Tryz.prog 48 #[.slice ao 0 cap, .int .i64 q] w fun e w' => e = .returned (.int .i64 q) ∧ w' = w := by
  go_enter Tryz.func48, Tryz.ntmps48
  go_wp2
  go_loopw [1, 5] (fun p i wr => i = .int .i64 0 ∧ p = .int .i64 q ∧ wr = w) (fun _ _ _ => 0)
  case atStart => exact ⟨rfl, rfl, rfl⟩
  case round =>
    obtain ⟨rfl, rfl, rfl⟩ := hrel
    go_wp2
    go_ret
    exact ⟨rfl, rfl⟩

/-- Rows that are marked from k0 on. -/
def mkR (M : Nat → Nat) (k0 : Nat) (i j : Nat) : Met := mkM ((k0 + 4 * sumM M i + 4 * j : Nat) : Int)

/-- The marks of one row of several. -/
theorem markOne (w : World) (b N k0 i : Nat) (R : Nat → Nat → Met) (M : Nat → Nat) (A : Nat → Option Addr) (C : Nat → Nat) (h : VO w b N N R M A C) (hi : i < N) (hk0 : 1 ≤ k0) (hm : M i ≤ 1048576) (hbd : k0 + 4 * M i ≤ 16000000) :
    Calls Tryz.prog 48 #[.slice (A i) (M i) (C i), .int .i64 k0] w fun e w' => e = .returned (.int .i64 ((k0 + 4 * M i : Nat) : Int)) ∧ VO w' b N N (fun q j => if q = i then mkM ((k0 + 4 * j : Nat) : Int) else R q j) M A C ∧
      ∀ lo hi, (0 < M i → ∀ g, A i = some ⟨g, 0, none⟩ → lo ≤ g ∧ g < hi) → Rng lo hi w w' := by
  by_cases h0 : M i = 0
  · rw [h0]
    refine (markMetaS_zero _ _ _ w).mono ?_
    rintro e w' ⟨rfl, rfl⟩
    refine ⟨by simp, ⟨h.lt, h.cell, fun q hq => ?_, h.dis, h.there, h.free⟩, fun lo hi _ => Rng.refl _ _ _⟩
    by_cases e : q = i
    · subst e; exact .inl h0
    · simp only [e, if_false]; exact h.row q hq
  · obtain ⟨g, eg, hne, ho⟩ := (h.row i hi).resolve_left h0
    have e1 : Value.slice (A i) (M i) (C i) = .slice (some ⟨g, 0, none⟩) (M i) (C i) := by rw [eg]
    rw [e1]
    refine (markMetaS_any g (M i) (C i) k0 (R i) w ho hk0 hm hbd).mono ?_
    rintro e w' ⟨rfl, ho', on⟩
    have hb := on.block b h.lt (fun e => hne e.symm)
    have c := fun j => World.cell?_of_block (w := w) (w' := w') (a := ⟨b, j, none⟩) hb
    refine ⟨rfl, ⟨Nat.lt_of_lt_of_le h.lt on.size, fun q hq => (c q).trans (h.cell q hq), fun q hq => ?_, h.dis, fun j hj => by rw [c j]; exact h.there j hj, fun j hj => (World.frozen?_of_block (w := w) (a := ⟨b, j, none⟩) hb).trans (h.free j hj)⟩, fun lo hi hg => Rng.of_only on (hg (by omega) g eg).1 (hg (by omega) g eg).2⟩
    by_cases e : q = i
    · subst e; simp only [if_true]; exact .inr ⟨g, eg, hne, ho'⟩
    · simp only [e, if_false]
      by_cases hq0 : M q = 0
      · exact .inl hq0
      · obtain ⟨g2, eg2, hne2, ho2⟩ := (h.row q hq).resolve_left hq0
        refine .inr ⟨g2, eg2, hne2, ho2.same on.size (on.block g2 ho2.lt (fun e3 => ?_))⟩
        exact h.dis q i hq hi e (by omega) (by omega) (by rw [eg2, eg, e3])

set_option maxHeartbeats 1600000 in
theorem markMetaSS_any (lo hi : Nat) (ao : Option Addr) (N cap k0 : Nat) (R : Nat → Nat → Met) (M : Nat → Nat) (w : World) (h : VA w lo hi ao N R M) (hk0 : 1 ≤ k0) (hN : N ≤ 1048576) (hs : sumM M N ≤ 1048576) (hbd : k0 + 4 * sumM M N ≤ 16000000) :
    Calls Tryz.prog 31 #[.slice ao N cap, .int .i64 k0] w fun e w' => e = .returned (.int .i64 ((k0 + 4 * sumM M N : Nat) : Int)) ∧ VA w' lo hi ao N (mkR M k0) M ∧ Rng lo hi w w' := by
  obtain ⟨h0, h⟩ := h
  by_cases hz : N = 0
  · subst hz
    go_enter Tryz.func31, Tryz.ntmps31
    go_wp2
    go_loopw [1, 5] (fun q i wr => i = .int .i64 0 ∧ q = .int .i64 k0 ∧ wr = w) (fun _ _ _ => 0)
    case atStart => exact ⟨rfl, rfl, rfl⟩
    case round =>
      obtain ⟨rfl, rfl, rfl⟩ := hrel
      go_wp2
      go_ret
      exact ⟨rfl, ⟨h0, .inl rfl⟩, Rng.refl _ _ _⟩
  obtain ⟨b, A, C, rfl, h1, h2, h3, h4⟩ := h.resolve_left hz
  have H4 : Hid (∀ i, i < N → 0 < M i → ∀ g, A i = some ⟨g, 0, none⟩ → lo ≤ g ∧ g < hi) := h4
  clear h h4
  go_enter Tryz.func31, Tryz.ntmps31
  go_wp2
  go_loopw [1, 5] (fun q i wr => ∃ k kk : Nat, k ≤ N ∧ i = .int .i64 k ∧ q = .int .i64 (kk : Int) ∧ Hid (kk = k0 + 4 * sumM M k) ∧ VO wr b N N (fun i j => if i < k then mkR M k0 i j else R i j) M A C ∧ Rng lo hi w wr) (fun _ i _ => N - (intOf i).toNat)
  case atStart => exact ⟨0, k0, Nat.zero_le _, rfl, rfl, by simp [Hid, sumM], by simpa using h3, Rng.refl _ _ _⟩
  case round =>
    obtain ⟨k, kk, hk, rfl, rfl, HK, hV, hrg⟩ := hrel
    clear h3
    by_cases hlt : k < N
    · have a0 := hV.cell k hlt
      have hsk := sumM_mono (M := M) (show k + 1 ≤ N by omega)
      have hse : sumM M (k + 1) = sumM M k + M k := rfl
      have hmark := markOne wr b N kk k _ M A C hV hlt (by have := HK.out; omega) (by omega) (by have := HK.out; omega)
      have HK2 : Hid (kk + 4 * M k = k0 + 4 * sumM M (k + 1)) := by have := HK.out; unfold Hid; omega
      clear hsk hse
      go_wp2_with fail
      refine hmark.mono ?_
      rintro e w2 ⟨rfl, hV2, hr2⟩
      have hr3 := hrg.trans (hr2 lo hi (fun h0 g e => H4.out k hlt h0 g e))
      clear hr2 hmark hV
      have hV3 : VO w2 b N N (fun i j => if i < k + 1 then mkR M k0 i j else R i j) M A C := by
        refine ⟨hV2.lt, hV2.cell, fun q hq => ?_, hV2.dis, hV2.there, hV2.free⟩
        rcases hV2.row q hq with h0 | ⟨g, eg, hne, ho⟩
        · exact .inl h0
        · refine .inr ⟨g, eg, hne, ho.congr fun j _ => ?_⟩
          by_cases e1 : q = k
          · subst e1
            simp only [if_true, Nat.lt_succ_self, mkR, HK.out]
          · by_cases e2 : q < k
            · simp [e1, e2, show q < k + 1 by omega]
            · simp [e1, e2, show ¬ q < k + 1 by omega]
      clear hV2
      generalize kk + 4 * M k = k2 at HK2 ⊢
      go_wp2
      go_roundw
      case rel => exact ⟨k + 1, k2, by omega, by go_num, rfl, HK2, hV3, hr3⟩
      case measure => simp [intOf]; omega
    · obtain rfl : k = N := by omega
      go_wp2
      go_ret
      refine ⟨by rw [HK.out]; rfl, ⟨Nat.le_trans h0 hrg.size, .inr ⟨b, A, C, rfl, h1, h2, ⟨hV.lt, hV.cell, fun q hq => ?_, hV.dis, hV.there, hV.free⟩, H4.out⟩⟩, hrg⟩
      have := hV.row q hq
      simpa [hq] using this

set_option maxHeartbeats 1600000 in
theorem heldMetaSS_yes (ao : Option Addr) (N cap k0 : Nat) (M : Nat → Nat) (w : World) (h : VRow w ao N (mkR M k0) M) (hk0 : 1 ≤ k0) (hN : N ≤ 1048576) (hs : sumM M N ≤ 1048576) (hbd : k0 + 4 * sumM M N ≤ 16000000) :
    Calls Tryz.prog 35 #[.slice ao N cap, .int .i64 k0] w fun e w' => e = .returned (.int .i64 ((k0 + 4 * sumM M N : Nat) : Int)) ∧ Below w.heap.size w w' := by
  obtain ⟨_, _, hl⟩ := h
  go_enter Tryz.func35, Tryz.ntmps35
  go_wp2
  go_loopw [1, 5] (fun q i wr => ∃ k kk : Nat, k ≤ N ∧ i = .int .i64 k ∧ q = .int .i64 (kk : Int) ∧ Hid (kk = k0 + 4 * sumM M k) ∧ Below w.heap.size w wr) (fun _ i _ => N - (intOf i).toNat)
  case atStart => exact ⟨0, k0, Nat.zero_le _, rfl, rfl, by simp [Hid, sumM], Below.refl _ _⟩
  case round =>
    obtain ⟨k, kk, hk, rfl, rfl, HK, hbk⟩ := hrel
    by_cases hlt : k < N
    · obtain ⟨b, off, rfl, hblt, hc⟩ := hl.resolve_left (by omega)
      obtain ⟨da, dc, ea, ia⟩ := hc k hlt
      have a0 := (hbk.cell (p := ⟨b, off + k, none⟩) hblt).trans ea
      have hsk := sumM_mono (M := M) (show k + 1 ≤ N by omega)
      have hse : sumM M (k + 1) = sumM M k + M k := rfl
      have ik := ia.keep hbk
      have ik2 : MRow wr da (M k) (fun i => mkM ((kk + 4 * i : Nat) : Int)) := ik.congr fun j _ => by simp only [mkR, HK.out]
      have hheld := heldMetaS_yes da (M k) dc kk wr ik2 (by have := HK.out; omega) (by omega) (by have := HK.out; omega)
      have HK2 : Hid (kk + 4 * M k = k0 + 4 * sumM M (k + 1)) := by have := HK.out; unfold Hid; omega
      have hneg : ¬ ((kk + 4 * M k : Nat) : Int) < 0 := by omega
      clear hsk hse ia ik ik2 hc hl ea
      generalize kk + 4 * M k = k3 at hheld hneg HK2
      go_wp2_with fail
      refine hheld.mono ?_
      rintro e w2 ⟨rfl, hb2⟩
      have bw2 := hbk.trans (hb2.mono hbk.size)
      clear hb2 hheld
      go_wp2
      go_roundw
      case rel => exact ⟨k + 1, k3, by omega, by go_num, rfl, HK2, bw2⟩
      case measure => simp [intOf]; omega
    · obtain rfl : k = N := by omega
      go_wp2
      go_ret
      exact ⟨by rw [HK.out]; rfl, hbk⟩
end Go.Proofs.YtapmbgmmonhdoaaGreatDoor
