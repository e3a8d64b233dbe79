/- Rows of entries: measured, copied, compared. -/
import Derived.Test.YtapmbgmmonhdoaaGreatDoorFl
import Derived.Test.YtapmbgmmonhdoaaGreatDoorGdS
import Derived.Laws.IdiomCopy
import Derived.Deep.RegionHeld3
namespace Go.Proofs.YtapmbgmmonhdoaaGreatDoor
set_option maxRecDepth 100000
open Go.RowKit
set_option linter.unusedSimpArgs false
set_option linter.unusedVariables false

theorem Tryz.infoEnt : (Tryz.prog.info? 62).map (fun i => (i.zero, i.size, i.bytes)) = some (some (.agg #[.string ByteArray.empty, .int .i64 0, .int .i64 0, .int .i64 0, .int .i64 0, .int .i64 0, .int .i64 0, .slice none 0 0, .bool false]), 9, 96) := by kernel_rfl

/-- Each entry's text and Hist are no longer than what is measured. -/
def ESize (n : Nat) (X : Nat → Ent) : Prop := ∀ i, i < n → (X i).key.size ≤ 1048576 ∧ (X i).n ≤ 1048576

/-- n entries of the call's own in block b, the first k of them laid, their lists in blocks of their own. -/
structure EOwn (w : World) (b n k : Nat) (X : Nat → Ent) (G : Nat → Nat) : Prop where
  lt : b < w.heap.size
  ent : ∀ i, i < k → EAt w b (i * 9) (X i) (some ⟨G i, 0, none⟩) (X i).n
  data : ∀ i, i < k → b < G i ∧ IOwn w (G i) 0 (X i).n (X i).f
  mono : ∀ i j, i < j → j < k → G i < G j
  there : ∀ j, j < n * 9 → (w.cell? ⟨b, j, none⟩).isSome = true
  free : ∀ j, j < n * 9 → w.frozen? ⟨b, j, none⟩ = false
section
variable {w w' : World} {b n k : Nat} {X : Nat → Ent} {G : Nat → Nat}
theorem EOwn.row (h : EOwn w b n n X G) (hbd : ∀ i, i < n → EB (X i)) : ERow w (some ⟨b, 0, none⟩) n X :=
  ⟨hbd, .inr ⟨b, 0, rfl, h.lt, fun i hi => ⟨_, _, by rw [Nat.zero_add]; exact h.ent i hi, (h.data i hi).2.row⟩⟩⟩
theorem EOwn.keep (h : EOwn w b n k X G) (hb : Below w.heap.size w w') : EOwn w' b n k X G :=
  ⟨Nat.lt_of_lt_of_le h.lt hb.size, fun i hi => (h.ent i hi).keep hb, fun i hi => ⟨(h.data i hi).1, (h.data i hi).2.keep hb⟩, h.mono,
    fun j hj => by rw [hb.cell (p := ⟨b, j, none⟩) h.lt]; exact h.there j hj, fun j hj => (hb.frozen (p := ⟨b, j, none⟩) h.lt).trans (h.free j hj)⟩
end
set_option maxRecDepth 10000 in
theorem EOwn.store {w : World} {b n k : Nat} {X : Nat → Ent} {G : Nat → Nat} (h : EOwn w b n k X G) (hk : k < n) {g : Nat} (ho : IOwn w g 0 (X k).n (X k).f) (hg : b < g) (hm : ∀ i, i < k → G i < g) :
    EOwn (w.setCells b (k * 9) [.string (X k).key, .int .i64 (X k).seq, .int .i64 (X k).kind, .int .i64 (X k).c, .int .i64 (X k).s, .int .i64 (X k).lo, .int .i64 (X k).hi, .slice (some ⟨g, 0, none⟩) (X k).n (X k).n, .bool (X k).fu]) b n (k + 1) X (fun i => if i = k then g else G i) := by
  generalize hL : ([.string (X k).key, .int .i64 (X k).seq, .int .i64 (X k).kind, .int .i64 (X k).c, .int .i64 (X k).s, .int .i64 (X k).lo, .int .i64 (X k).hi, .slice (some ⟨g, 0, none⟩) (X k).n (X k).n, .bool (X k).fu] : List Value) = L
  have hlen : L.length = 9 := by rw [← hL]; rfl
  have hoth := setCells_others b L (k * 9) w
  have hin := World.cell?_setCells_in b L (k * 9) w (fun j hj => h.there _ (by omega))
  have hout : ∀ j, j < k * 9 ∨ k * 9 + 9 ≤ j → (w.setCells b (k * 9) L).cell? ⟨b, j, none⟩ = w.cell? ⟨b, j, none⟩ := fun j hj => World.cell?_setCells_out b L (k * 9) w ⟨b, j, none⟩ (fun _ _ => by simp only [hlen]; exact hj)
  have hlt : b < (w.setCells b (k * 9) L).heap.size := by rw [hoth.size]; exact h.lt
  refine ⟨hlt, fun i hi => ?_, fun i hi => ?_, fun i j hij hj => ?_, fun j hj => ?_, fun j hj => by rw [World.frozen?_setCells]; exact h.free j hj⟩
  · by_cases e : i = k
    · subst e
      simp only [if_true]
      subst hL
      exact ⟨hlt, hin 0 (by simp), hin 1 (by simp), hin 2 (by simp), hin 3 (by simp), hin 4 (by simp), hin 5 (by simp), hin 6 (by simp), hin 7 (by simp), hin 8 (by simp)⟩
    · simp only [e, if_false]
      have h0 := h.ent i (by omega)
      have c : ∀ q, q < 9 → (w.setCells b (k * 9) L).cell? ⟨b, i * 9 + q, none⟩ = w.cell? ⟨b, i * 9 + q, none⟩ := fun q hq => hout _ (by omega)
      exact ⟨hlt, (c 0 (by omega)).trans h0.c0, (c 1 (by omega)).trans h0.c1, (c 2 (by omega)).trans h0.c2, (c 3 (by omega)).trans h0.c3, (c 4 (by omega)).trans h0.c4, (c 5 (by omega)).trans h0.c5, (c 6 (by omega)).trans h0.c6, (c 7 (by omega)).trans h0.c7, (c 8 (by omega)).trans h0.c8⟩
  · by_cases e : i = k
    · subst e
      simp only [if_true]
      exact ⟨hg, hoth.irow ho (by omega)⟩
    · simp only [e, if_false]
      have := h.data i (by omega)
      exact ⟨this.1, hoth.irow this.2 (by omega)⟩
  · by_cases e : j = k
    · subst e
      simp only [if_true, show ¬ i = j by omega, if_false]
      exact hm i hij
    · simp only [e, show ¬ i = k by omega, if_false]
      exact h.mono i j hij (by omega)
  · by_cases hj2 : j < k * 9 ∨ k * 9 + 9 ≤ j
    · rw [hout j hj2]; exact h.there j hj
    · obtain ⟨q, rfl⟩ : ∃ q, j = k * 9 + q := ⟨j - k * 9, by omega⟩
      rw [hin q (by omega)]
      rfl

set_option maxHeartbeats 1600000 in
theorem eqEntryS_same (ao bo : Option Addr) (n ca cb : Nat) (X : Nat → Ent) (w : World) (hr : ERow w ao n X) (hs : ERow w bo n X) (hn : n ≤ 1048576) (hz : ESize n X) :
    Calls Tryz.prog 17 #[.slice ao n ca, .slice bo n cb] w fun e w' => e = .returned (.bool true) ∧ Below w.heap.size w w' := by
  obtain ⟨_, hl⟩ := hr
  obtain ⟨_, hm⟩ := hs
  go_enter Tryz.func17, Tryz.ntmps17
  go_wp2
  go_loopw [5] (fun i wr => ∃ k : Nat, k ≤ n ∧ i = .int .i64 k ∧ Below w.heap.size w wr) (fun i _ => n - (intOf i).toNat)
  case atStart => exact ⟨0, Nat.zero_le _, rfl, Below.refl _ _⟩
  case round =>
    obtain ⟨k, hk, rfl, hbk⟩ := hrel
    by_cases hlt : k < n
    · obtain ⟨b, off, rfl, hblt, hc⟩ := hl.resolve_left (by omega)
      obtain ⟨b', off', rfl, hblt', hc'⟩ := hm.resolve_left (by omega)
      obtain ⟨da, dc, ea, ia⟩ := hc k hlt
      obtain ⟨db, ec, eb, ib⟩ := hc' k hlt
      have hlen := (hz k hlt).2
      have ea1 := ea.keep hbk
      have eb1 := eb.keep hbk
      obtain ⟨_, a0, a1, a2, a3, a4, a5, a6, a7, a8⟩ := id ea1
      obtain ⟨_, b0, b1, b2, b3, b4, b5, b6, b7, b8⟩ := id eb1
      have r1 := (ia.keep hbk).keep (Below.refl _ _).drew
      have r2 := (ib.keep hbk).keep (Below.refl _ _).drew
      clear hc hc' hl hm ea eb ia ib
      go_wp2
      go_region_held3 (fun w' => w'.cell? ⟨b, off + k * 9, none⟩ = some (.string (X k).key) ∧ w'.cell? ⟨b, off + k * 9 + 1, none⟩ = some (.int .i64 (X k).seq) ∧ w'.cell? ⟨b, off + k * 9 + 2, none⟩ = some (.int .i64 (X k).kind) ∧ w'.cell? ⟨b, off + k * 9 + 3, none⟩ = some (.int .i64 (X k).c) ∧ w'.cell? ⟨b, off + k * 9 + 4, none⟩ = some (.int .i64 (X k).s) ∧ w'.cell? ⟨b, off + k * 9 + 5, none⟩ = some (.int .i64 (X k).lo) ∧ w'.cell? ⟨b, off + k * 9 + 6, none⟩ = some (.int .i64 (X k).hi) ∧ w'.cell? ⟨b, off + k * 9 + 7, none⟩ = some (.slice da (X k).n dc) ∧ w'.cell? ⟨b, off + k * 9 + 8, none⟩ = some (.bool (X k).fu) ∧ w'.cell? ⟨b', off' + k * 9, none⟩ = some (.string (X k).key) ∧ w'.cell? ⟨b', off' + k * 9 + 1, none⟩ = some (.int .i64 (X k).seq) ∧ w'.cell? ⟨b', off' + k * 9 + 2, none⟩ = some (.int .i64 (X k).kind) ∧ w'.cell? ⟨b', off' + k * 9 + 3, none⟩ = some (.int .i64 (X k).c) ∧ w'.cell? ⟨b', off' + k * 9 + 4, none⟩ = some (.int .i64 (X k).s) ∧ w'.cell? ⟨b', off' + k * 9 + 5, none⟩ = some (.int .i64 (X k).lo) ∧ w'.cell? ⟨b', off' + k * 9 + 6, none⟩ = some (.int .i64 (X k).hi) ∧ w'.cell? ⟨b', off' + k * 9 + 7, none⟩ = some (.slice db (X k).n ec) ∧ w'.cell? ⟨b', off' + k * 9 + 8, none⟩ = some (.bool (X k).fu)) (go_keep) (first | (go_at_call 29; refine (eqEntry_same (X k) _ _ _ _ _ r1 r2 hlen).mono ?_; rintro e w6 ⟨rfl, hb6⟩; have hb6' := (Below.refl _ wr).drew.trans hb6; obtain ⟨_, p0, p1, p2, p3, p4, p5, p6, p7, p8⟩ := ea1.keep hb6'; obtain ⟨_, q0, q1, q2, q3, q4, q5, q6, q7, q8⟩ := eb1.keep hb6'; have bw6 := hbk.trans (hb6'.mono hbk.size); clear hb6 hb6'))
      go_wp2
      go_roundw
      case rel => exact ⟨k + 1, by omega, by go_num, bw6⟩
      case measure => simp [intOf]; omega
    · go_wp2
      go_ret
      exact ⟨rfl, hbk⟩
end Go.Proofs.YtapmbgmmonhdoaaGreatDoor
