/- Marks laid into an answer's memory, and looked for, from 1 on. / Bytes of an answer: nil, or in memory of their own; their marks. -/
import Derived.Test.YtpfjflbbpecbkaaGreatIL
import Derived.Test.YtpfjflbbpecbkaaGreatLists
namespace Go.Proofs.YtpfjflbbpecbkaaGreat
set_option maxRecDepth 100000
open Go.RowKit
set_option linter.unusedSimpArgs false
set_option linter.unusedVariables false

def marks (i : Nat) : Int := ((1 + i : Nat) : Int) % 256

theorem mark_one (g off n cap : Nat) (f : Nat → Int) (w : World) (ho : Own w g off n f) (hn : n ≤ 1048576) :
    Calls Tryz.prog 12 #[.slice (some ⟨g, off, none⟩) n cap, .int .i64 1] w fun e w' => e = .returned (.int .i64 ((n : Int) + 1)) ∧ Own w' g off n marks ∧ Others g w w' := by
  refine (markByteS_any g off n cap f 1 w ho hn (by omega)).mono fun e w' h => ?_
  obtain ⟨rfl, h1, h2⟩ := h
  exact ⟨by rw [show ((1 + n : Nat) : Int) = (n : Int) + 1 from by omega], h1, h2⟩

set_option maxHeartbeats 400000 in
theorem mark_none (ao : Option Addr) (cap : Nat) (w : World) :
    Calls Tryz.prog 12 #[.slice ao 0 cap, .int .i64 1] w fun e w' => e = .returned (.int .i64 1) ∧ w' = w := by
  go_enter Tryz.func12, Tryz.ntmps12
  go_wp2
  go_loopw [1, 5] (fun q i wr => i = .int .i64 0 ∧ q = .int .i64 1 ∧ wr = w) (fun _ _ _ => 0)
  case atStart => exact ⟨rfl, rfl, rfl⟩
  case round =>
    obtain ⟨rfl, rfl, rfl⟩ := hrel
    go_wp2
    go_ret
    exact ⟨rfl, rfl⟩
theorem eq_none (ao bo : Option Addr) (ca cb : Nat) (w : World) :
    Calls Tryz.prog 11 #[.slice ao 0 ca, .slice bo 0 cb] w fun e w' => e = .returned (.bool true) ∧ Below w.heap.size w w' :=
  eqByteS_same ao bo 0 ca cb (fun _ => 0) w ⟨fun _ => by omega, .inl rfl⟩ ⟨fun _ => by omega, .inl rfl⟩ (by omega)

end Go.Proofs.YtpfjflbbpecbkaaGreat
namespace Go.Proofs.YtpfjflbbpecbkaaGreat
set_option maxRecDepth 100000
open Go.RowKit
set_option linter.unusedSimpArgs false
set_option linter.unusedVariables false

/-- All blocks but those from B up to U are as they were. -/
structure Mid (B U : Nat) (w w' : World) : Prop where
  os : w'.os = w.os
  tape : w'.tape = w.tape
  output : w'.output = w.output
  size : w.heap.size ≤ w'.heap.size
  block : ∀ k, k < w.heap.size → (k < B ∨ U ≤ k) → w'.heap[k]? = w.heap[k]?
section
variable {B U : Nat} {w w' : World}
theorem Mid.of_below (h : Below w.heap.size w w') : Mid B U w w' := ⟨h.os, h.tape, h.output, h.size, fun k hk _ => h.block k hk⟩
theorem Mid.of_others {g : Nat} (h : Others g w w') (h1 : B ≤ g) (h2 : g < U) : Mid B U w w' := ⟨h.os, h.tape, h.output, by rw [h.size]; exact Nat.le_refl _, fun k hk hne => h.block k (by omega)⟩
theorem Mid.refl (B U : Nat) (w : World) : Mid B U w w := ⟨rfl, rfl, rfl, Nat.le_refl _, fun _ _ _ => rfl⟩
theorem Mid.trans {u : World} (h : Mid B U w w') (k : Mid B U w' u) : Mid B U w u := ⟨k.os.trans h.os, k.tape.trans h.tape, k.output.trans h.output, Nat.le_trans h.size k.size, fun j hj hne => (k.block j (Nat.lt_of_lt_of_le hj h.size) hne).trans (h.block j hj hne)⟩
theorem Mid.cell (h : Mid B U w w') {b o : Nat} (hb : b < w.heap.size) (hne : b < B ∨ U ≤ b) : w'.cell? ⟨b, o, none⟩ = w.cell? ⟨b, o, none⟩ := World.cell?_of_block (w := w) (a := ⟨b, o, none⟩) (h.block b hb hne)
theorem Mid.frozen (h : Mid B U w w') {b o : Nat} (hb : b < w.heap.size) (hne : b < B ∨ U ≤ b) : w'.frozen? ⟨b, o, none⟩ = w.frozen? ⟨b, o, none⟩ := World.frozen?_of_block (w := w) (a := ⟨b, o, none⟩) (h.block b hb hne)
theorem Mid.own (h : Mid B U w w') {c off n : Nat} {f : Nat → Int} (ho : Own w c off n f) (hne : c < B ∨ U ≤ c) : Own w' c off n f :=
  ⟨ho.bd, Nat.lt_of_lt_of_le ho.lt h.size, fun i hi => (h.cell ho.lt hne).trans (ho.cell i hi), fun i hi => (h.frozen ho.lt hne).trans (ho.free i hi)⟩
theorem Mid.below (h : Mid B U w w') {C : Nat} (hC : C ≤ B) (hs : C ≤ w.heap.size) : Below C w w' := ⟨h.os, h.tape, h.output, h.size, fun k hk => h.block k (by omega) (by omega)⟩
end
/-- A row of bytes elsewhere stays. -/
theorem Mid.row {B U : Nat} {w w' : World} (h : Mid B U w w') {ao : Option Addr} {n : Nat} {f : Nat → Int} (hr : Row w ao n f) (hne : ∀ b off, ao = some ⟨b, off, none⟩ → 0 < n → b < B ∨ U ≤ b) : Row w' ao n f := by
  refine ⟨hr.bd, ?_⟩
  by_cases h0 : n = 0
  · exact .inl h0
  · obtain ⟨b, off, e, hlt, hc⟩ := hr.lies.resolve_left h0
    exact .inr ⟨b, off, e, Nat.lt_of_lt_of_le hlt h.size, fun i hi => (h.cell hlt (hne b off e (by omega))).trans (hc i hi)⟩

structure BV (w : World) (lo hi : Nat) (ao : Option Addr) (L : List Int) : Prop where
  bd : Byt L
  top : hi ≤ w.heap.size
  is : (ao = none ∧ L = []) ∨ ∃ g off, ao = some ⟨g, off, none⟩ ∧ lo ≤ g ∧ g < hi ∧ Own w g off L.length (fl L)
theorem BV.row {w : World} {lo hi : Nat} {ao : Option Addr} {L : List Int} (h : BV w lo hi ao L) : Row w ao L.length (fl L) := by
  rcases h.is with ⟨_, rfl⟩ | ⟨g, off, rfl, _, _, ho⟩
  · exact ⟨h.bd.fl, .inl rfl⟩
  · exact ho.row
theorem BV.keep {w w' : World} {lo hi : Nat} {ao : Option Addr} {L : List Int} (h : BV w lo hi ao L) (hb : Below w.heap.size w w') : BV w' lo hi ao L := by
  refine ⟨h.bd, Nat.le_trans h.top hb.size, ?_⟩
  rcases h.is with h0 | ⟨g, off, e, h1, h2, ho⟩
  · exact .inl h0
  · exact .inr ⟨g, off, e, h1, h2, ho.keep hb⟩
theorem BV.mid {w w' : World} {lo hi lo' hi' : Nat} {ao : Option Addr} {L : List Int} (h : BV w lo hi ao L) (hw : Mid lo' hi' w w') (hd : hi ≤ lo' ∨ hi' ≤ lo) : BV w' lo hi ao L := by
  refine ⟨h.bd, Nat.le_trans h.top hw.size, ?_⟩
  rcases h.is with h0 | ⟨g, off, e, h1, h2, ho⟩
  · exact .inl h0
  · exact .inr ⟨g, off, e, h1, h2, hw.own ho (by omega)⟩
theorem bv_of {w : World} {base : Nat} {v : Value} {L : List Int} (h : OwnL w base v L) : ∃ ao c, v = .slice ao L.length c ∧ BV w base w.heap.size ao L := by
  by_cases h0 : L.length = 0
  · rcases h.own.2 with ⟨rfl, _⟩ | ⟨g, cap, cur, rfl, hbg, hg, hnc, _⟩
    · exact ⟨none, 0, by rw [h0], h.bd, Nat.le_refl _, .inl ⟨rfl, List.eq_nil_of_length_eq_zero h0⟩⟩
    · have hlt := (Array.getElem?_eq_some_iff.1 hg).1
      exact ⟨_, cap, rfl, h.bd, Nat.le_refl _, .inr ⟨g, 0, rfl, hbg, hlt, h.bd.fl, hlt, fun i hi => by omega, fun i hi => by omega⟩⟩
  · obtain ⟨g, cap, rfl, hg, _, ho⟩ := h.own' (by omega)
    exact ⟨_, cap, rfl, h.bd, Nat.le_refl _, .inr ⟨g, 0, rfl, hg, ho.lt, ho⟩⟩
theorem bv_nil (w : World) (lo hi : Nat) (h : hi ≤ w.heap.size) : BV w lo hi none [] := ⟨byt_nil, h, .inl ⟨rfl, rfl⟩⟩

theorem eqBV (ao bo : Option Addr) (ca cb lo hi lo' hi' : Nat) (L : List Int) (w : World) (h : BV w lo hi ao L) (k : BV w lo' hi' bo L) (hl : L.length ≤ 1048576) :
    Calls Tryz.prog 11 #[.slice ao L.length ca, .slice bo L.length cb] w fun e w' => e = .returned (.bool true) ∧ Below w.heap.size w w' :=
  eqByteS_same ao bo L.length ca cb (fl L) w h.row k.row hl

theorem markBV (ao : Option Addr) (c lo hi : Nat) (L : List Int) (w : World) (h : BV w lo hi ao L) (hl : L.length ≤ 1048576) :
    Calls Tryz.prog 12 #[.slice ao L.length c, .int .i64 1] w fun e w' => e = .returned (.int .i64 ((L.length : Int) + 1)) ∧ Row w' ao L.length marks ∧ Mid lo hi w w' := by
  rcases h.is with ⟨rfl, rfl⟩ | ⟨g, off, rfl, h1, h2, ho⟩
  · refine (mark_none none c w).mono fun e w' hh => ?_
    obtain ⟨rfl, rfl⟩ := hh
    exact ⟨rfl, ⟨fun i => by unfold marks; omega, .inl rfl⟩, Mid.refl _ _ _⟩
  · refine (mark_one g off L.length c (fl L) w ho hl).mono fun e w' hh => ?_
    obtain ⟨rfl, hm, hX⟩ := hh
    exact ⟨rfl, hm.row, Mid.of_others hX h1 h2⟩

theorem Mid.iown {B U : Nat} {w w' : World} (h : Mid B U w w') {c off n : Nat} {f : Nat → Int} (ho : IOwn w c off n f) (hne : c < B ∨ U ≤ c) : IOwn w' c off n f :=
  ⟨ho.bd, Nat.lt_of_lt_of_le ho.lt h.size, fun i hi => (h.cell ho.lt hne).trans (ho.cell i hi), fun i hi => (h.frozen ho.lt hne).trans (ho.free i hi)⟩
end Go.Proofs.YtpfjflbbpecbkaaGreat
