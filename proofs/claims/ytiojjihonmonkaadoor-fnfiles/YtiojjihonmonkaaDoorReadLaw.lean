/- What a method of the disk leaves. / SyncFile, the program's text, over what the disk's method leaves. / The law of ReadFile, walked. -/
import Derived.Test.YtiojjihonmonkaaDoorSyncI
import Derived.Test.YtiojjihonmonkaaDoorRising
namespace Go.Proofs.YtiojjihonmonkaaDoor
open Go.RowKit
open Go.ChangeMaps (setBlock)
set_option linter.unusedSimpArgs false
set_option linter.unusedVariables false

/-- The error E is not one of goodness, and its code is c. -/
def ErrC (E : Value) (c : Int) : Prop :=
  (∀ w : World, Calls Tryd.prog 33 #[E, .iface 66 (.int .i64 1)] w fun e w' => e = .returned (.bool false) ∧ Below w.heap.size w w') ∧
  (∀ w : World, ET w → Calls Tryd.prog 34 #[E] w fun e w' => e = .returned (.int .i64 c) ∧ Below w.heap.size w w')
theorem errNil : ErrC .nilIface 0 :=
  ⟨fun w => (is_nil w).mono fun e w' h => ⟨h.1, by rw [h.2]; exact Below.refl _ _⟩, fun w _ => code_nil w⟩
theorem errFault (s : ByteArray) (k : Int) (hk : (k == 1) = false) : ErrC (.iface 68 (.agg #[.string s, .int .i64 k])) k :=
  ⟨fun w => is_fault s k false hk w, fun w hE => code_fault s k w hE⟩

/-- What a method of the disk leaves behind good files. -/
def MOut (c : Int) (m : Nat) (Fo : Nat → Fil) (n : Nat) (F : Nat → Fil) (D : Nat → Nat) (bm : Nat) (w : World) (e : Ending) (w' : World) : Prop :=
  ∃ (E : Value) (L : List (FT × Nat)) (clock : Nat) (zs : List FT) (G : Nat → Nat), e = .returned E ∧ ErrC E c ∧ (E = .nilIface ∨ ∃ t v, E = .iface t v) ∧ MHas w' bm L clock ∧ L.length ≤ 1048576 ∧ zs.Perm (L.map (·.1)) ∧ zs.Pairwise (fun x y => Op.bytesLess x.1.toList y.1.toList = true) ∧ ZOwn w' bm m zs Fo G ∧ Below bm w w' ∧ ∀ k, k < w.heap.size → k ≠ bm → (∀ i, i < n → (F i).len ≠ 0 → k ≠ D i) → w'.heap[k]? = w.heap[k]?
theorem ZOwn.keep {w w' : World} {B B' m : Nat} {zs : List FT} {Fo : Nat → Fil} {G : Nat → Nat} (h : ZOwn w B m zs Fo G) (hb : Below w.heap.size w w') (hB : B' ≤ B) : ZOwn w' B' m zs Fo G :=
  ⟨h.len, fun i x hx => by
    obtain ⟨d1, d2, d3, d4⟩ := h.data i x hx
    exact ⟨d1, d2, d3, d4.elim .inl fun ⟨e, hg, ho⟩ => .inr ⟨e, by omega, ho.keep hb⟩⟩, h.bd, h.apart⟩

theorem FV.low {w w' : World} {B U n : Nat} {ao : Option Addr} {F : Nat → Fil} {G : Nat → Nat} (h : FV w B U ao n F G) (hs : w.heap.size ≤ w'.heap.size) (hb : ∀ k, B ≤ k → k < w.heap.size → w'.heap[k]? = w.heap[k]?) : FV w' B U ao n F G := by
  rcases h with h | ⟨b, rfl, h⟩
  · exact .inl h
  · have hlt := h.lt
    have hrg := h.range
    have cl : ∀ b' j, B ≤ b' → b' < w.heap.size → w'.cell? ⟨b', j, none⟩ = w.cell? ⟨b', j, none⟩ := fun b' j h1 h2 => World.cell?_of_block (w := w) (a := ⟨b', j, none⟩) (hb b' h1 h2)
    have fz : ∀ b' j, B ≤ b' → b' < w.heap.size → w'.frozen? ⟨b', j, none⟩ = w.frozen? ⟨b', j, none⟩ := fun b' j h1 h2 => World.frozen?_of_block (w := w) (a := ⟨b', j, none⟩) (hb b' h1 h2)
    refine .inr ⟨b, rfl, by omega, fun i hi => ?_, fun j hj => (fz b j hrg.1 hlt).trans (h.free j hj), h.bd, h.self, h.apart, h.range⟩
    obtain ⟨da, dc, c0, c1, c2, hd⟩ := h.cell i hi
    refine ⟨da, dc, (cl b _ hrg.1 hlt).trans c0, (cl b _ hrg.1 hlt).trans c1, (cl b _ hrg.1 hlt).trans c2, ?_⟩
    rcases hd with h0 | ⟨e, ho⟩
    · exact .inl h0
    · by_cases h0 : (F i).len = 0
      · exact .inl h0
      · have := (hrg.2.2 i hi h0).1
        exact .inr ⟨e, ho.bd, by have := ho.lt; omega, fun j hj => (cl _ _ this ho.lt).trans (ho.cell j hj), fun j hj => (fz _ _ this ho.lt).trans (ho.free j hj)⟩
theorem FV.mono {w : World} {B B' U U' n : Nat} {ao : Option Addr} {F : Nat → Fil} {G : Nat → Nat} (h : FV w B U ao n F G) (hB : B' ≤ B) (hU : U ≤ U') : FV w B' U' ao n F G := by
  rcases h with h | ⟨b, rfl, h⟩
  · exact .inl h
  · have hrg := h.range
    exact .inr ⟨b, rfl, h.lt, h.cell, h.free, h.bd, h.self, h.apart, by omega, by omega, fun i hi h0 => by have := hrg.2.2 i hi h0; omega⟩
/-- The files as they were opened. -/
theorem zown_of {w : World} {bm n : Nat} {F : Nat → Fil} {S : Nat → Value} {G : Nat → Nat} (hD : DOwn w (bm + 2) n F S G) (hbd : ∀ i, i < n → ∀ j, 0 ≤ (F i).f j ∧ (F i).f j ≤ 255) : ZOwn w bm n ((lOf F S n).map (·.1)) F G := by
  refine ⟨by rw [List.length_map, lOf_len], fun i x hx => ?_, hbd, fun i j hij hj _ _ => by have := hD.mono i j hij hj; omega⟩
  have hi : i < n := by
    have := (List.getElem?_eq_some_iff.1 hx).1
    rwa [List.length_map, lOf_len] at this
  rw [List.getElem?_map, lOf_at F S hi] at hx
  injection hx with hx
  subst hx
  refine ⟨rfl, rfl, rfl, ?_⟩
  rcases hD.data i hi with ⟨h0, _⟩ | ⟨c, e, ho⟩
  · exact .inl h0
  · exact .inr ⟨by show sAd (S i) = _; rw [e]; rfl, by have := hD.low i hi; omega, ho⟩
theorem rising_of {n : Nat} {F : Nat → Fil} {S : Nat → Value} (hK : ∀ i, i < n → fileOk F i = true) : ((lOf F S n).map (·.1)).Pairwise (fun x y => Op.bytesLess x.1.toList y.1.toList = true) := by
  rw [List.pairwise_iff_getElem]
  intro i j hi hj hij
  simp only [lOf, List.map_map, List.length_map, List.length_range] at hi hj
  simp only [lOf, List.map_map, List.getElem_map, List.getElem_range, Function.comp_apply, fOf]
  have := names_rise hK (j - i - 1) i (by omega)
  rwa [show i + (j - i - 1 + 1) = j by omega] at this
end Go.Proofs.YtiojjihonmonkaaDoor
namespace Go.Proofs.YtiojjihonmonkaaDoor
open Go.RowKit
set_option linter.unusedSimpArgs false
set_option linter.unusedVariables false

end Go.Proofs.YtiojjihonmonkaaDoor
namespace Go.Proofs.YtiojjihonmonkaaDoor
open Go.RowKit
set_option linter.unusedSimpArgs false
set_option linter.unusedVariables false

/-- What the program's ReadFile leaves: these bytes, none or in a block of their own, and this code. -/
def RI (c : Int) (len : Nat) (f : Nat → Int) (w : World) (e : Ending) (w' : World) : Prop :=
  ∃ a cp g, e = .returned (.tuple #[.slice a len cp, .int .i64 c]) ∧ (len = 0 ∨ a = some ⟨g, 0, none⟩ ∧ w.heap.size ≤ g ∧ Own w' g 0 len f) ∧ Below w.heap.size w w'
/-- What the model's ReadFile leaves. -/
def RS (c : Int) (len : Nat) (f : Nat → Int) (w : World) (e : Ending) (w' : World) : Prop :=
  ∃ a cp, e = .returned (.tuple #[.slice a len cp, .int .i64 c]) ∧ Row w' a len f ∧ Below w.heap.size w w'

theorem atN_hit {F : Nat → Fil} {n : Nat} {s : ByteArray} {j : Nat} (hK : ∀ i, i < n → fileOk F i = true) (hj : j < n) (e : (F j).nm = s) : ∀ v, AtN F n s v → v = (j : Int) := fun v h => by
  rcases Int.lt_or_le v 0 with g | g
  · exact absurd e (h.miss g j hj)
  · have := h.hit g
    have := names_inj hK this.1 hj (this.2.trans e.symm)
    omega
theorem atN_miss {F : Nat → Fil} {n : Nat} {s : ByteArray} (hm : ∀ j, j < n → (F j).nm ≠ s) : ∀ v, AtN F n s v → v < 0 := fun v h => by
  rcases Int.lt_or_le v 0 with g | g
  · exact g
  · have := h.hit g
    exact absurd this.2 (hm _ this.1)

theorem good_parts {Q : Int} {n : Nat} {F : Nat → Fil} (h : goodF Q n F = true) : 0 ≤ Q ∧ Q ≤ 60000 ∧ n ≤ 40 ∧ (∀ i, i < n → fileOk F i = true) ∧ (used F n : Int) ≤ Q := by
  simp only [goodF, filesOk, Bool.and_eq_true, decide_eq_true_eq, List.all_eq_true, List.mem_range] at h
  exact ⟨h.1.1.1.1, h.1.1.1.2, h.1.1.2, h.1.2, h.2⟩

theorem FRow.bd {w : World} {ao : Option Addr} {n : Nat} {F : Nat → Fil} (h : FRow w ao n F) : ∀ i, i < n → ∀ j, 0 ≤ (F i).f j ∧ (F i).f j ≤ 255 := fun i hi j => by
  obtain ⟨b, off, _, _, hc⟩ := h.lies.resolve_left (by omega)
  obtain ⟨da, dc, hf⟩ := hc i hi
  exact hf.row.bd j
def marks1 (j : Nat) : Int := ((1 + j : Nat) : Int) % 256
theorem Mid.qat {B U : Nat} {w w' : World} (h : Mid B U w w') {b : Nat} {Q : Int} {sv : Value} (hk : QAt w b Q sv) (hne : b < B ∨ U ≤ b) : QAt w' b Q sv :=
  ⟨Nat.lt_of_lt_of_le hk.lt h.size, (h.cell hk.lt hne).trans hk.c0, (h.cell hk.lt hne).trans hk.c1⟩

/-- What the law holds in memory. -/
structure RF (w : World) (B U XB : Nat) (Q : Int) (ao : Option Addr) (n cap g4 : Nat) (F : Nat → Fil) (G4 : Nat → Nat) (len : Nat) (a0 : Option Addr) (f : Nat → Int) (a5 : Option Addr) (g5 : Nat) (fx : Nat → Int) (wr : World) : Prop where
  ord : w.heap.size < B ∧ B ≤ U ∧ U ≤ XB ∧ XB < wr.heap.size
  ka : QAt wr w.heap.size Q (.slice ao n cap)
  kx : QAt wr XB Q (.slice (some ⟨g4, 0, none⟩) n n)
  fb : FBox wr g4 n F G4 B U
  r0 : Row wr a0 len f
  low0 : ∀ b off, a0 = some ⟨b, off, none⟩ → 0 < len → b < B
  g0 : len = 0 ∨ a5 = some ⟨g5, 0, none⟩ ∧ XB < g5 ∧ Own wr g5 0 len fx
  bel : Below w.heap.size w wr
section
variable {w wr w' : World} {B U XB : Nat} {Q : Int} {ao : Option Addr} {n cap g4 : Nat} {F : Nat → Fil} {G4 : Nat → Nat} {len : Nat} {a0 : Option Addr} {f : Nat → Int} {a5 : Option Addr} {g5 : Nat} {fx : Nat → Int}
theorem RF.keep (h : RF w B U XB Q ao n cap g4 F G4 len a0 f a5 g5 fx wr) (hb : Below wr.heap.size wr w') : RF w B U XB Q ao n cap g4 F G4 len a0 f a5 g5 fx w' := by
  obtain ⟨o1, o2, o3, o4⟩ := h.ord
  have hs := hb.size
  exact ⟨⟨o1, o2, o3, by omega⟩, h.ka.keep hb, h.kx.keep hb, h.fb.keep hb, h.r0.keep hb, h.low0, orR h.g0 fun ⟨e, hg, ho⟩ => ⟨e, hg, ho.keep hb⟩, h.bel.trans (hb.mono (by omega))⟩
theorem RF.files (h : RF w B U XB Q ao n cap g4 F G4 len a0 f a5 g5 fx wr) (M : Mid B U wr w') {F' : Nat → Fil} (hf : FBox w' g4 n F' G4 B U) : RF w B U XB Q ao n cap g4 F' G4 len a0 f a5 g5 fx w' := by
  obtain ⟨o1, o2, o3, o4⟩ := h.ord
  have hs := M.size
  exact ⟨⟨o1, o2, o3, by omega⟩, M.qat h.ka (by omega), M.qat h.kx (by omega), hf, M.row h.r0 (fun b off e hp => .inl (h.low0 b off e hp)), h.low0, orR h.g0 fun ⟨e, hg, ho⟩ => ⟨e, hg, M.own ho (by omega)⟩, h.bel.trans (M.below (by omega) (by omega))⟩
theorem RF.bytes (h : RF w B U XB Q ao n cap g4 F G4 len a0 f a5 g5 fx wr) {fy : Nat → Int} (hd : len = 0 ∨ a5 = some ⟨g5, 0, none⟩ ∧ Own w' g5 0 len fy) (hw : (len = 0 ∧ w' = wr) ∨ (len ≠ 0 ∧ Others g5 wr w')) : RF w B U XB Q ao n cap g4 F G4 len a0 f a5 g5 fy w' := by
  obtain ⟨o1, o2, o3, o4⟩ := h.ord
  rcases hw with ⟨h0, rfl⟩ | ⟨h0, ho⟩
  · exact ⟨h.ord, h.ka, h.kx, h.fb, h.r0, h.low0, .inl h0, h.bel⟩
  · obtain ⟨_, hg, _⟩ := h.g0.resolve_left h0
    have M : Mid g5 (g5 + 1) wr w' := Mid.of_others ho (Nat.le_refl _) (by omega)
    have hlt := h.fb.lt
    obtain ⟨r1, r2, r3⟩ := h.fb.range
    refine ⟨⟨o1, o2, o3, by rw [ho.size]; exact o4⟩, M.qat h.ka (by omega), M.qat h.kx (by omega), ?_, M.row h.r0 (fun b off e hp => .inl (by have := h.low0 b off e hp; omega)), h.low0, .inr ⟨(hd.resolve_left h0).1, hg, (hd.resolve_left h0).2⟩, h.bel.trans (M.below (by omega) (by omega))⟩
    refine ⟨by rw [ho.size]; exact hlt, fun i hi => ?_, fun j hj => (M.frozen hlt (by omega)).trans (h.fb.free j hj), h.fb.bd, h.fb.self, h.fb.apart, h.fb.range⟩
    obtain ⟨da, dc, c0, c1, c2, hdd⟩ := h.fb.cell i hi
    refine ⟨da, dc, (M.cell hlt (by omega)).trans c0, (M.cell hlt (by omega)).trans c1, (M.cell hlt (by omega)).trans c2, ?_⟩
    rcases hdd with h1 | ⟨e1, h2⟩
    · exact .inl h1
    · by_cases hl : (F i).len = 0
      · exact .inl hl
      · have := r3 i hi hl
        exact .inr ⟨e1, M.own h2 (by omega)⟩
theorem RF.row5 (h : RF w B U XB Q ao n cap g4 F G4 len a0 f a5 g5 fx wr) (hbd : ∀ i, 0 ≤ fx i ∧ fx i ≤ 255) : Row wr a5 len fx := by
  refine ⟨hbd, ?_⟩
  rcases h.g0 with h0 | ⟨rfl, _, ho⟩
  · exact .inl h0
  · exact ho.row.lies
end

end Go.Proofs.YtiojjihonmonkaaDoor
