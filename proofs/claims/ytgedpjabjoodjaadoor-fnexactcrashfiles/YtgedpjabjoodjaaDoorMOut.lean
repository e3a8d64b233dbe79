/- The disk's files as a list; sync; SyncFile. / What a method of the disk leaves. -/
import Derived.Test.YtgedpjabjoodjaaDoorSortL
import Derived.Test.YtgedpjabjoodjaaDoorSortF
import Derived.Test.YtgedpjabjoodjaaDoorHeldF
import Derived.Test.YtgedpjabjoodjaaDoorSyncS
namespace Go.Proofs.YtgedpjabjoodjaaDoor
open Go.RowKit
open Go.ChangeMaps (setBlock)
set_option linter.unusedSimpArgs false
set_option linter.unusedVariables false

def sAd : Value → Option Addr
  | .slice a _ _ => a
  | _ => none
def sCp : Value → Nat
  | .slice _ _ c => c
  | _ => 0
/-- File i of the disk. -/
def fOf (F : Nat → Fil) (S : Nat → Value) (i : Nat) : FT := ((F i).nm, (sAd (S i), (F i).len, sCp (S i)), (F i).sy)
def lOf (F : Nat → Fil) (S : Nat → Value) (n : Nat) : List (FT × Nat) := (List.range n).map fun i => (fOf F S i, i)
theorem lOf_at (F : Nat → Fil) (S : Nat → Value) {n i : Nat} (h : i < n) : (lOf F S n)[i]? = some (fOf F S i, i) := by simp [lOf, h]
theorem lOf_len (F : Nat → Fil) (S : Nat → Value) (n : Nat) : (lOf F S n).length = n := by simp [lOf]
theorem ents_lOf {F : Nat → Fil} {S : Nat → Value} {n : Nat} (h : ∀ i, i < n → ∃ da dc, S i = .slice da (F i).len dc) : ents F S n = esOf (lOf F S n) := by
  unfold ents esOf lOf
  congr 1
  rw [List.map_map]
  refine List.map_congr_left fun i hi => ?_
  obtain ⟨da, dc, e⟩ := h i (List.mem_range.1 hi)
  simp [ent, mkE, fval, fOf, e, sAd, sCp]
theorem mhas_of {w : World} {bm n : Nat} {F : Nat → Fil} {S : Nat → Value} (hK : ∀ i, i < n → fileOk F i = true) (h : ∀ i, i < n → ∃ da dc, S i = .slice da (F i).len dc) (hb : w.heap[bm]? = some (.map (ents F S n) n)) : MHas w bm (lOf F S n) n := by
  refine ⟨by rw [hb, ents_lOf h], ?_, ?_, ?_⟩
  · have : (lOf F S n).map (·.2) = List.range n := by simp [lOf, List.map_map, Function.comp_def]
    rw [this]; exact List.nodup_range
  · intro p hp
    simp only [lOf, List.mem_map, List.mem_range] at hp
    obtain ⟨i, hi, rfl⟩ := hp
    exact hi
  · rw [List.nodup_iff_pairwise_ne, List.pairwise_iff_getElem]
    intro i j hi hj hij
    simp only [lOf, List.length_map, List.length_range] at hi hj
    simp only [lOf, List.getElem_map, List.getElem_range, fOf]
    exact names_ne hK hij hj

theorem eq_of_rising : ∀ {l m : List FT}, l.Perm m → l.Pairwise (fun x y => Op.bytesLess x.1.toList y.1.toList = true) → m.Pairwise (fun x y => Op.bytesLess x.1.toList y.1.toList = true) → l = m
  | [], m, hp, _, _ => by rw [List.nil_perm.1 hp]
  | x :: l, [], hp, _, _ => absurd hp.length_eq (by simp)
  | x :: l, y :: m, hp, h1, h2 => by
    obtain ⟨a1, b1⟩ := List.pairwise_cons.1 h1
    obtain ⟨a2, b2⟩ := List.pairwise_cons.1 h2
    have e : x = y := by
      rcases List.mem_cons.1 (hp.mem_iff.1 (List.mem_cons_self ..)) with e | hx
      · exact e
      · rcases List.mem_cons.1 (hp.mem_iff.2 (List.mem_cons_self ..)) with e | hy
        · exact e.symm
        · have g1 := a2 x hx
          have g2 := a1 y hy
          have := bl_trans _ _ _ g1 g2
          rw [bl_self] at this
          exact absurd this (by decide)
    subst e
    rw [eq_of_rising (List.perm_cons x |>.1 hp) b1 b2]

/-- What the program leaves: files of the call's own, and a code. -/
def IOut (Q c : Int) (m : Nat) (Fo : Nat → Fil) (w : World) (e : Ending) (w' : World) : Prop :=
  ∃ ao cap G, e = .returned (.tuple #[.agg #[.int .i64 Q, .slice ao m cap], .int .i64 c]) ∧ FV w' w.heap.size w'.heap.size ao m Fo G ∧ Below w.heap.size w w'

/-- The bytes of the files in the list zs are the call's own, each in its block. -/
structure ZOwn (w : World) (B m : Nat) (zs : List FT) (Fo : Nat → Fil) (G : Nat → Nat) : Prop where
  len : zs.length = m
  data : ∀ i x, zs[i]? = some x → x.1 = (Fo i).nm ∧ x.2.1.2.1 = (Fo i).len ∧ x.2.2 = (Fo i).sy ∧ ((Fo i).len = 0 ∨ x.2.1.1 = some ⟨G i, 0, none⟩ ∧ B ≤ G i ∧ Own w (G i) 0 (Fo i).len (Fo i).f)
  bd : ∀ i, i < m → ∀ j, 0 ≤ (Fo i).f j ∧ (Fo i).f j ≤ 255
  apart : ∀ i j, i < j → j < m → (Fo i).len ≠ 0 → (Fo j).len ≠ 0 → G i ≠ G j
theorem ZOwn.fv {w w' : World} {B m base : Nat} {zs : List FT} {Fo : Nat → Fil} {G : Nat → Nat} {p : Option Addr} {c : Nat} (h : ZOwn w B m zs Fo G) (hb : Below w.heap.size w w') (hB : B ≤ base) (hbase : w.heap.size ≤ base) (hown : w'.ownsRow base 73 3 (.slice p m c) m (zs.flatMap fenc)) : FV w' B w'.heap.size p m Fo G := by
  rcases id hown.2 with ⟨_, h0⟩ | ⟨g, cap, cur, e, hbg, hg, _⟩
  · exact .inl h0
  · injection e with e1 e2 e3
    subst e1 e3
    have hlt : g < w'.heap.size := (Array.getElem?_eq_some_iff.1 hg).1
    have at' : ∀ i, i < m → ∃ x, zs[i]? = some x := fun i hi => ⟨_, List.getElem?_eq_getElem (by rw [h.len]; exact hi)⟩
    have gl : ∀ i, i < m → (Fo i).len ≠ 0 → B ≤ G i ∧ G i < w.heap.size := fun i hi h0 => by
      obtain ⟨x, hx⟩ := at' i hi
      have := (h.data i x hx).2.2.2.resolve_left h0
      exact ⟨this.2.1, this.2.2.lt⟩
    refine .inr ⟨g, rfl, hlt, fun i hi => ?_, fun j _ => hown.frozenAt j, h.bd, fun i hi h0 => by have := gl i hi h0; omega, h.apart, by omega, hlt, fun i hi h0 => by have := gl i hi h0; have := hb.size; omega⟩
    obtain ⟨x, hx⟩ := at' i hi
    obtain ⟨k0, k1, k2⟩ := fm_cells zs hx
    obtain ⟨d1, d2, d3, d4⟩ := h.data i x hx
    refine ⟨x.2.1.1, x.2.1.2.2, ?_, ?_, ?_, d4.elim .inl fun ⟨e, _, ho⟩ => .inr ⟨e, ho.keep hb⟩⟩
    · rw [hown.cellAt _ (by omega), k0, d1]
    · rw [hown.cellAt _ (by omega), k1, d2]
    · rw [hown.cellAt _ (by omega), k2, d3]

set_option maxHeartbeats 2000000 in
theorem sync_hit (Q : Int) (bm n : Nat) (F : Nat → Fil) (S : Nat → Value) (j : Nat) (hj : j < n) (HK : Hid (∀ i, i < n → fileOk F i = true)) (w : World) (hb : w.heap[bm]? = some (.map (ents F S n) n)) (hS : ∀ i, i < n → ∃ da dc, S i = .slice da (F i).len dc) :
    Calls Tryd.prog 51 #[.agg #[.int .i64 Q, .map (some bm)], .string (F j).nm] w fun e w' => e = .returned .nilIface ∧ ∃ wX, Below w.heap.size w wX ∧ w' = setBlock wX bm (.map (esOf ((lOf F S n).set j (((F j).nm, (sAd (S j), (F j).len, sCp (S j)), ((F j).len : Int)), j))) n) := by
  have hM := mhas_of HK.out hS hb
  obtain ⟨da, dc, hSj⟩ := hS j hj
  have eS : (sAd (S j), (F j).len, sCp (S j)) = (da, (F j).len, dc) := by rw [hSj]; rfl
  rw [eS]
  have hB : Below w.heap.size w (w.alloc (.cells #[.int .i64 Q, .map (some bm)] 60)) := (Below.refl _ _).alloc (Nat.le_refl _) _
  have X0 := QAt.new w Q (.map (some bm)) 60
  have hbA : (w.alloc (.cells #[.int .i64 Q, .map (some bm)] 60)).heap[bm]? = some (.map (ents F S n) n) := (hB.block bm hM.lt).trans hb
  go_enter Tryd.func51, Tryd.ntmps51
  go_wp2_with fail
  refine (find_hit Q bm n F S j hj HK _ hbA da dc hSj).mono ?_
  rintro e w1 ⟨rfl, hb1⟩
  have bw1 : Below w.heap.size w w1 := hB.trans (hb1.mono (by simp))
  obtain ⟨lx, x0, x1⟩ := X0.keep hb1
  have bwA := bw1.alloc (B := w.heap.size) bw1.size (.cells #[.string (F j).nm, .slice da (F j).len dc, .int .i64 ((F j).len : Int)] 73)
  have hMA := hM.keep bwA
  have hup := upd_old (P := Tryd.prog) Tryd.underlying58 Tryd.underlying9 hMA (lOf_at F S hj) ((F j).nm, (da, (F j).len, dc), ((F j).len : Int)) rfl
  clear hB X0 hbA hb1 hS hb hM
  go_wp2_with (at_mapUpdate; refine wpList_mapUpdate_run _ rfl (.tmp 21) (.tmp 22) (.tmp 23) 58 rfl _ _ _ rfl rfl rfl _ hup ?_)
  go_ret
  exact ⟨rfl, _, bwA, rfl⟩
end Go.Proofs.YtgedpjabjoodjaaDoor
namespace Go.Proofs.YtgedpjabjoodjaaDoor
open Go.RowKit
open Go.ChangeMaps (setBlock)
set_option linter.unusedSimpArgs false
set_option linter.unusedVariables false

/-- The error E is not one of goodness, and its code is c. -/
def ErrC (E : Value) (c : Int) : Prop :=
  (∀ w : World, Calls Tryd.prog 68 #[E, .iface 88 (.int .i64 1)] w fun e w' => e = .returned (.bool false) ∧ Below w.heap.size w w') ∧
  (∀ w : World, ET w → Calls Tryd.prog 58 #[E] w fun e w' => e = .returned (.int .i64 c) ∧ Below w.heap.size w w')
theorem errNil : ErrC .nilIface 0 :=
  ⟨fun w => (is_nil w).mono fun e w' h => ⟨h.1, by rw [h.2]; exact Below.refl _ _⟩, fun w _ => code_nil w⟩
theorem errFault (s : ByteArray) (k : Int) (hk : (k == 1) = false) : ErrC (.iface 90 (.agg #[.string s, .int .i64 k])) k :=
  ⟨fun w => is_fault s k false hk w, fun w hE => code_fault s k w hE⟩

/-- What a method of the disk leaves behind good files. -/
def MOut (c : Int) (m : Nat) (Fo : Nat → Fil) (n : Nat) (F : Nat → Fil) (D : Nat → Nat) (bm : Nat) (w : World) (e : Ending) (w' : World) : Prop :=
  ∃ (E : Value) (L : List (FT × Nat)) (clock : Nat) (zs : List FT) (G : Nat → Nat), e = .returned E ∧ ErrC E c ∧ (E = .nilIface ∨ ∃ t v, E = .iface t v) ∧ MHas w' bm L clock ∧ L.length ≤ 1048576 ∧ zs.Perm (L.map (·.1)) ∧ zs.Pairwise (fun x y => Op.bytesLess x.1.toList y.1.toList = true) ∧ ZOwn w' bm m zs Fo G ∧ Below bm w w' ∧ ∀ k, k < w.heap.size → k ≠ bm → (∀ i, i < n → (F i).len ≠ 0 → k ≠ D i) → w'.heap[k]? = w.heap[k]?
theorem ZOwn.keep {w w' : World} {B B' m : Nat} {zs : List FT} {Fo : Nat → Fil} {G : Nat → Nat} (h : ZOwn w B m zs Fo G) (hb : Below w.heap.size w w') (hB : B' ≤ B) : ZOwn w' B' m zs Fo G :=
  ⟨h.len, fun i x hx => by
    obtain ⟨d1, d2, d3, d4⟩ := h.data i x hx
    exact ⟨d1, d2, d3, d4.elim .inl fun ⟨e, hg, ho⟩ => .inr ⟨e, by omega, ho.keep hb⟩⟩, h.bd, h.apart⟩

theorem FV.low {w w' : World} {B U n : Nat} {ao : Option Addr} {F : Nat → Fil} {G : Nat → Nat} (h : FV w B U ao n F G) (hs : w.heap.size ≤ w'.heap.size) (hb : ∀ k, B ≤ k → k < w.heap.size → w'.heap[k]? = w.heap[k]?) : FV w' B U ao n F G := by
  rcases h with h | ⟨b, rfl, h⟩
  · exact .inl h
  · have hlt := h.lt
    have hrg := h.range
    have cl : ∀ b' j, B ≤ b' → b' < w.heap.size → w'.cell? ⟨b', j, none⟩ = w.cell? ⟨b', j, none⟩ := fun b' j h1 h2 => World.cell?_of_block (w := w) (a := ⟨b', j, none⟩) (hb b' h1 h2)
    have fz : ∀ b' j, B ≤ b' → b' < w.heap.size → w'.frozen? ⟨b', j, none⟩ = w.frozen? ⟨b', j, none⟩ := fun b' j h1 h2 => World.frozen?_of_block (w := w) (a := ⟨b', j, none⟩) (hb b' h1 h2)
    refine .inr ⟨b, rfl, by omega, fun i hi => ?_, fun j hj => (fz b j hrg.1 hlt).trans (h.free j hj), h.bd, h.self, h.apart, h.range⟩
    obtain ⟨da, dc, c0, c1, c2, hd⟩ := h.cell i hi
    refine ⟨da, dc, (cl b _ hrg.1 hlt).trans c0, (cl b _ hrg.1 hlt).trans c1, (cl b _ hrg.1 hlt).trans c2, ?_⟩
    rcases hd with h0 | ⟨e, ho⟩
    · exact .inl h0
    · by_cases h0 : (F i).len = 0
      · exact .inl h0
      · have := (hrg.2.2 i hi h0).1
        exact .inr ⟨e, ho.bd, by have := ho.lt; omega, fun j hj => (cl _ _ this ho.lt).trans (ho.cell j hj), fun j hj => (fz _ _ this ho.lt).trans (ho.free j hj)⟩
theorem FV.mono {w : World} {B B' U U' n : Nat} {ao : Option Addr} {F : Nat → Fil} {G : Nat → Nat} (h : FV w B U ao n F G) (hB : B' ≤ B) (hU : U ≤ U') : FV w B' U' ao n F G := by
  rcases h with h | ⟨b, rfl, h⟩
  · exact .inl h
  · have hrg := h.range
    exact .inr ⟨b, rfl, h.lt, h.cell, h.free, h.bd, h.self, h.apart, by omega, by omega, fun i hi h0 => by have := hrg.2.2 i hi h0; omega⟩
/-- The files as they were opened. -/
theorem zown_of {w : World} {bm n : Nat} {F : Nat → Fil} {S : Nat → Value} {G : Nat → Nat} (hD : DOwn w (bm + 2) n F S G) (hbd : ∀ i, i < n → ∀ j, 0 ≤ (F i).f j ∧ (F i).f j ≤ 255) : ZOwn w bm n ((lOf F S n).map (·.1)) F G := by
  refine ⟨by rw [List.length_map, lOf_len], fun i x hx => ?_, hbd, fun i j hij hj _ _ => by have := hD.mono i j hij hj; omega⟩
  have hi : i < n := by
    have := (List.getElem?_eq_some_iff.1 hx).1
    rwa [List.length_map, lOf_len] at this
  rw [List.getElem?_map, lOf_at F S hi] at hx
  injection hx with hx
  subst hx
  refine ⟨rfl, rfl, rfl, ?_⟩
  rcases hD.data i hi with ⟨h0, _⟩ | ⟨c, e, ho⟩
  · exact .inl h0
  · exact .inr ⟨by show sAd (S i) = _; rw [e]; rfl, by have := hD.low i hi; omega, ho⟩
theorem rising_of {n : Nat} {F : Nat → Fil} {S : Nat → Value} (hK : ∀ i, i < n → fileOk F i = true) : ((lOf F S n).map (·.1)).Pairwise (fun x y => Op.bytesLess x.1.toList y.1.toList = true) := by
  rw [List.pairwise_iff_getElem]
  intro i j hi hj hij
  simp only [lOf, List.map_map, List.length_map, List.length_range] at hi hj
  simp only [lOf, List.map_map, List.getElem_map, List.getElem_range, Function.comp_apply, fOf]
  have := names_rise hK (j - i - 1) i (by omega)
  rwa [show i + (j - i - 1 + 1) = j by omega] at this
end Go.Proofs.YtgedpjabjoodjaaDoor
