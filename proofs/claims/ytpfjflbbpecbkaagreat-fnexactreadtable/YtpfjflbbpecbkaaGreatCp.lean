/- Bytes copied by the builtin copy, as an equation; bytes put out. -/
import Derived.Test.YtpfjflbbpecbkaaGreatGf
import Derived.Laws.IdiomCopy
namespace Go.Proofs.YtpfjflbbpecbkaaGreat
set_option maxRecDepth 100000
open Go.RowKit
set_option linter.unusedSimpArgs false
set_option linter.unusedVariables false

theorem Tryz.sizeU8 : (Tryz.prog.info? 5).map (·.size) = some 1 := by kernel_rfl
theorem others_setCells (b : Nat) : ∀ (vs : List Value) (o : Nat) (w : World), Others b w (w.setCells b o vs)
  | [], _, w => Others.refl _ _
  | v :: r, o, w => (Others.setCell w b o v).trans (others_setCells b r (o + 1) _)

theorem add_flat (b off i : Nat) : (⟨b, off, none⟩ : Addr).add i = ⟨b, off + i, none⟩ := by unfold Addr.add; split <;> simp_all

/-- m bytes copied into a row of the call's own, from its place k on. -/
theorem copyB_run (w : World) (g N k m dc b o sc : Nat) (h f : Nat → Int) (ho : Own w g 0 N h) (hk : k + m ≤ N) (hbd : ∀ i, 0 ≤ f i ∧ f i ≤ 255) (hs : ∀ i, i < m → w.cell? ⟨b, o + i, none⟩ = some (.int .u8 (f i))) :
    ∃ w', (Builtin.copy_ #[22, 22] 3 #[.slice (some ⟨g, k, none⟩) m dc, .slice (some ⟨b, o, none⟩) m sc]).run Tryz.prog w = .ok (.int .i64 m) w' ∧ Own w' g 0 N (fun i => if k ≤ i ∧ i < k + m then f (i - k) else h i) ∧ Others g w w' := by
  have hl : (bcells f m).length = m := by simp [bcells]
  have hget : ∀ j, j < m → (bcells f m)[j]? = some (.int .u8 (f j)) := fun j hj => by simp [bcells, hj]
  have hrun := run_copy_cells (P := Tryz.prog) w 22 22 3 5 g k m dc ⟨b, o, none⟩ m sc (bcells f m) Tryz.underlying22 Tryz.sizeU8 (by rw [hl]; exact (Nat.min_self m).symm)
    (fun j v hj => by
      have hj' : j < m := by
        rcases Nat.lt_or_ge j m with h | h
        · exact h
        · rw [List.getElem?_eq_none (by omega)] at hj; cases hj
      rw [hget j hj'] at hj
      rw [add_flat, hs j hj', hj])
    (fun j hj => by rw [hl] at hj; have := ho.cell (k + j) (by omega); rw [Nat.zero_add] at this; rw [this]; rfl)
    (fun j hj => by rw [hl] at hj; have := ho.free (k + j) (by omega); rw [Nat.zero_add] at this; exact this)
    (fun v hv => by obtain ⟨j, _, rfl⟩ := List.mem_map.1 hv; rfl)
  refine ⟨_, by rw [hrun, hl]; rfl, ⟨fun i => ?_, ?_, fun i hi => ?_, fun i hi => ?_⟩, others_setCells _ _ _ _⟩
  · by_cases hh : k ≤ i ∧ i < k + m
    · rw [if_pos hh]; exact hbd _
    · rw [if_neg hh]; exact ho.bd i
  · rw [(others_setCells g (bcells f m) k w).size]; exact ho.lt
  · by_cases hh : k ≤ i ∧ i < k + m
    · rw [if_pos hh]
      have := World.cell?_setCells_in g (bcells f m) k w (fun j hj => by rw [hl] at hj; have := ho.cell (k + j) (by omega); rw [Nat.zero_add] at this; rw [this]; rfl) (i - k) (by rw [hl]; omega)
      rw [show 0 + i = k + (i - k) by omega, this]
      simp [bcells]
    · rw [if_neg hh, World.cell?_setCells_out g (bcells f m) k w _ (fun _ _ => by rw [hl]; simp only [Nat.zero_add]; omega)]
      exact ho.cell i hi
  · rw [World.frozen?_setCells]; exact ho.free i hi

theorem made_facts {w w2 : World} {n : Nat} (hown : w2.ownsRow w.heap.size 5 1 (.slice (some ⟨w.heap.size, 0, none⟩) n n) n (madeCells (Value.int .u8 0).cells (n * 1)).toList) (hgrow : w.grownBy w2 none) :
    Below w.heap.size w w2 ∧ Own w2 w.heap.size 0 n (fun _ => 0) := by
  have hlt2 : w.heap.size < w2.heap.size := by
    rcases hown.2 with ⟨h, _⟩ | ⟨g', cap', cur, h, _, hg, _⟩
    · simp at h
    · simp at h; obtain ⟨rfl, _⟩ := h
      exact (Array.getElem?_eq_some_iff.1 hg).1
  exact ⟨(Below.refl _ _).grown hgrow (Nat.le_refl _) (fun k h => by simp at h), own_of_made hown hlt2⟩

/-- The first n bytes as a list. -/
def ffl (f : Nat → Int) (n : Nat) : List Int := (List.range n).map f
theorem ffl_len (f : Nat → Int) (n : Nat) : (ffl f n).length = n := by simp [ffl]
theorem ffl_fl {f : Nat → Int} {n i : Nat} (h : i < n) : fl (ffl f n) i = f i := by simp [fl, ffl, h]
theorem ffl_byt {f : Nat → Int} {n : Nat} (h : ∀ i, 0 ≤ f i ∧ f i ≤ 255) : Byt (ffl f n) := fun x hx => by
  obtain ⟨i, _, rfl⟩ := List.mem_map.1 hx
  exact h i
theorem at_of_cells {w : World} {b off n : Nat} {f : Nat → Int} (hb : ∀ i, 0 ≤ f i ∧ f i ≤ 255) (hlt : b < w.heap.size) (hc : ∀ i, i < n → w.cell? ⟨b, off + i, none⟩ = some (.int .u8 (f i))) : At w b off (ffl f n) :=
  ⟨ffl_byt hb, hlt, fun i hi => by rw [ffl_len] at hi; rw [hc i hi, ffl_fl hi]⟩

/-- Bytes and whether: what is answered. -/
def FO (L : List Int) (ok : Bool) (w : World) (e : Ending) (w' : World) : Prop :=
  ∃ ao c, e = .returned (.tuple #[.slice ao L.length c, .bool ok]) ∧ BV w' w.heap.size w'.heap.size ao L ∧ Below w.heap.size w w'
/-- The bytes of a filter. -/
def fbL (y : Int) (f : Nat → Int) (n : Nat) : List Int := y :: ffl f n
theorem fbL_len (y : Int) (f : Nat → Int) (n : Nat) : (fbL y f n).length = n + 1 := by simp [fbL, ffl_len]
theorem fbL_zero (y : Int) (f : Nat → Int) (n : Nat) : fl (fbL y f n) 0 = y := by simp [fbL, fl]
theorem fbL_succ (y : Int) (f : Nat → Int) (n i : Nat) (h : i < n) : fl (fbL y f n) (i + 1) = f i := by
  have := ffl_fl (f := f) h
  simpa [fbL, fl] using this
/-- What FilterBytes answers. -/
def FBO (y : Int) (n : Nat) (f : Nat → Int) (w : World) (e : Ending) (w' : World) : Prop := (GoodF y n → FO (fbL y f n) true w e w') ∧ (¬ GoodF y n → FO [] false w e w')

set_option maxHeartbeats 1000000 in
theorem filterBytes_impl (y : Int) (ao : Option Addr) (n cap : Nat) (f : Nat → Int) (w : World) (hr : Row w ao n f) (hn : n ≤ 1048576) :
    Calls Tryz.prog 176 #[.agg #[.int .i64 y, .slice ao n cap]] w fun e w' => FBO y n f w e w' := by
  obtain ⟨i0, hi, hz0, hz1, hz2⟩ := info_parts Tryz.info5
  have hB := below_new w (.cells #[.int .i64 y, .slice ao n cap] 40)
  have A0 := FAt.new w y (.slice ao n cap) 40
  go_enter Tryz.func176, Tryz.ntmps176
  go_wp2_with fail
  refine (goodFilter_impl y ao n cap _ hn).mono ?_
  rintro e w1 ⟨b1, rfl, h1, q1⟩
  have A1 := A0.keep q1
  have B1 : Below w.heap.size w w1 := hB.trans (q1.mono (by simp))
  have r1 := hr.keep B1
  have hsw := B1.size
  clear q1 hB A0
  cases b1
  · have K : Hid (¬ GoodF y n) := fun h => by
      have := h1.2 h
      cases this
    clear h1
    go_wp2
    exact bodyPost_ret (v := .tuple #[.slice none 0 0, .bool false]) (by simp [results, Tryz.results176, go_sem]) rfl ⟨fun h => absurd h K.out, fun _ => ⟨none, 0, rfl, bv_nil _ _ _ (Nat.le_refl _), B1⟩⟩
  · have hg := h1.1 rfl
    have HG : Hid (GoodF y n) := hg
    obtain ⟨⟨hy1, hy8⟩, hn1, hn2⟩ := hg
    obtain ⟨b, off, rfl, hblt, hcell⟩ := r1.lies.resolve_left (by omega)
    have hbd := r1.bd
    clear h1 r1 hr
    obtain ⟨la, a0, a1⟩ := id A1
    go_wp2_with (at_make; refine wpList_make_full _ rfl (.tmp 11) (.tmp 11) 22 rfl w1.heap.size 5 i0 (.int .u8 0) 1 Tryz.underlying22 hi hz0 hz1 .i64 .i64 _ _ (n + 1) rfl rfl (by simp; omega) (by simp; omega) (by rw [hz2]; omega) (by unfold maxLen; omega) (Nat.le_refl _) ?_; intro w2 hown hgrow; obtain ⟨hb2, ho⟩ := made_facts hown hgrow; clear hown hgrow; have A2 := A1.keep hb2; obtain ⟨_, d0, d1⟩ := id A2; have hd := ho.cell 0 (by omega); have hfz := ho.free 0 (by omega); simp only [Nat.add_zero] at hd hfz)
    have hst := ho.store 0 (by omega) y (by omega)
    simp only [Nat.add_zero] at hst
    have B2 : Below w.heap.size w w2 := B1.trans (hb2.mono hsw)
    have hst' := hst.keep (Below.refl _ _).drew
    have hoth : Others w1.heap.size w2 (w2.setCell ⟨w1.heap.size, 0, none⟩ (.int .u8 y)) := Others.setCell _ _ _ _
    have A3 : FAt (w2.setCell ⟨w1.heap.size, 0, none⟩ (.int .u8 y)).drew w.heap.size y (.slice (some ⟨b, off, none⟩) n cap) := (A2.mid (Mid.of_others (B := w1.heap.size) (U := w1.heap.size + 1) hoth (Nat.le_refl _) (by omega)) (by have := A1.lt; omega)).keep (Below.refl _ _).drew
    have hcell3 : ∀ i, i < n → (w2.setCell ⟨w1.heap.size, 0, none⟩ (.int .u8 y)).drew.cell? ⟨b, off + i, none⟩ = some (.int .u8 (f i)) := fun i hi => by
      have e1 := World.cell?_of_block (w := w2) (a := ⟨b, off + i, none⟩) (hoth.block b (by omega))
      exact e1.trans ((hb2.cell (p := ⟨b, off + i, none⟩) hblt).trans (hcell i hi))
    obtain ⟨w4, hrun, o4, q4⟩ := copyB_run _ w1.heap.size (n + 1) 1 n n b off cap _ f hst' (by omega) hbd hcell3
    have B4 : Below w.heap.size w w4 := (B2.trans (hoth.below hsw)).drew.trans (q4.below hsw)
    have o5 : Own w4 w1.heap.size 0 (fbL y f n).length (fl (fbL y f n)) := by
      rw [fbL_len]
      refine o4.congr (Byt.fl (byt_cons (by omega) (ffl_byt hbd))) (fun i hi => ?_)
      by_cases h0 : i = 0
      · subst h0; rw [fbL_zero]; simp
      · obtain ⟨j, rfl⟩ : ∃ j, i = j + 1 := ⟨i - 1, by omega⟩
        rw [fbL_succ _ _ _ _ (by omega), if_pos (by omega)]
        simp
    have V5 : BV w4 w.heap.size w4.heap.size (some ⟨w1.heap.size, 0, none⟩) (fbL y f n) := ⟨byt_cons (by omega) (ffl_byt hbd), Nat.le_refl _, .inr ⟨_, _, rfl, hsw, o5.lt, o5⟩⟩
    have HF : Hid (FO (fbL y f n) true w (.returned (.tuple #[.slice (some ⟨w1.heap.size, 0, none⟩) (n + 1) (n + 1), .bool true])) w4) := ⟨_, _, by rw [fbL_len], V5, B4⟩
    obtain ⟨_, c0, c1⟩ := A3
    clear ho hst hst' o4 o5 V5 B4 q4 hcell3 hcell A1
    go_region
    go_wp2
    exact bodyPost_ret (v := .tuple #[.slice (some ⟨w1.heap.size, 0, none⟩) (n + 1) (n + 1), .bool true]) (by simp [results, Tryz.results176, go_sem]) rfl ⟨fun _ => HF.out, fun h => absurd HG.out h⟩
end Go.Proofs.YtpfjflbbpecbkaaGreat
