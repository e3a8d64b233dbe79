/- Worlds that differ in what is new and in one block. / ApplyEdit in the program. -/
import Derived.Test.YtagkhohglpjjlaaBV
import Derived.Test.YtagkhohglpjjlaaGd9
import Derived.Test.YtagkhohglpjjlaaGe9
import Derived.Deep.CutRange
import Derived.Deep.CutBlock
namespace Go.Proofs.Ytagkhohglpjjlaa
open Go.RowKit
set_option linter.unusedSimpArgs false
set_option linter.unusedVariables false

/-- All blocks below base but B are as they were. -/
structure KB (base B : Nat) (w w' : World) : Prop where
  os : w'.os = w.os
  tape : w'.tape = w.tape
  output : w'.output = w.output
  size : w.heap.size ≤ w'.heap.size
  block : ∀ c, c < base → c ≠ B → w'.heap[c]? = w.heap[c]?
section
variable {base B : Nat} {u w w' : World}
theorem KB.refl (base B : Nat) (w : World) : KB base B w w := ⟨rfl, rfl, rfl, Nat.le_refl _, fun _ _ _ => rfl⟩
theorem KB.trans (h : KB base B u w) (k : KB base B w w') : KB base B u w' := ⟨k.os.trans h.os, k.tape.trans h.tape, k.output.trans h.output, Nat.le_trans h.size k.size, fun c hc hne => (k.block c hc hne).trans (h.block c hc hne)⟩
theorem KB.of_mid (h : Mid B (B + 1) w w') (hb : base ≤ w.heap.size) : KB base B w w' := ⟨h.os, h.tape, h.output, h.size, fun c hc hne => h.block c (by omega) (by omega)⟩
theorem KB.of_below (h : Below base w w') : KB base B w w' := ⟨h.os, h.tape, h.output, h.size, fun c hc _ => h.block c hc⟩
theorem KB.of_grown {v : Value} (h : w.grownBy w' v.ownBlock) (hv : ∀ c, v.ownBlock = some c → base ≤ c) (hb : base ≤ w.heap.size) : KB base B w w' := ⟨h.os, h.tape, h.output, h.size, fun c hc _ => h.block c (by omega) (fun e => by have := hv c e.symm; omega)⟩
theorem KB.row (h : KB base B w w') {ao : Option Addr} {n : Nat} {f : Nat → Int} (hr : Row w ao n f) (hne : ∀ b off, ao = some ⟨b, off, none⟩ → b < base ∧ b ≠ B) : Row w' ao n f := by
  refine ⟨hr.bd, ?_⟩
  rcases hr.lies with h0 | ⟨b, off, e, hlt, hc⟩
  · exact .inl h0
  · have := hne b off e
    exact .inr ⟨b, off, e, Nat.lt_of_lt_of_le hlt h.size, fun i hi => (World.cell?_of_block (w := w) (a := ⟨b, off + i, none⟩) (h.block b this.1 this.2)).trans (hc i hi)⟩
end
end Go.Proofs.Ytagkhohglpjjlaa
namespace Go.Proofs.Ytagkhohglpjjlaa
open Go.RowKit
set_option linter.unusedSimpArgs false
set_option linter.unusedVariables false

/-- A version in a box that may be written. -/
structure VZ (w : World) (b : Nat) (nx lg sq : Int) (ao : Option Addr) (N cap : Nat) : Prop where
  vx : VX w b nx lg sq ao N cap
  fz : ∀ j, w.frozen? ⟨b, j, none⟩ = false
section
variable {w w' : World} {b : Nat} {nx lg sq : Int} {ao : Option Addr} {N cap : Nat}
theorem VZ.same (h : VZ w b nx lg sq ao N cap) (hs : w.heap.size ≤ w'.heap.size) (hb : w'.heap[b]? = w.heap[b]?) : VZ w' b nx lg sq ao N cap :=
  ⟨h.vx.same hs hb, fun j => (World.frozen?_of_block (w := w) (w' := w') (a := ⟨b, j, none⟩) hb).trans (h.fz j)⟩
theorem VZ.keep (h : VZ w b nx lg sq ao N cap) (hb : Below w.heap.size w w') : VZ w' b nx lg sq ao N cap := h.same hb.size (hb.block b h.vx.lt)
theorem VZ.new (w : World) (nx lg sq : Int) (ao : Option Addr) (N cap T : Nat) : VZ (w.alloc (.cells #[.int .i64 nx, .int .i64 lg, .int .i64 sq, .slice ao N cap] T)) w.heap.size nx lg sq ao N cap := ⟨VX.new w nx lg sq ao N cap T, fun j => by simp [go_sem]⟩
end
/-- An edit that applies. -/
def GoodAp (vx vl vs : Int) (N : Nat) (LL : Nat → List Met) (nx lg sq : Int) (D : List Int) (A : List Adm) : Prop :=
  GoodVP vx vl vs N (fun i => mL (LL i)) (fun i => (LL i).length) ∧ GoodEd nx lg sq D.length (fi D) A.length (dL A) ∧ vx ≤ nx ∧ vs ≤ sq ∧ OkD N LL D ∧ GoodVP nx lg sq N (fun i => mL (apL LL D A i)) (fun i => (apL LL D A i).length)
/-- What ApplyEdit leaves. -/
def ApO (vx vl vs : Int) (N : Nat) (LL : Nat → List Met) (nx lg sq : Int) (D : List Int) (A : List Adm) (w : World) (e : Ending) (w' : World) : Prop :=
  (GoodAp vx vl vs N LL nx lg sq D A ∧ ∃ ao c, e = .returned (.tuple #[.agg #[.int .i64 nx, .int .i64 lg, .int .i64 sq, .slice ao N c], .bool true]) ∧ VA w' w.heap.size w'.heap.size ao N (fun i => mL (apL LL D A i)) (fun i => (apL LL D A i).length) ∧ Below w.heap.size w w') ∨
  (¬ GoodAp vx vl vs N LL nx lg sq D A ∧ e = .returned (.tuple #[.agg #[.int .i64 0, .int .i64 0, .int .i64 0, .slice none 0 0], .bool false]) ∧ Below w.heap.size w w')
theorem fls_in {X : Nat → Met} : ∀ {n j : Nat}, j < n → (X j).file ∈ fls X n
  | n + 1, j, h => by
    unfold fls
    by_cases e : j = n
    · subst e; simp
    · exact List.mem_append_left _ (fls_in (by omega))
theorem flsR_in {R : Nat → Nat → Met} {M : Nat → Nat} : ∀ {N i : Nat} {x : Int}, i < N → x ∈ fls (R i) (M i) → x ∈ flsR R M N
  | N + 1, i, x, h, hx => by
    unfold flsR
    by_cases e : i = N
    · subst e; exact List.mem_append_right _ hx
    · exact List.mem_append_left _ (flsR_in (by omega) hx)
theorem flsR_uq {R : Nat → Nat → Met} {M : Nat → Nat} : ∀ {N i j : Nat} {x : Int}, (flsR R M N).Nodup → i < N → j < N → x ∈ fls (R i) (M i) → x ∈ fls (R j) (M j) → i = j
  | N + 1, i, j, x, hn, hi, hj, h1, h2 => by
    unfold flsR at hn
    obtain ⟨n1, n2, n3⟩ := List.nodup_append.1 hn
    by_cases e1 : i = N
    · by_cases e2 : j = N
      · rw [e1, e2]
      · subst e1
        exact absurd rfl (n3 x (flsR_in (show j < i by omega) h2) x h1)
    · by_cases e2 : j = N
      · subst e2
        exact absurd rfl (n3 x (flsR_in (show i < j by omega) h1) x h2)
      · exact flsR_uq n1 (by omega) (by omega) h1 h2
theorem GoodVP.uq {nx lg sq : Int} {N : Nat} {LL : Nat → List Met} (h : GoodVP nx lg sq N (fun i => mL (LL i)) (fun i => (LL i).length)) : Uq N LL := fun i j hi hj m hm m' hm' e => by
  have key : ∀ i m, m ∈ LL i → m.file ∈ fls (mL (LL i)) (LL i).length := fun i m hm => by
    obtain ⟨k, hk, rfl⟩ := List.getElem_of_mem hm
    have := fls_in (X := mL (LL i)) hk
    simpa [mL, hk] using this
  exact flsR_uq (R := fun i => mL (LL i)) (M := fun i => (LL i).length) h.2.2.2.2.2.2 hi hj (key i m hm) (by rw [e]; exact key j m' hm')
theorem GoodVP.few {nx lg sq : Int} {N : Nat} {LL : Nat → List Met} (h : GoodVP nx lg sq N (fun i => mL (LL i)) (fun i => (LL i).length)) : N = 3 ∧ ∀ i, i < N → (LL i).length ≤ 12 := ⟨h.2.2.2.2.1.1, fun i hi => (h.2.2.2.2.1.2 i hi).1.1⟩
theorem sum3 {M : Nat → Nat} {N : Nat} (hN : N = 3) (h : ∀ i, i < N → M i ≤ 1000) : sumM M N ≤ 1048576 := by
  subst hN
  have h0 := h 0 (by omega)
  have h1 := h 1 (by omega)
  have h2 := h 2 (by omega)
  simp only [sumM]
  omega

theorem KB.set_ex {base d : Nat} (w : World) (j : Nat) (v : Value) : KB base d w (w.setCell ⟨d, j, none⟩ v) :=
  have o := Others.setCell w d j v
  ⟨o.os, o.tape, o.output, by rw [o.size]; exact Nat.le_refl _, fun c _ h => o.block c h⟩
theorem Lv.kb {w w' : World} {base g N d : Nat} {V : Nat → Value} {LL : Nat → List Met} (h : Lv w base g N V LL) (ho : KB w.heap.size d w w') (hg : g ≠ d) (hv : ∀ i, i < N → (V i).ownBlock ≠ some d) : Lv w' base g N V LL := by
  have hgb := ho.block g h.lt hg
  refine ⟨Nat.lt_of_lt_of_le h.lt ho.size, h.bs, fun i hi => (World.cell?_of_block (w := w) (w' := w') (a := ⟨g, i, none⟩) hgb).trans (h.cell i hi), fun i hi => (h.own i hi).same fun c hc => ho.block c ((h.own i hi).own.lt c hc).2 (fun e => hv i hi (by rw [hc, e])), h.apart, h.dis, fun j hj => (World.frozen?_of_block (w := w) (a := ⟨g, j, none⟩) hgb).trans (h.free j hj)⟩
theorem DX.set3 {w : World} {b : Nat} {nx lg sq : Int} {ao : Option Addr} {N cap : Nat} {fl : Bool} (h : DX w b nx lg sq ao N cap fl) (n' l' s' : Int) :
    DX (((w.setCell ⟨b, 0, none⟩ (.int .i64 n')).setCell ⟨b, 1, none⟩ (.int .i64 l')).setCell ⟨b, 2, none⟩ (.int .i64 s')) b n' l' s' ao N cap fl := by
  obtain ⟨lt, c0, c1, c2, c3, c4, fz⟩ := h
  refine ⟨by simpa using lt, ?_, ?_, ?_, ?_, ?_, fun j => by simpa using fz j⟩
  · rw [World.cell?_setCell_other _ _ _ _ (by simp), World.cell?_setCell_other _ _ _ _ (by simp)]
    exact World.cell?_setCell_same _ _ _ c0
  · rw [World.cell?_setCell_other _ _ _ _ (by simp)]
    exact World.cell?_setCell_same _ _ _ ((World.cell?_setCell_other _ _ _ _ (by simp)).trans c1)
  · exact World.cell?_setCell_same _ _ _ ((World.cell?_setCell_other _ _ _ _ (by simp)).trans ((World.cell?_setCell_other _ _ _ _ (by simp)).trans c2))
  · rw [World.cell?_setCell_other _ _ _ _ (by simp), World.cell?_setCell_other _ _ _ _ (by simp), World.cell?_setCell_other _ _ _ _ (by simp)]
    exact c3
  · rw [World.cell?_setCell_other _ _ _ _ (by simp), World.cell?_setCell_other _ _ _ _ (by simp), World.cell?_setCell_other _ _ _ _ (by simp)]
    exact c4

set_option maxRecDepth 100000 in
set_option maxHeartbeats 12800000 in
theorem applyEdit_impl (vx vl vs : Int) (ao : Option Addr) (N cap : Nat) (LL : Nat → List Met) (nx lg sq : Int) (da : Option Addr) (cd : Nat) (D : List Int) (aa : Option Addr) (ca : Nat) (A : List Adm) (w : World)
    (hv : VRow w ao N (fun i => mL (LL i)) (fun i => (LL i).length)) (hr : IRow w da D.length (fi D)) (hy : DRow w aa A.length (dL A)) (hN : N ≤ 1048576) (hM : sumM (fun i => (LL i).length) N ≤ 1048576) (hd : D.length ≤ 1048576) (ha : A.length ≤ 1048576) :
    Calls Try.prog 5 #[.agg #[.int .i64 vx, .int .i64 vl, .int .i64 vs, .slice ao N cap], .agg #[.int .i64 nx, .int .i64 lg, .int .i64 sq, .slice da D.length cd, .slice aa A.length ca]] w fun e w' => ApO vx vl vs N LL nx lg sq D A w e w' := by
  have b1 := below_new w (.cells #[.int .i64 vx, .int .i64 vl, .int .i64 vs, .slice ao N cap] 25)
  have A1 := VX.new w vx vl vs ao N cap 25
  go_enter Try.func5, Try.ntmps5
  go_wp2_with fail
  have s1 : (w.alloc (.cells #[.int .i64 vx, .int .i64 vl, .int .i64 vs, .slice ao N cap] 25)).heap.size = w.heap.size + 1 := by simp
  generalize w.alloc (.cells #[.int .i64 vx, .int .i64 vl, .int .i64 vs, .slice ao N cap] 25) = wa at *
  have b2 := below_new wa (.cells #[.int .i64 nx, .int .i64 lg, .int .i64 sq, .slice da D.length cd, .slice aa A.length ca] 29)
  have E2 := EX.new wa nx lg sq (.slice da D.length cd) (.slice aa A.length ca) 29
  have A2 := A1.keep b2
  have bw2 := b1.trans (b2.mono b1.size)
  have s2 : (wa.alloc (.cells #[.int .i64 nx, .int .i64 lg, .int .i64 sq, .slice da D.length cd, .slice aa A.length ca] 29)).heap.size = w.heap.size + 2 := by simp [s1]
  rw [s1] at E2
  clear A1 b1 b2
  generalize wa.alloc (.cells #[.int .i64 nx, .int .i64 lg, .int .i64 sq, .slice da D.length cd, .slice aa A.length ca] 29) = wb at *
  have b3 := below_new wb (.cells #[.int .i64 0, .int .i64 0, .int .i64 0, .slice none 0 0] 25)
  have Z3 := VZ.new wb 0 0 0 none 0 0 25
  have A3 := A2.keep b3
  have E3 := E2.keep b3
  have bw3 := bw2.trans (b3.mono bw2.size)
  have s3 : (wb.alloc (.cells #[.int .i64 0, .int .i64 0, .int .i64 0, .slice none 0 0] 25)).heap.size = w.heap.size + 3 := by simp [s2]
  rw [s2] at Z3
  clear A2 E2 b3 bw2 s1
  generalize wb.alloc (.cells #[.int .i64 0, .int .i64 0, .int .i64 0, .slice none 0 0] 25) = w3 at *
  clear s2
  refine (goodVersion_impl vx vl vs ao N cap _ _ w3 (hv.keep bw3) hN hM).mono ?_
  rintro e w4 ⟨g4, rfl, q4', h4⟩
  have q4 : Hid (g4 = true ↔ GoodVP vx vl vs N (fun i => mL (LL i)) (fun i => (LL i).length)) := q4'
  clear q4'
  have A4 := A3.keep h4
  have E4 := E3.keep h4
  have Z4 := Z3.keep h4
  have bw4 := bw3.trans (h4.mono bw3.size)
  have s4 := h4.size
  clear A3 E3 Z3 h4
  cases g4
  · have HN : Hid (¬ GoodAp vx vl vs N LL nx lg sq D A) := fun h => by have := q4.out.2 h.1; cases this
    obtain ⟨⟨lz, z0, z1, z2, z3⟩, zf⟩ := id Z4
    have f0 := zf 0
    have f1 := zf 1
    have f2 := zf 2
    have f3 := zf 3
    clear zf q4 A4 E4
    go_wp2
    refine bodyPost_ret (v := .tuple #[.agg #[.int .i64 0, .int .i64 0, .int .i64 0, .slice none 0 0], .bool false]) (by simp [results, Try.results5, go_sem, z0, z1, z2, z3]) rfl (.inr ⟨HN.out, rfl, ?_⟩)
    repeat' refine Below.setCell ?_ (by first | (simp; done) | (simp; omega)) _
    exact bw4
  have HG4 : Hid (GoodVP vx vl vs N (fun i => mL (LL i)) (fun i => (LL i).length)) := q4.out.1 rfl
  clear q4
  obtain ⟨lx, x0, x1, x2, x3, x4⟩ := id E4
  go_wp2_with fail
  refine (goodEdit_any nx lg sq da D.length cd (fi D) aa A.length ca (dL A) w4 (hr.keep bw4) (hy.keep bw4) hd ha).mono ?_
  rintro e w5 ⟨g5, rfl, q5', h5⟩
  have q5 : Hid (g5 = true ↔ GoodEd nx lg sq D.length (fi D) A.length (dL A)) := q5'
  clear q5'
  have A5 := A4.keep h5
  have E5 := E4.keep h5
  have Z5 := Z4.keep h5
  have bw5 := bw4.trans (h5.mono bw4.size)
  have s5 := h5.size
  clear A4 E4 Z4 h5 lx x0 x1 x2 x3 x4
  cases g5
  · have HN : Hid (¬ GoodAp vx vl vs N LL nx lg sq D A) := fun h => by have := q5.out.2 h.2.1; cases this
    obtain ⟨⟨lz, z0, z1, z2, z3⟩, zf⟩ := id Z5
    have f0 := zf 0
    have f1 := zf 1
    have f2 := zf 2
    have f3 := zf 3
    clear zf q5 A5 E5
    go_wp2
    refine bodyPost_ret (v := .tuple #[.agg #[.int .i64 0, .int .i64 0, .int .i64 0, .slice none 0 0], .bool false]) (by simp [results, Try.results5, go_sem, z0, z1, z2, z3]) rfl (.inr ⟨HN.out, rfl, ?_⟩)
    repeat' refine Below.setCell ?_ (by first | (simp; done) | (simp; omega)) _
    exact bw5
  have HG5 : Hid (GoodEd nx lg sq D.length (fi D) A.length (dL A)) := q5.out.1 rfl
  clear q5
  obtain ⟨la, a0, a1, a2, a3⟩ := id A5
  obtain ⟨lx, x0, x1, x2, x3, x4⟩ := id E5
  by_cases hnx : nx < vx
  · have HN : Hid (¬ GoodAp vx vl vs N LL nx lg sq D A) := fun h => by have := h.2.2.1; omega
    obtain ⟨⟨lz, z0, z1, z2, z3⟩, zf⟩ := id Z5
    have f0 := zf 0
    have f1 := zf 1
    have f2 := zf 2
    have f3 := zf 3
    clear zf A5 E5
    go_wp2
    refine bodyPost_ret (v := .tuple #[.agg #[.int .i64 0, .int .i64 0, .int .i64 0, .slice none 0 0], .bool false]) (by simp [results, Try.results5, go_sem, z0, z1, z2, z3]) rfl (.inr ⟨HN.out, rfl, ?_⟩)
    repeat' refine Below.setCell ?_ (by first | (simp; done) | (simp; omega)) _
    exact bw5
  by_cases hsq : sq < vs
  · have HN : Hid (¬ GoodAp vx vl vs N LL nx lg sq D A) := fun h => by have := h.2.2.2.1; omega
    obtain ⟨⟨lz, z0, z1, z2, z3⟩, zf⟩ := id Z5
    have f0 := zf 0
    have f1 := zf 1
    have f2 := zf 2
    have f3 := zf 3
    clear zf A5 E5
    go_wp2
    refine bodyPost_ret (v := .tuple #[.agg #[.int .i64 0, .int .i64 0, .int .i64 0, .slice none 0 0], .bool false]) (by simp [results, Try.results5, go_sem, z0, z1, z2, z3]) rfl (.inr ⟨HN.out, rfl, ?_⟩)
    repeat' refine Below.setCell ?_ (by first | (simp; done) | (simp; omega)) _
    exact bw5
  have hfew := HG4.out.few
  have huq : Hid (Uq N LL) := HG4.out.uq
  have hlen : Hid (∀ i, i < N → (LL i).length ≤ 12) := hfew.2
  have HN3 : Hid (N = 3) := hfew.1
  have hN4 : N ≤ 3 := by have := HN3.out; omega
  have HD24 : Hid (D.length ≤ 24) := HG5.out.2.2.2.1.1
  have HA24 : Hid (A.length ≤ 24 ∧ ∀ i, i < A.length → ga (dL A i) = true) := HG5.out.2.2.2.2
  clear hfew
  go_wp2_with fail
  refine (draftOf_any vx vl vs ao N cap LL w5 (hv.keep bw5) (by omega) (fun i hi => by have := hlen.out i hi; omega)).mono ?_
  rintro e w6 ⟨g, V, rfl, L6, h6⟩
  have E6 := E5.keep h6
  have Z6 := Z5.keep h6
  have bw6 := bw5.trans (h6.mono bw5.size)
  have s6 := h6.size
  clear A5 E5 Z5 h6 la a0 a1 a2 a3 lx x0 x1 x2 x3 x4
  go_upto_region 4 with fail
  have bn := below_new w6 (.cells #[.int .i64 vx, .int .i64 vl, .int .i64 vs, .slice (some ⟨g, 0, none⟩) N N, .bool false] 48)
  have X7 := DX.new w6 vx vl vs (some ⟨g, 0, none⟩) N N 48 false
  have L7 := L6.keep bn
  have E7 := E6.keep bn
  have Z7 := Z6.keep bn
  have bw7 := bw6.trans (bn.mono bw6.size)
  have hgd : g ≠ w6.heap.size := by have := L6.lt; omega
  have hvd : Hid (∀ i, i < N → (V i).ownBlock ≠ some w6.heap.size) := fun i hi e => by have := ((L6.own i hi).own.lt _ e).2; omega
  have hdb : w5.heap.size ≤ w6.heap.size := s6
  clear L6 E6 Z6 bn bw6 s6
  generalize w6.alloc (.cells #[.int .i64 vx, .int .i64 vl, .int .i64 vs, .slice (some ⟨g, 0, none⟩) N N, .bool false] 48) = w7 at *
  generalize w6.heap.size = db at *
  have hbs : w.heap.size + 3 ≤ w5.heap.size := by omega
  generalize w5.heap.size = base at *
  go_cut [] from 36 (fun wx => DX wx db nx lg sq (some ⟨g, 0, none⟩) N N false ∧ KB w7.heap.size db w7 wx)
  case first =>
    obtain ⟨lx, x0, x1, x2, x3, x4⟩ := id E7
    obtain ⟨ld, d0, d1, d2, d3, d4, df⟩ := id X7
    have f0 := df 0
    have f1 := df 1
    have f2 := df 2
    go_region
    all_goals
      go_wp2_with fail
      go_meet
      case rel => exact ⟨(X7.keep (Below.refl _ _).drew).set3 nx lg sq, (((KB.of_below (Below.refl _ _).drew).trans (KB.set_ex _ _ _)).trans (KB.set_ex _ _ _)).trans (KB.set_ex _ _ _)⟩
  case rest =>
    obtain ⟨X8, K8⟩ := hcut
    generalize wc = w8 at *
    have L8 := L7.kb K8 hgd hvd.out
    have E8 := E7.same K8.size (K8.block _ E7.lt (by omega))
    have Z8 := Z7.same K8.size (K8.block _ Z7.vx.lt (by omega))
    have s7 := bw7.size
    have bw8 : Below w.heap.size w w8 := bw7.trans ⟨K8.os, K8.tape, K8.output, K8.size, fun c hc => K8.block c (by omega) (by omega)⟩
    clear L7 E7 Z7 bw7 K8 X7 s4 s5 s3
    obtain ⟨lx, x0, x1, x2, x3, x4⟩ := id E8
    go_wp2
    go_loopw [51] (fun i wr => ∃ (k : Nat) (V : Nat → Value) (LLk : Nat → List Met) (fl : Bool), k ≤ D.length ∧ i = .int .i64 (k : Int) ∧ Lv wr base g N V LLk ∧ DX wr db nx lg sq (some ⟨g, 0, none⟩) N N fl ∧ Hid (∀ i, i < N → (V i).ownBlock ≠ some db) ∧ Hid (∀ i, i < N → (LLk i).length ≤ 12) ∧ Below base w8 wr ∧ Hid (DI N LL D k LLk fl)) (fun i _ => D.length - (intOf i).toNat)
    case atStart => exact ⟨0, V, LL, false, Nat.zero_le _, rfl, L8, X8, hvd, hlen, Below.refl _ _, di_zero⟩
    case round =>
      obtain ⟨k, V', LLk, fl, hk, rfl, Lk, Xk, hvk, hlk, hbk, HI⟩ := hrel
      have bwk : Below w.heap.size w wr := bw8.trans (hbk.mono (by omega))
      by_cases hlt : k < D.length
      · obtain ⟨_, hlies⟩ := hr.keep bwk
        obtain ⟨b, off, rfl, hblt, hc⟩ := hlies.resolve_left (by omega)
        have hcell := hc k hlt
        clear hc hlies L8 X8 E8 Z8 x0 x1 x2 x3 x4
        go_wp2_with fail
        refine (drop_any base db g N nx lg sq fl V' LLk (fi D k) wr Lk Xk hdb hgd hvk.out (by omega) (fun i hi => by have := hlk.out i hi; omega)).mono ?_
        rintro e w9 ⟨rfl, V9, hb9, hv9, hcase⟩
        have hbw := hbk.trans hb9
        clear hbk hb9 Lk Xk hcell
        rcases hcase with ⟨i, hi, hnf, hfr, L9, X9⟩ | ⟨hall, L9, X9⟩
        · have HI9 : Hid (DI N LL D (k + 1) (fun j => if j = i then wo (LLk i) (fi D k) else LLk j) fl) := di_found HI.out huq.out hlt hi hnf
          have hl9 : Hid (∀ j, j < N → ((fun j => if j = i then wo (LLk i) (fi D k) else LLk j) j).length ≤ 12) := fun j hj => by
            dsimp only
            split
            · have := wo_len (LLk i) (fi D k); have := hlk.out i hi; omega
            · exact hlk.out j hj
          have hv9' : Hid (∀ i, i < N → (V9 i).ownBlock ≠ some db) := hv9
          clear hv9 hnf hfr HI hlk hvk
          go_wp2
          go_roundw
          case rel => exact ⟨k + 1, V9, _, fl, by omega, by go_num, L9, X9, hv9', hl9, hbw, HI9⟩
          case measure => simp [intOf]; omega
        · have HI9 : Hid (DI N LL D (k + 1) LLk true) := di_none HI.out hlt hall
          have hv9' : Hid (∀ i, i < N → (V9 i).ownBlock ≠ some db) := hv9
          clear hv9 hall HI hvk
          go_wp2
          go_roundw
          case rel => exact ⟨k + 1, V9, _, true, by omega, by go_num, L9, X9, hv9', hlk, hbw, HI9⟩
          case measure => simp [intOf]; omega
      · obtain rfl : k = D.length := by omega
        have E9 := E8.same hbk.size (hbk.block _ (by omega))
        have Z9 := Z8.same hbk.size (hbk.block _ (by omega))
        have HI9 : Hid (AI N LL D A 0 LLk fl) := ai_zero HI.out
        have s9 := Xk.lt
        have hl9 : Hid (∀ i, i < N → (LLk i).length ≤ 12 + 0) := hlk.out
        clear L8 X8 E8 Z8 x0 x1 x2 x3 x4 lx bw8 hbk HI hlk hlt hk
        generalize wr = w9 at *
        obtain ⟨lx, x0, x1, x2, x3, x4⟩ := id E9
        go_wp2
        go_loopw [61] (fun i wr => ∃ (k : Nat) (V : Nat → Value) (LLk : Nat → List Met), k ≤ A.length ∧ i = .int .i64 (k : Int) ∧ Lv wr base g N V LLk ∧ DX wr db nx lg sq (some ⟨g, 0, none⟩) N N fl ∧ Hid (∀ i, i < N → (V i).ownBlock ≠ some db) ∧ Hid (∀ i, i < N → (LLk i).length ≤ 12 + k) ∧ Below base w9 wr ∧ Hid (AI N LL D A k LLk fl)) (fun i _ => A.length - (intOf i).toNat)
        case atStart => exact ⟨0, V', LLk, Nat.zero_le _, rfl, Lk, Xk, hvk, hl9, Below.refl _ _, HI9⟩
        case round =>
          clear Lk Xk hvk hl9 HI9 V' LLk
          obtain ⟨k, V', LLk, hk, rfl, Lk, Xk, hvk, hlk, hbk, HI⟩ := hrel
          have bwr : Below w.heap.size w wr := bwk.trans (hbk.mono (by omega))
          by_cases hlt : k < A.length
          · obtain ⟨_, hlies⟩ := hy.keep bwr
            obtain ⟨b, off, rfl, hblt, hc⟩ := hlies.resolve_left (by omega)
            have hat := hc k hlt
            have hga := HA24.out.2 k hlt
            have hkA : k ≤ 24 := by have := HA24.out.1; omega
            have hdb2 := hy.bd k hlt
            have HS := ai_step HI.out hlt
            clear hc hlies
            generalize dL A k = y at *
            obtain ⟨lv, m⟩ := y
            have hlv : 0 ≤ lv ∧ lv ≤ 2 := by simp only [ga, btw, Bool.and_eq_true, decide_eq_true_eq] at hga; exact hga.1
            obtain ⟨kk, rfl⟩ : ∃ kk : Nat, lv = (kk : Int) := ⟨lv.toNat, by omega⟩
            have hkk : kk < N := by have := HN3.out; omega
            simp only [Int.toNat_natCast] at HS
            have HS2 : Hid (AI N LL D A (k + 1) (fun j => if j = kk then plP (LLk kk) kk m else LLk j) fl) := HS
            have hmb := hdb2.m
            obtain ⟨_, c0, c1, c2, c3, c4⟩ := hat
            simp only at c0 c1 c2 c3 c4
            have bnp := below_new wr (.cells #[.int .i64 (kk : Int), .int .i64 m.file, .string m.least, .string m.most, .int .i64 m.many] 54)
            have Lp := Lk.keep bnp
            have Xp := Xk.keep bnp
            have hbp := hbk.trans (bnp.mono (by have := Lk.bs; have := Lk.lt; omega))
            have hlp : (LLk kk).length ≤ 1000000 := by have := hlk.out kk hkk; omega
            clear HS HI hga hdb2 hlv Lk Xk hbk E9 Z9 x0 x1 x2 x3 x4 lx bnp
            go_wp2_with fail
            generalize wr.alloc (.cells #[.int .i64 (kk : Int), .int .i64 m.file, .string m.least, .string m.most, .int .i64 m.many] 54) = wp at *
            refine (put_any base db g N nx lg sq fl V' LLk kk m wp Lp Xp hdb hgd hvk.out (by omega) hlp hkk hmb).mono ?_
            rintro e w10 ⟨rfl, V10, hb10, hv10, L10, X10⟩
            have hbw := hbp.trans hb10
            have hv10' : Hid (∀ i, i < N → (V10 i).ownBlock ≠ some db) := hv10
            have hl10 : Hid (∀ j, j < N → ((fun j => if j = kk then plP (LLk kk) kk m else LLk j) j).length ≤ 12 + (k + 1)) := fun j hj => by
              dsimp only
              split
              · rw [plP_len]; have := hlk.out kk hkk; omega
              · have := hlk.out j hj; omega
            clear hv10 hb10 hbp Lp Xp hlk hvk c0 c1 c2 c3 c4
            go_wp2
            go_roundw
            case rel => exact ⟨k + 1, V10, _, by omega, by go_num, L10, X10, hv10', hl10, hbw, HS2⟩
            case measure => simp [intOf]; omega
          · obtain rfl : k = A.length := by omega
            have Z10 := Z9.same hbk.size (hbk.block _ (by omega))
            obtain ⟨ld, d0, d1, d2, d3, d4, _⟩ := id Xk
            have hA24 := HA24.out.1
            clear E9 Z9 x0 x1 x2 x3 x4 lx bwk hk hlt
            cases fl
            rotate_left
            · have HN : Hid (¬ GoodAp vx vl vs N LL nx lg sq D A) := fun h => by
                              rcases HI.out with ⟨h1, _⟩ | ⟨_, h1⟩
                              · cases h1
                              · exact h1 h.2.2.2.2.1
              obtain ⟨⟨lz, z0, z1, z2, z3⟩, zf⟩ := id Z10
              have f0 := zf 0
              have f1 := zf 1
              have f2 := zf 2
              have f3 := zf 3
              clear zf HI Lk hlk hvk
              go_wp2
              refine bodyPost_ret (v := .tuple #[.agg #[.int .i64 0, .int .i64 0, .int .i64 0, .slice none 0 0], .bool false]) (by simp [results, Try.results5, go_sem, z0, z1, z2, z3]) rfl (.inr ⟨HN.out, rfl, ?_⟩)
              repeat' refine Below.setCell ?_ (by first | (simp; done) | (simp; omega)) _
              exact bwr
            have hok : Hid (OkD N LL D) := by
              rcases HI.out with ⟨_, _, h⟩ | ⟨h1, _⟩
              · exact h
              · cases h1
            have heq : ∀ i, i < N → LLk i = apL LL D A i := by
              rcases HI.out with ⟨_, h, _⟩ | ⟨h1, _⟩
              · rw [List.take_length] at h; exact h
              · cases h1
            have La := Lk.congr (V' := V') heq
            have hll : Hid (∀ i, i < N → (apL LL D A i).length ≤ 100) := fun i hi => by rw [← heq i hi]; have := hlk.out i hi; omega
            have hgv := goodVersion_impl nx lg sq (some ⟨g, 0, none⟩) N N (fun i => mL (apL LL D A i)) (fun i => (apL LL D A i).length) wr (La.vrow (fun i hi => by have := hll.out i hi; omega)) (by omega) (sum3 HN3.out (fun i hi => by have := hll.out i hi; omega))
            clear heq Lk HI hlk hvk hbk
            go_wp2_with fail
            refine hgv.mono ?_
            rintro e w11 ⟨g11, rfl, q11', h11⟩
            have q11 : Hid (g11 = true ↔ GoodVP nx lg sq N (fun i => mL (apL LL D A i)) (fun i => (apL LL D A i).length)) := q11'
            have Z11 := Z10.keep h11
            have X11 := Xk.keep h11
            have L11 := La.keep h11
            have bw11 := bwr.trans (h11.mono bwr.size)
            clear q11' Z10 Xk La h11 hgv d0 d1 d2 d3 d4 ld bwr
            cases g11
            · have HN : Hid (¬ GoodAp vx vl vs N LL nx lg sq D A) := fun h => by have := q11.out.2 h.2.2.2.2.2; cases this
              obtain ⟨⟨lz, z0, z1, z2, z3⟩, zf⟩ := id Z11
              have f0 := zf 0
              have f1 := zf 1
              have f2 := zf 2
              have f3 := zf 3
              clear zf q11 X11 L11
              go_wp2
              refine bodyPost_ret (v := .tuple #[.agg #[.int .i64 0, .int .i64 0, .int .i64 0, .slice none 0 0], .bool false]) (by simp [results, Try.results5, go_sem, z0, z1, z2, z3]) rfl (.inr ⟨HN.out, rfl, ?_⟩)
              repeat' refine Below.setCell ?_ (by first | (simp; done) | (simp; omega)) _
              exact bw11
            have HY : Hid (GoodAp vx vl vs N LL nx lg sq D A) := ⟨HG4.out, HG5.out, by omega, by omega, hok.out, q11.out.1 rfl⟩
            obtain ⟨⟨lz, z0, z1, z2, z3⟩, zf⟩ := id Z11
            have f0 := zf 0
            have f1 := zf 1
            have f2 := zf 2
            have f3 := zf 3
            obtain ⟨ld, d0, d1, d2, d3, d4, _⟩ := id X11
            clear zf q11
            go_wp2
            refine bodyPost_ret (v := .tuple #[.agg #[.int .i64 nx, .int .i64 lg, .int .i64 sq, .slice (some ⟨g, 0, none⟩) N N], .bool true]) (by simp [results, Try.results5, go_sem, z0, z1, z2, z3]) rfl (.inl ⟨HY.out, some ⟨g, 0, none⟩, N, rfl, ?_, ?_⟩)
            · have hV2 : ∀ W, w11.heap.size = W.heap.size → (∀ c, base ≤ c → W.heap[c]? = w11.heap[c]?) → VA W w.heap.size W.heap.size (some ⟨g, 0, none⟩) N (fun i => mL (apL LL D A i)) (fun i => (apL LL D A i).length) := fun W hs hc =>
                ((L11.va).same (w' := W) (by omega) (fun c h1 _ => hc c h1)).mono (by omega) (by omega) (Nat.le_refl _)
              refine hV2 _ (by simp) fun c hc => ?_
              repeat' refine (Below.heap_setCell _ _ _ _ (by first | omega | (dsimp only; omega))).trans ?_
              rfl
            · repeat' refine Below.setCell ?_ (by first | (simp; done) | (simp; omega)) _
              exact bw11
end Go.Proofs.Ytagkhohglpjjlaa
