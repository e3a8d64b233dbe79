/- RaiseMark, in both texts. -/
import Derived.Test.YtpggmgmdcccmeaaOp
import Derived.Test.YtpggmgmdcccmeaaTe
import Derived.Test.YtpggmgmdcccmeaaGc
namespace Go.Proofs.Ytpggmgmdcccmeaa
open Go.RowKit
set_option linter.unusedSimpArgs false
set_option linter.unusedVariables false

theorem WiC.congr {w : World} {b n : Nat} {X X' : Nat → Wn} {A0 A1 : Nat → Option Addr} {K0 K1 G : Nat → Nat} (h : WiC w b n X A0 A1 K0 K1 G) (e : ∀ i, i < n → X i = X' i) : WiC w b n X' A0 A1 K0 K1 G :=
  ⟨h.lt, fun i hi => by rw [← e i hi]; exact h.ent i hi, h.free, fun i hi => by rw [← e i hi]; exact h.l0 i hi, fun i hi => by rw [← e i hi]; exact h.l1 i hi, h.dis⟩
theorem BA.congr {w : World} {base top n : Nat} {v : Value} {X X' : Nat → Wn} (h : BA w base top v n X) (e : ∀ i, i < n → X i = X' i) : BA w base top v n X' := by
  refine ⟨h.1, ?_⟩
  rcases h.2 with h0 | ⟨g, cap, A0, A1, K0, K1, G, e1, h1, h2, h3, h4, h5⟩
  · exact .inl h0
  · exact .inr ⟨g, cap, A0, A1, K0, K1, G, e1, h1, h2, h3.congr e, fun i hi hp => h4 i hi (by rw [e i hi]; exact hp), fun i hi hp => h5 i hi (by rw [e i hi]; exact hp)⟩
/-- A board opened and told is what it was. -/
theorem told_back {z : Int} {X : Nat → Wn} {n : Nat} (hG : GWs z X n) {b : Nat → Bool} (hb : ∀ i, i < n → (b i = true ↔ dS X n (kS (cln X i)))) : ∀ i, i < n → tldB (cln X) b n i = X i := by
  intro i hi
  have e : b i = (X i).di := by
    have h1 := hb i hi
    rw [show kS (cln X i) = kS (X i) from rfl] at h1
    cases hd : (X i).di with
    | true => exact h1.2 ⟨i, hi, hd, rfl⟩
    | false =>
      cases hx : b i with
      | false => rfl
      | true =>
        obtain ⟨j, hj, h2, h3⟩ := h1.1 hx
        by_cases ej : i = j
        · subst ej; rw [hd] at h2; cases h2
        · exact absurd h3 (kS_ne hG hi hj ej)
  simp only [tldB, hi, if_true, e]
  rfl
theorem WSt.mark {w : World} {base p r n : Nat} {z h mk : Int} {v : Value} {Y : Nat → Wn} {V : Nat → Value} {S : ByteArray → Prop} (H : WSt w base p r z h mk v n Y V S) (t : Int) : WSt (w.setCell ⟨p, 2, none⟩ (.int .i64 t)) base p r z h t v n Y V S := by
  have oth := Others.setCell w p 2 (.int .i64 t)
  have nc : ∀ j, j ≠ 2 → (w.setCell ⟨p, 2, none⟩ (.int .i64 t)).cell? ⟨p, j, none⟩ = w.cell? ⟨p, j, none⟩ := fun j hj => World.cell?_setCell_other _ _ _ _ (by intro hh; injection hh with _ h2 _; omega)
  exact ⟨⟨by rw [oth.size]; exact H.box.lt, (nc 0 (by omega)).trans H.box.c0, (nc 1 (by omega)).trans H.box.c1, World.cell?_setCell_same _ _ _ H.box.c2, (nc 3 (by omega)).trans H.box.c3⟩, (nc 4 (by omega)).trans H.c4, fun j => by rw [World.frozen?_setCell]; exact H.fz j, H.set.same (oth.block r (Ne.symm H.pr)), H.out.others oth H.pb, H.pr, H.pb, H.rb⟩

/-- An answer: a board whose memory is its own, and a code. -/
def BAns (z h mk : Int) (n : Nat) (X : Nat → Wn) (c : Int) (w : World) (e : Ending) (w' : World) : Prop :=
  ∃ v, e = .returned (.tuple #[.agg #[.int .i64 z, .int .i64 h, .int .i64 mk, v], .int .i64 c]) ∧ BA w' w.heap.size w'.heap.size v n X ∧ Below w.heap.size w w'

/-- Whether a mark may be raised to t. -/
def RmOk (mk t : Int) : Prop := isTm t = true ∧ mk ≤ t

set_option maxRecDepth 100000 in
set_option maxHeartbeats 3200000 in
theorem raiseMark_spec_bad (z h mk t : Int) (ao : Option Addr) (n cap : Nat) (X : Nat → Wn) (w : World) (hr : WiRow w ao n X) (hn : n ≤ 1048576) (hz : WiSize n X) (hG : Hid (¬ GBd z h mk n X)) :
    Calls Try.prog 54 #[.agg #[.int .i64 z, .int .i64 h, .int .i64 mk, .slice ao n cap], .int .i64 t] w fun e w' => BAns 0 0 0 0 X 1 w e w' := by
  have hB : ∀ o o', Below w.heap.size w ((w.alloc o).alloc o') := fun o o' => (below_new w o).alloc (by simp) _
  go_enter Try.func54, Try.ntmps54
  go_wp2_with fail
  refine (goodBoard_spec z h mk ao n cap X _ (hr.keep (hB _ _)) hn hz).mono ?_
  rintro e w1 ⟨b1, rfl, h1, q1⟩
  have bw : Below w.heap.size w w1 := (hB _ _).trans (q1.mono (by simp; omega))
  have d0 := q1.cell (p := ⟨w.heap.size + 1, 0, none⟩) (by simp)
  have d1 := q1.cell (p := ⟨w.heap.size + 1, 1, none⟩) (by simp)
  have d2 := q1.cell (p := ⟨w.heap.size + 1, 2, none⟩) (by simp)
  have d3 := q1.cell (p := ⟨w.heap.size + 1, 3, none⟩) (by simp)
  have df : ∀ j, w1.frozen? ⟨w.heap.size + 1, j, none⟩ = false := fun j => (q1.frozen (p := ⟨w.heap.size + 1, j, none⟩) (by simp)).trans (by simp [go_sem])
  simp [go_sem] at d0 d1 d2 d3
  have e1 : b1 = false := by
    cases b1 with
    | false => rfl
    | true => exact absurd (h1.1 rfl) hG.out
  subst e1
  clear h1 q1 hB
  go_wp2
  refine bodyPost_ret (v := .tuple #[.agg #[.int .i64 0, .int .i64 0, .int .i64 0, .slice none 0 0], .int .i64 1]) (by simp [results, Try.results54, go_sem, d0, d1, d2, d3]) rfl ⟨.slice none 0 0, rfl, ⟨Nat.le_refl _, .inl ⟨rfl, _, _, rfl⟩⟩, ?_⟩
  repeat' refine Below.setCell ?_ (by first | (simp; done) | (simp; omega)) _
  exact bw

set_option maxRecDepth 100000 in
set_option maxHeartbeats 8000000 in
theorem raiseMark_spec_good (z h mk t : Int) (ao : Option Addr) (n cap : Nat) (X : Nat → Wn) (w : World) (hr : WiRow w ao n X) (hn : n ≤ 1048576) (hz : WiSize n X) (hG : Hid (GBd z h mk n X)) :
    Calls Try.prog 54 #[.agg #[.int .i64 z, .int .i64 h, .int .i64 mk, .slice ao n cap], .int .i64 t] w fun e w' => (RmOk mk t → BAns z h t n X 0 w e w') ∧ (¬ RmOk mk t → BAns z h mk n X 1 w e w') := by
  have hB : ∀ o o', Below w.heap.size w ((w.alloc o).alloc o') := fun o o' => (below_new w o).alloc (by simp) _
  have hfX := hr.fb
  go_enter Try.func54, Try.ntmps54
  go_wp2_with fail
  refine (goodBoard_spec z h mk ao n cap X _ (hr.keep (hB _ _)) hn hz).mono ?_
  rintro e w1 ⟨b1, rfl, h1, q1⟩
  have bw : Below w.heap.size w w1 := (hB _ _).trans (q1.mono (by simp; omega))
  have c0 := q1.cell (p := ⟨w.heap.size, 0, none⟩) (by simp; omega)
  have c1 := q1.cell (p := ⟨w.heap.size, 1, none⟩) (by simp; omega)
  have c2 := q1.cell (p := ⟨w.heap.size, 2, none⟩) (by simp; omega)
  have c3 := q1.cell (p := ⟨w.heap.size, 3, none⟩) (by simp; omega)
  have cf : ∀ j, w1.frozen? ⟨w.heap.size, j, none⟩ = false := fun j => (q1.frozen (p := ⟨w.heap.size, j, none⟩) (by simp; omega)).trans (by simp [go_sem])
  have d0 := q1.cell (p := ⟨w.heap.size + 1, 0, none⟩) (by simp)
  have d1 := q1.cell (p := ⟨w.heap.size + 1, 1, none⟩) (by simp)
  have d2 := q1.cell (p := ⟨w.heap.size + 1, 2, none⟩) (by simp)
  have d3 := q1.cell (p := ⟨w.heap.size + 1, 3, none⟩) (by simp)
  have df : ∀ j, w1.frozen? ⟨w.heap.size + 1, j, none⟩ = false := fun j => (q1.frozen (p := ⟨w.heap.size + 1, j, none⟩) (by simp)).trans (by simp [go_sem])
  simp [go_sem] at c0 c1 c2 c3 d0 d1 d2 d3
  have sz1 : w.heap.size + 2 ≤ w1.heap.size := by have := q1.size; simp at this; omega
  have e1 : b1 = true := h1.2 hG.out
  subst e1
  clear h1 q1 hB
  go_wp2_with fail
  refine (l11Own_any z h mk ao n cap X _ (hr.keep bw) hn hz).mono ?_
  rintro e w2 ⟨v, V, rfl, hO, q2⟩
  have hA := ba_of hO hfX
  obtain ⟨va, vc, rfl⟩ := ownsRow_form hO.own
  have c0 := (q2.cell (p := ⟨w.heap.size, 0, none⟩) (by show w.heap.size < w1.heap.size; omega)).trans c0
  have c1 := (q2.cell (p := ⟨w.heap.size, 1, none⟩) (by show w.heap.size < w1.heap.size; omega)).trans c1
  have c2 := (q2.cell (p := ⟨w.heap.size, 2, none⟩) (by show w.heap.size < w1.heap.size; omega)).trans c2
  have c3 := (q2.cell (p := ⟨w.heap.size, 3, none⟩) (by show w.heap.size < w1.heap.size; omega)).trans c3
  have cf : ∀ j, w2.frozen? ⟨w.heap.size, j, none⟩ = false := fun j => (q2.frozen (p := ⟨w.heap.size, j, none⟩) (by show w.heap.size < w1.heap.size; omega)).trans (cf j)
  have d0 := (q2.cell (p := ⟨w.heap.size + 1, 0, none⟩) (by show w.heap.size + 1 < w1.heap.size; omega)).trans d0
  have d1 := (q2.cell (p := ⟨w.heap.size + 1, 1, none⟩) (by show w.heap.size + 1 < w1.heap.size; omega)).trans d1
  have d2 := (q2.cell (p := ⟨w.heap.size + 1, 2, none⟩) (by show w.heap.size + 1 < w1.heap.size; omega)).trans d2
  have d3 := (q2.cell (p := ⟨w.heap.size + 1, 3, none⟩) (by show w.heap.size + 1 < w1.heap.size; omega)).trans d3
  have df : ∀ j, w2.frozen? ⟨w.heap.size + 1, j, none⟩ = false := fun j => (q2.frozen (p := ⟨w.heap.size + 1, j, none⟩) (by show w.heap.size + 1 < w1.heap.size; omega)).trans (df j)
  have bw2 : Below w.heap.size w w2 := bw.trans (q2.mono (by omega))
  have s2 := q2.size
  clear q2 hO
  generalize ht1 : isTm t = b1
  have T1 : Hid (isTm t = b1) := ht1
  clear ht1
  obtain ⟨w4, hw4⟩ : ∃ u, u = (((w2.setCell ⟨w.heap.size, 0, none⟩ (.int .i64 z)).setCell ⟨w.heap.size, 1, none⟩ (.int .i64 h)).setCell ⟨w.heap.size, 2, none⟩ (.int .i64 mk)).setCell ⟨w.heap.size, 3, none⟩ (.slice va n vc) := ⟨_, rfl⟩
  have oth : Others w.heap.size w2 w4 := by rw [hw4]; exact (((Others.setCell _ _ _ _).trans (Others.setCell _ _ _ _)).trans (Others.setCell _ _ _ _)).trans (Others.setCell _ _ _ _)
  have b0 : w4.cell? ⟨w.heap.size, 0, none⟩ = some (.int .i64 z) := by rw [hw4]; simp [go_sem, c0, c1, c2, c3]
  have b1' : w4.cell? ⟨w.heap.size, 1, none⟩ = some (.int .i64 h) := by rw [hw4]; simp [go_sem, c0, c1, c2, c3]
  have b2 : w4.cell? ⟨w.heap.size, 2, none⟩ = some (.int .i64 mk) := by rw [hw4]; simp [go_sem, c0, c1, c2, c3]
  have b3 : w4.cell? ⟨w.heap.size, 3, none⟩ = some (.slice va n vc) := by rw [hw4]; simp [go_sem, c0, c1, c2, c3]
  have bf : ∀ j, w4.frozen? ⟨w.heap.size, j, none⟩ = false := fun j => by rw [hw4]; simp [go_sem, cf]
  have ol : ∀ j, w4.cell? ⟨w.heap.size + 1, j, none⟩ = w2.cell? ⟨w.heap.size + 1, j, none⟩ := fun j => World.cell?_of_block (w := w2) (a := ⟨w.heap.size + 1, j, none⟩) (oth.block (w.heap.size + 1) (by omega))
  have d0 := (ol 0).trans d0
  have d1 := (ol 1).trans d1
  have d2 := (ol 2).trans d2
  have d3 := (ol 3).trans d3
  have df : ∀ j, w4.frozen? ⟨w.heap.size + 1, j, none⟩ = false := fun j => (World.frozen?_of_block (w := w2) (a := ⟨w.heap.size + 1, j, none⟩) (oth.block (w.heap.size + 1) (by omega))).trans (df j)
  have hA := hA.same (w' := w4) (by rw [oth.size]; exact Nat.le_refl _) (fun c h1 h2 => oth.block c (by omega))
  have bw2 : Below w.heap.size w w4 := bw2.trans (oth.below (Nat.le_refl _))
  have s4 := oth.size
  go_wp2_with fail
  rw [← hw4]
  clear hw4 oth ol c0 c1 c2 c3 cf
  refine (l11Time_any t _).mono ?_
  rintro e w5 ⟨rfl, rfl⟩
  rw [T1.out]
  cases b1
  · have HN : Hid (¬ RmOk mk t) := fun hh => by have := hh.1; rw [T1.out] at this; cases this
    go_wp2
    refine bodyPost_ret (v := .tuple #[.agg #[.int .i64 z, .int .i64 h, .int .i64 mk, .slice va n vc], .int .i64 1]) (by simp [results, Try.results54, go_sem, b0, b1', b2, b3, d0, d1, d2, d3]) rfl ⟨fun hh => absurd hh HN.out, fun _ => ⟨.slice va n vc, rfl, ?_, ?_⟩⟩
    · refine BA.mono (hA.same (by simp) (fun c h1 h2 => ?_)) (by omega) (by simp; try omega) (Nat.le_refl _)
      repeat rw [set_blk _ _ _ _ _ (by omega)]
    · repeat' refine Below.setCell ?_ (by first | (simp; done) | (simp; omega)) _
      exact bw2
  by_cases hlt : t < mk
  · have HN : Hid (¬ RmOk mk t) := fun hh => by have := hh.2; omega
    go_wp2
    refine bodyPost_ret (v := .tuple #[.agg #[.int .i64 z, .int .i64 h, .int .i64 mk, .slice va n vc], .int .i64 1]) (by simp [results, Try.results54, go_sem, b0, b1', b2, b3, d0, d1, d2, d3]) rfl ⟨fun hh => absurd hh HN.out, fun _ => ⟨.slice va n vc, rfl, ?_, ?_⟩⟩
    · refine BA.mono (hA.same (by simp) (fun c h1 h2 => ?_)) (by omega) (by simp; try omega) (Nat.le_refl _)
      repeat rw [set_blk _ _ _ _ _ (by omega)]
    · repeat' refine Below.setCell ?_ (by first | (simp; done) | (simp; omega)) _
      exact bw2
  have HN : Hid (RmOk mk t) := ⟨T1.out, by omega⟩
  have hltd : decide (t < mk) = false := decide_eq_false hlt
  clear hlt
  go_wp2
  refine bodyPost_ret (v := .tuple #[.agg #[.int .i64 z, .int .i64 h, .int .i64 t, .slice va n vc], .int .i64 0]) (by simp [results, Try.results54, go_sem, b0, b1', b2, b3, d0, d1, d2, d3]) rfl ⟨fun _ => ⟨.slice va n vc, rfl, ?_, ?_⟩, fun hh => absurd HN.out hh⟩
  · refine BA.mono (hA.same (by simp) (fun c h1 h2 => ?_)) (by omega) (by simp; try omega) (Nat.le_refl _)
    repeat rw [set_blk _ _ _ _ _ (by omega)]
  · repeat' refine Below.setCell ?_ (by first | (simp; done) | (simp; omega)) _
    exact bw2
end Go.Proofs.Ytpggmgmdcccmeaa
