/- Reading a log: all of it; what is torn is caught. -/
import Derived.Test.YtimlggomjjkhlaaRd3
import Derived.Test.YtimlggomjjkhlaaOut
import Derived.Defers
import Derived.Recover
namespace Go.Proofs.Ytimlggomjjkhlaa
open Go.RowKit
set_option linter.unusedSimpArgs false
set_option linter.unusedVariables false

theorem catch_torn (t : TypeId) (pv : Value) (w : World) :
    CallsD Try.prog 36 #[] (.panicking [{ v := .iface t pv, recovered := false }]) w fun e u' w' =>
      e = .returned (.tuple #[]) ∧ u' = .panicking [{ v := .iface t pv, recovered := true }] ∧ w' = w := by
  refine callsD_of_wpS Try.func36 rfl fun c₀ cs hu => ?_
  apply wpS_region
  simp [wpOpsS, go_sem, recoverD, hu, Try.ntmps36, Exit.thenS, bodyPostS, results, Try.results36]

theorem catch_none (w : World) :
    CallsD Try.prog 36 #[] .returning w fun e u' w' => e = .returned (.tuple #[]) ∧ u' = .returning ∧ w' = w := by
  refine callsD_of_wpS Try.func36 rfl fun c₀ cs hu => ?_
  apply wpS_region
  cases c₀
  simp_all [wpOpsS, go_sem, recoverD, hu, Try.ntmps36, Exit.thenS, bodyPostS, results, Try.results36]

theorem Bx.set2 {w : World} {RB : Nat} {lg : Value} {a : Nat} {rv : Value} {wh : Nat} (h : Bx w RB lg a rv wh) (x : Value) : Bx (w.setCell ⟨RB, 2, none⟩ x) RB lg a x wh :=
  ⟨by simpa using h.lt, by rw [World.cell?_setCell_other _ _ _ _ (by intro hh; injection hh with _ h2 _; omega)]; exact h.c0, by rw [World.cell?_setCell_other _ _ _ _ (by intro hh; injection hh with _ h2 _; omega)]; exact h.c1, by rw [World.cell?_setCell_same _ _ _ h.c2], by rw [World.cell?_setCell_other _ _ _ _ (by intro hh; injection hh with _ h2 _; omega)]; exact h.c3, fun i => by simpa using h.fz i⟩
theorem Bx.set3 {w : World} {RB : Nat} {lg : Value} {a : Nat} {rv : Value} {wh : Nat} (h : Bx w RB lg a rv wh) (x : Nat) : Bx (w.setCell ⟨RB, 3, none⟩ (.int .i64 x)) RB lg a rv x :=
  ⟨by simpa using h.lt, by rw [World.cell?_setCell_other _ _ _ _ (by intro hh; injection hh with _ h2 _; omega)]; exact h.c0, by rw [World.cell?_setCell_other _ _ _ _ (by intro hh; injection hh with _ h2 _; omega)]; exact h.c1, by rw [World.cell?_setCell_other _ _ _ _ (by intro hh; injection hh with _ h2 _; omega)]; exact h.c2, by rw [World.cell?_setCell_same _ _ _ h.c3], fun i => by simpa using h.fz i⟩

def recs (n : Nat) (Rs : Nat → List Int) : List (List Int) := (List.range n).map Rs
theorem recs_succ (n : Nat) (Rs : Nat → List Int) (R : List Int) : recs (n + 1) (fun i => if i = n then R else Rs i) = recs n Rs ++ [R] := by
  unfold recs
  rw [List.range_succ, List.map_append]
  congr 1
  · refine List.map_congr_left fun i hi => ?_
    have := List.mem_range.1 hi
    rw [if_neg (by omega)]
  · simp

theorem tot_congr {Rs Rs' : Nat → List Int} {n : Nat} (h : ∀ i, i < n → Rs i = Rs' i) : tot Rs n = tot Rs' n := by
  induction n with
  | zero => rfl
  | succ n ih => simp only [tot]; rw [ih (fun i hi => h i (by omega)), h n (by omega)]
theorem tot_push (n : Nat) (Rs : Nat → List Int) (R : List Int) : tot (fun i => if i = n then R else Rs i) (n + 1) = tot Rs n + R.length := by
  simp only [tot, if_true]
  rw [tot_congr (Rs' := Rs) (fun i hi => if_neg (by omega))]

/-- What readAll leaves. -/
def AllOut (RB lb lo lc : Nat) (B : List Int) (base : Nat) (w w' : World) : Prop :=
  ∃ a rv wh n V Rs, Bx w' RB (.slice (some ⟨lb, lo, none⟩) B.length lc) a rv wh ∧ OutS w' base rv n V Rs ∧ Fin B 0 [] false [] 0 (recs n Rs, wh) ∧ w.grownBy w' (some RB) ∧ wh ≤ B.length ∧ n ≤ wh ∧ tot Rs n ≤ wh

set_option maxHeartbeats 2000000 in
theorem readAll_any (RB lb lo lc : Nat) (B : List Int) (w : World) (hX : Bx w RB (.slice (some ⟨lb, lo, none⟩) B.length lc) 0 (.slice none 0 0) 0) (hL : Lg w RB lb lo lc B) :
    Calls Try.prog 26 #[.pointer (some ⟨RB, 0, none⟩)] w fun e w' => e = .returned (.tuple #[]) ∧ AllOut RB lb lo lc B w.heap.size w w' := by
  have hsm := hL.small
  have hRB := hX.lt
  have hmf : ∀ (fn : Fn) (first cap : Array Value) (w : World), (Instr.makeFunc fn first cap).run Try.prog w = .ok (.func fn first cap) w := fun _ _ _ _ => rfl
  go_enter_defers Try.func26, Try.ntmps26
  go_wp2
  go_loopw [2] (fun _ wr => ∃ (a wh n : Nat) (rv : Value) (V : Nat → Value) (Rs : Nat → List Int), Bx wr RB (.slice (some ⟨lb, lo, none⟩) B.length lc) a rv wh ∧ a ≤ B.length ∧ OutS wr w.heap.size rv n V Rs ∧ w.grownBy wr (some RB) ∧ wh ≤ B.length ∧ wh ≤ a ∧ n ≤ wh ∧ tot Rs n ≤ wh ∧ Hid (∀ r, Fin B a [] false (recs n Rs) wh r → Fin B 0 [] false [] 0 r)) (fun _ wr => B.length - plc RB wr)
  case atStart => exact ⟨0, 0, 0, _, _, _, hX, Nat.zero_le _, outS_nil _ _, grown_refl _ _, Nat.zero_le _, Nat.le_refl _, Nat.le_refl _, Nat.le_refl _, fun r h => h⟩
  case round =>
    obtain ⟨a, wh, n, rv, V, Rs, hX1, ha, hO, hg, hwh, hwa, hnw, htw, HF⟩ := hrel
    obtain ⟨hlt, c0, c1, c2, c3, fz⟩ := id hX1
    by_cases hlt2 : a < B.length
    · have hlt2' : (a : Int) < (B.length : Int) := by omega
      go_wp2
      go_quiet (fail)
      have bq : Below wr.heap.size wr (wr.drewN nq) := below_drewN (Below.refl _ _) nq
      have hX2 := hX1.keep bq
      have hO2 := hO.keep bq
      have g2 := hg.trans (grown_of_below bq (some RB))
      have hL2 := hL.grown g2
      have hpl := hX1.plc
      clear hlt c0 c1 c2 c3 fz bq hX1 hO
      generalize wr.drewN nq = w2 at *
      go_wp2_with fail
      refine (readRecord_any RB lb lo lc a rv wh B _ hX2 hL2 ha).mono ?_
      rintro e w3 (⟨v3, R, a3, rfl, ho3, hX3, hg3, hlt3, hle3, hRl, hfin⟩ | ⟨hgv, hstop⟩)
      · have HN : Hid (∀ r, Fin B a3 [] false (recs (n + 1) (fun i => if i = n then R else Rs i)) a3 r → Fin B 0 [] false [] 0 r) := fun r hr => HF.out r (hfin _ _ _ (by rw [recs_succ] at hr; exact hr))
        have hO3 := hO2.grown hg3 hRB
        have g3 := g2.trans hg3
        have s3 := hg3.size
        have hd3 : ∀ k, v3.ownBlock = some k → rv.ownBlock ≠ some k ∧ ∀ i, i < n → (V i).ownBlock ≠ some k := fun k hk => by
          have h1 := (ho3.lt k hk).1
          exact ⟨fun e => by have := (hO2.lt k e).2; omega, fun i hi e => by have := ((hO2.row i hi).lt k e).2; omega⟩
        obtain ⟨xa, xc, rfl⟩ := ho3.form
        have hx3 : OwnL w3 w.heap.size (.slice xa R.length xc) R := ho3.mono g2.size
        have hX3' := hX3.keep (below_new w3 (.cells #[.slice xa R.length xc] 22))
        have hrvb : rv.ownBlock ≠ some RB := fun e => by have := (hO2.lt RB e).1; omega
        have c2 := hX3.c2
        clear hfin hX2 hO2 ho3 HF
        go_wp2_with (at_builtin; refine wpList_push rfl (.tmp 19) (.tmp 21) rfl w.heap.size rv (.slice xa R.length xc) n V Rs R rfl hO3 hx3 hd3 rfl (by omega) g3.size ?_; intro v4 w4 hO4 hg4; obtain ⟨va, vc, rfl⟩ := hO4.form; have hX4 := hX3'.own hg4 hrvb; have hX5 := hX4.set2 (.slice va (n + 1) vc); have c4 := hX4.c2; have f4 := hX4.fz 2; have d5 := hX5.c1; have e5 := hX5.c3; have f5 := hX5.fz 3)
        have hX6 := hX5.set3 a3
        have G4 := g3.trans (grown_of_below (below_new w3 (.cells #[.slice xa R.length xc] 22)) (some RB))
        have g4 : w.grownBy w4 (some RB) := ⟨hg4.os.trans G4.os, hg4.tape.trans G4.tape, hg4.output.trans G4.output, Nat.le_trans G4.size hg4.size, fun i hi hne => (hg4.block i (Nat.lt_of_lt_of_le hi G4.size) (fun e => by have := (hO3.lt i e.symm).1; omega)).trans (G4.block i hi hne)⟩
        have gs2 := grown_set w4 RB 2 (.slice va (n + 1) vc)
        have gs3 := grown_set (w4.setCell ⟨RB, 2, none⟩ (.slice va (n + 1) vc)) RB 3 (.int .i64 (a3 : Int))
        have hO6 := (hO4.grown gs2 hRB).grown gs3 hRB
        have g6 := (g4.trans gs2).trans gs3
        have hpl6 := hX6.plc
        go_roundw
        case rel => exact ⟨a3, a3, n + 1, _, _, _, hX6, hle3, hO6, g6, hle3, Nat.le_refl _, by omega, by rw [tot_push]; omega, HN⟩
        case measure => rw [hpl6, hpl]; omega
      · obtain ⟨⟨t, v, rfl⟩, a4, hX4, hg4⟩ := hgv
        refine leaves_cons (f := 36) (args := #[]) (by simp) (by simp [go_sem]) ?_
        refine (catch_torn t v _).mono ?_
        rintro e u' w'' ⟨rfl, rfl, rfl⟩
        simp [Leaves, settle, results, Try.results26, go_sem]
        exact ⟨a4, rv, wh, n, V, Rs, hX4, hO2.grown hg4 hRB, HF.out _ (hstop _ _), g2.trans hg4, hwh, hnw, htw⟩
    · have hlt2' : decide ((a : Int) < (B.length : Int)) = false := by simp; omega
      go_wp2
      go_quiet (fail)
      have bq : Below wr.heap.size wr (wr.drewN nq) := below_drewN (Below.refl _ _) nq
      have hX2 := hX1.keep bq
      have hO2 := hO.keep bq
      have g2 := hg.trans (grown_of_below bq (some RB))
      generalize wr.drewN nq = w2 at *
      go_wp2
      refine leaves_cons (f := 36) (args := #[]) (by simp) (by simp [go_sem]) ?_
      refine (catch_none _).mono ?_
      rintro e u' w'' ⟨rfl, rfl, rfl⟩
      simp [Leaves, settle, results, Try.results26, go_sem]
      exact ⟨a, rv, wh, n, V, Rs, hX2, hO2, HF.out _ (fin_end (by omega)), g2, hwh, hnw, htw⟩
end Go.Proofs.Ytimlggomjjkhlaa
