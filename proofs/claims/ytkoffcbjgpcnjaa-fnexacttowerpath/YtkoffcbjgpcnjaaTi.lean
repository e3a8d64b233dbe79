/- TowerPath, in the program. -/
import Derived.Test.YtkoffcbjgpcnjaaRs
namespace Go.Proofs.Ytkoffcbjgpcnjaa
open Go.RowKit
set_option linter.unusedSimpArgs false
set_option linter.unusedVariables false

/-- Good keys and towers, in the document's words. -/
def GoodT (K : Nat → ByteArray) (t : Nat → Int) (n m : Nat) : Prop := n ≤ 30 ∧ GoodTw K t n m ∧ RiseT K n
/-- What TowerPath leaves. -/
def TpO (good : Prop) (R : Nat × List Int) (w : World) (e : Ending) (w' : World) : Prop :=
  ((¬ good ∧ e = .returned (.tuple #[.slice none 0 0, .int .i64 0, .bool false])) ∨ (good ∧ ∃ v, e = .returned (.tuple #[v, .int .i64 (R.1 : Int), .bool true]) ∧ OwnI w' w.heap.size v R.2)) ∧ Below w.heap.size w w'
theorem TpO.no {good : Prop} {R : Nat × List Int} {w w' : World} (h : ¬ good) (hb : Below w.heap.size w w') : TpO good R w (.returned (.tuple #[.slice none 0 0, .int .i64 0, .bool false])) w' := ⟨.inl ⟨h, rfl⟩, hb⟩

set_option maxHeartbeats 2000000 in
theorem towerPath_impl (ko to : Option Addr) (n kc m tc : Nat) (K : Nat → ByteArray) (t : Nat → Int) (key : ByteArray) (w : World) (hk : TRow w ko n K) (hr : IRow w to m t) (hn : n ≤ 1048576) (hm : m ≤ 1048576) :
    Calls Try.prog 35 #[.slice ko n kc, .slice to m tc, .string key] w fun e w' => TpO (GoodT K t n m) (pathF t n K key 6 (0, [])) w e w' := by
  obtain ⟨R, hR⟩ : ∃ R, pathF t n K key 6 (0, []) = R := ⟨_, rfl⟩
  have HR : Hid (pathF t n K key 6 (0, []) = R) := hR
  rw [hR]
  clear hR
  obtain ⟨w1, hw1⟩ : ∃ w1, w1 = w.alloc (.cells #[.slice ko n kc, .slice to m tc, .func (.func 64) #[] #[]] 91) := ⟨_, rfl⟩
  have z0 : w1.cell? ⟨w.heap.size, 0, none⟩ = some (.slice ko n kc) := by rw [hw1]; simp [go_sem]
  have z1 : w1.cell? ⟨w.heap.size, 1, none⟩ = some (.slice to m tc) := by rw [hw1]; simp [go_sem]
  have z2 : w1.cell? ⟨w.heap.size, 2, none⟩ = some (.func (.func 64) #[] #[]) := by rw [hw1]; simp [go_sem]
  have zl : w.heap.size < w1.heap.size := by rw [hw1]; simp
  have hB : Below w.heap.size w w1 := by rw [hw1]; exact below_new _ _
  by_cases h30 : 30 < n
  · have H : Hid (¬ GoodT K t n m) := fun h => by have := h.1; omega
    go_enter Try.func35, Try.ntmps35
    go_wp2
    exact bodyPost_ret (v := .tuple #[.slice none 0 0, .int .i64 0, .bool false]) (by simp [results, Try.results35, go_sem]) rfl (TpO.no H.out (below_new _ _))
  · have hA := goodTowers_any ko to n kc m tc K t w1 (hk.keep hB) (hr.keep hB) hn hm
    rw [hw1] at hA
    go_enter Try.func35, Try.ntmps35
    go_wp2_with fail
    refine hA.mono ?_
    rintro e w2 ⟨b1, rfl, h1, hw⟩
    have hw2 : w2 = w1 := hw.trans hw1.symm
    clear hw hw1 hA
    have hw3 := hw2.symm
    clear hw2
    subst hw3
    cases b1
    · have H : Hid (¬ GoodT K t n m) := fun h => by
        have := h1.2 h.2.1
        cases this
      clear h1
      go_wp2
      exact bodyPost_ret (v := .tuple #[.slice none 0 0, .int .i64 0, .bool false]) (by simp [results, Try.results35, go_sem]) rfl (TpO.no H.out hB)
    · have hT := h1.1 rfl
      have hmn := hT.2.2
      subst hmn
      have HT : Hid (GoodTw K t n n) := hT
      clear hT h1
      go_wp2_with fail
      refine (risingT_any ko n kc K _ _ (hk.keep hB) hn).mono ?_
      rintro e w2 ⟨b2, rfl, h2, q2⟩
      have bw2 := hB.trans (q2.mono hB.size)
      have x0 := (q2.cell (p := ⟨w.heap.size, 0, none⟩) zl).trans z0
      have x1 := (q2.cell (p := ⟨w.heap.size, 1, none⟩) zl).trans z1
      have x2 := (q2.cell (p := ⟨w.heap.size, 2, none⟩) zl).trans z2
      clear q2 z0 z1 z2
      cases b2
      · have H : Hid (¬ GoodT K t n n) := fun h => by
          have := h2.2 h.2.2
          cases this
        clear h2
        go_wp2
        exact bodyPost_ret (v := .tuple #[.slice none 0 0, .int .i64 0, .bool false]) (by simp [results, Try.results35, go_sem]) rfl (TpO.no H.out bw2)
      · have HG : Hid (GoodT K t n n) := ⟨by omega, HT.out, h2.1 rfl⟩
        clear h2 HT
        go_wp2_with fail
        refine (path_any ko to n kc tc t K key _ (hk.keep bw2) (hr.keep bw2) (by omega)).mono ?_
        rintro e w3 ⟨v, rfl, ho, q3⟩
        rw [HR.out] at ho
        have bw3 := bw2.trans (q3.mono bw2.size)
        have ho3 := ownI_mono ho bw2.size
        obtain ⟨lo, lc, rfl, _, _⟩ := ho.form
        have hfin : TpO (GoodT K t n n) R w (.returned (.tuple #[.slice lo R.2.length lc, .int .i64 (R.1 : Int), .bool true])) w3 := ⟨.inr ⟨HG.out, _, rfl, ho3⟩, bw3⟩
        have HR1 := HR.out
        rw [HR1]
        clear HR1 HR ho ho3 q3
        go_wp2
        exact bodyPost_ret (v := .tuple #[.slice lo R.2.length lc, .int .i64 (R.1 : Int), .bool true]) (by simp [results, Try.results35, go_sem]) rfl hfin
end Go.Proofs.Ytkoffcbjgpcnjaa
