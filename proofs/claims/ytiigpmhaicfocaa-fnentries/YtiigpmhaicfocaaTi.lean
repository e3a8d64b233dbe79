/- Texts that rise and towers that are good, in the program. / TowerPath, in the program. -/
import Derived.Test.YtiigpmhaicfocaaPt
namespace Go.Proofs.Ytiigpmhaicfocaa
open Go.RowKit
set_option linter.unusedSimpArgs false
set_option linter.unusedVariables false

/-- Each text is less than the next one, up to k. -/
def RiseT (K : Nat → ByteArray) (k : Nat) : Prop := ∀ i, i + 1 < k → Op.bytesLess (K i).toList (K (i + 1)).toList = true

set_option maxHeartbeats 2000000 in
theorem risingT_any (ko : Option Addr) (n kc : Nat) (K : Nat → ByteArray) (tv : Value) (w : World) (hr : TRow w ko n K) (hn : n ≤ 1048576) :
    Calls Try.prog 34 #[.agg #[.slice ko n kc, tv, .func (.func 32) #[] #[]]] w fun e w' => Ans (RiseT K n) w e w' := by
  obtain ⟨hlies⟩ := hr
  have hB := below_new w (.cells #[.slice ko n kc, tv, .func (.func 32) #[] #[]] 68)
  have z0 : (w.alloc (.cells #[.slice ko n kc, tv, .func (.func 32) #[] #[]] 68)).cell? ⟨w.heap.size, 0, none⟩ = some (.slice ko n kc) := by simp [go_sem]
  have z2 : (w.alloc (.cells #[.slice ko n kc, tv, .func (.func 32) #[] #[]] 68)).cell? ⟨w.heap.size, 2, none⟩ = some (.func (.func 32) #[] #[]) := by simp [go_sem]
  have zl : w.heap.size < (w.alloc (.cells #[.slice ko n kc, tv, .func (.func 32) #[] #[]] 68)).heap.size := by simp
  go_enter Try.func34, Try.ntmps34
  go_wp2
  generalize (w.alloc (.cells #[.slice ko n kc, tv, .func (.func 32) #[] #[]] 68)) = w1 at hB z0 z2 zl ⊢
  go_loopw [3] (fun i wr => ∃ k : Nat, 1 ≤ k ∧ (n = 0 ∨ k ≤ n) ∧ (n = 0 → k = 1) ∧ i = .int .i64 k ∧ Hid (RiseT K k) ∧ Below w1.heap.size w1 wr) (fun i _ => n - (intOf i).toNat)
  case atStart => exact ⟨1, by omega, by omega, by omega, rfl, fun i hi => by omega, Below.refl _ _⟩
  case round =>
    obtain ⟨k, hk1, hk2, hk3, rfl, hR, hbk⟩ := hrel
    have y0 := (hbk.cell (p := ⟨w.heap.size, 0, none⟩) zl).trans z0
    have y2 := (hbk.cell (p := ⟨w.heap.size, 2, none⟩) zl).trans z2
    have bw : Below w.heap.size w wr := hB.trans (hbk.mono (Nat.le_of_lt zl))
    by_cases hlt : k < n
    · obtain ⟨b, off, rfl, hblt, hc⟩ := hlies.resolve_left (by omega)
      obtain ⟨j, hjk⟩ : ∃ j, k = j + 1 := ⟨k - 1, by omega⟩
      have a0 := (bw.cell (p := ⟨b, off + j, none⟩) hblt).trans (hc j (by omega))
      have b0 := (bw.cell (p := ⟨b, off + k, none⟩) hblt).trans (hc k hlt)
      clear hc hlies z0 z2 hB
      have hj : IntKind.i64.wrap ((k : Int) - 1) = (j : Int) := by rw [IntKind.wrap_i64] <;> omega
      have hj0 : (0 : Int) ≤ (j : Int) := by omega
      have hj1 : (j : Int) < (n : Int) := by omega
      have hk0 : (0 : Int) ≤ (k : Int) := by omega
      have hk1' : (k : Int) < (n : Int) := by omega
      have HJ : Hid (k = j + 1) := hjk
      clear hjk
      have hc2 := cB_lt (K j) (K k)
      have bwd := bw.drew
      have bkd := hbk.drew
      by_cases hx : 0 ≤ cB (K j) (K k)
      · have H : Hid (¬ RiseT K n) := fun h => by
          have hj' := HJ.out
          have := h j (by omega)
          rw [← hj', ← hc2] at this
          omega
        have hx' : decide (0 ≤ cB (K j) (K k)) = true := by simpa using hx
        clear hc2
        go_wp2
        go_region_held3 (fun w' => w'.cell? ⟨w.heap.size, 0, none⟩ = some (.slice (some ⟨b, off, none⟩) n kc) ∧ w'.cell? ⟨w.heap.size, 2, none⟩ = some (.func (.func 32) #[] #[]) ∧ w'.cell? ⟨b, off + j, none⟩ = some (.string (K j)) ∧ w'.cell? ⟨b, off + k, none⟩ = some (.string (K k))) (go_keep) (first | (go_at_call 32; refine (strCmp_any _ _ _).mono ?_; rintro e w6 ⟨rfl, rfl⟩))
        go_wp2
        go_ret
        exact Ans.mk false (by have := H.out; simp [this]) bwd
      · have H : Hid (RiseT K (k + 1)) := fun i hi => by
          have hj' := HJ.out
          by_cases e : i = j
          · subst e
            rw [← hj']
            exact hc2.1 (by omega)
          · exact hR.out i (by omega)
        clear hc2
        have hx' : decide (0 ≤ cB (K j) (K k)) = false := by simpa using hx
        go_wp2
        go_region_held3 (fun w' => w'.cell? ⟨w.heap.size, 0, none⟩ = some (.slice (some ⟨b, off, none⟩) n kc) ∧ w'.cell? ⟨w.heap.size, 2, none⟩ = some (.func (.func 32) #[] #[]) ∧ w'.cell? ⟨b, off + j, none⟩ = some (.string (K j)) ∧ w'.cell? ⟨b, off + k, none⟩ = some (.string (K k))) (go_keep) (first | (go_at_call 32; refine (strCmp_any _ _ _).mono ?_; rintro e w6 ⟨rfl, rfl⟩))
        go_wp2
        go_roundw
        case rel => exact ⟨k + 1, by omega, by omega, by omega, by go_num, H, bkd⟩
        case measure => simp [intOf]; omega
    · have H : Hid (RiseT K n) := fun i hi => hR.out i (by omega)
      clear hR
      go_wp2
      go_ret
      exact Ans.mk true (by have := H.out; simp [this]) bw

/-- Good texts and good towers, as many. -/
def GoodTw (K : Nat → ByteArray) (t : Nat → Int) (n m : Nat) : Prop := (∀ i, i < n → KeyOk (K i)) ∧ (∀ i, i < m → 1 ≤ t i ∧ t i ≤ 6) ∧ n = m

set_option maxHeartbeats 1000000 in
theorem goodTowers_any (ko to : Option Addr) (n kc m tc : Nat) (K : Nat → ByteArray) (t : Nat → Int) (w : World) (hk : TRow w ko n K) (hr : IRow w to m t) (hn : n ≤ 1048576) (hm : m ≤ 1048576) :
    Calls Try.prog 33 #[.slice ko n kc, .slice to m tc] w fun e w' => AnsW (GoodTw K t n m) w e w' := by
  obtain ⟨hlies⟩ := hk
  obtain ⟨hbd, hlies2⟩ := hr
  go_enter Try.func33, Try.ntmps33
  go_wp2
  go_loopw [11] (fun i wr => ∃ k : Nat, k ≤ n ∧ i = .int .i64 k ∧ Hid (∀ i, i < k → KeyOk (K i)) ∧ wr = w) (fun i _ => n - (intOf i).toNat)
  case atStart => exact ⟨0, Nat.zero_le _, rfl, fun i h => by omega, rfl⟩
  case round =>
    obtain ⟨k, hk, rfl, hG, hw⟩ := hrel
    have hw2 := hw.symm
    clear hw
    subst hw2
    by_cases hlt : k < n
    · obtain ⟨b, off, rfl, hblt, hc⟩ := hlies.resolve_left (by omega)
      have c1 := hc k hlt
      clear hc hlies
      go_wp2_with fail
      refine (isKeyText_any (K k) _).mono ?_
      rintro e w1 ⟨b1, rfl, h1, hw⟩
      have hw2 := hw.symm
      clear hw
      subst hw2
      cases b1
      · have H : Hid (¬ GoodTw K t n m) := fun h => by
          have := h1.2 (h.1 k hlt)
          cases this
        clear h1
        go_wp2
        go_ret
        exact ⟨false, rfl, by have := H.out; simp [this], rfl⟩
      · have H : Hid (∀ i, i < k + 1 → KeyOk (K i)) := fun i hi => by
          rcases Nat.lt_succ_iff_lt_or_eq.1 hi with h | h
          · exact hG.out i h
          · subst h; exact h1.1 rfl
        clear h1 hG
        go_wp2
        go_roundw
        case rel => exact ⟨k + 1, by omega, by go_num, H, by first | rfl | trivial⟩
        case measure => simp [intOf]; omega
    · have HK : Hid (∀ i, i < n → KeyOk (K i)) := fun i hi => hG.out i (by omega)
      clear hG hlies
      go_wp2
      go_loopw [21] (fun i wr => ∃ k : Nat, k ≤ m ∧ i = .int .i64 k ∧ Hid (∀ i, i < k → 1 ≤ t i ∧ t i ≤ 6) ∧ wr = w) (fun i _ => m - (intOf i).toNat)
      case atStart => exact ⟨0, Nat.zero_le _, rfl, fun i h => by omega, rfl⟩
      case round =>
        obtain ⟨q, hq, rfl, hT, hw⟩ := hrel
        have hw2 := hw.symm
        clear hw
        subst hw2
        by_cases hql : q < m
        · obtain ⟨b, off, rfl, hblt, hc⟩ := hlies2.resolve_left (by omega)
          have c1 := hc q hql
          clear hc hlies2
          by_cases h1 : t q < 1
          · have H : Hid (¬ GoodTw K t n m) := fun h => by have := (h.2.1 q hql).1; omega
            go_wp2
            go_ret
            exact ⟨false, rfl, by have := H.out; simp [this], rfl⟩
          · have h1d : decide (t q < 1) = false := by simpa using h1
            by_cases h2 : 6 < t q
            · have H : Hid (¬ GoodTw K t n m) := fun h => by have := (h.2.1 q hql).2; omega
              go_wp2
              go_ret
              exact ⟨false, rfl, by have := H.out; simp [this], rfl⟩
            · have h2d : decide (6 < t q) = false := by simpa using h2
              have H : Hid (∀ i, i < q + 1 → 1 ≤ t i ∧ t i ≤ 6) := fun i hi => by
                rcases Nat.lt_succ_iff_lt_or_eq.1 hi with h | h
                · exact hT.out i h
                · subst h; omega
              clear hT
              go_wp2
              go_roundw
              case rel => exact ⟨q + 1, by omega, by go_num, H, by first | rfl | trivial⟩
              case measure => simp [intOf]; omega
        · have H : Hid (n = m ↔ GoodTw K t n m) := ⟨fun h => ⟨HK.out, fun i hi => hT.out i (by omega), h⟩, fun h => h.2.2⟩
          clear hT HK hlies2
          go_wp2
          refine bodyPost_ret (v := .bool ((n : Int) == (m : Int))) (by simp [results, Try.results33, go_sem]) rfl ⟨_, rfl, ?_, rfl⟩
          rw [← H.out]
          simp only [beq_iff_eq]
          omega
end Go.Proofs.Ytiigpmhaicfocaa
namespace Go.Proofs.Ytiigpmhaicfocaa
open Go.RowKit
set_option linter.unusedSimpArgs false
set_option linter.unusedVariables false

/-- Good keys and towers, in the document's words. -/
def GoodT (K : Nat → ByteArray) (t : Nat → Int) (n m : Nat) : Prop := n ≤ 30 ∧ GoodTw K t n m ∧ RiseT K n
/-- What TowerPath leaves. -/
def TpO (good : Prop) (R : Nat × List Int) (w : World) (e : Ending) (w' : World) : Prop :=
  ((¬ good ∧ e = .returned (.tuple #[.slice none 0 0, .int .i64 0, .bool false])) ∨ (good ∧ ∃ v, e = .returned (.tuple #[v, .int .i64 (R.1 : Int), .bool true]) ∧ OwnI w' w.heap.size v R.2)) ∧ Below w.heap.size w w'
theorem TpO.no {good : Prop} {R : Nat × List Int} {w w' : World} (h : ¬ good) (hb : Below w.heap.size w w') : TpO good R w (.returned (.tuple #[.slice none 0 0, .int .i64 0, .bool false])) w' := ⟨.inl ⟨h, rfl⟩, hb⟩

set_option maxHeartbeats 2000000 in
theorem towerPath_impl (ko to : Option Addr) (n kc m tc : Nat) (K : Nat → ByteArray) (t : Nat → Int) (key : ByteArray) (w : World) (hk : TRow w ko n K) (hr : IRow w to m t) (hn : n ≤ 1048576) (hm : m ≤ 1048576) :
    Calls Try.prog 11 #[.slice ko n kc, .slice to m tc, .string key] w fun e w' => TpO (GoodT K t n m) (pathF t n K key 6 (0, [])) w e w' := by
  obtain ⟨R, hR⟩ : ∃ R, pathF t n K key 6 (0, []) = R := ⟨_, rfl⟩
  have HR : Hid (pathF t n K key 6 (0, []) = R) := hR
  rw [hR]
  clear hR
  obtain ⟨w1, hw1⟩ : ∃ w1, w1 = w.alloc (.cells #[.slice ko n kc, .slice to m tc, .func (.func 32) #[] #[]] 68) := ⟨_, rfl⟩
  have z0 : w1.cell? ⟨w.heap.size, 0, none⟩ = some (.slice ko n kc) := by rw [hw1]; simp [go_sem]
  have z1 : w1.cell? ⟨w.heap.size, 1, none⟩ = some (.slice to m tc) := by rw [hw1]; simp [go_sem]
  have z2 : w1.cell? ⟨w.heap.size, 2, none⟩ = some (.func (.func 32) #[] #[]) := by rw [hw1]; simp [go_sem]
  have zl : w.heap.size < w1.heap.size := by rw [hw1]; simp
  have hB : Below w.heap.size w w1 := by rw [hw1]; exact below_new _ _
  by_cases h30 : 30 < n
  · have H : Hid (¬ GoodT K t n m) := fun h => by have := h.1; omega
    go_enter Try.func11, Try.ntmps11
    go_wp2
    exact bodyPost_ret (v := .tuple #[.slice none 0 0, .int .i64 0, .bool false]) (by simp [results, Try.results11, go_sem]) rfl (TpO.no H.out (below_new _ _))
  · have hA := goodTowers_any ko to n kc m tc K t w1 (hk.keep hB) (hr.keep hB) hn hm
    rw [hw1] at hA
    go_enter Try.func11, Try.ntmps11
    go_wp2_with fail
    refine hA.mono ?_
    rintro e w2 ⟨b1, rfl, h1, hw⟩
    have hw2 : w2 = w1 := hw.trans hw1.symm
    clear hw hw1 hA
    have hw3 := hw2.symm
    clear hw2
    subst hw3
    cases b1
    · have H : Hid (¬ GoodT K t n m) := fun h => by
        have := h1.2 h.2.1
        cases this
      clear h1
      go_wp2
      exact bodyPost_ret (v := .tuple #[.slice none 0 0, .int .i64 0, .bool false]) (by simp [results, Try.results11, go_sem]) rfl (TpO.no H.out hB)
    · have hT := h1.1 rfl
      have hmn := hT.2.2
      subst hmn
      have HT : Hid (GoodTw K t n n) := hT
      clear hT h1
      go_wp2_with fail
      refine (risingT_any ko n kc K _ _ (hk.keep hB) hn).mono ?_
      rintro e w2 ⟨b2, rfl, h2, q2⟩
      have bw2 := hB.trans (q2.mono hB.size)
      have x0 := (q2.cell (p := ⟨w.heap.size, 0, none⟩) zl).trans z0
      have x1 := (q2.cell (p := ⟨w.heap.size, 1, none⟩) zl).trans z1
      have x2 := (q2.cell (p := ⟨w.heap.size, 2, none⟩) zl).trans z2
      clear q2 z0 z1 z2
      cases b2
      · have H : Hid (¬ GoodT K t n n) := fun h => by
          have := h2.2 h.2.2
          cases this
        clear h2
        go_wp2
        exact bodyPost_ret (v := .tuple #[.slice none 0 0, .int .i64 0, .bool false]) (by simp [results, Try.results11, go_sem]) rfl (TpO.no H.out bw2)
      · have HG : Hid (GoodT K t n n) := ⟨by omega, HT.out, h2.1 rfl⟩
        clear h2 HT
        go_wp2_with fail
        refine (path_any ko to n kc tc t K key _ (hk.keep bw2) (hr.keep bw2) (by omega)).mono ?_
        rintro e w3 ⟨v, rfl, ho, q3⟩
        rw [HR.out] at ho
        have bw3 := bw2.trans (q3.mono bw2.size)
        have ho3 := ownI_mono ho bw2.size
        obtain ⟨lo, lc, rfl, _, _⟩ := ho.form
        have hfin : TpO (GoodT K t n n) R w (.returned (.tuple #[.slice lo R.2.length lc, .int .i64 (R.1 : Int), .bool true])) w3 := ⟨.inr ⟨HG.out, _, rfl, ho3⟩, bw3⟩
        have HR1 := HR.out
        rw [HR1]
        clear HR1 HR ho ho3 q3
        go_wp2
        exact bodyPost_ret (v := .tuple #[.slice lo R.2.length lc, .int .i64 (R.1 : Int), .bool true]) (by simp [results, Try.results11, go_sem]) rfl hfin
end Go.Proofs.Ytiigpmhaicfocaa
