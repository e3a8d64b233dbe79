/- Versions that are good, in both texts. / A region that draws its order, whose operations only read and whose callees leave what there was as it was: one walk serves every order. -/
import Derived.Test.YtagkhohglpjjlaaGi
import Derived.Test.YtagkhohglpjjlaaDv
import Derived.BigQuiet
namespace Go.Proofs.Ytagkhohglpjjlaa
open Go.RowKit
set_option linter.unusedSimpArgs false
set_option linter.unusedVariables false

/-- Files below Next that are not Log, each once. -/
def Fits (nx lg : Int) (L : List Int) : Prop := (∀ x ∈ L, x < nx ∧ x ≠ lg) ∧ L.Nodup
/-- A good version. -/
def GoodVP (nx lg sq : Int) (N : Nat) (R : Nat → Nat → Met) (M : Nat → Nat) : Prop :=
  fN nx = true ∧ 1 ≤ lg ∧ lg < nx ∧ isC sq = true ∧ GoodLv R M N ∧ Fits nx lg (flsR R M N)

theorem iL_fi (L : List Int) : iL (fi L) L.length = L := by
  apply List.ext_getElem
  · simp [iL]
  · intro i h1 h2
    simp [iL, fi, h2]
theorem unl_iff (L : List Int) : Unl (fi L) L.length ↔ L.Nodup := by
  rw [← iL_nodup, iL_fi]
theorem fi_mem {L : List Int} {i : Nat} (h : i < L.length) : fi L i ∈ L := by
  simp [fi, h]
theorem fls_pre (X : Nat → Met) : ∀ {n q : Nat}, q ≤ n → fls X q <+: fls X n
  | 0, q, h => by obtain rfl : q = 0 := by omega
                  exact List.prefix_refl _
  | n + 1, q, h => by
    rcases Nat.lt_or_ge q (n + 1) with h1 | h1
    · exact (fls_pre X (show q ≤ n by omega)).trans (List.prefix_append _ _)
    · obtain rfl : q = n + 1 := by omega
      exact List.prefix_refl _
theorem flsR_pre (R : Nat → Nat → Met) (M : Nat → Nat) : ∀ {N k : Nat}, k ≤ N → flsR R M k <+: flsR R M N
  | 0, k, h => by obtain rfl : k = 0 := by omega
                  exact List.prefix_refl _
  | N + 1, k, h => by
    rcases Nat.lt_or_ge k (N + 1) with h1 | h1
    · exact (flsR_pre R M (show k ≤ N by omega)).trans (List.prefix_append _ _)
    · obtain rfl : k = N + 1 := by omega
      exact List.prefix_refl _
theorem flsR_at (R : Nat → Nat → Met) (M : Nat → Nat) {N k q : Nat} (hk : k < N) (hq : q < M k) : (flsR R M k ++ fls (R k) q) ++ [(R k q).file] <+: flsR R M N := by
  have h1 : flsR R M (k + 1) <+: flsR R M N := flsR_pre R M hk
  refine List.IsPrefix.trans ?_ h1
  show (flsR R M k ++ fls (R k) q) ++ [(R k q).file] <+: flsR R M k ++ fls (R k) (M k)
  rw [List.append_assoc]
  exact (List.prefix_append_right_inj _).2 (fls_pre (R k) (show q + 1 ≤ M k from hq))
theorem Fits.pre {nx lg : Int} {L K : List Int} (h : Fits nx lg L) (hp : K <+: L) : Fits nx lg K :=
  ⟨fun x hx => h.1 x (hp.subset hx), hp.sublist.nodup h.2⟩
theorem Fits.push {nx lg x : Int} {L : List Int} (h : Fits nx lg L) (h1 : x < nx) (h2 : x ≠ lg) (h3 : x ∉ L) : Fits nx lg (L ++ [x]) := by
  refine ⟨fun y hy => ?_, ?_⟩
  · rcases List.mem_append.1 hy with hy | hy
    · exact h.1 y hy
    · rw [List.mem_singleton.1 hy]; exact ⟨h1, h2⟩
  · rw [List.nodup_append]
    exact ⟨h.2, by simp, fun a ha b hb e => by rw [List.mem_singleton.1 hb] at e; exact h3 (e ▸ ha)⟩
theorem fits_nil (nx lg : Int) : Fits nx lg [] := ⟨fun x hx => (by cases hx), List.nodup_nil⟩

set_option maxHeartbeats 1600000 in
theorem fitsFiles_any (nx lg sq : Int) (ao : Option Addr) (N cap : Nat) (R : Nat → Nat → Met) (M : Nat → Nat) (w : World) (hr : VRow w ao N R M) (hN : N ≤ 1048576) (hM : sumM M N ≤ 1048576) :
    Calls Try.prog 23 #[.agg #[.int .i64 nx, .int .i64 lg, .int .i64 sq, .slice ao N cap]] w fun e w' => Ans (Fits nx lg (flsR R M N)) w e w' := by
  have bn0 := below_new w (.cells #[.int .i64 nx, .int .i64 lg, .int .i64 sq, .slice ao N cap] 25)
  have hln := flsR_len R M N
  have hfl := files_any nx lg sq ao N cap R M _ (hr.keep bn0) hN hM
  generalize flsR R M N = L at hfl hln ⊢
  have hbx : ∀ W, Below (w.alloc (.cells #[.int .i64 nx, .int .i64 lg, .int .i64 sq, .slice ao N cap] 25)).heap.size (w.alloc (.cells #[.int .i64 nx, .int .i64 lg, .int .i64 sq, .slice ao N cap] 25)) W → W.cell? ⟨w.heap.size, 0, none⟩ = some (.int .i64 nx) ∧ W.cell? ⟨w.heap.size, 1, none⟩ = some (.int .i64 lg) := fun W hW => by
    have h0 := hW.cell (p := ⟨w.heap.size, 0, none⟩) (by simp)
    have h1 := hW.cell (p := ⟨w.heap.size, 1, none⟩) (by simp)
    simp [go_sem] at h0 h1
    exact ⟨h0, h1⟩
  have HBX := hbx
  clear hbx
  go_enter Try.func23, Try.ntmps23
  go_wp2_with fail
  refine hfl.mono ?_
  rintro e w1 ⟨v, rfl, hO, hb1⟩
  obtain ⟨x0, x1⟩ := HBX w1 hb1
  have bw1 := bn0.trans (hb1.mono (by simp))
  clear HBX hfl hb1 bn0 hr
  obtain ⟨so, sc, rfl, hsc, hS⟩ := hO.form
  have hLl : L.length ≤ 1048576 := by omega
  clear hO hln
  have hS0 := hS
  obtain ⟨_, hSl⟩ := hS
  go_wp2
  go_loopw [10] (fun i wr => ∃ k : Nat, k ≤ L.length ∧ i = .int .i64 k ∧ Hid (∀ j, j < k → fi L j < nx ∧ fi L j ≠ lg) ∧ wr = w1) (fun i _ => L.length - (intOf i).toNat)
  case atStart => exact ⟨0, Nat.zero_le _, rfl, fun j h => by omega, rfl⟩
  case round =>
    obtain ⟨k, hk, rfl, HG, hw⟩ := hrel
    have hw2 := hw.symm
    clear hw
    subst hw2
    by_cases hlt : k < L.length
    · obtain ⟨b, off, rfl, hblt, hc⟩ := hSl.resolve_left (by omega)
      have a0 := hc k hlt
      clear hc hSl hS0
      by_cases h1 : nx ≤ fi L k
      · have H : Hid (¬ Fits nx lg L) := fun h => by have := (h.1 _ (fi_mem hlt)).1; omega
        go_wp2
        go_ret
        exact Ans.mk false (by have := H.out; simp [this]) bw1
      by_cases h2 : fi L k = lg
      · have H : Hid (¬ Fits nx lg L) := fun h => (h.1 _ (fi_mem hlt)).2 h2
        have h3 : (fi L k == lg) = true := by simpa using h2
        clear h2
        go_wp2
        go_ret
        exact Ans.mk false (by have := H.out; simp [this]) bw1
      · have h3 : (fi L k == lg) = false := by simpa using h2
        have HG2 : Hid (∀ j, j < k + 1 → fi L j < nx ∧ fi L j ≠ lg) := fun j hj => by
          rcases Nat.lt_succ_iff_lt_or_eq.1 hj with h | rfl
          · exact HG.out j h
          · exact ⟨by omega, h2⟩
        clear HG h2
        go_wp2
        go_roundw
        case rel => exact ⟨k + 1, by omega, by go_num, HG2, by trivial⟩
        case measure => simp [intOf]; omega
    · obtain rfl : k = L.length := by omega
      have HF : Hid (Fits nx lg L ↔ Unl (fi L) L.length) := by
        rw [Hid, unl_iff]
        refine ⟨fun h => h.2, fun h => ⟨fun x hx => ?_, h⟩⟩
        obtain ⟨i, hi, rfl⟩ := List.getElem_of_mem hx
        have := HG.out i hi
        simpa [fi, hi] using this
      clear HG hlt hSl
      go_wp2_with fail
      refine (allUnlike_any so L.length sc (fi L) w1 hS0 hLl).mono ?_
      rintro e w2 ⟨b2, rfl, h2, q2⟩
      have bw2 := bw1.trans (q2.mono bw1.size)
      have H2 : Hid (b2 = true ↔ Fits nx lg L) := h2.trans HF.out.symm
      clear q2 h2 HF hS0
      go_wp2
      go_ret
      exact Ans.mk b2 H2.out bw2

set_option maxHeartbeats 1600000 in
theorem goodVersion_impl (nx lg sq : Int) (ao : Option Addr) (N cap : Nat) (R : Nat → Nat → Met) (M : Nat → Nat) (w : World) (hr : VRow w ao N R M) (hN : N ≤ 1048576) (hM : sumM M N ≤ 1048576) :
    Calls Try.prog 7 #[.agg #[.int .i64 nx, .int .i64 lg, .int .i64 sq, .slice ao N cap]] w fun e w' => Ans (GoodVP nx lg sq N R M) w e w' := by
  have bn0 := below_new w (.cells #[.int .i64 nx, .int .i64 lg, .int .i64 sq, .slice ao N cap] 25)
  have hMi : ∀ i, i < N → M i ≤ 1048576 := fun i hi => by
    have := sumM_mono (M := M) (show i + 1 ≤ N by omega)
    have : sumM M (i + 1) = sumM M i + M i := rfl
    omega
  have hLv := goodLevels_any ao N cap R M _ (hr.keep bn0) hN hMi
  have hFi := fun W h => fitsFiles_any nx lg sq ao N cap R M W h hN hM
  have hbx : ∀ W, Below (w.alloc (.cells #[.int .i64 nx, .int .i64 lg, .int .i64 sq, .slice ao N cap] 25)).heap.size (w.alloc (.cells #[.int .i64 nx, .int .i64 lg, .int .i64 sq, .slice ao N cap] 25)) W → VRow W ao N R M ∧ W.cell? ⟨w.heap.size, 0, none⟩ = some (.int .i64 nx) ∧ W.cell? ⟨w.heap.size, 1, none⟩ = some (.int .i64 lg) ∧ W.cell? ⟨w.heap.size, 2, none⟩ = some (.int .i64 sq) ∧ W.cell? ⟨w.heap.size, 3, none⟩ = some (.slice ao N cap) := fun W hW => by
    have h0 := hW.cell (p := ⟨w.heap.size, 0, none⟩) (by simp)
    have h1 := hW.cell (p := ⟨w.heap.size, 1, none⟩) (by simp)
    have h2 := hW.cell (p := ⟨w.heap.size, 2, none⟩) (by simp)
    have h3 := hW.cell (p := ⟨w.heap.size, 3, none⟩) (by simp)
    simp [go_sem] at h0 h1 h2 h3
    exact ⟨(hr.keep bn0).keep hW, h0, h1, h2, h3⟩
  have HBX := hbx
  clear hbx hMi
  go_enter Try.func7, Try.ntmps7
  go_wp2_with fail
  refine (isFileNumber_any nx _).mono ?_
  rintro e w1 ⟨rfl, rfl⟩
  cases h1 : fN nx
  · have H : Hid (¬ GoodVP nx lg sq N R M) := fun h => by have := h.1; rw [h1] at this; cases this
    clear hLv hFi HBX
    go_wp2
    go_ret
    exact Ans.mk false (by have := H.out; simp [this]) bn0
  by_cases h2 : lg < 1
  · have H : Hid (¬ GoodVP nx lg sq N R M) := fun h => by have := h.2.1; omega
    clear hLv hFi HBX
    go_wp2
    go_ret
    exact Ans.mk false (by have := H.out; simp [this]) bn0
  by_cases h3 : nx ≤ lg
  · have H : Hid (¬ GoodVP nx lg sq N R M) := fun h => by have := h.2.2.1; omega
    clear hLv hFi HBX
    go_wp2
    go_ret
    exact Ans.mk false (by have := H.out; simp [this]) bn0
  go_wp2_with fail
  refine (isLastSeq_any sq _).mono ?_
  rintro e w1 ⟨rfl, rfl⟩
  cases h4 : isC sq
  · have H : Hid (¬ GoodVP nx lg sq N R M) := fun h => by have := h.2.2.2.1; rw [h4] at this; cases this
    clear hLv hFi HBX
    go_wp2
    go_ret
    exact Ans.mk false (by have := H.out; simp [this]) bn0
  go_wp2_with fail
  refine hLv.mono ?_
  rintro e w2 ⟨b2, rfl, g2, q2⟩
  have bw2 := bn0.trans (q2.mono (by simp))
  obtain ⟨hr2, x0, x1, x2, x3⟩ := HBX w2 q2
  clear hLv HBX q2
  cases b2
  · have H : Hid (¬ GoodVP nx lg sq N R M) := fun h => by have := g2.2 h.2.2.2.2.1; cases this
    clear hFi g2
    go_wp2
    go_ret
    exact Ans.mk false (by have := H.out; simp [this]) bw2
  have H2 : Hid (Fits nx lg (flsR R M N) ↔ GoodVP nx lg sq N R M) := ⟨fun h => ⟨h1, by omega, by omega, h4, g2.1 rfl, h⟩, fun h => h.2.2.2.2.2⟩
  clear g2
  go_wp2_with fail
  refine (hFi _ hr2).mono ?_
  rintro e w3 ⟨b3, rfl, g3, q3⟩
  have bw3 := bw2.trans (q3.mono bw2.size)
  have H3 : Hid (b3 = true ↔ GoodVP nx lg sq N R M) := g3.trans H2.out
  clear g3 H2 hFi q3
  go_wp2
  go_ret
  exact Ans.mk b3 H3.out bw3
end Go.Proofs.Ytagkhohglpjjlaa
namespace Go.Proofs.Ytagkhohglpjjlaa
open Go.RowKit
set_option linter.unusedVariables false

/-- The worlds that differ from W in what is new alone, as a family. -/
theorem class_of (W : World) : ∃ (Idx : Type) (_ : Nonempty Idx) (F : Idx → World), (∀ n, Below W.heap.size W (F n)) ∧ (∀ n w', Below (F n).heap.size (F n) w' → ∃ m, w' = F m) ∧ ∃ n, { W with drawn := W.drawn + 1 } = F n :=
  ⟨{ w : World // Below W.heap.size W w }, ⟨⟨W, Below.refl _ _⟩⟩, fun n => n.1, fun n => n.2, fun n w' h => ⟨⟨w', n.2.trans (h.mono n.2.size)⟩, rfl⟩, ⟨⟨_, (Below.refl _ W).drew⟩, rfl⟩⟩

theorem region_class {P : Program} {Idx : Type} (F : Idx → World) {id : Nat} {Q : Exit → Act → World → Prop} {a : Act} {w : World} {l : List Oper} (hC : ∃ n, { w with drawn := w.drawn + 1 } = F n) (hm : P.follows .mixedOrders = true) (hB : Region.lexB .any l.toArray = true)
    (h : wpQuiet P l.toArray (fun w' => ∃ n, w' = F n) (fun a' => ∀ w', (∃ n, w' = F n) → Q .normal a' w') l a) : (Code.region id l.toArray true).wp P Q a w :=
  wp_region_quiet (C := fun w' => ∃ n, w' = F n) hm hB hC (by simpa using h)
end Go.Proofs.Ytagkhohglpjjlaa
