/- Keys and aggs copied, in the model; windows and boards copied there. -/
import Derived.Test.YtflmbcgokiiedaaCk
namespace Go.Proofs.Ytflmbcgokiiedaa
open Go.RowKit
set_option linter.unusedSimpArgs false
set_option linter.unusedVariables false

theorem heap_alloc_new (w : World) (o : Obj) : (w.alloc o).heap[w.heap.size]? = some o := by
  show (w.heap.push o)[w.heap.size]? = some o
  simp
theorem empty_own2 (w : World) (T size B : Nat) (hB : B ≤ w.heap.size) (n : Nat) (hn : n = w.heap.size) : (w.alloc (.cells #[] T)).ownsRow B T size (.slice (some ⟨n, 0, none⟩) 0 0) 0 [] := by
  subst hn
  exact ⟨by simp, .inr ⟨w.heap.size, 0, #[], rfl, hB, heap_alloc_new w _, Nat.le_refl _, Nat.zero_le _, by simp, by simp⟩⟩

set_option maxHeartbeats 1600000 in
theorem l11OwnKey_any (m : ByteArray) (st : Int) (ao : Option Addr) (n cap : Nat) (nm vl : Nat → ByteArray) (w : World) (hr : TRow w ao n nm vl) (hn : n ≤ 1048576) :
    Calls Try.prog 33 #[.agg #[.string m, .slice ao n cap, .int .i64 st]] w fun e w' => KCo m st n nm vl w e w' := by
  go_enter Try.func33, Try.ntmps33
  go_wp2_with (at_builtin; refine wpList_copyT rfl _ _ rfl (w.heap.size + 2) (.slice (some ⟨w.heap.size + 1 + 1, 0, none⟩) 0 0) rfl (empty_own2 _ _ _ _ (by simp) _ (by simp)) ao n cap nm vl rfl (hr.keep ((((Below.refl _ _).alloc (Nat.le_refl _) _).alloc (by simp) _).alloc (by simp; omega) _)) hn (by simp) ?_; intro hv w1 hown hg; obtain ⟨ha, hcp, rfl⟩ := ownsRow_form hown; have hb1 := grown_old (B := w.heap.size + 2) hg (by simp) (by simp); have c0 := hb1.cell (p := ⟨w.heap.size, 0, none⟩) (by first | (simp; done) | (simp; omega)); have c1 := hb1.cell (p := ⟨w.heap.size, 1, none⟩) (by first | (simp; done) | (simp; omega)); have c2 := hb1.cell (p := ⟨w.heap.size, 2, none⟩) (by first | (simp; done) | (simp; omega)); have f1 := hb1.frozen (p := ⟨w.heap.size, 1, none⟩) (by first | (simp; done) | (simp; omega)); have d0 := hb1.cell (p := ⟨w.heap.size + 1, 0, none⟩) (by first | (simp; done) | (simp; omega)); have d1 := hb1.cell (p := ⟨w.heap.size + 1, 1, none⟩) (by first | (simp; done) | (simp; omega)); have d2 := hb1.cell (p := ⟨w.heap.size + 1, 2, none⟩) (by first | (simp; done) | (simp; omega)); have g : ∀ j, w1.frozen? ⟨w.heap.size + 1, j, none⟩ = false := fun j => (hb1.frozen (p := ⟨w.heap.size + 1, j, none⟩) (by first | (simp; done) | (simp; omega))).trans (by simp [go_sem]); simp [go_sem] at c0 c1 c2 f1 d0 d1 d2; have bw : Below w.heap.size w w1 := ((((Below.refl _ _).alloc (Nat.le_refl _) _).alloc (by simp) _).alloc (by simp; omega) _).trans (hb1.mono (by omega)); clear hb1 hg)
  have hne : ∀ d, d < w.heap.size + 2 → (Value.slice ha n hcp).ownBlock ≠ some d := fun d hd hk => by have := (hown.lt d hk).1; omega
  refine bodyPost_ret (v := .agg #[.string m, .slice ha n hcp, .int .i64 st]) (by simp [results, Try.results33, go_sem, c0, c1, c2, d0, d1, d2]) rfl ⟨.slice ha n hcp, rfl, ownsRow_mono ?_ (by omega : w.heap.size ≤ w.heap.size + 2), ?_⟩
  · repeat' refine ownsRow_others ?_ (Others.setCell _ _ _ _) (hne _ (by omega))
    exact hown
  · repeat' refine Below.setCell ?_ (by first | (simp; done) | (simp; omega)) _
    exact bw

set_option maxHeartbeats 1600000 in
theorem l4Own_any (c s lo hi : Int) (ao : Option Addr) (n cap : Nat) (f : Nat → Int) (fu : Bool) (w : World) (hr : IRow w ao n f) (hn : n ≤ 1048576) :
    Calls Try.prog 34 #[.agg #[.int .i64 c, .int .i64 s, .int .i64 lo, .int .i64 hi, .slice ao n cap, .bool fu]] w fun e w' => ACo c s lo hi n f fu w e w' := by
  go_enter Try.func34, Try.ntmps34
  go_wp2_with (at_builtin; refine wpList_copyI rfl _ _ rfl (w.heap.size + 2) (.slice (some ⟨w.heap.size + 1 + 1, 0, none⟩) 0 0) rfl (empty_own2 _ _ _ _ (by simp) _ (by simp)) ao n cap f rfl (hr.keep ((((Below.refl _ _).alloc (Nat.le_refl _) _).alloc (by simp) _).alloc (by simp; omega) _)) hn (by simp) ?_; intro hv w1 hown hg; obtain ⟨ha, hcp, rfl⟩ := ownsRow_form hown; have hb1 := grown_old (B := w.heap.size + 2) hg (by simp) (by simp); have c0 := hb1.cell (p := ⟨w.heap.size, 0, none⟩) (by first | (simp; done) | (simp; omega)); have c1 := hb1.cell (p := ⟨w.heap.size, 1, none⟩) (by first | (simp; done) | (simp; omega)); have c2 := hb1.cell (p := ⟨w.heap.size, 2, none⟩) (by first | (simp; done) | (simp; omega)); have c3 := hb1.cell (p := ⟨w.heap.size, 3, none⟩) (by first | (simp; done) | (simp; omega)); have c4 := hb1.cell (p := ⟨w.heap.size, 4, none⟩) (by first | (simp; done) | (simp; omega)); have c5 := hb1.cell (p := ⟨w.heap.size, 5, none⟩) (by first | (simp; done) | (simp; omega)); have f4 := hb1.frozen (p := ⟨w.heap.size, 4, none⟩) (by first | (simp; done) | (simp; omega)); have d0 := hb1.cell (p := ⟨w.heap.size + 1, 0, none⟩) (by first | (simp; done) | (simp; omega)); have d1 := hb1.cell (p := ⟨w.heap.size + 1, 1, none⟩) (by first | (simp; done) | (simp; omega)); have d2 := hb1.cell (p := ⟨w.heap.size + 1, 2, none⟩) (by first | (simp; done) | (simp; omega)); have d3 := hb1.cell (p := ⟨w.heap.size + 1, 3, none⟩) (by first | (simp; done) | (simp; omega)); have d4 := hb1.cell (p := ⟨w.heap.size + 1, 4, none⟩) (by first | (simp; done) | (simp; omega)); have d5 := hb1.cell (p := ⟨w.heap.size + 1, 5, none⟩) (by first | (simp; done) | (simp; omega)); have g : ∀ j, w1.frozen? ⟨w.heap.size + 1, j, none⟩ = false := fun j => (hb1.frozen (p := ⟨w.heap.size + 1, j, none⟩) (by first | (simp; done) | (simp; omega))).trans (by simp [go_sem]); simp [go_sem] at c0 c1 c2 c3 c4 c5 f4 d0 d1 d2 d3 d4 d5; have bw : Below w.heap.size w w1 := ((((Below.refl _ _).alloc (Nat.le_refl _) _).alloc (by simp) _).alloc (by simp; omega) _).trans (hb1.mono (by omega)); clear hb1 hg)
  have hne : ∀ d, d < w.heap.size + 2 → (Value.slice ha n hcp).ownBlock ≠ some d := fun d hd hk => by have := (hown.lt d hk).1; omega
  refine bodyPost_ret (v := .agg #[.int .i64 c, .int .i64 s, .int .i64 lo, .int .i64 hi, .slice ha n hcp, .bool fu]) (by simp [results, Try.results34, go_sem, c0, c1, c2, c3, c4, c5, d0, d1, d2, d3, d4, d5]) rfl ⟨.slice ha n hcp, rfl, ownsRow_mono ?_ (by omega : w.heap.size ≤ w.heap.size + 2), ?_⟩
  · repeat' refine ownsRow_others ?_ (Others.setCell _ _ _ _) (hne _ (by omega))
    exact hown
  · repeat' refine Below.setCell ?_ (by first | (simp; done) | (simp; omega)) _
    exact bw
end Go.Proofs.Ytflmbcgokiiedaa
